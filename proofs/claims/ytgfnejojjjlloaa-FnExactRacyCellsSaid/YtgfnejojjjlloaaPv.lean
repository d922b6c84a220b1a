/- spec.l1Put at any list of its own. -/
import Derived.Test.YtgfnejojjjlloaaPu
namespace Go.Proofs.Ytgfnejojjjlloaa
open Go.RowKit
open Rd Fl

/-- What the rounds keep. -/
structure Rsp (w : World) (v : Value) (l : List Int) (wr : World) : Prop where
  b : Below w.heap.size w wr
  o : wr.ownsRow w.heap.size 3 1 v l.length (l.map iv)
theorem Rsp.keep {w : World} {v : Value} {l : List Int} {wr wx : World} (h : Rsp w v l wr) (hb : Below wr.heap.size wr wx) : Rsp w v l wx := ⟨h.b.trans (hb.mono h.b.size), own_keep h.o hb⟩

theorem l1put_any (l : List Int) (n : Int) (v : Value) (hl : l.length ≤ 1000) (w wr : World) (h : Rsp w v l wr) : Calls Try.prog 48 #[v, .int .i64 n] wr fun e w' => (∃ v', e = .returned v' ∧ Rsp w v' (putR l n) w') ∧ Below wr.heap.size wr w' := by
  rcases h.o.2 with ⟨rfl, h0⟩ | ⟨g, cap, cur, rfl, hb, hg, hrest⟩
  · have : l = [] := List.length_eq_zero_iff.1 h0
    subst this
    refine (l1put_nil n wr).mono ?_
    rintro e w' ⟨⟨v', rfl, ho⟩, hb⟩
    exact ⟨⟨v', rfl, h.b.trans (hb.mono h.b.size), own_less ho h.b.size⟩, hb⟩
  · refine (l1put_some l n g cap w.heap.size hl wr h.b.size h.o).mono ?_
    rintro e w' ⟨⟨v', rfl, ho⟩, hb⟩
    exact ⟨⟨v', rfl, h.b.trans (hb.mono h.b.size), ho⟩, hb⟩

end Go.Proofs.Ytgfnejojjjlloaa
