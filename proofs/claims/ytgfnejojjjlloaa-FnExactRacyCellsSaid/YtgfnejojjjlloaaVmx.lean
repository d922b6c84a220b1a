/- impl.mayRace at good events; one race more. -/
import Derived.Test.YtgfnejojjjlloaaVma
import Derived.Test.YtgfnejojjjlloaaVmc
import Derived.Test.YtgfnejojjjlloaaVme
import Derived.Test.YtgfnejojjjlloaaVb
namespace Go.Proofs.Ytgfnejojjjlloaa
open Go.RowKit
open Rd Fl

theorem mayrace_any (a b : EvD) (ha : goodEv a = true) (hb : goodEv b = true) (w : World) : Calls Try.prog 39 #[evV a, evV b] w fun r w' => r = .returned (.bool (mayB a b)) ∧ Below w.heap.size w w' := by
  have HG := hide' (fun w => touched_any a w)
  have HT := hide' (fun w => touched_any b w)
  rw [← may_code ha hb]
  generalize tchN a = x at *
  generalize tchN b = y at *
  obtain ⟨a0, a1, a2, a3, a4⟩ := a
  obtain ⟨b0, b1, b2, b3, b4⟩ := b
  simp only
  unfold evV at *
  simp only at *
  cases h3 : (a1 == 3)
  · cases h4 : (b1 == 3)
    · exact mayrace_1 a0 a1 a2 a3 a4 b0 b1 b2 b3 b4 w h3 h4
    · cases hz : (x == y)
      · exact mayrace_4 a0 a1 a2 a3 a4 b0 b1 b2 b3 b4 x y w h3 h4 hz HG HT
      · exact mayrace_5 a0 a1 a2 a3 a4 b0 b1 b2 b3 b4 x y w h3 h4 hz HG HT
  · cases hz : (x == y)
    · exact mayrace_2 a0 a1 a2 a3 a4 b0 b1 b2 b3 b4 x y w h3 hz HG HT
    · exact mayrace_3 a0 a1 a2 a3 a4 b0 b1 b2 b3 b4 x y w h3 hz HG HT

/-- The races ls are what v tells, and of what was there nothing has turned. -/
structure RcL (w wr : World) (ls : List RcD) (v : Value) : Prop where
  b : Below w.heap.size w wr
  o : wr.ownsRow w.heap.size 35 3 v ls.length (rcC ls)
theorem RcL.keep {w wr wy : World} {ls : List RcD} {v : Value} (h : RcL w wr ls v) (hb : Below wr.heap.size wr wy) : RcL w wy ls v := ⟨h.b.trans (hb.mono h.b.size), own_keep h.o hb⟩
theorem rcl_nil (w : World) : RcL w w [] (.slice none 0 0) := ⟨Below.refl _ _, World.ownsRow_nil _ _ _ _⟩
theorem rc_news (w : World) (a b c : Int) : ∀ j u, ([.int .i64 a, .int .i64 b, .int .i64 c] : List Value)[j]? = some u → (w.alloc (.cells #[.int .i64 a, .int .i64 b, .int .i64 c] 35)).cell? ((⟨w.heap.size, 0, none⟩ : Addr).add j) = some u := by
  intro j u hj
  match j, hj with
  | 0, hj => simp at hj; subst hj; simp [Addr.add]
  | 1, hj => simp at hj; subst hj; simp [Addr.add]
  | 2, hj => simp at hj; subst hj; simp [Addr.add]
theorem rc_one (a b c : Int) : ∀ u ∈ ([.int .i64 a, .int .i64 b, .int .i64 c] : List Value), u.oneCell' = true := by
  intro u hu
  simp only [List.mem_cons, List.not_mem_nil, or_false] at hu
  rcases hu with rfl | rfl | rfl <;> rfl
theorem RcL.snoc {w w2 w3 : World} {ls : List RcD} {v v' : Value} (h : RcL w w2 ls v) (a b c : Int)
    (hown : w3.ownsRow w.heap.size 35 3 v' (ls.length + 1) (rcC ls ++ [.int .i64 a, .int .i64 b, .int .i64 c])) (hg : (w2.alloc (.cells #[.int .i64 a, .int .i64 b, .int .i64 c] 35)).grownBy w3 v.ownBlock) : RcL w w3 (ls ++ [⟨a, b, c⟩]) v' := by
  refine ⟨Below.grown (h.b.up _) hg (by have := h.b.size; simp; omega) (own_base' h.o), ?_⟩
  rw [List.length_append, rcC_append]
  exact hown
theorem raceInfo : ∃ i, Try.prog.info? 35 = some i ∧ i.zero = some (.agg #[.int .i64 0, .int .i64 0, .int .i64 0]) ∧ i.size = 3 ∧ i.bytes = 24 := info_parts (by kernel_rfl : (Try.prog.info? 35).map (fun i => (i.zero, i.size, i.bytes)) = some (some (.agg #[.int .i64 0, .int .i64 0, .int .i64 0]), 3, 24))
end Go.Proofs.Ytgfnejojjjlloaa
