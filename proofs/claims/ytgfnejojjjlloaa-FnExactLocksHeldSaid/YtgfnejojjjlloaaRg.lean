/- Small facts on blocks that a function owns, and on marks. -/
import Derived.Test.YtgfnejojjjlloaaMl
namespace Go.Proofs.Ytgfnejojjjlloaa
open Go.RowKit
open Rd Fl

theorem below2 (w : World) (a b : Obj) : Below w.heap.size w ((w.alloc a).alloc b) := ((Below.refl _ w).up _).up _
theorem below3 (w : World) (a b c : Obj) : Below w.heap.size w (((w.alloc a).alloc b).alloc c) := (below2 w a b).up _

theorem own_keep {w w' : World} {base : Nat} {e : TypeId} {size : Nat} {v : Value} {n : Nat} {xs : List Value} (h : w.ownsRow base e size v n xs) (hb : Below w.heap.size w w') : w'.ownsRow base e size v n xs := by
  refine ⟨h.1, ?_⟩
  rcases h.2 with hn | ⟨g, cap, cur, rfl, hb2, hgg, rest⟩
  · exact .inl hn
  · exact .inr ⟨g, cap, cur, rfl, hb2, (hb.block g (Array.getElem?_eq_some_iff.1 hgg).1).trans hgg, rest⟩
theorem own_base' {w : World} {base : Nat} {e : TypeId} {size : Nat} {v : Value} {n : Nat} {xs : List Value} (h : w.ownsRow base e size v n xs) : ∀ k, v.ownBlock = some k → base ≤ k := by
  intro k hk
  rcases h.2 with ⟨rfl, _⟩ | ⟨g, cap, cur, rfl, hb, _⟩
  · cases hk
  · cases hk; exact hb
theorem inInfo : ∃ i, Try.prog.info? 3 = some i ∧ i.zero = some (.int .i64 0) ∧ i.size = 1 ∧ i.bytes = 8 := by
  cases hi : Try.prog.info? 3 with
  | none => have := inSize; rw [hi] at this; cases this
  | some i =>
    exact ⟨i, rfl, by have := inZero; rw [hi] at this; simpa using this, by have := inSize; rw [hi] at this; simpa using this, by have := inBytes; rw [hi] at this; simpa using this⟩

theorem cellB {B : Nat} {w w' : World} (hb : Below B w w') {N o : Nat} {v : Value} (h : N < B) (hc : w.cell? ⟨N, o, none⟩ = some v) : w'.cell? ⟨N, o, none⟩ = some v := (hb.cell (p := ⟨N, o, none⟩) h).trans hc
theorem own_less {w : World} {base base' : Nat} {e : TypeId} {size : Nat} {v : Value} {n : Nat} {xs : List Value} (h : w.ownsRow base e size v n xs) (hb : base' ≤ base) : w.ownsRow base' e size v n xs := by
  refine ⟨h.1, ?_⟩
  rcases h.2 with hn | ⟨g, cap, cur, rfl, hb2, rest⟩
  · exact .inl hn
  · exact .inr ⟨g, cap, cur, rfl, by omega, rest⟩

theorem lown_block {α : Type} {f : α → Value} {w w' : World} {M : Nat} {l : List α} (h : LOwn f w M l) (he : w'.heap[M]? = w.heap[M]?) : LOwn f w' M l :=
  ⟨fun j hj => ⟨by rw [World.cell?_of_block (w := w) (a := ⟨M, 0 + j, none⟩) he]; exact (h.1 j hj).1, by rw [World.frozen?_of_block (w := w) (a := ⟨M, 0 + j, none⟩) he]; exact (h.1 j hj).2⟩, fun i x hx => by rw [World.cell?_of_block (w := w) (a := ⟨M, i, none⟩) he]; exact h.2 i x hx⟩
theorem own_edit {w w' : World} {base : Nat} {e : TypeId} {size : Nat} {v : Value} {n : Nat} {xs : List Value} (h : w.ownsRow base e size v n xs) {a b hi : Nat} (hu : ∀ k, v.ownBlock = some k → k < hi) (he : Edit a b w w') (hp : b ≤ base ∨ hi ≤ a) : w'.ownsRow base e size v n xs := by
  refine ⟨h.1, ?_⟩
  rcases h.2 with hn | ⟨g, cap, cur, rfl, hb2, hgg, rest⟩
  · exact .inl hn
  · have hlt := (Array.getElem?_eq_some_iff.1 hgg).1
    have hu := hu g rfl
    refine .inr ⟨g, cap, cur, rfl, hb2, ?_, rest⟩
    rcases hp with hp | hp
    · exact (he.up g (by omega) hlt).trans hgg
    · exact (he.b.block g (by omega)).trans hgg
end Go.Proofs.Ytgfnejojjjlloaa
