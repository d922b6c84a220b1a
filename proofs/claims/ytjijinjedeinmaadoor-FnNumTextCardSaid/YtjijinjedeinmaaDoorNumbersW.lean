/- The walk of FnNumbers. -/
import Derived.Test.YtjijinjedeinmaaDoorDraws
import Derived.Test.YtjijinjedeinmaaDoorNumFactsB
namespace Go.Proofs.YtjijinjedeinmaaDoor
open Go.RowKit
open Fl

set_option maxHeartbeats 400000 in
theorem big_any (a b : Option Addr) (la ca lb cb : Nat) (w : World) :
    Calls Tryd.prog 9 #[.slice a la ca, .slice b lb cb] w fun e w' => (∃ v : Bool, e = .returned (.bool v) ∧ (v = false → la ≤ 1048576 ∧ lb ≤ 1048576)) ∧ w' = w := by
  by_cases h : la ≤ 1048576
  · by_cases h2 : lb + la ≤ 1048576
    · go_enter Tryd.func9, Tryd.ntmps9
      go_wp2
      go_ret
      exact ⟨⟨_, rfl, fun _ => ⟨by omega, by omega⟩⟩, rfl⟩
    · have h3 : 1048576 < (lb : Int) + la := by omega
      go_enter Tryd.func9, Tryd.ntmps9
      go_wp2
      go_ret
      refine ⟨⟨_, rfl, fun hv => ?_⟩, rfl⟩
      simp at hv
      omega
  · have h3 : 1048576 < (la : Int) := by omega
    go_enter Tryd.func9, Tryd.ntmps9
    go_wp2
    go_ret
    exact ⟨⟨true, rfl, fun hv => by cases hv⟩, rfl⟩

theorem Src.grow {w w' : World} {a : Option Addr} {len : Nat} (h : Src w w.heap.size a len) (hb : Below w.heap.size w w') : Src w' w'.heap.size a len := by
  have h1 := h.below hb
  refine ⟨h1.1, fun i hi => ?_⟩
  obtain ⟨ab, off, b, e1, e2, e3⟩ := h1.2 i hi
  exact ⟨ab, off, b, e1, Nat.lt_of_lt_of_le e2 hb.size, e3⟩
theorem Tab.under {w w' : World} (h : Tab w) (hb : Below w.heap.size w w') : Tab w' := fun i hi =>
  (hb.cell (World.block_lt_of_cell? w _ (h i hi))).trans (h i hi)
theorem below_drewN {N : Nat} {w w' : World} (h : Below N w w') (n : Nat) : Below N w (w'.drewN n) := ⟨h.os, h.tape, h.output, h.size, h.block⟩

theorem notSame {n : Int} {b : Bool} (h : n = 0 ↔ b = true) (h2 : n ≠ 0) : b = false := by
  cases b
  · rfl
  · exact absurd (h.2 rfl) h2

/-- The ways in which two numbers lie. -/
theorem ways (s t : Bool) (r q : Nat) (hr : r < 9223372036854775808) (hq : q < 9223372036854775808) :
    (cmpN s r t q = 0 ∧ cmpN t q s r = 0 ∧ sameB s r t q = true ∧ leastW s r t q = wd s r ∧ (FloatKind.f64.format.order (wd s r) (wd t q) == some Ordering.lt) = false) ∨
    (cmpN s r t q = 1 ∧ cmpN t q s r = -1 ∧ sameB s r t q = false ∧ leastW s r t q = wd t q ∧ (FloatKind.f64.format.order (wd s r) (wd t q) == some Ordering.lt) = false) ∨
    (cmpN s r t q = -1 ∧ cmpN t q s r = 1 ∧ sameB s r t q = false ∧ leastW s r t q = wd s r ∧ (FloatKind.f64.format.order (wd s r) (wd t q) == some Ordering.lt) = false) ∨
    (cmpN s r t q = -1 ∧ cmpN t q s r = 1 ∧ sameB s r t q = false ∧ leastW s r t q = wd s r ∧ (FloatKind.f64.format.order (wd s r) (wd t q) == some Ordering.lt) = true) := by
  have ha := cmp_anti s t r q
  have hsm := cmp_same s t r q
  have hl := lt_cmp s t r q hr hq
  have hlw : leastW s r t q = if cmpN s r t q ≤ 0 then wd s r else wd t q := rfl
  cases ho : (FloatKind.f64.format.order (wd s r) (wd t q) == some Ordering.lt) <;> rcases cmp_cases s t r q with h | h | h
  · exact .inl ⟨h, by rw [ha, h]; rfl, hsm.1 h, by rw [hlw, h]; rfl, rfl⟩
  · exact .inr (.inl ⟨h, by rw [ha, h], notSame hsm (by omega), by rw [hlw, h]; rfl, rfl⟩)
  · exact .inr (.inr (.inl ⟨h, by rw [ha, h]; rfl, notSame hsm (by omega), by rw [hlw, h]; rfl, rfl⟩))
  · have := hl ho; omega
  · have := hl ho; omega
  · exact .inr (.inr (.inr ⟨h, by rw [ha, h]; rfl, notSame hsm (by omega), by rw [hlw, h]; rfl, rfl⟩))

end Go.Proofs.YtjijinjedeinmaaDoor
