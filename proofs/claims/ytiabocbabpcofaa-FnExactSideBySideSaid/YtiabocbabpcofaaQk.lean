/- NextAfter: both sides. -/
import Derived.Test.YtiabocbabpcofaaQf
import Derived.Test.YtiabocbabpcofaaQj
namespace Go.Proofs.Ytiabocbabpcofaa
open Go.RowKit
open Rd Fl

theorem good_len {l : List EvD} (h : goodTr l = true) : l.length ≤ 200 := by
  unfold goodTr at h; rw [Bool.and_eq_true] at h; exact of_decide_eq_true h.1
theorem good_ev {l : List EvD} (h : goodTr l = true) {i : Nat} (hi : i < l.length) : goodEv l[i] = true := by
  unfold goodTr at h; rw [Bool.and_eq_true] at h; exact List.all_eq_true.1 h.2 _ (List.getElem_mem hi)
theorem evA_get {l : List EvD} {i : Nat} (hi : i < l.length) : evA l i = l[i] := by
  unfold evA; rw [List.getD_eq_getElem?_getD, List.getElem?_eq_getElem hi]; rfl
theorem rgt_get {l : List EvD} {i j : Nat} (hi : i < l.length) (hj : j < l.length) : rgt l i j = rightB l[i] l[j] := by
  unfold rgt; rw [evA_get hi, evA_get hj]

/-- pairs of places, one right ahead of the other -/
def nextN (l : List EvD) : List (List Int) := if goodTr l = true then prAll (rgt l) l.length l.length else []
theorem nextN_len (l : List EvD) : (nextN l).length ≤ 40000 := by
  unfold nextN
  split
  · rename_i h
    have h1 := prAll_len (rgt l) l.length l.length
    have h2 := Nat.mul_le_mul (good_len h) (good_len h)
    omega
  · simp
theorem nextN_two (l : List EvD) : ∀ x ∈ nextN l, x.length ≤ 1000 := by
  unfold nextN
  split
  · exact prAll_two _ _ _
  · intro x h; cases h

set_option maxRecDepth 20000 in
set_option maxHeartbeats 4000000 in
theorem inext1_any (B : Nat) (A : Option Addr) (l : List EvD) (cap : Nat) (hg : goodTr l = true) (i j : Nat) (hi : i < l.length) (hj : j < l.length) (w : World) (hB : w.cell? ⟨B, 0, none⟩ = some (.slice A l.length cap)) (hA : EvsAt w A l) :
    Calls Try.prog 36 #[.int .i64 (i : Int), .int .i64 (j : Int), .pointer (some ⟨B, 0, none⟩)] w fun e w' => e = .returned (.bool (rgt l i j)) ∧ Below w.heap.size w w' := by
  have h200 := good_len hg
  have hn' : (l.length : Int) ≤ 200 := by omega
  rw [rgt_get hi hj]
  have HR := hide' (fun w => (right_both l[i] l[j] (good_ev hg hi) (good_ev hg hj) w).2)
  obtain ⟨b, off, hA1, hc⟩ := hA
  have hA2 := hA1 (by intro h; rw [h] at hi; simp at hi)
  subst hA2
  obtain ⟨c0, c1, c2, c3, c4⟩ := ev_range (hc i l[i] (List.getElem?_eq_getElem hi))
  obtain ⟨d0, d1, d2, d3, d4⟩ := ev_range (hc j l[j] (List.getElem?_eq_getElem hj))
  clear hc hA1 hg
  generalize l[i] = x at c0 c1 c2 c3 c4 HR
  generalize l[j] = y at d0 d1 d2 d3 d4 HR
  generalize rightB x y = g at HR
  obtain ⟨r0, r1, r2, r3, r4⟩ := x
  obtain ⟨s0, s1, s2, s3, s4⟩ := y
  simp only at c0 c1 c2 c3 c4 d0 d1 d2 d3 d4 HR
  have hi2 : (i : Int) < l.length := by omega
  have hj2 : (j : Int) < l.length := by omega
  go_enter Try.func36, Try.ntmps36
  go_wp2_with fail
  go_region_with (go_at_call 37; refine (HR.out _).mono ?_; rintro e w1 ⟨rfl, hb1⟩)
  all_goals
    go_wp2_with fail
    go_ret
    exact ⟨rfl, first_below (Below.refl _ _) hb1⟩
end Go.Proofs.Ytiabocbabpcofaa
