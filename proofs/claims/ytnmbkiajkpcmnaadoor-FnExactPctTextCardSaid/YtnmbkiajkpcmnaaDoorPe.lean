/- Schedules by rank: rising numbers, both sides. -/
import Derived.Test.YtnmbkiajkpcmnaaDoorPd
import Derived.Test.YtnmbkiajkpcmnaaDoorIndex
import Derived.Deep.QuietTactic
import Derived.BigQuiet
namespace Go.Proofs.YtnmbkiajkpcmnaaDoor
open Go.RowKit
open Rd Fl

theorem getD_at {l : List Int} {k : Nat} (h : k < l.length) : l.getD k 0 = l[k] := by rw [List.getD_eq_getElem?_getD, List.getElem?_eq_getElem h, Option.getD_some]
theorem ris_yes {l : List Int} (h : ∀ i, i < l.length → okR l i = true) : risB l = true := range_all h
theorem ris_no {l : List Int} {k : Nat} (h : k < l.length) (hp : okR l k = false) : risB l = false := range_no h hp
theorem okR_out {l : List Int} {k : Nat} {x : Int} (h : k < l.length) (hx : l[k] = x) (hd : decide (0 ≤ x ∧ x ≤ 199) = false) : okR l k = false := by
  unfold okR; rw [getD_at h, hx, hd]; rfl
theorem okR_zero {l : List Int} {x : Int} (h : 0 < l.length) (hx : l[0] = x) (hd : decide (0 ≤ x ∧ x ≤ 199) = true) : okR l 0 = true := by
  unfold okR; rw [getD_at h, hx, hd]; simp
theorem okR_low {l : List Int} {k : Nat} {x y : Int} (h : k < l.length) (hx : l[k] = x) (h0 : 0 < k) (hy : l[k - 1] = y) (hd : x ≤ y) : okR l k = false := by
  unfold okR
  rw [getD_at h, getD_at (show k - 1 < l.length by omega), hx, hy, decide_eq_false (show ¬ k = 0 by omega), decide_eq_false (show ¬ y < x by omega)]
  simp
theorem okR_up {l : List Int} {k : Nat} {x y : Int} (h : k < l.length) (hx : l[k] = x) (hi : decide (0 ≤ x ∧ x ≤ 199) = true) (hy : l[k - 1] = y) (hd : y < x) : okR l k = true := by
  unfold okR
  rw [getD_at h, getD_at (show k - 1 < l.length by omega), hx, hy, hi, decide_eq_true hd]
  simp
theorem okR_ge {l : List Int} {k : Nat} (h : k < l.length) (hk : okR l k = true) : 0 ≤ l[k] := by
  unfold okR at hk
  rw [getD_at h, Bool.and_eq_true] at hk
  exact (of_decide_eq_true hk.1).1

set_option maxRecDepth 20000 in
set_option maxHeartbeats 1000000 in
theorem l1rising_any (A : Option Addr) (l : List Int) (cap : Nat) (hl : l.length ≤ 1048576) (w : World) (hA : LAt iv w A l) :
    Calls Tryd.prog 29 #[.slice A l.length cap, .int .i64 0, .int .i64 199] w fun e w' => e = .returned (.bool (risB l)) ∧ Below w.heap.size w w' := by
  have hl' : (l.length : Int) ≤ 1048576 := by omega
  obtain ⟨b, off, hA1, hc⟩ := hA
  have HN := hide' (fun (h : ∀ i, i < l.length → okR l i = true) => ris_yes h)
  have HY := hide' (fun (k : Nat) (h : k < l.length) (h2 : okR l k = false) => ris_no h h2)
  have HC := hide' hc
  have HA := hide' hA1
  have H1 := hide' (fun (k : Nat) (x : Int) (h : k < l.length) (hx : l[k] = x) => okR_out h hx)
  have H2 := hide' (fun (x : Int) (h : 0 < l.length) (hx : l[0] = x) => okR_zero h hx)
  have H3 := hide' (fun (k : Nat) (x y : Int) (h : k < l.length) (hx : l[k] = x) (h0 : 0 < k) (hy : l[k - 1] = y) => okR_low h hx h0 hy)
  have H4 := hide' (fun (k : Nat) (x y : Int) (h : k < l.length) (hx : l[k] = x) (hi : decide (0 ≤ x ∧ x ≤ 199) = true) (hy : l[k - 1] = y) => okR_up h hx hi hy)
  clear hc hA1
  go_enter Tryd.func29, Tryd.ntmps29
  go_wp2
  go_loopw [11] (fun i wr => ∃ k : Nat, k ≤ l.length ∧ i = .int .i64 k ∧ Hid (∀ i, i < k → okR l i = true) ∧ Hid (Below w.heap.size w wr)) (fun i _ => l.length - (intOf i).toNat)
  case atStart => exact ⟨0, Nat.zero_le _, rfl, (fun i hi => by omega), Below.refl _ _⟩
  case round =>
    obtain ⟨k, hk, rfl, hlow, hbw⟩ := hrel
    by_cases hlt : k < l.length
    · have hA2 := HA.out (fun e => by rw [e] at hlt; simp at hlt)
      subst hA2
      have c0 := keep_cell hbw.out (HC.out k l[k] (List.getElem?_eq_getElem hlt))
      unfold iv at c0
      have HK := hide' (rfl : l[k] = l[k])
      have hk1 : k - 1 < l.length := by omega
      have HP := hide' (keep_cell hbw.out (HC.out (k - 1) (l[k - 1]'hk1) (List.getElem?_eq_getElem hk1)))
      generalize hx : l[k] = x at c0 HK
      generalize hy : l[k - 1]'hk1 = y at HP
      have HX := hide' hx
      have HYY := hide' hy
      clear hx hy HK
      by_cases hin : decide (0 ≤ x ∧ x ≤ 199) = true
      · by_cases h0 : k = 0
        · subst h0
          simp only [Nat.add_zero] at c0
          have hd : decide (0 < ((0 : Nat) : Int)) = false := rfl
          go_wp2_with (go_at_call 37; refine (l1in_any _ _ _ _).mono ?_; rintro e w' ⟨rfl, rfl⟩)
          go_roundw
          case rel =>
            refine ⟨0 + 1, by omega, by go_num, fun i hi => ?_, hbw.out⟩
            have h00 : i = 0 := by omega
            subst h00
            exact H2.out x hlt HX.out hin
          case measure => simp [intOf]; omega
        · have h0' : 0 < k := by omega
          have c1 := HP.out
          unfold iv at c1
          have hki : 0 < (k : Int) := by omega
          by_cases hxy : x ≤ y
          · go_wp2_with (go_at_call 37; refine (l1in_any _ _ _ _).mono ?_; rintro e w' ⟨rfl, rfl⟩)
            go_ret
            exact ⟨by rw [HY.out k hlt (H3.out k x y hlt HX.out h0' HYY.out hxy)]; rfl, hbw.out⟩
          · go_wp2_with (go_at_call 37; refine (l1in_any _ _ _ _).mono ?_; rintro e w' ⟨rfl, rfl⟩)
            go_roundw
            case rel => exact ⟨k + 1, by omega, by go_num, fun i hi => by
                          by_cases hik : i = k
                          · subst hik; exact H4.out i x y hlt HX.out hin HYY.out (by omega)
                          · exact hlow.out i (by omega), hbw.out⟩
            case measure => simp [intOf]; omega
      · have hin' : decide (0 ≤ x ∧ x ≤ 199) = false := by simpa using hin
        clear hin
        go_wp2_with (go_at_call 37; refine (l1in_any _ _ _ _).mono ?_; rintro e w' ⟨rfl, rfl⟩)
        go_ret
        exact ⟨by rw [HY.out k hlt (H1.out k x hlt HX.out hin')]; rfl, hbw.out⟩
    · have hke : k = l.length := by omega
      subst hke
      go_wp2
      go_ret
      exact ⟨by rw [HN.out hlow.out]; rfl, hbw.out⟩

/-- the number ahead of the k-th -/
def aheadR (l : List Int) (k : Nat) : Int := if k = 0 then -1 else l.getD (k - 1) 0
theorem ahead_ge {l : List Int} {k : Nat} (hk : k ≤ l.length) (h : ∀ i, i < k → okR l i = true) : -1 ≤ aheadR l k := by
  unfold aheadR
  by_cases h0 : k = 0
  · rw [if_pos h0]; omega
  · rw [if_neg h0, getD_at (show k - 1 < l.length by omega)]
    have := okR_ge (show k - 1 < l.length by omega) (h (k - 1) (by omega))
    omega
theorem ahead_no {l : List Int} {k : Nat} {x : Int} (hk : k < l.length) (hx : l[k] = x) (h : ∀ i, i < k → okR l i = true) (hb : x ≤ aheadR l k ∨ 200 ≤ x) : okR l k = false := by
  have hge := ahead_ge (Nat.le_of_lt hk) h
  by_cases h0 : k = 0
  · subst h0
    refine okR_out hk hx (decide_eq_false ?_)
    unfold aheadR at hb
    rw [if_pos rfl] at hb
    omega
  · rcases hb with hb | hb
    · unfold aheadR at hb
      rw [if_neg h0, getD_at (show k - 1 < l.length by omega)] at hb
      exact okR_low hk hx (by omega) rfl hb
    · exact okR_out hk hx (decide_eq_false (by omega))
theorem ahead_yes {l : List Int} {k : Nat} {x : Int} (hk : k < l.length) (hx : l[k] = x) (h : ∀ i, i < k → okR l i = true) (hb : ¬ x ≤ aheadR l k) (hb2 : ¬ 200 ≤ x) : okR l k = true := by
  have hge := ahead_ge (Nat.le_of_lt hk) h
  by_cases h0 : k = 0
  · subst h0
    exact okR_zero hk hx (decide_eq_true (by omega))
  · have hin : decide (0 ≤ x ∧ x ≤ 199) = true := decide_eq_true (by omega)
    unfold aheadR at hb
    rw [if_neg h0, getD_at (show k - 1 < l.length by omega)] at hb
    exact okR_up hk hx hin rfl (by omega)

set_option maxRecDepth 20000 in
set_option maxHeartbeats 1000000 in
theorem goodchanges_any (A : Option Addr) (l : List Int) (cap : Nat) (hl : l.length ≤ 1048576) (w : World) (hA : LAt iv w A l) :
    Calls Tryd.prog 33 #[.slice A l.length cap] w fun e w' => e = .returned (.bool (risB l)) ∧ w' = w := by
  have hl' : (l.length : Int) ≤ 1048576 := by omega
  obtain ⟨b, off, hA1, hc⟩ := hA
  have HN := hide' (fun (h : ∀ i, i < l.length → okR l i = true) => ris_yes h)
  have HY := hide' (fun (k : Nat) (h : k < l.length) (h2 : okR l k = false) => ris_no h h2)
  have HC := hide' hc
  have HA := hide' hA1
  have H1 := hide' (fun (k : Nat) (x : Int) (h : k < l.length) (hx : l[k] = x) => ahead_no h hx)
  have H2 := hide' (fun (k : Nat) (x : Int) (h : k < l.length) (hx : l[k] = x) => ahead_yes h hx)
  have H3 := hide' (fun (k : Nat) (x : Int) (h : k < l.length) (hx : l[k] = x) => (show aheadR l (k + 1) = x by unfold aheadR; rw [if_neg (by omega), Nat.add_sub_cancel, getD_at h, hx]))
  clear hc hA1
  go_enter Tryd.func33, Tryd.ntmps33
  go_wp2
  go_loop [3, 8] (fun y i => ∃ (k : Nat) (z : Int), k ≤ l.length ∧ i = .int .i64 k ∧ y = .int .i64 z ∧ Hid (z = aheadR l k) ∧ Hid (∀ i, i < k → okR l i = true)) (fun _ i => l.length - (intOf i).toNat)
  case atStart => exact ⟨0, -1, Nat.zero_le _, rfl, rfl, rfl, fun i hi => by omega⟩
  case round =>
    obtain ⟨k, z, hk, rfl, rfl, hz, hlow⟩ := hrel
    by_cases hlt : k < l.length
    · have hA2 := HA.out (fun e => by rw [e] at hlt; simp at hlt)
      subst hA2
      have c0 := HC.out k l[k] (List.getElem?_eq_getElem hlt)
      unfold iv at c0
      generalize hx : l[k] = x at c0
      have HX := hide' hx
      clear hx
      by_cases h1 : x ≤ z
      · go_wp2
        go_ret
        exact ⟨by rw [HY.out k hlt (H1.out k x hlt HX.out hlow.out (.inl (by rw [← hz.out]; exact h1)))]; rfl, rfl⟩
      · by_cases h2 : (200 : Int) ≤ x
        · go_wp2
          go_ret
          exact ⟨by rw [HY.out k hlt (H1.out k x hlt HX.out hlow.out (.inr h2))]; rfl, rfl⟩
        · go_wp2
          go_round
          case rel => exact ⟨k + 1, x, by omega, by go_num, rfl, (H3.out k x hlt HX.out).symm, fun i hi => by
                        by_cases hik : i = k
                        · subst hik; exact H2.out i x hlt HX.out hlow.out (by rw [← hz.out]; omega) (by omega)
                        · exact hlow.out i (by omega)⟩
          case measure => simp [intOf]; omega
    · have hke : k = l.length := by omega
      subst hke
      go_wp2
      go_ret
      exact ⟨by rw [HN.out hlow.out]; rfl, rfl⟩
end Go.Proofs.YtnmbkiajkpcmnaaDoor
