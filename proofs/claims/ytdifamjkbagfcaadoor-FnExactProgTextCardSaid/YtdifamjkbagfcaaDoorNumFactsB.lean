/- What a number is made of makes it again, and the other way: facts. -/
import Derived.Test.YtdifamjkbagfcaaDoorNumFacts
import Derived.Test.YtdifamjkbagfcaaDoorPartsI
import Derived.Test.YtdifamjkbagfcaaDoorNumOfJ
namespace Go.Proofs.YtdifamjkbagfcaaDoor
open Go.RowKit
open Fl

theorem sg_neg (s : Bool) (q : Nat) (h : 0 < q) : decide (sg s q < 0) = s := by
  cases s <;> simp [sg] <;> omega
theorem sg_abs (s : Bool) (q : Nat) : (sg s q).natAbs = q := by
  cases s <;> simp [sg]

theorem made_again (s : Bool) (r q : Nat) (x : Int) (h0 : 0 < r) (hr : r < 9218868437227405312) (h : PR r q x) : noB (sg s q) x = true ∧ noW (sg s q) x = wd s r := by
  obtain ⟨ho, hq, hx1, hx2, hv⟩ := h
  have hq0 : 0 < q := by omega
  have hlog := val_log2_lt r hr h0
  rw [hv, log2_mul_pow _ _ hq0] at hlog
  have hb : noB (sg s q) x = true := by
    unfold noB
    rw [sg_abs]
    exact decide_eq_true ⟨ho, hq, by omega, by omega, by omega⟩
  refine ⟨hb, ?_⟩
  unfold noW
  rw [if_pos hb, sg_neg s q hq0, sg_abs]
  have e : rg q (x + 1074).toNat = r := val_inj (by rw [val_rg _ _ hq0 hq, hv])
  rw [e]

theorem parts_again (m x : Int) (h : noB m x = true) : ∃ r, 0 < r ∧ r < 9218868437227405312 ∧ noW m x = wd (decide (m < 0)) r ∧ PR r m.natAbs x := by
  obtain ⟨ho, hl, hx1, hx2, hx3⟩ := of_decide_eq_true h
  have hm0 : 0 < m.natAbs := by omega
  refine ⟨rg m.natAbs (x + 1074).toNat, rg_pos _ _ hm0 hl, rg_lt _ _ hm0 hl (by omega), by unfold noW; rw [if_pos h], ho, hl, by omega, by omega, val_rg _ _ hm0 hl⟩

theorem kind_place (r q : Nat) (x : Int) (h0 : 0 < r) (hr : r < 9218868437227405312) (h : PR r q x) : kindN r = if 0 ≤ x then 3 else 4 := by
  have hw := whole_iff_place h
  unfold kindN
  rw [if_neg (by omega), if_neg (by omega), if_neg (by omega), hw]
  by_cases hx : 0 ≤ x <;> simp [hx]
end Go.Proofs.YtdifamjkbagfcaaDoor
