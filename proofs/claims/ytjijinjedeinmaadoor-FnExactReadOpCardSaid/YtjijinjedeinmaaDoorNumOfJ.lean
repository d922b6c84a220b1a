/- What NumOf answers, the program's: contract. -/
import Derived.Test.YtjijinjedeinmaaDoorLdexp
namespace Go.Proofs.YtjijinjedeinmaaDoor
open Go.RowKit
open Fl

theorem bitLen_pos (n : Nat) (h : 0 < n) : bitLen n = n.log2 + 1 := by unfold bitLen; rw [if_neg (by omega)]

theorem field_of (r m : Nat) (hm : 0 < m) (hl : m < 9007199254740992) (hv : val r = m * 2 ^ E) : 4503599627370496 ≤ r ∧ r / 4503599627370496 = m.log2 + 1023 := by
  have hE := E_eq
  have h1 : (val r).log2 = m.log2 + E := by rw [hv, log2_mul_pow _ _ hm]
  have hr : 4503599627370496 ≤ r := by
    rcases Nat.lt_or_ge r 4503599627370496 with h | h
    · exfalso
      have e : val r = r := by unfold val; rw [if_pos h]
      have h2 : 0 < r := by
        rcases Nat.eq_zero_or_pos r with h0 | h0
        · subst h0; rw [val_zero] at hv; have := Nat.mul_pos hm (Nat.two_pow_pos E); omega
        · exact h0
      have h3 := (Nat.log2_lt (n := r) (k := 52) (by omega)).2 (by rw [p52]; exact h)
      rw [e] at h1
      omega
    · exact h
  refine ⟨hr, ?_⟩
  rw [val_fieldL r hr, log2_mul_pow _ _ (by omega)] at h1
  have h4 : (4503599627370496 + r % 4503599627370496).log2 = 52 := by
    refine (Nat.log2_eq_iff (by omega)).2 ⟨?_, ?_⟩
    · rw [p52]; omega
    · rw [p53]; omega
  have h5 := (Nat.log2_lt (n := m) (k := 53) (by omega)).2 (by rw [p53]; exact hl)
  omega

theorem inumof_even (m : Int) (h : m.natAbs % 2 = 0) : (m % 2 == 0) = true := by
  have : m % 2 = 0 := by omega
  simpa using this
theorem inumof_odd (m : Int) (h : m.natAbs % 2 = 1) : (m % 2 == 0) = false := by
  have : ¬ m % 2 = 0 := by omega
  simpa using this

set_option maxHeartbeats 1000000 in
theorem inumof_any (m x : Int) (hm1 : -9223372036854775808 ≤ m) (hm2 : m ≤ 9223372036854775807) (w : World) :
    Calls Tryd.prog 90 #[.int .i64 m, .int .i64 x] w fun e w' => e = .returned (.tuple #[.float .f64 (noW m x), .bool (noB m x)]) ∧ w' = w := by
  have ha := and_one m hm1 hm2
  by_cases ho : m.natAbs % 2 = 1
  · have ht := inumof_odd m ho
    have HO := hide ho
    clear ho
    by_cases hl1 : m ≤ -9007199254740992
    · have hb : noB m x = false := decide_eq_false (fun h => by have := h.2.1; omega)
      rw [noW_false hb, hb]
      clear hb
      go_enter Tryd.func90, Tryd.ntmps90
      go_wp2
      go_ret2
      exact ⟨rfl, rfl⟩
    by_cases hl2 : 9007199254740992 ≤ m
    · have hb : noB m x = false := decide_eq_false (fun h => by have := h.2.1; omega)
      rw [noW_false hb, hb]
      clear hb
      go_enter Tryd.func90, Tryd.ntmps90
      go_wp2
      go_ret2
      exact ⟨rfl, rfl⟩
    by_cases hx1 : x < -1200
    · have hb : noB m x = false := decide_eq_false (fun h => by have := h.2.2.1; omega)
      rw [noW_false hb, hb]
      clear hb
      go_enter Tryd.func90, Tryd.ntmps90
      go_wp2
      go_ret2
      exact ⟨rfl, rfl⟩
    by_cases hx2 : 1200 < x
    · have hb : noB m x = false := decide_eq_false (fun h => by have := h.2.2.2.1; omega)
      rw [noW_false hb, hb]
      clear hb
      go_enter Tryd.func90, Tryd.ntmps90
      go_wp2
      go_ret2
      exact ⟨rfl, rfl⟩
    by_cases hx3 : x < -1074
    · have hb : noB m x = false := decide_eq_false (fun h => by have := h.2.2.1; omega)
      rw [noW_false hb, hb]
      clear hb
      go_enter Tryd.func90, Tryd.ntmps90
      go_wp2
      go_ret2
      exact ⟨rfl, rfl⟩
    have hm0 : 0 < m.natAbs := by have := HO.out; omega
    have hl3 : m.natAbs < 9007199254740992 := by omega
    have hlen := bitLen_pos m.natAbs hm0
    have hl5 := (Nat.log2_lt (n := m.natAbs) (k := 53) (by omega)).2 (by rw [p53]; exact hl3)
    generalize hL : m.natAbs.log2 = L at hlen hl5
    have HLN := hide hlen
    have HL2 := hide hL
    clear hlen hL
    by_cases hx4 : 1024 < x + ((L : Int) + 1)
    · have hb : noB m x = false := decide_eq_false (fun h => by have := h.2.2.2.2; have := HL2.out; omega)
      rw [noW_false hb, hb]
      clear hb
      have HM := hide hl3
      clear hl3
      go_enter Tryd.func90, Tryd.ntmps90
      go_wp2_with (first | (go_at_call 119; refine (sizeof_any m (by omega) (by omega) _).mono ?_; rintro e w' ⟨rfl, rfl⟩) | (go_at_call 118; refine (len64_any _ HM.out _).mono ?_; rintro e w' ⟨rfl, rfl⟩; rw [HLN.out]))
      go_ret2
      exact ⟨rfl, rfl⟩
    · have hb : noB m x = true := decide_eq_true ⟨HO.out, hl3, by omega, by omega, by have := HL2.out; omega⟩
      obtain ⟨r, hr0, hr, hv, hf⟩ := ofMan m hl3 hm0
      obtain ⟨hr2, hr3⟩ := field_of r m.natAbs hm0 hl3 hv
      have hp0 := rg_pos m.natAbs (x + 1074).toNat hm0 hl3
      have hp := rg_lt m.natAbs (x + 1074).toNat hm0 hl3 (by have := HL2.out; omega)
      have hpv := val_rg m.natAbs (x + 1074).toNat hm0 hl3
      have hw : noW m x = wd (decide (m < 0)) (rg m.natAbs (x + 1074).toNat) := by unfold noW; rw [if_pos hb]
      rw [hw, hb]
      have HA := hide (ldexp_any (decide (m < 0)) r (rg m.natAbs (x + 1074).toNat) x hr2 (by omega) (by omega) (by omega) (by have := HL2.out; omega) (by have := HL2.out; omega) hp0 hp (by rw [hpv, hv, Nat.mul_right_comm]))
      clear hw hb hr0 hr hv hr2 hr3 hp0 hp hpv
      generalize rg m.natAbs (x + 1074).toNat = p at HA
      have HM := hide hl3
      clear hl3
      go_enter Tryd.func90, Tryd.ntmps90
      go_wp2_with (first | (go_at_call 119; refine (sizeof_any m (by omega) (by omega) _).mono ?_; rintro e w' ⟨rfl, rfl⟩) | (go_at_call 118; refine (len64_any _ HM.out _).mono ?_; rintro e w' ⟨rfl, rfl⟩; rw [HLN.out]) | (go_at_call 120; refine (HA.out _).mono ?_; rintro e w' ⟨rfl, rfl⟩))
      go_ret2
      exact ⟨rfl, rfl⟩
  · have ht := inumof_even m (by omega)
    have hb : noB m x = false := decide_eq_false (fun h => ho h.1)
    rw [noW_false hb, hb]
    clear hb ho
    go_enter Tryd.func90, Tryd.ntmps90
    go_wp2
    go_ret2
    exact ⟨rfl, rfl⟩

theorem noW_wd (m x : Int) : ∃ s r, r < 9223372036854775808 ∧ noW m x = wd s r := by
  cases h : noB m x
  · exact ⟨false, 0, by omega, by rw [noW_false h]; rfl⟩
  · have hb := of_decide_eq_true h
    refine ⟨decide (m < 0), rg m.natAbs (x + 1074).toNat, ?_, by unfold noW; rw [if_pos h]⟩
    have := rg_lt m.natAbs (x + 1074).toNat (by omega) hb.2.1 (by omega)
    omega
end Go.Proofs.YtjijinjedeinmaaDoor
