/- Clocks held against each other: both sides. -/
import Derived.Test.YtiabocbabpcofaaSm
namespace Go.Proofs.Ytiabocbabpcofaa
open Go.RowKit
open Rd Fl

def lB (x y : Int) : Bool := decide (x ≤ y)
/-- each of l is at most that of m, and they are not the same -/
def lessC (l m : List Int) : Bool := sameL lB l m && !sameL iB l m
/-- what ClockLess tells -/
def lessT (l m : List Int) : Bool × Bool := if l.length = m.length then (lessC l m, true) else (false, false)

set_option maxRecDepth 20000 in
set_option maxHeartbeats 2000000 in
theorem scless_any (A B : Option Addr) (l m : List (Int)) (ca cb : Nat) (hl : l.length ≤ 1048576) (hm : m.length ≤ 1048576) (w : World) (hA : LAt iv w A l) (hB : LAt iv w B m) :
    Calls Try.prog 24 #[.slice A l.length ca, .slice B m.length cb] w fun e w' => e = .returned (.tuple #[.bool (lessT l m).1, .bool (lessT l m).2]) ∧ Below w.heap.size w w' := by
  have hl' : (l.length : Int) ≤ 1048576 := by omega
  unfold lessT
  by_cases hlen : l.length = m.length
  · rw [if_pos hlen]
    have HSM := hide' (fun w hA hB => l1same_l A B l m ca cb hl hm w hA hB)
    have HAA := hide' hA
    have HBB := hide' hB
    rw [← hlen] at HSM ⊢
    obtain ⟨b, off, hA1, hc⟩ := hA
    obtain ⟨b', off', hB1, hc'⟩ := hB
    by_cases he : l = []
    · have hme : m = [] := by rw [he] at hlen; exact List.eq_nil_of_length_eq_zero hlen.symm
      subst he hme
      have hz : sameL iB [] [] = true := rfl
      rw [hz] at HSM
      clear hc hA1 hc' hB1 hz
      go_enter Try.func24, Try.ntmps24
      go_wp2
      go_loop [14] (fun i => i = .int .i64 0) (fun _ => 0)
      case atStart => rfl
      case round =>
        subst hrel
        go_wp2_with fail
        refine (HSM.out _ HAA.out HBB.out).mono ?_
        rintro e w1 ⟨rfl, hb1⟩
        go_wp2_with fail
        go_ret2
        exact ⟨by simp [lessC, sameL], hb1⟩
    · have hA2 := hA1 he
      have hB2 := hB1 (by intro h; rw [h] at hlen; exact he (List.eq_nil_of_length_eq_zero hlen))
      subst hA2 hB2
      have HC := hide' (fun i (hi : i < l.length) => hc i l[i] (List.getElem?_eq_getElem hi))
      have HD := hide' (fun i (hi : i < m.length) => hc' i m[i] (List.getElem?_eq_getElem hi))
      clear hc hA1 he hc' hB1
      have HLN := hide' hlen
      clear hlen
      go_enter Try.func24, Try.ntmps24
      go_wp2
      go_loopw [14] (fun i wr => ∃ k : Nat, k ≤ l.length ∧ i = .int .i64 k ∧ Hid (SameTo lB l m k) ∧ Hid (Below w.heap.size w wr)) (fun i _ => l.length - (intOf i).toNat)
      case atStart => exact ⟨0, Nat.zero_le _, rfl, SameTo.zero _ _ _, Below.refl _ _⟩
      case round =>
        obtain ⟨k, hk, rfl, hto, hbw⟩ := hrel
        by_cases hlt : k < l.length
        · have hltm : k < m.length := HLN.out ▸ hlt
          have c0 : _ = some (Value.int .i64 l[k]) := keep_cell hbw.out (HC.out k hlt)
          have d0 : _ = some (Value.int .i64 m[k]) := keep_cell hbw.out (HD.out k hltm)
          have HX := hide' (List.getElem?_eq_getElem hlt)
          have HY := hide' (List.getElem?_eq_getElem hltm)
          generalize l[k] = x at c0 HX
          generalize m[k] = y at d0 HY
          cases hp : lB x y
          · have HN := hide' (sameL_no HX.out HY.out hp)
            have hp2 : decide (y < x) = true := by unfold lB at hp; have := of_decide_eq_false hp; exact decide_eq_true (by omega)
            clear hp
            go_wp2_with fail
            go_quiet (fail)
            go_wp2_with fail
            go_ret2
            exact ⟨by unfold lessC; rw [HN.out]; rfl, below_draws hbw.out _⟩
          · have HN := hide' (hto.out.step HX.out HY.out hp)
            have hp2 : decide (y < x) = false := by unfold lB at hp; have := of_decide_eq_true hp; exact decide_eq_false (by omega)
            clear hp
            go_wp2_with fail
            go_quiet (fail)
            go_wp2_with fail
            go_roundw
            case rel => exact ⟨k + 1, by omega, by go_num, HN.out, below_draws hbw.out _⟩
            case measure => simp [intOf]; omega
        · have hke : k = l.length := by omega
          subst hke
          have HN := hide' (hto.out.all HLN.out)
          go_wp2_with fail
          refine (HSM.out _ (HAA.out.keep hbw.out) (HBB.out.keep hbw.out)).mono ?_
          rintro e w1 ⟨rfl, hb1⟩
          go_wp2_with fail
          go_ret2
          exact ⟨by unfold lessC; rw [HN.out]; rfl, hbw.out.trans (hb1.mono hbw.out.size)⟩
  · rw [if_neg hlen]
    have hln : ((l.length : Int) != (m.length : Int)) = true := by rw [bne_iff_ne]; omega
    clear hlen hA hB
    go_enter Try.func24, Try.ntmps24
    go_wp2
    go_ret2
    exact ⟨rfl, Below.refl _ _⟩

set_option maxRecDepth 20000 in
set_option maxHeartbeats 2000000 in
theorem icless_any (A B : Option Addr) (l m : List (Int)) (ca cb : Nat) (hl : l.length ≤ 1048576) (hm : m.length ≤ 1048576) (w : World) (hA : LAt iv w A l) (hB : LAt iv w B m) :
    Calls Try.prog 26 #[.slice A l.length ca, .slice B m.length cb] w fun e w' => e = .returned (.tuple #[.bool (lessT l m).1, .bool (lessT l m).2]) ∧ Below w.heap.size w w' := by
  have hl' : (l.length : Int) ≤ 1048576 := by omega
  unfold lessT
  by_cases hlen : l.length = m.length
  · rw [if_pos hlen]
    have HSM := hide' (fun w hA hB => equal_l A B l m ca cb hl hm w hA hB)
    have HAA := hide' hA
    have HBB := hide' hB
    rw [← hlen] at HSM ⊢
    obtain ⟨b, off, hA1, hc⟩ := hA
    obtain ⟨b', off', hB1, hc'⟩ := hB
    by_cases he : l = []
    · have hme : m = [] := by rw [he] at hlen; exact List.eq_nil_of_length_eq_zero hlen.symm
      subst he hme
      have hz : sameL iB [] [] = true := rfl
      rw [hz] at HSM
      clear hc hA1 hc' hB1 hz
      go_enter Try.func26, Try.ntmps26
      go_wp2
      go_loop [14] (fun i => i = .int .i64 0) (fun _ => 0)
      case atStart => rfl
      case round =>
        subst hrel
        go_wp2_with fail
        refine (HSM.out _ HAA.out HBB.out).mono ?_
        rintro e w1 ⟨rfl, hb1⟩
        go_wp2_with fail
        go_ret2
        exact ⟨by simp [lessC, sameL], hb1⟩
    · have hA2 := hA1 he
      have hB2 := hB1 (by intro h; rw [h] at hlen; exact he (List.eq_nil_of_length_eq_zero hlen))
      subst hA2 hB2
      have HC := hide' (fun i (hi : i < l.length) => hc i l[i] (List.getElem?_eq_getElem hi))
      have HD := hide' (fun i (hi : i < m.length) => hc' i m[i] (List.getElem?_eq_getElem hi))
      clear hc hA1 he hc' hB1
      have HLN := hide' hlen
      clear hlen
      go_enter Try.func26, Try.ntmps26
      go_wp2
      go_loopw [14] (fun i wr => ∃ k : Nat, k ≤ l.length ∧ i = .int .i64 k ∧ Hid (SameTo lB l m k) ∧ Hid (Below w.heap.size w wr)) (fun i _ => l.length - (intOf i).toNat)
      case atStart => exact ⟨0, Nat.zero_le _, rfl, SameTo.zero _ _ _, Below.refl _ _⟩
      case round =>
        obtain ⟨k, hk, rfl, hto, hbw⟩ := hrel
        by_cases hlt : k < l.length
        · have hltm : k < m.length := HLN.out ▸ hlt
          have c0 : _ = some (Value.int .i64 l[k]) := keep_cell hbw.out (HC.out k hlt)
          have d0 : _ = some (Value.int .i64 m[k]) := keep_cell hbw.out (HD.out k hltm)
          have HX := hide' (List.getElem?_eq_getElem hlt)
          have HY := hide' (List.getElem?_eq_getElem hltm)
          generalize l[k] = x at c0 HX
          generalize m[k] = y at d0 HY
          cases hp : lB x y
          · have HN := hide' (sameL_no HX.out HY.out hp)
            have hp2 : decide (y < x) = true := by unfold lB at hp; have := of_decide_eq_false hp; exact decide_eq_true (by omega)
            clear hp
            go_wp2_with fail
            go_quiet (fail)
            go_wp2_with fail
            go_ret2
            exact ⟨by unfold lessC; rw [HN.out]; rfl, below_draws hbw.out _⟩
          · have HN := hide' (hto.out.step HX.out HY.out hp)
            have hp2 : decide (y < x) = false := by unfold lB at hp; have := of_decide_eq_true hp; exact decide_eq_false (by omega)
            clear hp
            go_wp2_with fail
            go_quiet (fail)
            go_wp2_with fail
            go_roundw
            case rel => exact ⟨k + 1, by omega, by go_num, HN.out, below_draws hbw.out _⟩
            case measure => simp [intOf]; omega
        · have hke : k = l.length := by omega
          subst hke
          have HN := hide' (hto.out.all HLN.out)
          go_wp2_with fail
          refine (HSM.out _ (HAA.out.keep hbw.out) (HBB.out.keep hbw.out)).mono ?_
          rintro e w1 ⟨rfl, hb1⟩
          go_wp2_with fail
          go_ret2
          exact ⟨by unfold lessC; rw [HN.out]; rfl, hbw.out.trans (hb1.mono hbw.out.size)⟩
  · rw [if_neg hlen]
    have hln : ((l.length : Int) != (m.length : Int)) = true := by rw [bne_iff_ne]; omega
    clear hlen hA hB
    go_enter Try.func26, Try.ntmps26
    go_wp2
    go_ret2
    exact ⟨rfl, Below.refl _ _⟩

end Go.Proofs.Ytiabocbabpcofaa
