/- States held against each other: threads. -/
import Derived.Test.YtdifamjkbagfcabSm
namespace Go.Proofs.Ytdifamjkbagfcab
open Go.RowKit
open Rd Fl

def thEq (t u : ThD) : Bool := decide (t.rt = u.rt) && (decide (t.pc = u.pc) && (decide (t.st = u.st) && (decide (t.cd = u.cd) && (decide (t.lk = u.lk) && sameL sB t.sk u.sk))))
theorem five_ways (r0 r1 r2 r3 r4 q0 q1 q2 q3 q4 : Int) : r0 ≠ q0 ∨ (r0 = q0 ∧ r1 ≠ q1) ∨ (r0 = q0 ∧ r1 = q1 ∧ r2 ≠ q2) ∨ (r0 = q0 ∧ r1 = q1 ∧ r2 = q2 ∧ r3 ≠ q3) ∨ (r0 = q0 ∧ r1 = q1 ∧ r2 = q2 ∧ r3 = q3 ∧ r4 ≠ q4) ∨ (r0 = q0 ∧ r1 = q1 ∧ r2 = q2 ∧ r3 = q3 ∧ r4 = q4) := by
  by_cases h0 : r0 = q0
  · by_cases h1 : r1 = q1
    · by_cases h2 : r2 = q2
      · by_cases h3 : r3 = q3
        · by_cases h4 : r4 = q4
          · exact .inr (.inr (.inr (.inr (.inr ⟨h0, h1, h2, h3, h4⟩))))
          · exact .inr (.inr (.inr (.inr (.inl ⟨h0, h1, h2, h3, h4⟩))))
        · exact .inr (.inr (.inr (.inl ⟨h0, h1, h2, h3⟩)))
      · exact .inr (.inr (.inl ⟨h0, h1, h2⟩))
    · exact .inr (.inl ⟨h0, h1⟩)
  · exact .inl h0

theorem thEq_no {r0 r1 r2 r3 r4 q0 q1 q2 q3 q4 : Int} {sk uk : List (Bool × Nat)} (h : ¬ (r0 = q0 ∧ r1 = q1 ∧ r2 = q2 ∧ r3 = q3 ∧ r4 = q4)) : thEq ⟨r0, r1, r2, r3, r4, sk⟩ ⟨q0, q1, q2, q3, q4, uk⟩ = false := by
  rw [Bool.eq_false_iff]
  intro h2
  simp only [thEq, Bool.and_eq_true, decide_eq_true_eq] at h2
  exact h ⟨h2.1, h2.2.1, h2.2.2.1, h2.2.2.2.1, h2.2.2.2.2.1⟩

set_option maxRecDepth 20000 in
set_option maxHeartbeats 2000000 in
theorem sameth_no (r0 r1 r2 r3 r4 q0 q1 q2 q3 q4 : Int) (S U : Option Addr) (n m : Nat) (ca cb : Nat) (hno : ¬ (r0 = q0 ∧ r1 = q1 ∧ r2 = q2 ∧ r3 = q3 ∧ r4 = q4)) (w : World) :
    Calls Try.prog 21 #[.agg #[.int .i64 r0, .int .i64 r1, .int .i64 r2, .int .i64 r3, .int .i64 r4, .slice S n ca], .agg #[.int .i64 q0, .int .i64 q1, .int .i64 q2, .int .i64 q3, .int .i64 q4, .slice U m cb]] w fun e w' => e = .returned (.bool false) ∧ Below w.heap.size w w' := by
  rcases five_ways r0 r1 r2 r3 r4 q0 q1 q2 q3 q4 with h | ⟨rfl, h⟩ | ⟨rfl, rfl, h⟩ | ⟨rfl, rfl, rfl, h⟩ | ⟨rfl, rfl, rfl, rfl, h⟩ | h
  case inr.inr.inr.inr.inr => exact absurd h hno
  all_goals
    clear hno
    go_enter Try.func21, Try.ntmps21
    go_wp2_with fail
    go_ret
    exact ⟨rfl, ((Below.refl _ w).up _).up _⟩

set_option maxRecDepth 20000 in
set_option maxHeartbeats 2000000 in
theorem sameth_any (r0 r1 r2 r3 r4 q0 q1 q2 q3 q4 : Int) (S U : Option Addr) (sk uk : List (Bool × Nat)) (ca cb : Nat) (hl : sk.length ≤ 1048576) (hm : uk.length ≤ 1048576) (hr : ∀ x ∈ sk, x.2 < 9223372036854775808) (hq : ∀ x ∈ uk, x.2 < 9223372036854775808) (w : World) (hS : LAt fv w S sk) (hU : LAt fv w U uk) :
    Calls Try.prog 21 #[.agg #[.int .i64 r0, .int .i64 r1, .int .i64 r2, .int .i64 r3, .int .i64 r4, .slice S sk.length ca], .agg #[.int .i64 q0, .int .i64 q1, .int .i64 q2, .int .i64 q3, .int .i64 q4, .slice U uk.length cb]] w fun e w' => e = .returned (.bool (thEq ⟨r0, r1, r2, r3, r4, sk⟩ ⟨q0, q1, q2, q3, q4, uk⟩)) ∧ Below w.heap.size w w' := by
  by_cases hall : r0 = q0 ∧ r1 = q1 ∧ r2 = q2 ∧ r3 = q3 ∧ r4 = q4
  · have HC := hide' (fun w h1 h2 => equalf_l S U sk uk ca cb hl hm hr hq w h1 h2)
    have HS := hide' hS
    have HU := hide' hU
    clear hl hm hr hq hS hU
    obtain ⟨rfl, rfl, rfl, rfl, rfl⟩ := hall
    have e : thEq ⟨r0, r1, r2, r3, r4, sk⟩ ⟨r0, r1, r2, r3, r4, uk⟩ = sameL sB sk uk := by simp [thEq]
    rw [e]
    generalize sameL sB sk uk = g at HC ⊢
    go_enter Try.func21, Try.ntmps21
    go_wp2_with (go_at_call 18; refine (HC.out _ (HS.out.keep (((Below.refl _ w).up _).up _)) (HU.out.keep (((Below.refl _ w).up _).up _))).mono ?_; rintro e w1 ⟨rfl, hb1⟩; have B1 := hide' ((((Below.refl _ w).up _).up _).trans (hb1.mono (by simp; omega))))
    go_ret
    exact ⟨rfl, B1.out⟩
  · rw [thEq_no hall]
    exact sameth_no r0 r1 r2 r3 r4 q0 q1 q2 q3 q4 S U _ _ ca cb hall w

set_option maxRecDepth 20000 in
set_option maxHeartbeats 2000000 in
theorem equalt_l (A B : Option Addr) (ts us : List ThD) (ca cb : Nat) (hl : ts.length ≤ 1048576) (hm : us.length ≤ 1048576) (hls : ∀ t ∈ ts, t.sk.length ≤ 1048576) (hms : ∀ t ∈ us, t.sk.length ≤ 1048576) (hr : ∀ t ∈ ts, ∀ x ∈ t.sk, x.2 < 9223372036854775808) (hq : ∀ t ∈ us, ∀ x ∈ t.sk, x.2 < 9223372036854775808) (w : World) (hA : ThsAt w A ts) (hB : ThsAt w B us) :
    Calls Try.prog 20 #[.slice A ts.length ca, .slice B us.length cb, .func (.func 21) #[] #[]] w fun e w' => e = .returned (.bool (sameL thEq ts us)) ∧ Below w.heap.size w w' := by
  have hl' : (ts.length : Int) ≤ 1048576 := by omega
  by_cases hlen : ts.length = us.length
  · rw [← hlen]
    obtain ⟨b, off, hA1, hc⟩ := hA
    obtain ⟨b', off', hB1, hc'⟩ := hB
    by_cases he : ts = []
    · have hme : us = [] := by rw [he] at hlen; exact List.eq_nil_of_length_eq_zero hlen.symm
      have hz := (SameTo.zero thEq ts us)
      subst he hme
      have hz2 := hz.all rfl
      rw [hz2]
      clear hc hA1 hc' hB1 hz hz2 hr hq hls hms
      go_enter Try.func20, Try.ntmps20
      go_wp2
      go_loop [17] (fun i => i = .int .i64 0) (fun _ => 0)
      case atStart => rfl
      case round =>
        subst hrel
        go_wp2
        go_ret
        exact ⟨rfl, Below.refl _ _⟩
    · have hA2 := hA1 he
      have hB2 := hB1 (by intro h; rw [h] at hlen; exact he (List.eq_nil_of_length_eq_zero hlen))
      subst hA2 hB2
      have HC := hide' (fun i (hi : i < ts.length) => hc i ts[i] (List.getElem?_eq_getElem hi))
      have HD := hide' (fun i (hi : i < us.length) => hc' i us[i] (List.getElem?_eq_getElem hi))
      have HRR := hide' hr
      have HQQ := hide' hq
      have HLL := hide' hls
      have HMM := hide' hms
      clear hc hA1 he hc' hB1 hr hq hls hms
      have HLN := hide' hlen
      clear hlen
      go_enter Try.func20, Try.ntmps20
      go_wp2
      go_loopw [17] (fun i wr => ∃ k : Nat, k ≤ ts.length ∧ i = .int .i64 k ∧ Hid (SameTo thEq ts us k) ∧ Hid (Below w.heap.size w wr)) (fun i _ => ts.length - (intOf i).toNat)
      case atStart => exact ⟨0, Nat.zero_le _, rfl, SameTo.zero _ _ _, Below.refl _ _⟩
      case round =>
        obtain ⟨k, hk, rfl, hto, hbw⟩ := hrel
        by_cases hlt : k < ts.length
        · have hltm : k < us.length := HLN.out ▸ hlt
          obtain ⟨S1, p1, x1, y1⟩ := HC.out k hlt
          obtain ⟨S2, p2, x2, y2⟩ := HD.out k hltm
          obtain ⟨c0, c1, c2, c3, c4, c5⟩ := th_range (range_keep hbw.out x1)
          obtain ⟨d0, d1, d2, d3, d4, d5⟩ := th_range (range_keep (hbw.out.up (.cells #[.int .i64 ts[k].rt, .int .i64 ts[k].pc, .int .i64 ts[k].st, .int .i64 ts[k].cd, .int .i64 ts[k].lk, .slice S1 ts[k].sk.length p1] 40)) x2)
          have HX := hide' (List.getElem?_eq_getElem hlt)
          have HY := hide' (List.getElem?_eq_getElem hltm)
          have HS := hide' (fun (w : World) (hS : LAt fv w S1 ts[k].sk) (hU : LAt fv w S2 us[k].sk) => sameth_any ts[k].rt ts[k].pc ts[k].st ts[k].cd ts[k].lk us[k].rt us[k].pc us[k].st us[k].cd us[k].lk S1 S2 ts[k].sk us[k].sk p1 p2 (HLL.out _ (List.getElem_mem hlt)) (HMM.out _ (List.getElem_mem hltm)) (HRR.out _ (List.getElem_mem hlt)) (HQQ.out _ (List.getElem_mem hltm)) w hS hU)
          have Y1 := hide' y1
          have Y2 := hide' y2
          clear x1 x2 y1 y2
          generalize ts[k] = t at c0 c1 c2 c3 c4 c5 d0 d1 d2 d3 d4 d5 HX HS Y1
          generalize us[k] = u at d0 d1 d2 d3 d4 d5 HY HS Y2
          obtain ⟨r0, r1, r2, r3, r4, sk⟩ := t
          obtain ⟨q0, q1, q2, q3, q4, uk⟩ := u
          simp only at HS c0 c1 c2 c3 c4 c5 d0 d1 d2 d3 d4 d5 Y1 Y2
          cases hp : thEq ⟨r0, r1, r2, r3, r4, sk⟩ ⟨q0, q1, q2, q3, q4, uk⟩
          · have HN := hide' (sameL_no HX.out HY.out hp)
            rw [hp] at HS
            clear hp
            go_wp2_with (go_at_call 21; refine (HS.out _ (Y1.out.keep ((hbw.out.up _).up _)) (Y2.out.keep ((hbw.out.up _).up _))).mono ?_; rintro e w1 ⟨rfl, hb1⟩)
            go_ret
            exact ⟨by rw [HN.out]; rfl, ((hbw.out.up _).up _).trans (hb1.mono (by have := hbw.out.size; simp; omega))⟩
          · have HN := hide' (hto.out.step HX.out HY.out hp)
            rw [hp] at HS
            clear hp
            go_wp2_with (go_at_call 21; refine (HS.out _ (Y1.out.keep ((hbw.out.up _).up _)) (Y2.out.keep ((hbw.out.up _).up _))).mono ?_; rintro e w1 ⟨rfl, hb1⟩)
            go_roundw
            case rel => exact ⟨k + 1, by omega, by go_num, HN.out, ((hbw.out.up _).up _).trans (hb1.mono (by have := hbw.out.size; simp; omega))⟩
            case measure => simp [intOf]; omega
        · have hke : k = ts.length := by omega
          subst hke
          have HN := hide' (hto.out.all HLN.out)
          go_wp2
          go_ret
          exact ⟨by rw [HN.out]; rfl, hbw.out⟩
  · rw [sameL_len hlen]
    have hln : ¬ ((ts.length : Int) = (us.length : Int)) := by omega
    clear hlen hA hB hr hq hls hms
    go_enter Try.func20, Try.ntmps20
    go_wp2
    go_ret
    exact ⟨rfl, Below.refl _ _⟩
end Go.Proofs.Ytdifamjkbagfcab
