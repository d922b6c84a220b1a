/- spec.SameState: its loop. -/
import Derived.Test.YtdifamjkbagfcabSo
namespace Go.Proofs.Ytdifamjkbagfcab
open Go.RowKit
open Rd Fl

set_option maxRecDepth 20000 in
set_option maxHeartbeats 8000000 in
theorem ssamest_yes (s u : StD) (T C O T' C' O' : Option Addr) (k1 k2 k3 j1 j2 j3 : Nat) (hf : StFit s 1048576) (hg : StFit u 1048576) (hn : StNums s) (hm : StNums u) (hlen : s.ts.length = u.ts.length) (h2 : sameL sB s.cl u.cl = true) (h3 : sameL iB s.ow u.ow = true) (hft : s.ft = u.ft) (w : World) (hA : StAt w T C O s) (hB : StAt w T' C' O' u) :
    Calls Try.prog 5 #[.agg #[.slice T s.ts.length k1, .slice C s.cl.length k2, .slice O s.ow.length k3, .int .i64 s.ft], .agg #[.slice T' u.ts.length j1, .slice C' u.cl.length j2, .slice O' u.ow.length j3, .int .i64 u.ft]] w fun e w' => e = .returned (.bool (sameL thEq s.ts u.ts)) ∧ Below w.heap.size w w' := by
  have hl1 : (s.ts.length : Int) ≤ 1048576 := by have := hf.t; omega
  have H2 := hide' (fun w h1 h2 => l3same_l C C' s.cl u.cl k2 j2 hf.c hg.c hn.c hm.c w h1 h2)
  have H3 := hide' (fun w h1 h2 => l1same_l O O' s.ow u.ow k3 j3 hf.o hg.o w h1 h2)
  rw [h2] at H2
  rw [h3] at H3
  have HA := hide' hA
  have HB := hide' hB
  have HW := hide' (two2_new w T C O s.ts.length k1 s.cl.length k2 s.ow.length k3 s.ft T' C' O' u.ts.length j1 u.cl.length j2 u.ow.length j3 u.ft 31)
  have HLL := hide' hf.k
  have HMM := hide' hg.k
  have HRR := hide' hn.k
  have HQQ := hide' hm.k
  have HLN := hide' hlen
  rw [← hlen, ← hft] at HW ⊢
  obtain ⟨b, off, hA1, hc⟩ := hA.t
  obtain ⟨b', off', hB1, hc'⟩ := hB.t
  have HTA := hide' hA1
  have HTB := hide' hB1
  have HC := hide' (fun i (hi : i < s.ts.length) => hc i s.ts[i] (List.getElem?_eq_getElem hi))
  have HD := hide' (fun i (hi : i < u.ts.length) => hc' i u.ts[i] (List.getElem?_eq_getElem hi))
  clear hf hg hn hm hA hB h2 h3 hft hlen hA1 hB1 hc hc'
  generalize s.ft = ft at *
  generalize s.cl.length = n2 at *
  generalize s.ow.length = n3 at *
  generalize u.cl.length = m2 at *
  generalize u.ow.length = m3 at *
  generalize s.ts = ts at hl1 HLL HRR HLN HTA HC HW ⊢
  generalize u.ts = us at HMM HQQ HLN HTB HD ⊢
  go_enter Try.func5, Try.ntmps5
  go_wp2_with (first | (go_at_call 12; refine (H2.out _ (HA.out.c.keep HW.out.b) (HB.out.c.keep HW.out.b)).mono ?_; rintro e w1 ⟨rfl, hb1⟩; have W1 := hide' (HW.out.keep hb1); obtain ⟨⟨a0, a1, a2, a3⟩, ⟨c0, c1, c2, c3⟩, -⟩ := W1.out) | (go_at_call 13; refine (H3.out _ (HA.out.o.keep W1.out.b) (HB.out.o.keep W1.out.b)).mono ?_; rintro e w2 ⟨rfl, hb2⟩; have W2 := hide' (W1.out.keep hb2); obtain ⟨⟨d0, d1, d2, d3⟩, ⟨e0, e1, e2, e3⟩, -⟩ := W2.out))
  clear a0 a1 a2 a3 c0 c1 c2 c3 d0 d1 d2 d3 e0 e1 e2 e3 hb1 hb2 W1 HW H2 H3 HA HB
  go_loopw [41] (fun i wr => ∃ k : Nat, k ≤ ts.length ∧ i = .int .i64 k ∧ Hid (SameTo thEq ts us k) ∧ Hid (Two2 w T C O ts.length k1 n2 k2 n3 k3 ft T' C' O' ts.length j1 m2 j2 m3 j3 ft wr)) (fun i _ => ts.length - (intOf i).toNat)
  case atStart => exact ⟨0, Nat.zero_le _, rfl, SameTo.zero _ _ _, W2.out⟩
  case round =>
    obtain ⟨k, hk, rfl, hto, hW⟩ := hrel
    by_cases hlt : k < ts.length
    · have hltm : k < us.length := HLN.out ▸ hlt
      have hT := HTA.out (by intro h; rw [h] at hlt; simp at hlt)
      have hT' := HTB.out (by intro h; rw [h] at hltm; simp at hltm)
      subst hT hT'
      obtain ⟨S1, p1, x1, y1⟩ := HC.out k hlt
      obtain ⟨S2, p2, x2, y2⟩ := HD.out k hltm
      obtain ⟨c0, c1, c2, c3, c4, c5⟩ := th_range (range_keep hW.out.b x1)
      obtain ⟨d0, d1, d2, d3, d4, d5⟩ := th_range (range_keep (hW.out.b.up (.cells #[.int .i64 ts[k].rt, .int .i64 ts[k].pc, .int .i64 ts[k].st, .int .i64 ts[k].cd, .int .i64 ts[k].lk, .slice S1 ts[k].sk.length p1] 40)) x2)
      obtain ⟨-, ⟨e0, e1, e2, e3⟩, -⟩ := hW.out
      have hz : w.heap.size + 1 < wr.heap.size := World.block_lt_of_cell? wr _ e0
      have HX := hide' (List.getElem?_eq_getElem hlt)
      have HY := hide' (List.getElem?_eq_getElem hltm)
      have HS := hide' (fun (w : World) (hS : LAt fv w S1 ts[k].sk) (hU : LAt fv w S2 us[k].sk) => l3same_l S1 S2 ts[k].sk us[k].sk p1 p2 (HLL.out _ (List.getElem_mem hlt)) (HMM.out _ (List.getElem_mem hltm)) (HRR.out _ (List.getElem_mem hlt)) (HQQ.out _ (List.getElem_mem hltm)) w hS hU)
      have Y1 := hide' y1
      have Y2 := hide' y2
      clear x1 x2 y1 y2
      generalize ts[k] = t at c0 c1 c2 c3 c4 c5 d0 d1 d2 d3 d4 d5 HX HS Y1
      generalize us[k] = v at d0 d1 d2 d3 d4 d5 HY HS Y2
      obtain ⟨r0, r1, r2, r3, r4, sk⟩ := t
      obtain ⟨q0, q1, q2, q3, q4, uk⟩ := v
      simp only at HS c0 c1 c2 c3 c4 c5 d0 d1 d2 d3 d4 d5 Y1 Y2
      by_cases hall : r0 = q0 ∧ r1 = q1 ∧ r2 = q2 ∧ r3 = q3 ∧ r4 = q4
      · obtain ⟨rfl, rfl, rfl, rfl, rfl⟩ := hall
        have e : thEq ⟨r0, r1, r2, r3, r4, sk⟩ ⟨r0, r1, r2, r3, r4, uk⟩ = sameL sB sk uk := by simp [thEq]
        cases hp : sameL sB sk uk
        · have HN := hide' (sameL_no HX.out HY.out (e.trans hp))
          rw [hp] at HS
          clear hp e
          go_wp2_with (go_at_call 12; refine (HS.out _ (Y1.out.keep ((hW.out.b.up _).up _)) (Y2.out.keep ((hW.out.b.up _).up _))).mono ?_; rintro e w3 ⟨rfl, hb3⟩)
          go_ret
          exact ⟨by rw [HN.out]; rfl, ((hW.out.b.up _).up _).trans (hb3.mono (by have := hW.out.b.size; simp; omega))⟩
        · have HN := hide' (hto.out.step HX.out HY.out (e.trans hp))
          rw [hp] at HS
          clear hp e
          go_wp2_with (go_at_call 12; refine (HS.out _ (Y1.out.keep ((hW.out.b.up _).up _)) (Y2.out.keep ((hW.out.b.up _).up _))).mono ?_; rintro e w3 ⟨rfl, hb3⟩)
          go_roundw
          case rel => exact ⟨k + 1, by omega, by go_num, HN.out, hW.out.keep ((((Below.refl _ _).up _).up _).trans (hb3.mono (by simp; omega)))⟩
          case measure => simp [intOf]; omega
      · have HN := hide' (sameL_no HX.out HY.out (thEq_no hall))
        rcases five_ways r0 r1 r2 r3 r4 q0 q1 q2 q3 q4 with h | ⟨rfl, h⟩ | ⟨rfl, rfl, h⟩ | ⟨rfl, rfl, rfl, h⟩ | ⟨rfl, rfl, rfl, rfl, h⟩ | h
        case inr.inr.inr.inr.inr => exact absurd h hall
        all_goals
          clear hall HS
          go_wp2_with fail
          go_ret
          exact ⟨by rw [HN.out]; rfl, (hW.out.b.up _).up _⟩
    · have hke : k = ts.length := by omega
      subst hke
      have HN := hide' (hto.out.all HLN.out)
      go_wp2_with fail
      go_ret
      exact ⟨by rw [HN.out]; rfl, hW.out.b⟩

theorem samest_both (s u : StD) (hf : StFit s 1048576) (hg : StFit u 1048576) (hn : StNums s) (hm : StNums u) :
    (∀ T C O T' C' O' k1 k2 k3 j1 j2 j3 w, StAt w T C O s → StAt w T' C' O' u → Calls Try.prog 5 #[.agg #[.slice T s.ts.length k1, .slice C s.cl.length k2, .slice O s.ow.length k3, .int .i64 s.ft], .agg #[.slice T' u.ts.length j1, .slice C' u.cl.length j2, .slice O' u.ow.length j3, .int .i64 u.ft]] w fun e w' => e = .returned (.bool (stSame s u)) ∧ Below w.heap.size w w') ∧
    (∀ T C O T' C' O' k1 k2 k3 j1 j2 j3 w, StAt w T C O s → StAt w T' C' O' u → Calls Try.prog 7 #[.agg #[.slice T s.ts.length k1, .slice C s.cl.length k2, .slice O s.ow.length k3, .int .i64 s.ft], .agg #[.slice T' u.ts.length j1, .slice C' u.cl.length j2, .slice O' u.ow.length j3, .int .i64 u.ft]] w fun e w' => e = .returned (.bool (stSame s u)) ∧ Below w.heap.size w w') := by
  refine ⟨fun T C O T' C' O' k1 k2 k3 j1 j2 j3 w hA hB => ?_, fun T C O T' C' O' k1 k2 k3 j1 j2 j3 w hA hB => isamest_any s u T C O T' C' O' k1 k2 k3 j1 j2 j3 hf hg hn hm w hA hB⟩
  by_cases hlen : s.ts.length = u.ts.length
  · cases hr : (sameL sB s.cl u.cl && (sameL iB s.ow u.ow && decide (s.ft = u.ft)))
    · have e : stSame s u = false := by unfold stSame; rw [hr, Bool.and_false]
      rw [e]
      exact ssamest_no s u T C O T' C' O' k1 k2 k3 j1 j2 j3 hf hg hn hm (.inr hr) w hA hB
    · have e : stSame s u = sameL thEq s.ts u.ts := by unfold stSame; rw [hr, Bool.and_true]
      rw [e]
      simp only [Bool.and_eq_true, decide_eq_true_eq] at hr
      exact ssamest_yes s u T C O T' C' O' k1 k2 k3 j1 j2 j3 hf hg hn hm hlen hr.1 hr.2.1 hr.2.2 w hA hB
  · have e : stSame s u = false := by unfold stSame; rw [sameL_len hlen, Bool.false_and]
    rw [e]
    exact ssamest_no s u T C O T' C' O' k1 k2 k3 j1 j2 j3 hf hg hn hm (.inl hlen) w hA hB
end Go.Proofs.Ytdifamjkbagfcab
