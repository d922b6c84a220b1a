/- spec.SharedLocks. -/
import Derived.Test.YtmflbibogkebmaaVte
import Derived.Deep.DeepCutAuto
namespace Go.Proofs.Ytmflbibogkebmaa
open Go.RowKit Go.Maps
open Rd Fl

set_option maxRecDepth 20000 in
set_option maxHeartbeats 8000000 in
theorem sshared_yes (A : Option Addr) (l : List EvD) (cap : Nat) (hcap : l.length ≤ cap) (hg : goodTr l = true) (hne : l ≠ []) (w : World) (hA : EvsAt w A l) :
    Calls Try.prog 18 #[.slice A l.length cap] w fun e w' => ∃ v rvs, e = .returned (.tuple #[v, .bool true]) ∧ Below w.heap.size w w' ∧ LayM w' w.heap.size v rvs ((cellsTo l l.length).map (shRow l)) := by
  obtain ⟨i0, hi, hz0, hz1, hz2⟩ := intInfo
  obtain ⟨i1, hj, hy0, hy1, hy2⟩ := intsInfo
  have h200 := good_len hg
  have hn' : (l.length : Int) ≤ 200 := by omega
  have HG := hide' (l6trace_any A l cap (by omega) w hA)
  rw [hg] at HG
  have HTC := hide' (fun e w => l7touch_any e w)
  have HLB := hide' (fun i (hi : i < l.length) w hA => l7held_any A l cap hcap hg i hi w hA)
  have HGG := hide' hg
  have HAA := hide' hA
  have HEA := hide' (fun i (hi : i < l.length) => evA_get (l := l) hi)
  obtain ⟨b, off, hA1, hc⟩ := hA
  have hA2 := hA1 hne
  subst hA2
  have HCE := hide' (fun i (hi : i < l.length) => hc i l[i] (List.getElem?_eq_getElem hi))
  clear hc hA1 hne hg
  go_enter Try.func18, Try.ntmps18
  go_wp2_with (go_at_call 34; refine HG.out.mono ?_; rintro e w1 ⟨rfl, hb1⟩)
  have B1 := hide' hb1
  clear HG hb1
  go_loopw [4, 23] (fun v x wr => ∃ k : Nat, k ≤ l.length ∧ x = .int .i64 k ∧ Hid (Rsp w1 v (cellsTo l k) wr)) (fun _ x _ => l.length - (intOf x).toNat)
  case atStart => exact ⟨0, Nat.zero_le _, rfl, Below.refl _ _, World.ownsRow_nil _ _ _ _⟩
  case round =>
    obtain ⟨k, hk, rfl, hr⟩ := hrel
    by_cases hlt : k < l.length
    · have hk2 : (k : Int) < l.length := by omega
      obtain ⟨c0, c1, c2, c3, c4⟩ := ev_range (range_keep hr.out.b (range_keep B1.out (HCE.out k hlt)))
      have HTK := hide' (fun w => HTC.out l[k] w)
      have HEK := HEA.out k hlt
      have HCY := hide' (fun h => cellsTo_yes (t := l) (k := k) h)
      have HCN := hide' (fun h => cellsTo_no (t := l) (k := k) h)
      have HLC := hide' (cellsTo_len l k)
      rw [HEK] at HCY HCN
      generalize l[k] = x at c0 c1 c2 c3 c4 HTK HCY HCN
      clear HEK
      obtain ⟨r0, r1, r2, r3, r4⟩ := x
      have E0 := hide' (evbox_new wr r0 r1 r2 r3 r4)
      have R0 := hide' (hr.out.keep ((Below.refl wr.heap.size wr).up (.cells #[.int .i64 r0, .int .i64 r1, .int .i64 r2, .int .i64 r3, .int .i64 r4] 50)))
      unfold evV at HTK
      simp only at c0 c1 c2 c3 c4 HTK HCY HCN
      obtain ⟨q0, q1, q2, q3, q4⟩ := E0.out
      cases ht : tchB ⟨r0, r1, r2, r3, r4⟩
      · have HE := hide' (HCN.out ht)
        rw [ht] at HTK
        clear HCY HCN
        go_wp2_with (go_at_call 41; refine (HTK.out _).mono ?_; rintro e w2 ⟨rfl, hb2⟩)
        go_roundw
        case rel => exact ⟨k + 1, by omega, by go_num, by rw [HE.out]; exact R0.out.keep hb2⟩
        case measure => simp [intOf]; omega
      · have HE := hide' (HCY.out ht)
        rw [ht] at HTK
        clear HCY HCN
        go_wp2_with (first
          | (go_at_call 41; refine (HTK.out _).mono ?_; rintro e w2 ⟨rfl, hb2⟩; have R2 := hide' (R0.out.keep hb2); have E2 := hide' (E0.out.keep hb2); clear hb2 R0 q0 q1 q2 q3 q4; obtain ⟨q0, q1, q2, q3, q4⟩ := E2.out)
          | (go_at_call 42; refine (l1put_any _ r2 _ (by have := HLC.out; omega) w1 _ R2.out).mono ?_; rintro e w5 ⟨⟨v5, rfl, hr5⟩, hb5⟩; have R5 := hide' hr5))
        go_roundw
        case rel => exact ⟨k + 1, by omega, by go_num, by rw [HE.out]; exact R5.out⟩
        case measure => simp [intOf]; omega
    · have hke : k = l.length := by omega
      subst hke
      have HCR := hide' hr.out
      have HCN := hide' (cellsTo_len l l.length)
      clear hr
      generalize hcs0 : cellsTo l l.length = cs at *
      have hcs : (cs.length : Int) ≤ 200 := by have := HCN.out; omega
      obtain ⟨A5, cap5, hv5, hat5⟩ := HCR.out.open (by omega)
      subst hv5
      have B5 := hide' (B1.out.trans (HCR.out.b.mono B1.out.size))
      have AT := hide' hat5
      have L0 := hide' (laym_nil wr wr.heap.size)
      clear HCR hat5
      obtain ⟨w5, hw5⟩ : ∃ w5, w5 = wr := ⟨_, rfl⟩
      rw [← hw5] at B5 AT L0
      have BW0 := hide' (show Below w5.heap.size w5 wr by rw [← hw5]; exact Below.refl _ _)
      have L0' := hide' (show LayM wr w5.heap.size (.slice none 0 0) [] ((cs.take 0).map (shRow l)) by rw [← hw5]; exact L0.out)
      clear hw5 L0
      go_wp2_with fail
      go_loopw [7, 36] (fun v x wr => ∃ (k : Nat) (rvs : List Value), k ≤ cs.length ∧ x = .int .i64 k ∧ Hid (Below w5.heap.size w5 wr) ∧ Hid (LayM wr w5.heap.size v rvs ((cs.take k).map (shRow l)))) (fun _ x _ => cs.length - (intOf x).toNat)
      case atStart => exact ⟨0, [], Nat.zero_le _, rfl, BW0.out, L0'.out⟩
      case round =>
        clear L0' BW0
        obtain ⟨k, rvs, hk', rfl, hbw, hlay⟩ := hrel
        by_cases hlt' : k < cs.length
        · obtain ⟨b5, off5, hA5, hc5⟩ := AT.out
          have hA5' := hA5 (by intro h; rw [h] at hlt'; simp at hlt')
          subst hA5'
          have hk3 : (k : Int) < cs.length := by omega
          have d0 := keep_cell hbw.out (hc5 k cs[k] (List.getElem?_eq_getElem hlt'))
          have HTK := hide' (List.take_succ_eq_append_getElem hlt')
          clear hc5 hA5
          unfold iv at d0
          generalize cs[k] = c at d0 HTK
          obtain ⟨wo, hwo⟩ : ∃ wo, wo = wr := ⟨_, rfl⟩
          have RR0 := hide' (show Rsp wo (.slice none 0 0) (gath l 0 c) wr by rw [hwo]; exact ⟨Below.refl _ _, World.ownsRow_nil _ _ _ _⟩)
          rw [← hwo] at hbw hlay
          clear hwo
          go_wp2_with fail
          go_loopw [10, 11, 42] (fun v f x wr => ∃ k : Nat, k ≤ l.length ∧ x = .int .i64 k ∧ f = .bool (firstB l k c) ∧ Hid (Rsp wo v (gath l k c) wr)) (fun _ _ x _ => l.length - (intOf x).toNat)
          case atStart => exact ⟨0, Nat.zero_le _, rfl, rfl, RR0.out⟩
          case round =>
            clear RR0
            obtain ⟨i, hi', rfl, rfl, hr⟩ := hrel
            by_cases hil : i < l.length
            · have hil2 : (i : Int) < l.length := by omega
              have HGL := hide' (gath_len (t := l) i c)
              have hgl := HGL.out
              obtain ⟨AG, capG, hvG, hatG⟩ := hr.out.open (by omega)
              subst hvG
              obtain ⟨c0, c1, c2, c3, c4⟩ := ev_range (range_keep hr.out.b (range_keep hbw.out (range_keep B5.out (HCE.out i hil))))
              have HTI := hide' (fun w => HTC.out l[i] w)
              have HEI := HEA.out i hil
              have HN := hide' (fun h => gath_no (t := l) (k := i) (x := c) h)
              have HNW := hide' (fun h h' => gath_new (t := l) (k := i) (x := c) h h')
              have HOL := hide' (fun h h' => gath_old (t := l) (k := i) (x := c) h h')
              have HLI := hide' (fun w hA => HLB.out i hil w hA)
              have HHL := hide' (heldN_len l i)
              have HEV := hide' (fun w' (hb : Below wr.heap.size wr w') => HAA.out.keep (B5.out.trans ((hbw.out.trans ((hr.out.b.trans (hb.mono hr.out.b.size)).mono hbw.out.size)).mono B5.out.size)))
              rw [HEI] at HN HNW HOL
              generalize l[i] = x at c0 c1 c2 c3 c4 HTI HN HNW HOL
              clear HEI
              obtain ⟨r0, r1, r2, r3, r4⟩ := x
              have E0 := hide' (evbox_new wr r0 r1 r2 r3 r4)
              have U0 := hide' ((Below.refl wr.heap.size wr).up (.cells #[.int .i64 r0, .int .i64 r1, .int .i64 r2, .int .i64 r3, .int .i64 r4] 50))
              have R0 := hide' (hr.out.keep U0.out)
              have G0 := hide' (hatG.keep U0.out)
              unfold evV at HTI
              simp only at c0 c1 c2 c3 c4 HTI HN HNW HOL
              obtain ⟨q0, q1, q2, q3, q4⟩ := E0.out
              generalize hHH : heldN l i = H at *
              clear hatG hHH
              cases ht : tchB ⟨r0, r1, r2, r3, r4⟩
              · have HE := hide' (HN.out (fun h => by rw [ht] at h; cases h.1))
                rw [ht] at HTI
                clear HN HNW HOL HLI
                go_wp2_with (go_at_call 41; refine (HTI.out _).mono ?_; rintro e w2 ⟨rfl, hb2⟩)
                go_roundw
                case rel => exact ⟨i + 1, by omega, by go_num, by rw [HE.out.2], by rw [HE.out.1]; exact R0.out.keep hb2⟩
                case measure => simp [intOf]; omega
              · rw [ht] at HTI
                cases hcc : (r2 == c)
                · have hn2 : (r2 != c) = true := by unfold bne; rw [hcc]; rfl
                  have HE := hide' (HN.out (fun h => by have := h.2; rw [beq_eq_false_iff_ne] at hcc; exact hcc this))
                  clear HN HNW HOL HLI
                  go_wp2_with (go_at_call 41; refine (HTI.out _).mono ?_; rintro e w2 ⟨rfl, hb2⟩; have R2 := hide' (R0.out.keep hb2); have E2 := hide' (E0.out.keep hb2); clear hb2 q0 q1 q2 q3 q4; obtain ⟨q0, q1, q2, q3, q4⟩ := E2.out)
                  go_roundw
                  case rel => exact ⟨i + 1, by omega, by go_num, by rw [HE.out.2], by rw [HE.out.1]; exact R2.out⟩
                  case measure => simp [intOf]; omega
                · have hn2 : (r2 != c) = false := by unfold bne; rw [hcc]; rfl
                  have hcr : r2 = c := by simpa using hcc
                  have HNW2 := hide' (fun h' => HNW.out ⟨ht, hcr⟩ h')
                  have HOL2 := hide' (fun h' => HOL.out ⟨ht, hcr⟩ h')
                  have hHH := HHL.out
                  clear HN HNW HOL hcr
                  cases hf : firstB l i c
                  · have HG2 := hide' ((HOL2.out hf).1)
                    have HF2 := hide' ((HOL2.out hf).2)
                    clear HNW2 HOL2
                    generalize gath l i c = G at *
                    go_wp2_with (first
                      | (go_at_call 41; refine (HTI.out _).mono ?_; rintro e w2 ⟨rfl, hb2⟩; have U2 := hide' (U0.out.trans (hb2.mono U0.out.size)); have R2 := hide' (R0.out.keep hb2); have G2 := hide' (G0.out.keep hb2); have E2 := hide' (E0.out.keep hb2); clear hb2 q0 q1 q2 q3 q4; obtain ⟨q0, q1, q2, q3, q4⟩ := E2.out)
                      | (go_at_call 36; refine (HLI.out _ (HEV.out _ U2.out)).mono ?_; rintro e w3 ⟨v, rfl, ho⟩; have R3 := hide' (R2.out.keep ho.b); obtain ⟨AH, capH, rfl, hatH⟩ := ho.open (by omega); have ATH := hide' hatH; have ATAL := hide' (G2.out.keep ho.b); clear ho hatH))
                    clear q0 q1 q2 q3 q4 R0 G0 E0 U0 R2 G2 E2 U2 HTI HLI HEV hr
                    go_loopw [15, 63] (fun v x wr => ∃ j : Nat, j ≤ G.length ∧ x = .int .i64 j ∧ Hid (Rsp w3 v (bothL (G.take j) H) wr)) (fun _ x _ => G.length - (intOf x).toNat)
                    case atStart => exact ⟨0, Nat.zero_le _, rfl, Below.refl _ _, World.ownsRow_nil _ _ _ _⟩
                    case round =>
                      obtain ⟨j, hj', rfl, hq⟩ := hrel
                      by_cases hjl : j < G.length
                      · have hj3 : (j : Int) < G.length := by omega
                        have HH := hide' ((l1has_any AH H capH G[j] (by omega) wr (ATH.out.keep hq.out.b)).mono (R' := fun e w' => e = .returned (.bool (decide (G[j] ∈ H))) ∧ Below wr.heap.size wr w') (by rintro e w' ⟨h1, h2⟩; rw [h2]; exact ⟨h1, Below.refl _ _⟩))
                        obtain ⟨ba, oa, hAA, hcA⟩ := ATAL.out
                        have hAA' := hAA (by intro h; rw [h] at hjl; simp at hjl)
                        subst hAA'
                        have e0 := keep_cell hq.out.b (hcA j G[j] (List.getElem?_eq_getElem hjl))
                        have HB1 := hide' (fun h => bothL_no (m := H) hjl h)
                        have HB2 := hide' (fun h => bothL_yes (m := H) hjl h)
                        have HLQ := hide' (show (bothL (G.take j) H).length ≤ 1000 by have := bothL_len (G.take j) H; rw [List.length_take] at this; omega)
                        unfold iv at e0
                        clear hcA hAA
                        generalize G[j] = y at e0 HB1 HB2 HH
                        cases hb : decide (y ∈ H)
                        · have HE := hide' (HB1.out hb)
                          rw [hb] at HH
                          clear HB1 HB2
                          go_wp2_with (go_at_call 43; refine HH.out.mono ?_; rintro e w9 ⟨rfl, hb9⟩)
                          go_roundw
                          case rel => exact ⟨j + 1, by omega, by go_num, by rw [HE.out]; exact hq.out.keep hb9⟩
                          case measure => simp [intOf]; omega
                        · have HE := hide' (HB2.out hb)
                          rw [hb] at HH
                          clear HB1 HB2
                          have hlen := HLQ.out
                          have hsz := hq.out.b.size
                          go_wp2_with (first
                            | (go_at_call 43; refine HH.out.mono ?_; rintro e w9 ⟨rfl, hb9⟩; have Q9 := hide' (hq.out.keep hb9); have Z9 := Q9.out.b.size; clear hb9)
                            | (at_builtin; go_loud (refine wpList_append_own _ rfl _ _ 24 rfl w3.heap.size 3 i0 (.int .i64 0) 1 8 Try.underlying24 hi hz0 hz1 hz2 rfl (by decide) _ _ _ rfl (Q9.out.o.alloc _) ⟨w9.heap.size, 0, none⟩ 1 1 [iv y] rfl rfl (cell_one_new _ _ _) (one_iv y) (by unfold maxLen; omega) (by omega) (by simp; omega) ?_; intro v' w4 hown' hg3 hnil3; go_frame)))
                          have R4 := hide' (show Rsp w3 v' (bothL (G.take (j + 1)) H) w4 from ⟨Below.grown (Q9.out.b.up _) hg3 (by simp; omega) (own_base' Q9.out.o), by rw [HE.out, List.length_append, List.map_append]; exact hown'⟩)
                          go_roundw
                          case rel => exact ⟨j + 1, by omega, by go_num, R4.out⟩
                          case measure => simp [intOf]; omega
                      · have hje : j = G.length := by omega
                        subst hje
                        have HD := hide' (show Rsp w3 _ (bothL G H) wr by have := hq.out; rwa [List.take_length] at this)
                        go_wp2_with fail
                        go_roundw
                        case rel => exact ⟨i + 1, by omega, by go_num, by rw [HF2.out], by rw [HG2.out]; exact R3.out.on HD.out⟩
                        case measure => simp [intOf]; omega
                  · have HG2 := hide' ((HNW2.out hf).1)
                    have HF2 := hide' ((HNW2.out hf).2)
                    clear HNW2 HOL2
                    go_wp2_with (first
                      | (go_at_call 41; refine (HTI.out _).mono ?_; rintro e w2 ⟨rfl, hb2⟩; have U2 := hide' (U0.out.trans (hb2.mono U0.out.size)); have R2 := hide' (R0.out.keep hb2); have E2 := hide' (E0.out.keep hb2); clear hb2 q0 q1 q2 q3 q4; obtain ⟨q0, q1, q2, q3, q4⟩ := E2.out)
                      | (go_at_call 36; refine (HLI.out _ (HEV.out _ U2.out)).mono ?_; rintro e w3 ⟨v, rfl, ho⟩; have R3 := hide' (R2.out.keep ho.b); obtain ⟨AH, capH, rfl, hatH⟩ := ho.open (by omega); have ATH := hide' hatH; have ATAL := hide' hatH; clear ho hatH))
                    clear q0 q1 q2 q3 q4 R0 G0 E0 U0 R2 E2 U2 HTI HLI HEV hr
                    go_loopw [15, 63] (fun v x wr => ∃ j : Nat, j ≤ H.length ∧ x = .int .i64 j ∧ Hid (Rsp w3 v (bothL (H.take j) H) wr)) (fun _ x _ => H.length - (intOf x).toNat)
                    case atStart => exact ⟨0, Nat.zero_le _, rfl, Below.refl _ _, World.ownsRow_nil _ _ _ _⟩
                    case round =>
                      obtain ⟨j, hj', rfl, hq⟩ := hrel
                      by_cases hjl : j < H.length
                      · have hj3 : (j : Int) < H.length := by omega
                        have HH := hide' ((l1has_any AH H capH H[j] (by omega) wr (ATH.out.keep hq.out.b)).mono (R' := fun e w' => e = .returned (.bool (decide (H[j] ∈ H))) ∧ Below wr.heap.size wr w') (by rintro e w' ⟨h1, h2⟩; rw [h2]; exact ⟨h1, Below.refl _ _⟩))
                        obtain ⟨ba, oa, hAA, hcA⟩ := ATAL.out
                        have hAA' := hAA (by intro h; rw [h] at hjl; simp at hjl)
                        subst hAA'
                        have e0 := keep_cell hq.out.b (hcA j H[j] (List.getElem?_eq_getElem hjl))
                        have HB1 := hide' (fun h => bothL_no (m := H) hjl h)
                        have HB2 := hide' (fun h => bothL_yes (m := H) hjl h)
                        have HLQ := hide' (show (bothL (H.take j) H).length ≤ 1000 by have := bothL_len (H.take j) H; rw [List.length_take] at this; omega)
                        unfold iv at e0
                        clear hcA hAA
                        generalize H[j] = y at e0 HB1 HB2 HH
                        cases hb : decide (y ∈ H)
                        · have HE := hide' (HB1.out hb)
                          rw [hb] at HH
                          clear HB1 HB2
                          go_wp2_with (go_at_call 43; refine HH.out.mono ?_; rintro e w9 ⟨rfl, hb9⟩)
                          go_roundw
                          case rel => exact ⟨j + 1, by omega, by go_num, by rw [HE.out]; exact hq.out.keep hb9⟩
                          case measure => simp [intOf]; omega
                        · have HE := hide' (HB2.out hb)
                          rw [hb] at HH
                          clear HB1 HB2
                          have hlen := HLQ.out
                          have hsz := hq.out.b.size
                          go_wp2_with (first
                            | (go_at_call 43; refine HH.out.mono ?_; rintro e w9 ⟨rfl, hb9⟩; have Q9 := hide' (hq.out.keep hb9); have Z9 := Q9.out.b.size; clear hb9)
                            | (at_builtin; go_loud (refine wpList_append_own _ rfl _ _ 24 rfl w3.heap.size 3 i0 (.int .i64 0) 1 8 Try.underlying24 hi hz0 hz1 hz2 rfl (by decide) _ _ _ rfl (Q9.out.o.alloc _) ⟨w9.heap.size, 0, none⟩ 1 1 [iv y] rfl rfl (cell_one_new _ _ _) (one_iv y) (by unfold maxLen; omega) (by omega) (by simp; omega) ?_; intro v' w4 hown' hg3 hnil3; go_frame)))
                          have R4 := hide' (show Rsp w3 v' (bothL (H.take (j + 1)) H) w4 from ⟨Below.grown (Q9.out.b.up _) hg3 (by simp; omega) (own_base' Q9.out.o), by rw [HE.out, List.length_append, List.map_append]; exact hown'⟩)
                          go_roundw
                          case rel => exact ⟨j + 1, by omega, by go_num, R4.out⟩
                          case measure => simp [intOf]; omega
                      · have hje : j = H.length := by omega
                        subst hje
                        have HD := hide' (show Rsp w3 _ (bothL H H) wr by have := hq.out; rwa [List.take_length] at this)
                        go_wp2_with fail
                        go_roundw
                        case rel => exact ⟨i + 1, by omega, by go_num, by rw [HF2.out], by rw [HG2.out]; exact R3.out.on HD.out⟩
                        case measure => simp [intOf]; omega
            · have hie : i = l.length := by omega
              subst hie
              have HGE := hide' (show gath l l.length c = (shTo l l.length c).getD [] from rfl)
              have HSR := hide' (show (cs.take (k + 1)).map (shRow l) = (cs.take k).map (shRow l) ++ [c :: gath l l.length c] by rw [HTK.out, List.map_append]; rfl)
              have hgl := gath_len (t := l) l.length c
              generalize gath l l.length c = L at *
              obtain ⟨A6, cap6, hv6, hat6⟩ := hr.out.open (by omega)
              subst hv6
              have hat6' := hat6.keep ((Below.refl _ wr).up (.cells #[.int .i64 c] 3))
              have O1 := hide' (own_one wr (.int .i64 c) 3 wr.heap.size (Nat.le_refl _))
              have hlsn : ((cs.take k).map (shRow l)).length = k := by rw [List.length_map, List.length_take]; omega
              have LAY := hide' (hlay.out.keep hr.out.b)
              have BW := hide' (hbw.out.trans (hr.out.b.mono hbw.out.size))
              have hsz := BW.out.size
              generalize hls : (cs.take k).map (shRow l) = ls at *
              clear hat6 hr hlay hbw HGE
              have hLL2 : L.length ≤ 1000 := by omega
              cases A6 with
              | none =>
                have hL0 : L = [] := by
                  obtain ⟨b', off', h1, -⟩ := hat6'
                  by_cases hL : L = []
                  · exact hL
                  · cases h1 hL
                subst hL0
                go_wp2_with (first
                  | (at_builtin; refine wpList_append_none rfl _ _ 24 rfl 3 i0 Try.underlying24 hi wr.heap.size 1 _ 1 cap6 [iv c] rfl O1.out rfl ?_; rintro v6 rfl)
                  | (at_builtin; refine wpList_append_own_at _ rfl _ _ 34 rfl w5.heap.size 24 i1 (.slice none 0 0) 1 24 Try.underlying34 hj hy0 hy1 hy2 rfl (by decide) _ _ _ rfl ((LAY.out.keep ((Below.refl _ _).up _)).top.alloc _) ⟨wr.heap.size + 1, 0, none⟩ 1 1 [.slice (some ⟨wr.heap.size, 0, none⟩) 1 1] rfl rfl ?c1 ?c2 ?c3 ?c4 ?c5 ?_))
                case c1 =>
                  intro j u hj
                  match j, hj with
                  | 0, hj => simp at hj; subst hj; simp [Addr.add]
                case c2 => intro u hu; simp at hu; subst hu; rfl
                case c3 => unfold maxLen; omega
                case c4 => omega
                case c5 => simp; omega
                intro v7 w7 hown7 hg7 _ _
                have R7 := hide' (LAY.out.row2 (L := []) hsz O1.out (fun b hb' => ((Below.refl _ wr).up (.cells #[.int .i64 c] 3)).block b hb') (by rw [hlsn]; exact hown7) hg7)
                have Q7 := hide' (Below.grown ((BW.out.up (.cells #[.int .i64 c] 3)).up (.cells #[.slice (some ⟨wr.heap.size, 0, none⟩) 1 1] 24)) hg7 (by simp; omega) (own_base' LAY.out.top))
                go_wp2_with fail
                go_roundw
                case rel => exact ⟨k + 1, _, by omega, by go_num, Q7.out, by rw [HSR.out]; exact R7.out⟩
                case measure => simp [intOf]; omega
              | some ad =>
                have HNW := hide' (lat_news hat6')
                have H6L := hide' (fun (w6 : World) (G6 : (wr.alloc (.cells #[.int .i64 c] 3)).grownBy w6 (some wr.heap.size)) (b : Nat) (hb' : b < wr.heap.size) => (G6.block b (by simp; omega) (by intro e; have := Option.some.inj e; omega)).trans (((Below.refl _ wr).up (.cells #[.int .i64 c] 3)).block b hb'))
                go_wp2_with (first
                  | (at_builtin; have _t := O1; refine wpList_append_own_at _ rfl _ _ 24 rfl wr.heap.size 3 i0 (.int .i64 0) 1 8 Try.underlying24 hi hz0 hz1 hz2 rfl (by decide) _ _ _ rfl O1.out ad L.length cap6 (L.map iv) rfl (by simp) HNW.out (iv_ones L) (by unfold maxLen; omega) (by omega) (by simp) ?_; intro v6 w6 hown6 hg6 hnil6 hblk6; have O6 := hide' hown6; have G6 := hide' hg6; obtain ⟨A8, cap8, rfl⟩ := own_shape hown6; have B6 := hide' (Below.grown ((Below.refl wr.heap.size wr).up (.cells #[.int .i64 c] 3)) hg6 (by simp) (fun j hj' => by cases hj'; exact Nat.le_refl _)); have L6 := hide' (LAY.out.keep B6.out); clear hown6 hg6 hnil6 hblk6 O1 _t)
                  | (at_builtin; have _t2 := O6; refine wpList_append_own_at _ rfl _ _ 34 rfl w5.heap.size 24 i1 (.slice none 0 0) 1 24 Try.underlying34 hj hy0 hy1 hy2 rfl (by decide) _ _ _ rfl (L6.out.top.alloc _) ⟨w6.heap.size, 0, none⟩ 1 1 [.slice A8 (1 + L.length) cap8] rfl rfl ?c1 ?c2 ?c3 ?c4 ?c5 ?_))
                case c1 => exact cell_one_new _ _ _
                case c2 => intro u hu; simp at hu; subst hu; rfl
                case c3 => unfold maxLen; omega
                case c4 => omega
                case c5 => have := B6.out.size; simp; omega
                intro v7 w7 hown7 hg7 _ _
                have R7 := hide' (LAY.out.row2 (L := L) hsz O6.out (H6L.out _ G6.out) (by rw [hlsn]; exact hown7) hg7)
                have Q7 := hide' (Below.grown ((BW.out.trans (B6.out.mono hsz)).up (.cells #[.slice A8 (1 + L.length) cap8] 24)) hg7 (by have := B6.out.size; simp; omega) (own_base' LAY.out.top))
                go_wp2_with fail
                go_roundw
                case rel => exact ⟨k + 1, _, by omega, by go_num, Q7.out, by rw [HSR.out]; exact R7.out⟩
                case measure => simp [intOf]; omega
        · have hke' : k = cs.length := by omega
          subst hke'
          have HD := hide' (show LayM wr w5.heap.size _ rvs (cs.map (shRow l)) by have := hlay.out; rwa [List.take_length] at this)
          have HB' := hide' (B5.out.trans (hbw.out.mono B5.out.size))
          go_wp2_with fail
          go_ret2
          exact ⟨_, rvs, rfl, HB'.out, by rw [hcs0]; exact HD.out.less B5.out.size⟩
end Go.Proofs.Ytmflbibogkebmaa
