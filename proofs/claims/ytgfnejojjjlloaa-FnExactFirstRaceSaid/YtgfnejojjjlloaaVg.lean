/- spec.l7Races. RacesIn: both sides. -/
import Derived.Test.YtgfnejojjjlloaaVmx
import Derived.Test.YtgfnejojjjlloaaVe
import Derived.Test.YtgfnejojjjlloaaQy
import Derived.Deep.DeepCutAuto
namespace Go.Proofs.Ytgfnejojjjlloaa
open Go.RowKit
open Rd Fl

set_option maxRecDepth 20000 in
set_option maxHeartbeats 8000000 in
theorem l7races_yes (A : Option Addr) (l : List EvD) (cap : Nat) (hcap : l.length ≤ cap) (hg : goodTr l = true) (hne : l ≠ []) (w : World) (hA : EvsAt w A l) :
    Calls Try.prog 36 #[.slice A l.length cap] w fun e w' => ∃ v w1, e = .returned v ∧ Below w.heap.size w w1 ∧ RcL w1 w' (rcAll l l.length) v := by
  obtain ⟨i0, hi, hz0, hz1, hz2⟩ := raceInfo
  have h200 := good_len hg
  have hn' : (l.length : Int) ≤ 200 := by omega
  have hpos : 0 < l.length := List.length_pos_iff.2 hne
  have HM := hide' (l6ahead_any A l cap hg hne w hA)
  have HTC := hide' (fun e w => l7touch_any e w)
  have HYES := hide' (fun i j (h : rcB l i j = true) => rcTo_yes h)
  have HNO := hide' (fun i j (h : rcB l i j = false) => rcTo_no h)
  have HRC := hide' (fun i j (hi : i < l.length) (hj : j < l.length) => show rcB l i j = (mayB l[i] l[j] && !ahB l i j) by unfold rcB; rw [evA_get hi, evA_get hj])
  have HEA := hide' (fun i (hi : i < l.length) => evA_get (l := l) hi)
  have HLEN := hide' (fun j i (hj : j ≤ l.length) (hi : i ≤ l.length) => rcAll_len2 (l := l) (j := j) (i := i) (by omega) (by omega))
  obtain ⟨b, off, hA1, hc⟩ := hA
  have hA2 := hA1 hne
  subst hA2
  have HCE := hide' (fun i (hi : i < l.length) => hc i l[i] (List.getElem?_eq_getElem hi))
  clear hc hA1 hne hg
  go_enter Try.func36, Try.ntmps36
  go_wp2_with (go_at_call 60; refine HM.out.mono ?_; rintro e w1 ⟨g, rfl, hm⟩; have M1 := hide' hm)
  have B1 := hide' hm.b
  clear HM hm
  go_loopw [4, 13] (fun v x wr => ∃ j : Nat, j ≤ l.length ∧ x = .int .i64 j ∧ Hid (RcL w1 wr (rcAll l j) v)) (fun _ x _ => l.length - (intOf x).toNat)
  case atStart => exact ⟨0, Nat.zero_le _, rfl, rcl_nil _⟩
  case round =>
    obtain ⟨j, hj, rfl, hr⟩ := hrel
    by_cases hlt : j < l.length
    · have hj2 : (j : Int) < l.length := by omega
      obtain ⟨c0, c1, c2, c3, c4⟩ := ev_range (range_keep hr.out.b (range_keep B1.out (HCE.out j hlt)))
      have HRJ := hide' (fun i (hi : i < l.length) => HRC.out i j hi hlt)
      have HEJ := HEA.out j hlt
      have HYJ := hide' (fun i h => HYES.out i j h)
      rw [HEJ] at HYJ
      generalize l[j] = x at c0 c1 c2 c3 c4 HRJ HYJ
      clear HEJ
      obtain ⟨s0, s1, s2, s3, s4⟩ := x
      simp only at c0 c1 c2 c3 c4 HYJ
      have E0 := hide' (evbox_new wr s0 s1 s2 s3 s4)
      have U0 := hide' ((Below.refl wr.heap.size wr).up (.cells #[.int .i64 s0, .int .i64 s1, .int .i64 s2, .int .i64 s3, .int .i64 s4] 56))
      have R0 := hide' (hr.out.keep U0.out)
      have F0 := hide' hr.out.off
      go_wp2_with fail
      generalize hW : wr.alloc (.cells #[.int .i64 s0, .int .i64 s1, .int .i64 s2, .int .i64 s3, .int .i64 s4] 56) = wb at *
      generalize wr.heap.size = N at *
      clear hW U0 c0 c1 c2 c3 c4 hr
      have R1 := hide' (show RcL w1 wb (rcAll l j ++ rcTo l j 0) _ by unfold rcTo; rw [List.append_nil]; exact R0.out)
      clear R0
      go_loopw [4, 22] (fun v x wr => ∃ i : Nat, i ≤ j ∧ x = .int .i64 i ∧ Hid (RcL w1 wr (rcAll l j ++ rcTo l j i) v) ∧ Hid (EvBox wr N s0 s1 s2 s3 s4) ∧ Hid (OffN v N)) (fun _ x _ => j - (intOf x).toNat)
      case atStart => exact ⟨0, Nat.zero_le _, rfl, R1.out, E0.out, F0.out⟩
      case round =>
        clear R1 E0 F0
        obtain ⟨i, hi', rfl, hr, he, hoff⟩ := hrel
        by_cases hij : i < j
        · have hil : i < l.length := by omega
          have hij2 : (i : Int) < j := by omega
          have hil2 : (i : Int) < l.length := by omega
          have i0' : 0 ≤ (i : Int) := by omega
          have j0' : 0 ≤ (j : Int) := by omega
          obtain ⟨c0, c1, c2, c3, c4⟩ := ev_range (range_keep hr.out.b (range_keep B1.out (HCE.out i hil)))
          have HQ := HRJ.out i hil
          have HYI := hide' (HYJ.out i)
          have HNI := hide' (HNO.out i j)
          have HL := hide' (HLEN.out j i hj (by omega))
          obtain ⟨R, -, -, r3, r4⟩ := M1.out.r j hlt
          have k0 := keep_cell hr.out.b r3
          have k1 := keep_cell hr.out.b (r4 i hil)
          clear r3 r4
          generalize l[i] = y at c0 c1 c2 c3 c4 HQ
          obtain ⟨r0, r1, r2, r3, r4⟩ := y
          simp only at c0 c1 c2 c3 c4
          have E1 := hide' (evbox_new wr r0 r1 r2 r3 r4)
          have U1 := hide' ((Below.refl wr.heap.size wr).up (.cells #[.int .i64 r0, .int .i64 r1, .int .i64 r2, .int .i64 r3, .int .i64 r4] 56))
          have E2 := hide' (he.out.keep U1.out)
          have R1 := hide' (hr.out.keep U1.out)
          have K0 := hide' (keep_cell U1.out k0)
          have K1 := hide' (keep_cell U1.out k1)
          have HTA := hide' (fun w => HTC.out ⟨r0, r1, r2, r3, r4⟩ w)
          have HTB := hide' (fun w => HTC.out ⟨s0, s1, s2, s3, s4⟩ w)
          unfold mayB at HQ
          simp only at HQ
          unfold evV at HTA HTB
          simp only at HTA HTB
          generalize tchB ⟨r0, r1, r2, r3, r4⟩ = ta at *
          generalize tchB ⟨s0, s1, s2, s3, s4⟩ = tb at *
          generalize ahB l i j = ab at k1 K1 HQ
          obtain ⟨p0, p1, p2, p3, p4⟩ := E1.out
          obtain ⟨q0, q1, q2, q3, q4⟩ := E2.out
          generalize hrc : rcB l i j = rb at *
          have HQ2 := hide' HQ
          clear HQ hrc k0 k1
          go_upto_region 9 with fail
          generalize hW0 : wr.alloc (.cells #[.int .i64 r0, .int .i64 r1, .int .i64 r2, .int .i64 r3, .int .i64 r4] 56) = W0 at *
          have hN1 : Hid (wr.heap.size < W0.heap.size) := by rw [← hW0]; exact (by simp : wr.heap.size < (wr.alloc _).heap.size)
          generalize wr.heap.size = N1 at *
          clear hW0 hr he U1 c0 c1 c2 c3 c4
          go_cut [66] (fun t wx => t = .bool rb ∧ Hid (Below W0.heap.size W0 wx))
          case first =>
            clear HYI HNI HL R1 hoff
            cases ta
            · have e1 : rb = false := by rw [HQ2.out]; rfl
              subst e1
              clear HQ2
              go_wp2_with (go_at_call 43; refine (HTA.out _).mono ?_; rintro e w2 ⟨rfl, hb2⟩)
              go_meet
              exact ⟨rfl, hb2⟩
            cases tb
            · have e1 : rb = false := by rw [HQ2.out]; rfl
              subst e1
              clear HQ2
              go_wp2_with (first | (go_at_call 43; refine (HTA.out _).mono ?_; rintro e w2 ⟨rfl, hb2⟩; have X2 := hide' (E1.out.keep hb2); have Y2 := hide' (E2.out.keep hb2); have P2 := hide' (keep_cell hb2 K0.out); have Q2 := hide' (keep_cell hb2 K1.out); have U2 := hide' hb2; clear HTA hb2 p0 p1 p2 p3 p4 q0 q1 q2 q3 q4; obtain ⟨p0, p1, p2, p3, p4⟩ := X2.out; obtain ⟨q0, q1, q2, q3, q4⟩ := Y2.out) | (go_at_call 43; refine (HTB.out _).mono ?_; rintro e w3 ⟨rfl, hb3⟩; have X3 := X2.out.keep hb3; have Y3 := Y2.out.keep hb3; have P3 := keep_cell hb3 P2.out; have Q3 := keep_cell hb3 Q2.out; have U3 := hide' (U2.out.trans (hb3.mono U2.out.size)); clear HTB hb3 p0 p1 p2 p3 p4 q0 q1 q2 q3 q4; obtain ⟨p0, p1, p2, p3, p4⟩ := X3; obtain ⟨q0, q1, q2, q3, q4⟩ := Y3))
              go_meet
              exact ⟨rfl, U3.out⟩
            cases h1 : (r2 == s2)
            · have e1 : rb = false := by rw [HQ2.out, h1]; rfl
              subst e1
              clear HQ2
              go_wp2_with (first | (go_at_call 43; refine (HTA.out _).mono ?_; rintro e w2 ⟨rfl, hb2⟩; have X2 := hide' (E1.out.keep hb2); have Y2 := hide' (E2.out.keep hb2); have P2 := hide' (keep_cell hb2 K0.out); have Q2 := hide' (keep_cell hb2 K1.out); have U2 := hide' hb2; clear HTA hb2 p0 p1 p2 p3 p4 q0 q1 q2 q3 q4; obtain ⟨p0, p1, p2, p3, p4⟩ := X2.out; obtain ⟨q0, q1, q2, q3, q4⟩ := Y2.out) | (go_at_call 43; refine (HTB.out _).mono ?_; rintro e w3 ⟨rfl, hb3⟩; have X3 := X2.out.keep hb3; have Y3 := Y2.out.keep hb3; have P3 := keep_cell hb3 P2.out; have Q3 := keep_cell hb3 Q2.out; have U3 := hide' (U2.out.trans (hb3.mono U2.out.size)); clear HTB hb3 p0 p1 p2 p3 p4 q0 q1 q2 q3 q4; obtain ⟨p0, p1, p2, p3, p4⟩ := X3; obtain ⟨q0, q1, q2, q3, q4⟩ := Y3))
              go_meet
              exact ⟨rfl, U3.out⟩
            cases h2 : (r0 == s0)
            rotate_left
            · have n2 : (r0 != s0) = false := by unfold bne; rw [h2]; rfl
              have e1 : rb = false := by rw [HQ2.out, h1, h2]; rfl
              subst e1
              clear HQ2
              go_wp2_with (first | (go_at_call 43; refine (HTA.out _).mono ?_; rintro e w2 ⟨rfl, hb2⟩; have X2 := hide' (E1.out.keep hb2); have Y2 := hide' (E2.out.keep hb2); have P2 := hide' (keep_cell hb2 K0.out); have Q2 := hide' (keep_cell hb2 K1.out); have U2 := hide' hb2; clear HTA hb2 p0 p1 p2 p3 p4 q0 q1 q2 q3 q4; obtain ⟨p0, p1, p2, p3, p4⟩ := X2.out; obtain ⟨q0, q1, q2, q3, q4⟩ := Y2.out) | (go_at_call 43; refine (HTB.out _).mono ?_; rintro e w3 ⟨rfl, hb3⟩; have X3 := X2.out.keep hb3; have Y3 := Y2.out.keep hb3; have P3 := keep_cell hb3 P2.out; have Q3 := keep_cell hb3 Q2.out; have U3 := hide' (U2.out.trans (hb3.mono U2.out.size)); clear HTB hb3 p0 p1 p2 p3 p4 q0 q1 q2 q3 q4; obtain ⟨p0, p1, p2, p3, p4⟩ := X3; obtain ⟨q0, q1, q2, q3, q4⟩ := Y3))
              go_meet
              exact ⟨rfl, U3.out⟩
            have n2 : (r0 != s0) = true := by unfold bne; rw [h2]; rfl
            cases ab
            · cases h3 : (r1 == 3)
              · cases h4 : (s1 == 3)
                · have e1 : rb = false := by rw [HQ2.out, h1, h2, h3, h4]; rfl
                  subst e1
                  clear HQ2
                  go_wp2_with (first | (go_at_call 43; refine (HTA.out _).mono ?_; rintro e w2 ⟨rfl, hb2⟩; have X2 := hide' (E1.out.keep hb2); have Y2 := hide' (E2.out.keep hb2); have P2 := hide' (keep_cell hb2 K0.out); have Q2 := hide' (keep_cell hb2 K1.out); have U2 := hide' hb2; clear HTA hb2 p0 p1 p2 p3 p4 q0 q1 q2 q3 q4; obtain ⟨p0, p1, p2, p3, p4⟩ := X2.out; obtain ⟨q0, q1, q2, q3, q4⟩ := Y2.out) | (go_at_call 43; refine (HTB.out _).mono ?_; rintro e w3 ⟨rfl, hb3⟩; have X3 := X2.out.keep hb3; have Y3 := Y2.out.keep hb3; have P3 := keep_cell hb3 P2.out; have Q3 := keep_cell hb3 Q2.out; have U3 := hide' (U2.out.trans (hb3.mono U2.out.size)); clear HTB hb3 p0 p1 p2 p3 p4 q0 q1 q2 q3 q4; obtain ⟨p0, p1, p2, p3, p4⟩ := X3; obtain ⟨q0, q1, q2, q3, q4⟩ := Y3))
                  go_meet
                  exact ⟨rfl, U3.out⟩
                · have e1 : rb = true := by rw [HQ2.out, h1, h2, h3, h4]; rfl
                  subst e1
                  clear HQ2
                  go_wp2_with (first | (go_at_call 43; refine (HTA.out _).mono ?_; rintro e w2 ⟨rfl, hb2⟩; have X2 := hide' (E1.out.keep hb2); have Y2 := hide' (E2.out.keep hb2); have P2 := hide' (keep_cell hb2 K0.out); have Q2 := hide' (keep_cell hb2 K1.out); have U2 := hide' hb2; clear HTA hb2 p0 p1 p2 p3 p4 q0 q1 q2 q3 q4; obtain ⟨p0, p1, p2, p3, p4⟩ := X2.out; obtain ⟨q0, q1, q2, q3, q4⟩ := Y2.out) | (go_at_call 43; refine (HTB.out _).mono ?_; rintro e w3 ⟨rfl, hb3⟩; have X3 := X2.out.keep hb3; have Y3 := Y2.out.keep hb3; have P3 := keep_cell hb3 P2.out; have Q3 := keep_cell hb3 Q2.out; have U3 := hide' (U2.out.trans (hb3.mono U2.out.size)); clear HTB hb3 p0 p1 p2 p3 p4 q0 q1 q2 q3 q4; obtain ⟨p0, p1, p2, p3, p4⟩ := X3; obtain ⟨q0, q1, q2, q3, q4⟩ := Y3))
                  go_meet
                  exact ⟨rfl, U3.out⟩
              · have e1 : rb = true := by rw [HQ2.out, h1, h2, h3]; rfl
                subst e1
                clear HQ2
                go_wp2_with (first | (go_at_call 43; refine (HTA.out _).mono ?_; rintro e w2 ⟨rfl, hb2⟩; have X2 := hide' (E1.out.keep hb2); have Y2 := hide' (E2.out.keep hb2); have P2 := hide' (keep_cell hb2 K0.out); have Q2 := hide' (keep_cell hb2 K1.out); have U2 := hide' hb2; clear HTA hb2 p0 p1 p2 p3 p4 q0 q1 q2 q3 q4; obtain ⟨p0, p1, p2, p3, p4⟩ := X2.out; obtain ⟨q0, q1, q2, q3, q4⟩ := Y2.out) | (go_at_call 43; refine (HTB.out _).mono ?_; rintro e w3 ⟨rfl, hb3⟩; have X3 := X2.out.keep hb3; have Y3 := Y2.out.keep hb3; have P3 := keep_cell hb3 P2.out; have Q3 := keep_cell hb3 Q2.out; have U3 := hide' (U2.out.trans (hb3.mono U2.out.size)); clear HTB hb3 p0 p1 p2 p3 p4 q0 q1 q2 q3 q4; obtain ⟨p0, p1, p2, p3, p4⟩ := X3; obtain ⟨q0, q1, q2, q3, q4⟩ := Y3))
                go_meet
                exact ⟨rfl, U3.out⟩
            · cases h3 : (r1 == 3)
              · cases h4 : (s1 == 3)
                · have e1 : rb = false := by rw [HQ2.out, h1, h2, h3, h4]; rfl
                  subst e1
                  clear HQ2
                  go_wp2_with (first | (go_at_call 43; refine (HTA.out _).mono ?_; rintro e w2 ⟨rfl, hb2⟩; have X2 := hide' (E1.out.keep hb2); have Y2 := hide' (E2.out.keep hb2); have P2 := hide' (keep_cell hb2 K0.out); have Q2 := hide' (keep_cell hb2 K1.out); have U2 := hide' hb2; clear HTA hb2 p0 p1 p2 p3 p4 q0 q1 q2 q3 q4; obtain ⟨p0, p1, p2, p3, p4⟩ := X2.out; obtain ⟨q0, q1, q2, q3, q4⟩ := Y2.out) | (go_at_call 43; refine (HTB.out _).mono ?_; rintro e w3 ⟨rfl, hb3⟩; have X3 := X2.out.keep hb3; have Y3 := Y2.out.keep hb3; have P3 := keep_cell hb3 P2.out; have Q3 := keep_cell hb3 Q2.out; have U3 := hide' (U2.out.trans (hb3.mono U2.out.size)); clear HTB hb3 p0 p1 p2 p3 p4 q0 q1 q2 q3 q4; obtain ⟨p0, p1, p2, p3, p4⟩ := X3; obtain ⟨q0, q1, q2, q3, q4⟩ := Y3))
                  go_meet
                  exact ⟨rfl, U3.out⟩
                · have e1 : rb = false := by rw [HQ2.out, h1, h2, h3, h4]; rfl
                  subst e1
                  clear HQ2
                  go_wp2_with (first | (go_at_call 43; refine (HTA.out _).mono ?_; rintro e w2 ⟨rfl, hb2⟩; have X2 := hide' (E1.out.keep hb2); have Y2 := hide' (E2.out.keep hb2); have P2 := hide' (keep_cell hb2 K0.out); have Q2 := hide' (keep_cell hb2 K1.out); have U2 := hide' hb2; clear HTA hb2 p0 p1 p2 p3 p4 q0 q1 q2 q3 q4; obtain ⟨p0, p1, p2, p3, p4⟩ := X2.out; obtain ⟨q0, q1, q2, q3, q4⟩ := Y2.out) | (go_at_call 43; refine (HTB.out _).mono ?_; rintro e w3 ⟨rfl, hb3⟩; have X3 := X2.out.keep hb3; have Y3 := Y2.out.keep hb3; have P3 := keep_cell hb3 P2.out; have Q3 := keep_cell hb3 Q2.out; have U3 := hide' (U2.out.trans (hb3.mono U2.out.size)); clear HTB hb3 p0 p1 p2 p3 p4 q0 q1 q2 q3 q4; obtain ⟨p0, p1, p2, p3, p4⟩ := X3; obtain ⟨q0, q1, q2, q3, q4⟩ := Y3))
                  go_meet
                  exact ⟨rfl, U3.out⟩
              · have e1 : rb = false := by rw [HQ2.out, h1, h2, h3]; rfl
                subst e1
                clear HQ2
                go_wp2_with (first | (go_at_call 43; refine (HTA.out _).mono ?_; rintro e w2 ⟨rfl, hb2⟩; have X2 := hide' (E1.out.keep hb2); have Y2 := hide' (E2.out.keep hb2); have P2 := hide' (keep_cell hb2 K0.out); have Q2 := hide' (keep_cell hb2 K1.out); have U2 := hide' hb2; clear HTA hb2 p0 p1 p2 p3 p4 q0 q1 q2 q3 q4; obtain ⟨p0, p1, p2, p3, p4⟩ := X2.out; obtain ⟨q0, q1, q2, q3, q4⟩ := Y2.out) | (go_at_call 43; refine (HTB.out _).mono ?_; rintro e w3 ⟨rfl, hb3⟩; have X3 := X2.out.keep hb3; have Y3 := Y2.out.keep hb3; have P3 := keep_cell hb3 P2.out; have Q3 := keep_cell hb3 Q2.out; have U3 := hide' (U2.out.trans (hb3.mono U2.out.size)); clear HTB hb3 p0 p1 p2 p3 p4 q0 q1 q2 q3 q4; obtain ⟨p0, p1, p2, p3, p4⟩ := X3; obtain ⟨q0, q1, q2, q3, q4⟩ := Y3))
                go_meet
                exact ⟨rfl, U3.out⟩
          case rest =>
            obtain ⟨rfl, hbc⟩ := hcut
            have R4 := hide' (R1.out.keep hbc.out)
            have E4 := hide' (E2.out.keep hbc.out)
            clear HTA HTB R1 E1 E2 K0 K1 hbc HQ2 p0 p1 p2 p3 p4 q0 q1 q2 q3 q4
            obtain ⟨q0, q1, q2, q3, q4⟩ := E4.out
            cases rb
            · have HE := hide' (HNI.out rfl)
              clear HYI HNI
              go_wp2_with fail
              go_roundw
              case rel => exact ⟨i + 1, by omega, by go_num, by rw [HE.out]; exact R4.out, E4.out, hoff.out⟩
              case measure => simp [intOf]; omega
            · have HG := hide' (HYI.out rfl)
              clear HYI HNI
              generalize hls : rcAll l j ++ rcTo l j i = ls at *
              have hlen := HL.out
              have hsz := R4.out.b.size
              go_wp2_with (first
                | (at_builtin; refine wpList_append_own_at _ rfl _ _ 24 rfl w1.heap.size 35 i0 _ 3 24 Try.underlying24 hi hz0 hz1 hz2 rfl (by decide) _ _ _ rfl (R4.out.o.alloc _) ⟨wc.heap.size, 0, none⟩ 1 1 [.int .i64 s2, .int .i64 (i : Int), .int .i64 (j : Int)] rfl rfl (rc_news wc s2 (i : Int) (j : Int)) (rc_one _ _ _) (by unfold maxLen; omega) (by omega) (by simp; omega) ?_; intro v' w5 hown5 hg5 hnil5 hblk5; go_frame)
                | go_in)
              have R5 := hide' (R4.out.snoc s2 (i : Int) (j : Int) hown5 hg5)
              have E5 := hide' ((E4.out.keep ((Below.refl _ _).up (.cells #[.int .i64 s2, .int .i64 (i : Int), .int .i64 (j : Int)] 35))).rowO hg5 hoff.out)
              have F5 := hide' (hoff.out.next hblk5 (by have := E4.out.lt; simp; omega))
              go_roundw
              case rel => exact ⟨i + 1, by omega, by go_num, by rw [HG.out, ← List.append_assoc, hls]; exact R5.out, E5.out, F5.out⟩
              case measure => simp [intOf]; omega
        · have hije : i = j := by omega
          subst hije
          have HE := hide' (show RcL w1 wr (rcAll l (i + 1)) _ from by unfold rcAll; exact hr.out)
          go_wp2_with fail
          go_roundw
          case rel => exact ⟨i + 1, by omega, by go_num, HE.out⟩
          case measure => simp [intOf]; omega
    · have hje : j = l.length := by omega
      subst hje
      go_wp2_with fail
      go_ret
      exact ⟨_, _, rfl, B1.out, hr.out⟩
end Go.Proofs.Ytgfnejojjjlloaa
namespace Go.Proofs.Ytgfnejojjjlloaa
open Go.RowKit
open Rd Fl

theorem RcL.res {w w1 wr : World} {ls : List RcD} {v : Value} (h : RcL w1 wr ls v) (hb : Below w.heap.size w w1) (hn : ls.length ≤ 50000) : ResC ls wr w.heap.size wr.heap.size v := resc_less (resc_of h.o hn) hb.size
theorem RcL.bel {w w1 wr : World} {ls : List RcD} {v : Value} (h : RcL w1 wr ls v) (hb : Below w.heap.size w w1) : Below w.heap.size w wr := hb.trans (h.b.mono hb.size)
theorem racesN_yes {l : List EvD} (hg : goodTr l = true) : racesN l = rcAll l l.length := by unfold racesN; rw [if_pos hg]
theorem racesN_no {l : List EvD} (hg : goodTr l = false) : racesN l = [] := by unfold racesN; rw [if_neg (by rw [hg]; simp)]
theorem resc_nil (w : World) (lo hi : Nat) : ResC [] w lo hi (.slice none 0 0) := ⟨World.ownsRow_nil _ _ _ _, (fun k hk => by cases hk), by simp⟩

set_option maxRecDepth 20000 in
set_option maxHeartbeats 4000000 in
theorem iraces_any (A : Option Addr) (l : List EvD) (cap : Nat) (hcap : l.length ≤ cap) (hl : l.length ≤ 1048576) (w : World) (hA : EvsAt w A l) :
    Calls Try.prog 12 #[.slice A l.length cap] w fun e w' => (∃ v, e = .returned (.tuple #[v, .bool (goodTr l)]) ∧ ResC (racesN l) w' w.heap.size w'.heap.size v) ∧ Below w.heap.size w w' := by
  cases hg : goodTr l
  · rw [racesN_no hg]
    have HC := hide' (iclocks_any A l cap hcap hl w hA)
    rw [hg] at HC
    clear hg hA
    go_enter Try.func12, Try.ntmps12
    go_wp2_with (go_at_call 38; refine HC.out.mono ?_; rintro e w1 ⟨⟨v, rfl, hr⟩, hb1⟩; obtain ⟨A1, cap1, rfl, -⟩ := resq_ll hr)
    go_ret2
    exact ⟨⟨_, rfl, resc_nil _ _ _⟩, hb1⟩
  · rw [racesN_yes hg]
    by_cases hne : l = []
    · subst hne
      have HC := hide' (iclocks_any A [] cap hcap hl w hA)
      rw [show goodTr [] = true from hg] at HC
      clear hg hA
      go_enter Try.func12, Try.ntmps12
      go_wp2_with (go_at_call 38; refine HC.out.mono ?_; rintro e w1 ⟨⟨v, rfl, hr⟩, hb1⟩; obtain ⟨A1, cap1, rfl, -⟩ := resq_ll hr)
      go_loopw [6, 22] (fun v x wr => v = .slice none 0 0 ∧ x = .int .i64 0 ∧ wr = w1) (fun _ _ _ => 0)
      case atStart => exact ⟨rfl, rfl, rfl⟩
      case round =>
        obtain ⟨rfl, rfl, rfl⟩ := hrel
        go_wp2_with fail
        go_ret2
        exact ⟨⟨_, rfl, resc_nil _ _ _⟩, hb1⟩
    · have h200 := good_len hg
      have hn := racesN_len l
      rw [racesN_yes hg] at hn
      refine (iraces_yes A l cap hcap hg hne w hA).mono ?_
      rintro e w' ⟨v, w1, rfl, hb, hr⟩
      exact ⟨⟨_, rfl, hr.res hb (by omega)⟩, hr.bel hb⟩

set_option maxRecDepth 20000 in
set_option maxHeartbeats 4000000 in
theorem l7races_any (A : Option Addr) (l : List EvD) (cap : Nat) (hcap : l.length ≤ cap) (hg : goodTr l = true) (w : World) (hA : EvsAt w A l) :
    Calls Try.prog 36 #[.slice A l.length cap] w fun e w' => (∃ v, e = .returned v ∧ ResC (rcAll l l.length) w' w.heap.size w'.heap.size v) ∧ Below w.heap.size w w' := by
  by_cases hne : l = []
  · subst hne
    have HM := hide' (fun w => l6ahead_nil A cap w)
    clear hg hA
    go_enter Try.func36, Try.ntmps36
    go_wp2_with (go_at_call 60; refine (HM.out _).mono ?_; rintro e w1 ⟨g, rfl, hb1⟩)
    go_loopw [4, 13] (fun v x wr => v = .slice none 0 0 ∧ x = .int .i64 0 ∧ wr = w1) (fun _ _ _ => 0)
    case atStart => exact ⟨rfl, rfl, rfl⟩
    case round =>
      obtain ⟨rfl, rfl, rfl⟩ := hrel
      go_wp2_with fail
      go_ret
      exact ⟨⟨_, rfl, resc_nil _ _ _⟩, hb1⟩
  · have h200 := good_len hg
    have hn := racesN_len l
    rw [racesN_yes hg] at hn
    refine (l7races_yes A l cap hcap hg hne w hA).mono ?_
    rintro e w' ⟨v, w1, rfl, hb, hr⟩
    exact ⟨⟨_, rfl, hr.res hb (by omega)⟩, hr.bel hb⟩

set_option maxRecDepth 20000 in
set_option maxHeartbeats 4000000 in
theorem sraces_any (A : Option Addr) (l : List EvD) (cap : Nat) (hcap : l.length ≤ cap) (hl : l.length ≤ 1048576) (w : World) (hA : EvsAt w A l) :
    Calls Try.prog 10 #[.slice A l.length cap] w fun e w' => (∃ v, e = .returned (.tuple #[v, .bool (goodTr l)]) ∧ ResC (racesN l) w' w.heap.size w'.heap.size v) ∧ Below w.heap.size w w' := by
  have HG := hide' (l6trace_any A l cap hl w hA)
  cases hg : goodTr l
  · rw [racesN_no hg]
    rw [hg] at HG
    clear hg hA
    go_enter Try.func10, Try.ntmps10
    go_wp2_with (go_at_call 35; refine HG.out.mono ?_; rintro e w1 ⟨rfl, hb1⟩)
    go_ret2
    exact ⟨⟨_, rfl, resc_nil _ _ _⟩, hb1⟩
  · rw [racesN_yes hg]
    have HR := hide' (fun w hA => l7races_any A l cap hcap hg w hA)
    have HA := hide' hA
    rw [hg] at HG
    clear hg hA
    go_enter Try.func10, Try.ntmps10
    go_wp2_with (first
      | (go_at_call 35; refine HG.out.mono ?_; rintro e w1 ⟨rfl, hb1⟩)
      | (go_at_call 36; refine (HR.out _ (HA.out.keep hb1)).mono ?_; rintro e w2 ⟨⟨v, rfl, hr⟩, hb2⟩))
    go_ret2
    exact ⟨⟨_, rfl, resc_less hr hb1.size⟩, hb1.trans (hb2.mono hb1.size)⟩
end Go.Proofs.Ytgfnejojjjlloaa
