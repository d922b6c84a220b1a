/- impl.RacesIn. -/
import Derived.Test.YtgfnejojjjlloaaVmx
import Derived.Test.YtgfnejojjjlloaaQw
import Derived.Test.YtgfnejojjjlloaaVs
import Derived.Deep.DeepCutAuto
namespace Go.Proofs.Ytgfnejojjjlloaa
open Go.RowKit
open Rd Fl

theorem EvBox.rowO {w w' : World} {N : Nat} {a0 a1 a2 a3 a4 : Int} (h : EvBox w N a0 a1 a2 a3 a4) {row : Option Nat} (hg : w.grownBy w' row) (hne : ∀ k, row = some k → k ≠ N) : EvBox w' N a0 a1 a2 a3 a4 := by
  have e := hg.block N h.lt (fun e => hne N e.symm rfl)
  have k : ∀ o, w'.cell? ⟨N, o, none⟩ = w.cell? ⟨N, o, none⟩ := fun o => by unfold World.cell?; simp only; rw [e]
  obtain ⟨h0, h1, h2, h3, h4⟩ := h
  exact ⟨(k 0).trans h0, (k 1).trans h1, (k 2).trans h2, (k 3).trans h3, (k 4).trans h4⟩
/-- v's own block is not N. -/
def OffN (v : Value) (N : Nat) : Prop := ∀ k, v.ownBlock = some k → k ≠ N
theorem OffN.next {v v' : Value} {N M : Nat} (h : OffN v N) (hb : v'.ownBlock = v.ownBlock ∨ v'.ownBlock = some M) (hN : N < M) : OffN v' N := by
  intro k hk
  rcases hb with e | e
  · rw [e] at hk; exact h k hk
  · rw [e] at hk; have := Option.some.inj hk; omega
theorem RcL.off {w wr : World} {ls : List RcD} {v : Value} (h : RcL w wr ls v) : OffN v wr.heap.size := fun k hk => by have := (h.o.lt k hk).2; omega

set_option maxRecDepth 20000 in
set_option maxHeartbeats 8000000 in
theorem iraces_yes (A : Option Addr) (l : List EvD) (cap : Nat) (hcap : l.length ≤ cap) (hg : goodTr l = true) (hne : l ≠ []) (w : World) (hA : EvsAt w A l) :
    Calls Try.prog 12 #[.slice A l.length cap] w fun e w' => ∃ v w1, e = .returned (.tuple #[v, .bool true]) ∧ Below w.heap.size w w1 ∧ RcL w1 w' (rcAll l l.length) v := by
  obtain ⟨i0, hi, hz0, hz1, hz2⟩ := raceInfo
  have h200 := good_len hg
  have hn' : (l.length : Int) ≤ 200 := by omega
  have hpos : 0 < l.length := List.length_pos_iff.2 hne
  have HC := hide' (iclocks_any A l cap hcap (by omega) w hA)
  unfold clocksN at HC
  rw [hg, if_pos rfl] at HC
  have HMAY := hide' (fun i j (hi : i < l.length) (hj : j < l.length) w => mayrace_any l[i] l[j] (good_ev hg hi) (good_ev hg hj) w)
  have HLESS := hide' (fun i j (hij : i < j) (hj : j < l.length) A B ca cb w hA hB => by
    have h := icless_any A B (clock l i) (clock l j) ca cb (by rw [clock_len]; omega) (by rw [clock_len]; omega) w hA hB
    rw [show lessT (clock l i) (clock l j) = (ahB l i j, true) by unfold lessT; rw [if_pos (by rw [clock_len, clock_len]), less_ah hg hij hj]] at h
    exact h)
  have HYES := hide' (fun i j (h : rcB l i j = true) => rcTo_yes h)
  have HNO := hide' (fun i j (h : rcB l i j = false) => rcTo_no h)
  have HRC := hide' (fun i j (hi : i < l.length) (hj : j < l.length) => show rcB l i j = (mayB l[i] l[j] && !ahB l i j) by unfold rcB; rw [evA_get hi, evA_get hj])
  have HEA := hide' (fun i (hi : i < l.length) => evA_get (l := l) hi)
  have HLEN := hide' (fun j i (hj : j ≤ l.length) (hi : i ≤ l.length) => rcAll_len2 (l := l) (j := j) (i := i) (by omega) (by omega))
  obtain ⟨b, off, hA1, hc⟩ := hA
  have hA2 := hA1 hne
  subst hA2
  have HCE := hide' (fun i (hi : i < l.length) => hc i l[i] (List.getElem?_eq_getElem hi))
  clear hc hA1 hne hg
  go_enter Try.func12, Try.ntmps12
  go_wp2_with (go_at_call 38; refine HC.out.mono ?_; rintro e w1 ⟨⟨v, rfl, hr⟩, hb1⟩; obtain ⟨A1, g, cap1, M, O, C, hv, c2, c3, -⟩ := hr.c; rw [clksTo_len] at hv; subst hv)
  have B1 := hide' hb1
  have CK := hide' (fun i (hi : i < l.length) => by
    have h := c3 i (by rw [clksTo_len]; exact hi)
    simp only [clksTo_get] at h
    exact (show w1.cell? ⟨g, i, none⟩ = some (.slice (some ⟨M i, O i, none⟩) (clock l i).length (C i)) ∧ LAt iv w1 (some ⟨M i, O i, none⟩) (clock l i) from ⟨h.1, M i, O i, fun _ => rfl, h.2.2.2.2.2⟩))
  have hAG : A1 = some ⟨g, 0, none⟩ := (c2 (by rw [clksTo_len]; omega)).1
  subst hAG
  clear c2 c3 hr hb1 HC
  go_loopw [6, 22] (fun v x wr => ∃ j : Nat, j ≤ l.length ∧ x = .int .i64 j ∧ Hid (RcL w1 wr (rcAll l j) v)) (fun _ x _ => l.length - (intOf x).toNat)
  case atStart => exact ⟨0, Nat.zero_le _, rfl, rcl_nil _⟩
  case round =>
    obtain ⟨j, hj, rfl, hr⟩ := hrel
    by_cases hlt : j < l.length
    · have hj2 : (j : Int) < l.length := by omega
      obtain ⟨c0, c1, c2, c3, c4⟩ := ev_range (range_keep hr.out.b (range_keep B1.out (HCE.out j hlt)))
      have HMJ := hide' (fun i (hi : i < l.length) w => HMAY.out i j hi hlt w)
      have HRJ := hide' (fun i (hi : i < l.length) => HRC.out i j hi hlt)
      have HEJ := HEA.out j hlt
      have HYJ := hide' (fun i h => HYES.out i j h)
      rw [HEJ] at HYJ
      generalize l[j] = x at c0 c1 c2 c3 c4 HMJ HRJ HYJ
      clear HEJ
      obtain ⟨s0, s1, s2, s3, s4⟩ := x
      simp only at c0 c1 c2 c3 c4 HYJ
      unfold evV at HMJ
      simp only at HMJ
      have E0 := hide' (evbox_new wr s0 s1 s2 s3 s4)
      have U0 := hide' ((Below.refl wr.heap.size wr).up (.cells #[.int .i64 s0, .int .i64 s1, .int .i64 s2, .int .i64 s3, .int .i64 s4] 56))
      have R0 := hide' (hr.out.keep U0.out)
      have F0 := hide' hr.out.off
      go_wp2_with fail
      generalize hW : wr.alloc (.cells #[.int .i64 s0, .int .i64 s1, .int .i64 s2, .int .i64 s3, .int .i64 s4] 56) = wb at *
      generalize wr.heap.size = N at *
      clear hW U0 c0 c1 c2 c3 c4 hr
      have R1 := hide' (show RcL w1 wb (rcAll l j ++ rcTo l j 0) _ by unfold rcTo; rw [List.append_nil]; exact R0.out)
      clear R0
      go_loopw [6, 31] (fun v x wr => ∃ i : Nat, i ≤ j ∧ x = .int .i64 i ∧ Hid (RcL w1 wr (rcAll l j ++ rcTo l j i) v) ∧ Hid (EvBox wr N s0 s1 s2 s3 s4) ∧ Hid (OffN v N)) (fun _ x _ => j - (intOf x).toNat)
      case atStart => exact ⟨0, Nat.zero_le _, rfl, R1.out, E0.out, F0.out⟩
      case round =>
        clear R1 E0 F0
        obtain ⟨i, hi', rfl, hr, he, hoff⟩ := hrel
        by_cases hij : i < j
        · have hil : i < l.length := by omega
          have hij2 : (i : Int) < j := by omega
          have hil2 : (i : Int) < l.length := by omega
          obtain ⟨c0, c1, c2, c3, c4⟩ := ev_range (range_keep hr.out.b (range_keep B1.out (HCE.out i hil)))
          have HM := hide' (fun w => HMJ.out i hil w)
          have HQ := HRJ.out i hil
          have HYI := hide' (HYJ.out i)
          have HNI := hide' (HNO.out i j)
          have HL := hide' (HLEN.out j i hj (by omega))
          obtain ⟨k0, k1⟩ := CK.out i hil
          obtain ⟨m0, m1⟩ := CK.out j hlt
          have HLS := hide' (HLESS.out i j hij hlt)
          generalize l[i] = y at c0 c1 c2 c3 c4 HM HQ
          obtain ⟨r0, r1, r2, r3, r4⟩ := y
          simp only at c0 c1 c2 c3 c4
          simp only at HM
          have E1 := hide' (evbox_new wr r0 r1 r2 r3 r4)
          have U1 := hide' ((Below.refl wr.heap.size wr).up (.cells #[.int .i64 r0, .int .i64 r1, .int .i64 r2, .int .i64 r3, .int .i64 r4] 56))
          have E2 := hide' (he.out.keep U1.out)
          have R1 := hide' (hr.out.keep U1.out)
          have K1 := hide' (keep_cell R1.out.b k0)
          have L1 := hide' (k1.keep R1.out.b)
          have K2 := hide' (keep_cell R1.out.b m0)
          have L2 := hide' (m1.keep R1.out.b)
          obtain ⟨p0, p1, p2, p3, p4⟩ := E1.out
          obtain ⟨q0, q1, q2, q3, q4⟩ := E2.out
          clear k0 k1 m0 m1
          generalize mayB ⟨r0, r1, r2, r3, r4⟩ ⟨s0, s1, s2, s3, s4⟩ = mb at HM HQ
          generalize ahB l i j = ab at HLS HQ
          cases mb
          · have HE := hide' (HNI.out (by rw [HQ]; rfl))
            clear HYI HNI HL HLS E1 R1 K1 K2 L1 L2 he
            go_wp2_with (go_at_call 39; refine (HM.out _).mono ?_; rintro e w3 ⟨rfl, hb3⟩)
            go_roundw
            case rel => exact ⟨i + 1, by omega, by go_num, by rw [HE.out]; exact (hr.out.keep U1.out).keep hb3, E2.out.keep hb3, hoff.out⟩
            case measure => simp [intOf]; omega
          · have HE := hide' (fun (h : ab = true) => HNI.out (by rw [HQ, h]; rfl))
            have HF := hide' (fun (h : ab = false) => HYI.out (by rw [HQ, h]; rfl))
            clear HYI HNI HQ
            generalize clock l i = ki at *
            generalize clock l j = kj at *
            generalize M i = Mi at *
            generalize M j = Mj at *
            generalize O i = Oi at *
            generalize O j = Oj at *
            generalize C i = Ci at *
            generalize C j = Cj at *
            go_wp2_with (go_at_call 39; refine (HM.out _).mono ?_; rintro e w3 ⟨rfl, hb3⟩)
            have R3 := hide' (R1.out.keep hb3)
            have E3 := hide' (E2.out.keep hb3)
            have L3 := hide' (L1.out.keep hb3)
            have L4 := hide' (L2.out.keep hb3)
            have K3 := keep_cell hb3 K1.out
            have K4 := keep_cell hb3 K2.out
            clear hb3 R1 E1 E2 L1 L2 K1 K2 p0 p1 p2 p3 p4 q0 q1 q2 q3 q4 he hr U1 c0 c1 c2 c3 c4 HM
            go_cut [11, 12] (fun t u wx => t = .bool ab ∧ u = .bool true ∧ Hid (Below w3.heap.size w3 wx))
            case first =>
              first | go_region_with (go_at_call 40; refine (HLS.out _ _ _ _ _ (L3.out.keep (Below.refl _ w3).drew) (L4.out.keep (Below.refl _ w3).drew)).mono ?_; rintro e w4 ⟨rfl, hb4⟩) | fail
              all_goals
                go_wp2_with fail
                go_meet
                exact ⟨rfl, rfl, first_below (Below.refl _ _) hb4⟩
            case rest =>
              obtain ⟨rfl, rfl, hbc⟩ := hcut
              have R4 := hide' (R3.out.keep hbc.out)
              have E4 := hide' (E3.out.keep hbc.out)
              obtain ⟨q0, q1, q2, q3, q4⟩ := E4.out
              clear R3 E3 L3 L4 K3 K4 hbc HLS
              cases ab
              · have HG := hide' (HF.out rfl)
                clear HE HF
                generalize hls : rcAll l j ++ rcTo l j i = ls at *
                have hlen := HL.out
                have hsz := R4.out.b.size
                go_wp2_with (first
                  | (at_builtin; refine wpList_append_own_at _ rfl _ _ 24 rfl w1.heap.size 35 i0 _ 3 24 Try.underlying24 hi hz0 hz1 hz2 rfl (by decide) _ _ _ rfl (R4.out.o.alloc _) ⟨wc.heap.size, 0, none⟩ 1 1 [.int .i64 s2, .int .i64 (i : Int), .int .i64 (j : Int)] rfl rfl (rc_news wc s2 (i : Int) (j : Int)) (rc_one _ _ _) (by unfold maxLen; omega) (by omega) (by simp; omega) ?_; intro v' w5 hown5 hg5 hnil5 hblk5; go_frame)
                  | go_in)
                have R5 := hide' (R4.out.snoc s2 (i : Int) (j : Int) hown5 hg5)
                have E5 := hide' ((E4.out.keep ((Below.refl _ _).up (.cells #[.int .i64 s2, .int .i64 (i : Int), .int .i64 (j : Int)] 35))).rowO hg5 hoff.out)
                have F5 := hide' (hoff.out.next hblk5 (by have := E4.out.lt; simp; omega))
                go_roundw
                case rel => exact ⟨i + 1, by omega, by go_num, by rw [HG.out, ← List.append_assoc, hls]; exact R5.out, E5.out, F5.out⟩
                case measure => simp [intOf]; omega
              · have HG := hide' (HE.out rfl)
                clear HE HF
                go_wp2_with fail
                go_roundw
                case rel => exact ⟨i + 1, by omega, by go_num, by rw [HG.out]; exact R4.out, E4.out, hoff.out⟩
                case measure => simp [intOf]; omega
        · have hije : i = j := by omega
          subst hije
          have HE := hide' (show RcL w1 wr (rcAll l (i + 1)) _ from by unfold rcAll; exact hr.out)
          go_wp2_with fail
          go_roundw
          case rel => exact ⟨i + 1, by omega, by go_num, HE.out⟩
          case measure => simp [intOf]; omega
    · have hje : j = l.length := by omega
      subst hje
      go_wp2_with fail
      go_ret2
      exact ⟨_, _, rfl, B1.out, hr.out⟩
end Go.Proofs.Ytgfnejojjjlloaa
