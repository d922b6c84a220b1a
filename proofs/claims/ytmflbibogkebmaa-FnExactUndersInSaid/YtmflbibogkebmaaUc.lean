/- spec.l8Before: the locks had ahead of a place. -/
import Derived.Test.YtmflbibogkebmaaUb
import Derived.Test.YtmflbibogkebmaaVs
import Derived.Deep.QuietTactic
import Derived.BigQuiet
namespace Go.Proofs.Ytmflbibogkebmaa
open Go.RowKit Go.Maps
open Rd Fl

set_option maxRecDepth 20000 in
set_option maxHeartbeats 4000000 in
theorem l8before_any (A : Option Addr) (l : List EvD) (cap : Nat) (hcap : l.length ≤ cap) (hg : goodTr l = true) (i : Nat) (hi : i < l.length) (ht : 0 ≤ tkE (evA l i)) (w : World) (hA : EvsAt w A l) :
    Calls Try.prog 72 #[.slice A l.length cap, .int .i64 (i : Int)] w fun e w' => ∃ v, e = .returned v ∧ Rsp w v (befN l i) w' := by
  have h200 := good_len hg
  have hn' : (l.length : Int) ≤ 200 := by omega
  have hi2 : (i : Int) < l.length := by omega
  have HH := hide' (l7held_any A l cap hcap hg i hi w hA)
  have HBN := hide' (heldN_short2 hg hi)
  obtain ⟨b, off, hA1, hc⟩ := hA
  have hA2 := hA1 (by intro h; rw [h] at hi; simp at hi)
  subst hA2
  have HC := hide' (fun k (hk : k < l.length) => hc k l[k] (List.getElem?_eq_getElem hk))
  have HG := hide' hg
  obtain ⟨c0, c1, c2, c3, c4⟩ := ev_range (hc i l[i] (List.getElem?_eq_getElem hi))
  have HTH := hide' (show (evA l i).th = l[i].th by rw [evA_get hi])
  have HTI := hide' (show 0 ≤ tkE l[i] by rwa [evA_get hi] at ht)
  have HHAS := hide' (fun (h : tkE l[i] ∈ heldTo l l[i].th i) => show heldN l i = befN l i from bef_has ht (by rwa [evA_get hi]))
  have HNOT := hide' (fun (h : tkE l[i] ∉ heldTo l l[i].th i) => show dropL (heldN l i) (tkE l[i]) = befN l i from by have := bef_not ht (by rwa [evA_get hi]); rwa [evA_get hi] at this)
  have HTK := hide' (fun w => l6takes_any l[i].th l[i].kd l[i].ob l[i].lk l[i].pc w)
  have hT3 : tk (-3) l[i].kd l[i].ob l[i].lk = tkE l[i] := rfl
  rw [hT3] at HTK
  generalize hk0 : tkE l[i] = K at *
  have hK := HTI.out
  generalize heldN l i = LN at *
  generalize hth : l[i].th = th at c0 HTH HHAS HNOT HTK
  generalize l[i].kd = r1 at c1 HTK
  generalize l[i].ob = r2 at c2 HTK
  generalize l[i].lk = r3 at c3 HTK
  generalize l[i].pc = r4 at c4 HTK
  have HI := hide' c0
  clear hc hA1 hg hth ht hT3 hk0
  go_enter Try.func72, Try.ntmps72
  go_wp2_with (first
    | (go_at_call 36; refine HH.out.mono ?_; rintro e w1 ⟨v1, rfl, hr1⟩; have R1 := hide' hr1; have c0 := keep_cell hr1.b c0; have c1 := keep_cell hr1.b c1; have c2 := keep_cell hr1.b c2; have c3 := keep_cell hr1.b c3; have c4 := keep_cell hr1.b c4)
    | (go_at_call 57; refine (HTK.out _).mono ?_; rintro e w2 ⟨rfl, hb2⟩; have R2 := hide' (R1.out.keep hb2)))
  have HGV := hide' (fun r0 r1 r2 r3 r4 w => l6gives_any r0 r1 r2 r3 r4 w)
  have HTK2 := hide' (fun r0 r1 r2 r3 r4 w => l6takes_any r0 r1 r2 r3 r4 w)
  clear hb2 hr1 HTK c0 c1 c2 c3 c4 HH
  go_loopw [7, 8] (fun x j wr => ∃ n : Nat, n ≤ i ∧ j = .int .i64 n ∧ x = .bool (decide (K ∈ heldTo l th n)) ∧ Hid (Rsp w v1 LN wr)) (fun _ j _ => i - (intOf j).toNat)
  case atStart => exact ⟨0, Nat.zero_le _, rfl, by simp [heldTo], R2.out⟩
  case round =>
    obtain ⟨n, hn, rfl, rfl, hr⟩ := hrel
    by_cases hlt : n < i
    · have hni : (n : Int) < i := by omega
      have hnl : (n : Int) < l.length := by omega
      have hnl2 : n < l.length := by omega
      obtain ⟨c0, c1, c2, c3, c4⟩ := ev_range (range_keep hr.out.b (HC.out n hnl2))
      have HI2 := keep_cell hr.out.b HI.out
      have HNO := hide' (fun h => was_no (t := l) (th := th) (k := K) (j := n) h)
      have HYES := hide' (fun h => was_yes (t := l) (th := th) (k := K) (j := n) h hK)
      rw [evA_get hnl2] at HNO HYES
      generalize l[n] = x at c0 c1 c2 c3 c4 HNO HYES
      obtain ⟨r0, r1, r2, r3, r4⟩ := x
      simp only at c0 c1 c2 c3 c4 HNO HYES
      have HT := hide' (HTK2.out r0 r1 r2 r3 r4)
      have HV := hide' (HGV.out r0 r1 r2 r3 r4)
      rw [show tk (-3) r1 r2 r3 = tkE ⟨r0, r1, r2, r3, r4⟩ from rfl] at HT
      rw [show gv (-2) r1 r2 r3 = gvE ⟨r0, r1, r2, r3, r4⟩ from rfl] at HV
      generalize tkE ⟨r0, r1, r2, r3, r4⟩ = tx at *
      generalize gvE ⟨r0, r1, r2, r3, r4⟩ = gx at *
      generalize decide (K ∈ heldTo l th n) = was at *
      cases hb : (r0 == th)
      · have HE := hide' (HNO.out (by simpa using hb))
        clear HNO HYES HT HV
        go_wp2_with fail
        go_quiet (fail)
        go_wp2_with fail
        go_roundw
        case rel => exact ⟨n + 1, by omega, by go_num, by rw [HE.out], hr.out.keep (below_draws (Below.refl _ _) _)⟩
        case measure => simp [intOf]; omega
      · have HE := hide' (HYES.out (by simpa using hb))
        clear HNO HYES
        go_wp2_with fail
        go_quiet (fail)
        have D1 := hide' (below_draws (Below.refl wr.heap.size wr) nq)
        have R1 := hide' (hr.out.keep D1.out)
        have c0 := keep_cell D1.out c0
        have c1 := keep_cell D1.out c1
        have c2 := keep_cell D1.out c2
        have c3 := keep_cell D1.out c3
        have c4 := keep_cell D1.out c4
        generalize wr.drewN nq = W1 at *
        clear D1 hr
        cases ht : (tx == K) <;> cases hg2 : (gx == K)
        all_goals
          have HE2 := hide' (HE.out)
          simp only [beq_iff_eq, beq_eq_false_iff_ne] at ht hg2
          have ht' := hide' ht
          have hg' := hide' hg2
          go_wp2_with (first
            | (go_at_call 57; refine (HT.out _).mono ?_; rintro e w2 ⟨rfl, hb2⟩; have R2 := hide' (R1.out.keep hb2); have c0 := keep_cell hb2 c0; have c1 := keep_cell hb2 c1; have c2 := keep_cell hb2 c2; have c3 := keep_cell hb2 c3; have c4 := keep_cell hb2 c4)
            | (go_at_call 67; refine (HV.out _).mono ?_; rintro e w3 ⟨rfl, hb3⟩; have R3 := hide' (R2.out.keep hb3)))
          go_roundw
          case rel => exact ⟨n + 1, by omega, by go_num, by rw [HE2.out]; first | rw [if_pos hg'.out] | rw [if_neg hg'.out, if_pos ht'.out] | rw [if_neg hg'.out, if_neg ht'.out], R3.out⟩
          case measure => simp [intOf]; omega
    · have hke : n = i := by omega
      subst hke
      cases hw : decide (K ∈ heldTo l th n)
      · have HD := hide' (HNOT.out (of_decide_eq_false hw))
        obtain ⟨A, c, e, hA⟩ := hr.out.open HBN.out
        subst e
        have HDR := hide' (l7drop_any A LN c K HBN.out wr hA)
        go_wp2_with (go_at_call 58; refine HDR.out.mono ?_; rintro e w4 ⟨v4, rfl, hr4⟩; have R4 := hide' (hr.out.on hr4))
        go_ret
        exact ⟨_, rfl, by rw [← HD.out]; exact R4.out⟩
      · have HD := hide' (HHAS.out (of_decide_eq_true hw))
        go_wp2_with fail
        go_ret
        exact ⟨_, rfl, by rw [← HD.out]; exact hr.out⟩
end Go.Proofs.Ytmflbibogkebmaa
