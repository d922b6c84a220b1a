/- impl.FastRace. impl.FastRace at any trace. -/
import Derived.Test.YtclnnboaehpolaaVxd
import Derived.Deep.DeepCutAuto
namespace Go.Proofs.Ytclnnboaehpolaa
open Go.RowKit Go.Maps
open Rd Fl

theorem fastB_eq (t : List EvD) (k : Nat) (x : EvD) (h : evA t k = x) : fastB t k = (decide ((stTo t k x.ob).2 > ckI t k (stTo t k x.ob).1) || (!(x.kd == 2) && (decide (ldTo t k x.ob 0 > ckI t k 0) || (decide (ldTo t k x.ob 1 > ckI t k 1) || (decide (ldTo t k x.ob 2 > ckI t k 2) || (decide (ldTo t k x.ob 3 > ckI t k 3) || decide (ldTo t k x.ob 4 > ckI t k 4))))))) := by subst h; rfl

set_option maxRecDepth 20000 in
set_option maxHeartbeats 8000000 in
theorem ifast_yes (A : Option Addr) (l : List EvD) (cap : Nat) (hcap : l.length ≤ cap) (hg : goodTr l = true) (hne : l ≠ []) (w : World) (hA : EvsAt w A l) :
    Calls Try.prog 7 #[.slice A l.length cap] w fun e w' => e = .returned (.tuple #[.int .i64 (fastN l).1, .int .i64 (fastN l).2.1, .bool (fastN l).2.2]) ∧ Below w.heap.size w w' := by
  have hmm := @run_makeMap Try.prog
  have h200 := good_len hg
  have hn' : (l.length : Int) ≤ 200 := by omega
  have hpos : 0 < l.length := List.length_pos_iff.2 hne
  have HC := hide' (iclocks_any A l cap hcap (by omega) w hA)
  unfold clocksN at HC
  rw [hg, if_pos rfl] at HC
  have HTC := hide' (fun e w => touched_any e w)
  have HEA := hide' (fun i (hi : i < l.length) => evA_get (l := l) hi)
  have HGG := hide' hg
  obtain ⟨b, off, hA1, hc⟩ := hA
  have hA2 := hA1 hne
  subst hA2
  have HCE := hide' (fun i (hi : i < l.length) => hc i l[i] (List.getElem?_eq_getElem hi))
  clear hc hA1 hne hg
  go_enter Try.func7, Try.ntmps7
  go_upto_region 4 with (go_at_call 14; refine HC.out.mono ?_; rintro e w1 ⟨⟨v, rfl, hr⟩, hb1⟩; obtain ⟨A1, g, cap1, M, O, C, hv, c2, c3, -⟩ := hr.c; rw [clksTo_len] at hv; subst hv)
  have hAG : A1 = some ⟨g, 0, none⟩ := (c2 (by rw [clksTo_len]; omega)).1
  subst hAG
  have CK := hide' (fun i (hi : i < l.length) => by
    have h := c3 i (by rw [clksTo_len]; exact hi)
    simp only [clksTo_get] at h
    exact (show w1.cell? ⟨g, i, none⟩ = some (.slice (some ⟨M i, O i, none⟩) 5 (C i)) ∧ ∀ t : Nat, t < 5 → w1.cell? ⟨M i, O i + t, none⟩ = some (.int .i64 (ckI l i (t : Int))) from ⟨by have := h.1; rwa [clock_len] at this, fun t ht => h.2.2.2.2.2 t _ (clock_get l i t ht)⟩))
  have K3 := hide' (show Below w1.heap.size w1 (((w1.alloc (.map #[] 0)).alloc (.map #[] 0)).alloc (.cells #[.map (some w1.heap.size), .map (some (w1.heap.size + 1))] 48)) from below3 w1 _ _ _)
  have F3 := hide' (show FsM l w (((w1.alloc (.map #[] 0)).alloc (.map #[] 0)).alloc (.cells #[.map (some w1.heap.size), .map (some (w1.heap.size + 1))] 48)) w1.heap.size (w1.heap.size + 1) 0 from
    ⟨hb1.trans (K3.out.mono hb1.size), 0, 0, (fun _ => none), (fun _ => none), ((mapv_made w1).keep ((Below.refl _ _).up _)).keep ((Below.refl _ _).up _), (by have h := mapv_made (w1.alloc (.map #[] 0)); rw [show (w1.alloc (.map #[] 0)).heap.size = w1.heap.size + 1 by simp] at h; exact h.keep ((Below.refl _ _).up _)), Nat.le_refl _, Nat.le_refl _, fun x _ => ⟨rfl, rfl⟩⟩)
  have KN := hide' (show (((w1.alloc (.map #[] 0)).alloc (.map #[] 0)).alloc (.cells #[.map (some w1.heap.size), .map (some (w1.heap.size + 1))] 48)).cell? ⟨w1.heap.size + 1 + 1, 0, none⟩ = some (.map (some w1.heap.size)) ∧ (((w1.alloc (.map #[] 0)).alloc (.map #[] 0)).alloc (.cells #[.map (some w1.heap.size), .map (some (w1.heap.size + 1))] 48)).cell? ⟨w1.heap.size + 1 + 1, 1, none⟩ = some (.map (some (w1.heap.size + 1))) from by
    have h := two_new ((w1.alloc (.map #[] 0)).alloc (.map #[] 0)) (.map (some w1.heap.size)) (.map (some (w1.heap.size + 1))) 48
    simpa using h)
  have HM1 := hide' hb1.size
  have B1 := hide' hb1
  clear c2 c3 hr hb1 HC
  go_wp2_with fail
  generalize hW3 : ((w1.alloc (.map #[] 0)).alloc (.map #[] 0)).alloc (.cells #[.map (some w1.heap.size), .map (some (w1.heap.size + 1))] 48) = W3 at *
  have EV3 := hide' (fun i (hi : i < l.length) => range_keep K3.out (range_keep B1.out (HCE.out i hi)))
  have CK3 := hide' (fun i (hi : i < l.length) => (⟨keep_cell K3.out (CK.out i hi).1, fun t ht => keep_cell K3.out ((CK.out i hi).2 t ht)⟩ : W3.cell? ⟨g, i, none⟩ = some (.slice (some ⟨M i, O i, none⟩) 5 (C i)) ∧ ∀ t : Nat, t < 5 → W3.cell? ⟨M i, O i + t, none⟩ = some (.int .i64 (ckI l i (t : Int)))))
  clear hW3 CK HCE B1 K3
  generalize w1.heap.size = M1 at *
  go_loopw [22] (fun x wr => ∃ k : Nat, k ≤ l.length ∧ x = .int .i64 k ∧ Hid (FsM l w wr M1 (M1 + 1) k) ∧ Hid (CKept W3 wr) ∧ Hid (∀ j, j < k → fstB l j = false)) (fun x _ => l.length - (intOf x).toNat)
  case atStart => exact ⟨0, Nat.zero_le _, rfl, F3.out, CKept.refl _, fun j hj => absurd hj (by omega)⟩
  case round =>
    clear F3
    obtain ⟨k, hk, rfl, hr, hck, hlow⟩ := hrel
    by_cases hlt : k < l.length
    · have hk2 : (k : Int) < l.length := by omega
      have hev := EV3.out k hlt
      obtain ⟨c0, c1, c2, c3, c4⟩ := ev_range hev
      have c0 := hck.out.c _ _ _ c0
      have c1 := hck.out.c _ _ _ c1
      have c2 := hck.out.c _ _ _ c2
      have c3 := hck.out.c _ _ _ c3
      have c4 := hck.out.c _ _ _ c4
      have HGE := hide' (good_ev HGG.out hlt)
      have HTK := hide' (fun w => HTC.out l[k] w)
      have HEK := HEA.out k hlt
      have HNO := hide' (fun h => hr.out.none h)
      have HFB := hide' (show fstB l k = (tchB (evA l k) && fastB l k) from rfl)
      have HSTH := hide' (stTo_th HGG.out k (by omega))
      have HSTO := hide' (fun n1 n2 f1 f2 w4 hb h3 h4 h5 hk th hth c hc hb4 hm1 hm2 => FsM.store (t := l) (w := w) (wr := wr) (w4 := w4) (M1 := M1) (M2 := M1 + 1) (k := k) (n1 := n1) (n2 := n2) (f1 := f1) (f2 := f2) hb h3 h4 h5 hk (th := th) hth (c := c) hc hb4 hm1 hm2)
      have HLOD := hide' (fun n1 n2 f1 f2 w4 hb h3 h4 h5 hk th hth c hc hb4 hm1 hm2 => FsM.load (t := l) (w := w) (wr := wr) (w4 := w4) (M1 := M1) (M2 := M1 + 1) (k := k) (n1 := n1) (n2 := n2) (f1 := f1) (f2 := f2) hb h3 h4 h5 hk (th := th) hth (c := c) hc hb4 hm1 hm2)
      have HAT := hide' (fun h => fastN_at HGG.out hlt h hlow.out)
      have HFR := hide' (fastB_eq l k _ HEK)
      rw [HEK] at HNO HFB HSTO HLOD HAT
      obtain ⟨kg, kf⟩ := CK3.out k hlt
      have kg := hck.out.c _ _ _ kg
      have kf := fun t ht => hck.out.c _ _ _ (kf t ht)
      have kn0 := hck.out.c _ _ _ KN.out.1
      have kn1 := hck.out.c _ _ _ KN.out.2
      generalize l[k] = x at c0 c1 c2 c3 c4 HGE HTK HNO HFB HSTO HLOD HAT HFR
      clear HEK hev
      obtain ⟨r0, r1, r2, r3, r4⟩ := x
      generalize M k = Mk at *
      generalize O k = Ok at *
      generalize C k = Ck at *
      have E0 := hide' (evbox_new wr r0 r1 r2 r3 r4)
      have U0 := hide' ((Below.refl wr.heap.size wr).up (.cells #[.int .i64 r0, .int .i64 r1, .int .i64 r2, .int .i64 r3, .int .i64 r4] 35))
      unfold evV at HTK
      simp only at c0 c1 c2 c3 c4 HTK HSTO HLOD HAT HFR
      obtain ⟨q0, q1, q2, q3, q4⟩ := E0.out
      cases ht : tchB ⟨r0, r1, r2, r3, r4⟩
      · have HE := hide' (HNO.out ht)
        have HF := hide' (show fstB l k = false by rw [HFB.out, ht]; rfl)
        rw [tchN_no ht] at HTK
        clear HNO HFB HSTO HLOD HAT HFR
        go_wp2_with (go_at_call 15; refine (HTK.out _).mono ?_; rintro e w2 ⟨rfl, hb2⟩)
        go_roundw
        case rel => exact ⟨k + 1, by omega, by go_num, (HE.out.keep U0.out).keep hb2, (hck.out.trans (CKept.of U0.out)).trans (CKept.of hb2), fun j hj => by
          by_cases e : j = k
          · rw [e]; exact HF.out
          · exact hlow.out j (by omega)⟩
        case measure => simp [intOf]; omega
      · rw [tchN_yes ht] at HTK
        simp only at HTK
        have hob := tch_ob2 HGE.out ht
        have hall := goodev_all HGE.out
        simp only at hob hall
        have hwx : wfI r2 := wfI_small (by omega) (by omega)
        have hneg : (r2 == -1) = false := by rw [beq_eq_false_iff_ne]; omega
        obtain ⟨th, hth⟩ : ∃ th : Nat, r0 = th := ⟨r0.toNat, by omega⟩
        have hth5 : th < 5 := by omega
        have hkd : r1 = 2 ∨ r1 = 3 := by
          unfold tchB at ht
          rw [Bool.or_eq_true, beq_iff_eq, beq_iff_eq] at ht
          exact ht
        clear hall
        obtain ⟨n1, n2, f1, f2, hm1, hm2, hn1, hn2, hkn⟩ := hr.out.m
        have HB := hide' hr.out.b
        have HKN := hide' hkn
        obtain ⟨hs1, hl1⟩ := hkn r2 hwx
        obtain ⟨st, hst⟩ : ∃ st : Nat, (stTo l k r2).1 = st := ⟨(stTo l k r2).1.toNat, by have := HSTH.out r2; omega⟩
        have hst5 : st < 5 := by have := HSTH.out r2; omega
        unfold LsAt at hs1
        unfold LdAt at hl1
        rw [hst] at hs1 HFR
        obtain ⟨g, hgv⟩ : ∃ g : Bool, fastB l k = g := ⟨_, rfl⟩
        rw [hgv] at HFR
        have HF2 := hide' (show fstB l k = g by rw [HFB.out, ht, hgv]; rfl)
        have five : FiveAt wr Mk Ok (ckI l k 0) (ckI l k 1) (ckI l k 2) (ckI l k 3) (ckI l k 4) := ⟨by simpa using kf 0 (by omega), by simpa using kf 1 (by omega), by simpa using kf 2 (by omega), by simpa using kf 3 (by omega), by simpa using kf 4 (by omega)⟩
        have kst := kf st hst5
        have kth := kf th hth5
        have HHS := hide' hs1
        have HHL := hide' hl1
        have HHM1 := hide' hm1
        have HHM2 := hide' hm2
        have HH5 := hide' five
        have HKS := hide' kst
        have HKH := hide' kth
        have HTH := hide' hth
        have HKD := hide' hkd
        have HST := hide' hst
        have HOB := hide' hob
        have HT := hide' ht
        clear hs1 hl1 hm1 hm2 five kst kth kf HNO hkn hgv HSTH hth hkd hst hob ht
        go_wp2_with (go_at_call 15; refine (HTK.out _).mono ?_; rintro e w2 ⟨rfl, hb2⟩; have Z2 := hide' (U0.out.trans (hb2.mono U0.out.size)); obtain ⟨q0, q1, q2, q3, q4⟩ := E0.out.keep hb2; have kg := keep_cell Z2.out kg; have kn0 := keep_cell Z2.out kn0; have kn1 := keep_cell Z2.out kn1)
        go_cut [36] (fun t wx => t = .bool g ∧ Hid (Below w2.heap.size w2 wx))
        case first =>
          go_region_with (first | (go_at_call 16; refine (raceat_any _ _ n1 n2 f1 f2 _ _ r2 _ _ st _ _ _ _ _ _ _ _ _ _ _ _ _ _ _ _ (HHM1.out.keep Z2.out.drew) (HHM2.out.keep Z2.out.drew) hwx HHS.out HHL.out hst5 (HH5.out.keep Z2.out.drew) (keep_cell Z2.out.drew HKS.out)).mono ?_; rintro e w4 ⟨rfl, hb4⟩; have Z4 := hide' ((Below.refl _ w2).drew.trans hb4)) | fail)
          all_goals
            go_wp2_with fail
            go_meet
            exact ⟨by rw [← HFR.out], Z4.out⟩
        case rest =>
          obtain ⟨rfl, Z5⟩ := hcut
          obtain ⟨q0, q1, q2, q3, q4⟩ := (E0.out.keep hb2).keep Z5.out
          have kg := keep_cell Z5.out kg
          have kn0 := keep_cell Z5.out kn0
          have kn1 := keep_cell Z5.out kn1
          have Z6 := hide' (Z2.out.trans (Z5.out.mono Z2.out.size))
          clear HFR HFB HHS HKS HH5
          cases g
          · rcases HKD.out with hkx | hkx
            · have HK := hide' hkx
              clear hkx
              go_wp2_with fail
              go_region_with (first | (go_at_call 17; refine (note_load _ _ n1 n2 w.heap.size f1 f2 _ _ r2 _ _ th _ _ _ _ _ _ _ _ _ _ (HHM1.out.keep Z6.out.drew) (HHM2.out.keep Z6.out.drew) (by omega) HM1.out (by have := HM1.out; omega) hwx (by rw [HK.out]; rfl) HTH.out hth5 (by omega) HHL.out (keep_cell Z6.out.drew HKH.out)).mono ?_; rintro e w7 ⟨rfl, hb7, hc7, hp7, hq7⟩; have R7 := hide' (HLOD.out n1 n2 f1 f2 _ HB.out hn1 hn2 HKN.out HK.out th HTH.out r2 rfl ((Z6.out.drew.mono HB.out.size).trans hb7) hp7 hq7); have C7 := hide' ((CKept.of Z6.out.drew).trans hc7)) | fail)
              all_goals
                go_wp2_with fail
                go_roundw
                case rel => exact ⟨k + 1, by omega, by go_num, R7.out, hck.out.trans C7.out, fun j hj => by
                  by_cases e : j = k
                  · rw [e]; exact HF2.out
                  · exact hlow.out j (by omega)⟩
                case measure => simp [intOf]; omega
            · have HK := hide' hkx
              clear hkx
              go_wp2_with fail
              go_region_with (first | (go_at_call 17; refine (note_store _ _ n1 n2 w.heap.size f1 f2 _ _ r2 _ _ th _ _ _ _ _ (HHM1.out.keep Z6.out.drew) (HHM2.out.keep Z6.out.drew) (by omega) HM1.out (by have := HM1.out; omega) hwx (by rw [HK.out]; rfl) HTH.out hth5 (by omega) (keep_cell Z6.out.drew HKH.out)).mono ?_; rintro e w7 ⟨rfl, hb7, hc7, hp7, hq7⟩; have R7 := hide' (HSTO.out n1 n2 f1 f2 _ HB.out hn1 hn2 HKN.out HK.out th HTH.out r2 rfl ((Z6.out.drew.mono HB.out.size).trans hb7) hp7 hq7); have C7 := hide' ((CKept.of Z6.out.drew).trans hc7)) | fail)
              all_goals
                go_wp2_with fail
                go_roundw
                case rel => exact ⟨k + 1, by omega, by go_num, R7.out, hck.out.trans C7.out, fun j hj => by
                  by_cases e : j = k
                  · rw [e]; exact HF2.out
                  · exact hlow.out j (by omega)⟩
                case measure => simp [intOf]; omega
          · go_wp2_with fail
            go_ret3
            exact ⟨by rw [HAT.out HF2.out]; rfl, HB.out.trans (Z6.out.mono HB.out.size)⟩
    · have hke : k = l.length := by omega
      subst hke
      have HE := hide' (fastN_end HGG.out hlow.out)
      have HB := hide' hr.out.b
      go_wp2_with fail
      go_ret3
      exact ⟨by rw [HE.out]; rfl, HB.out⟩
end Go.Proofs.Ytclnnboaehpolaa
namespace Go.Proofs.Ytclnnboaehpolaa
open Go.RowKit Go.Maps
open Rd Fl

set_option maxRecDepth 20000 in
set_option maxHeartbeats 4000000 in
theorem ifast_any (A : Option Addr) (l : List EvD) (cap : Nat) (hcap : l.length ≤ cap) (hl : l.length ≤ 1048576) (w : World) (hA : EvsAt w A l) :
    Calls Try.prog 7 #[.slice A l.length cap] w fun e w' => e = .returned (.tuple #[.int .i64 (fastN l).1, .int .i64 (fastN l).2.1, .bool (fastN l).2.2]) ∧ Below w.heap.size w w' := by
  have HC := hide' (iclocks_any A l cap hcap hl w hA)
  cases hg : goodTr l
  · have HE := hide' (fastN_no hg)
    rw [hg] at HC
    clear hg hA
    go_enter Try.func7, Try.ntmps7
    go_wp2_with (go_at_call 14; refine HC.out.mono ?_; rintro e w1 ⟨⟨v, rfl, hr⟩, hb1⟩)
    go_ret3
    exact ⟨by rw [HE.out]; rfl, hb1⟩
  · by_cases hne : l = []
    · subst hne
      have hmm := @run_makeMap Try.prog
      have HE := hide' (fastN_end hg (fun j hj => absurd hj (by simp)))
      rw [hg] at HC
      clear hA
      go_enter Try.func7, Try.ntmps7
      go_wp2_with (go_at_call 14; refine HC.out.mono ?_; rintro e w1 ⟨⟨v, rfl, hr⟩, hb1⟩)
      have B2 := hide' (((hb1.up (.map #[] 0)).up (.map #[] 0)).up (.cells #[.map (some w1.heap.size), .map (some (w1.heap.size + 1))] 48))
      clear hb1 hr
      go_loopw [22] (fun x wr => x = .int .i64 0 ∧ Hid (Below w.heap.size w wr)) (fun _ _ => 0)
      case atStart => exact ⟨rfl, B2.out⟩
      case round =>
        obtain ⟨rfl, hb⟩ := hrel
        go_wp2_with fail
        go_ret3
        exact ⟨by rw [HE.out]; rfl, hb.out⟩
    · exact ifast_yes A l cap hcap hg hne w hA
end Go.Proofs.Ytclnnboaehpolaa
