/- OrderOf: both sides. -/
import Derived.Test.YtmflbibogkebmaaWl
namespace Go.Proofs.Ytmflbibogkebmaa
open Go.RowKit Go.Maps
open Rd Fl

theorem ordR_len (l : List EvD) (hg : goodTr l = true) : (ordR l).length ≤ 100 := by
  unfold ordR
  split
  · have h1 := ordN_out (E := ordE l) (L := ordL l) (ordL l).length
    have h2 : (ordL l).length ≤ 100 := takTo_len hg (Nat.le_refl _)
    omega
  · simp
theorem ord_bad {l : List EvD} (h : goodTr l = false) : okOrd l = false ∧ ordR l = [] := by
  have h1 : okOrd l = false := by unfold okOrd; rw [h, Bool.false_and]
  exact ⟨h1, by unfold ordR; rw [h1]; rfl⟩
def IntsF (f : Int → Option Value) : Prop := ∀ x v, f x = some v → ∃ c : Int, v = .int .i64 c
theorem IntsF.put {f : Int → Option Value} (h : IntsF f) (k c : Int) : IntsF (putF f k (.int .i64 c)) := by
  intro x v hv
  unfold putF at hv
  split at hv
  · cases hv; exact ⟨c, rfl⟩
  · exact h x v hv
theorem IntsF.get {f : Int → Option Value} (h : IntsF f) (k : Int) : ∃ c : Int, (f k).getD (.int .i64 0) = .int .i64 c := by
  cases hf : f k with
  | none => exact ⟨0, rfl⟩
  | some v => obtain ⟨c, rfl⟩ := h k v hf; exact ⟨c, rfl⟩
theorem zeroInt2 (w : World) : (zeroValue 3).run Try.prog w = .ok (.int .i64 0) w := by kernel_rfl

set_option maxRecDepth 20000 in
set_option maxHeartbeats 8000000 in
theorem iorder_any (hsort : SortSays) (hnil : SortNil) (A : Option Addr) (l : List EvD) (cap : Nat) (hcap : l.length ≤ cap) (hl : l.length ≤ 1048576) (w : World) (hA : EvsAt w A l) :
    Calls Try.prog 31 #[.slice A l.length cap] w fun e w' => (∃ v, e = .returned (.tuple #[v, .bool (okOrd l)]) ∧ ResI (ordR l) w' w.heap.size w'.heap.size v) ∧ Below w.heap.size w w' := by
  have hmm := @run_makeMap Try.prog
  have HU := hide' (iunders_any hsort hnil A l cap hcap hl w hA)
  have HL := hide' (undersN_len l)
  have HIN := hide' (undersN_in l)
  have HAA := hide' hA
  have HRK := hide' (fun b n f hn w hm => rkeysi_any hsort hnil b n f hn w hm)
  clear hA hsort hnil
  cases hg : goodTr l
  · obtain ⟨h1, h2⟩ := ord_bad hg
    rw [h1, h2]
    rw [hg] at HU
    clear h1 h2 hg
    go_enter Try.func31, Try.ntmps31
    go_wp2_with (go_at_call 24; refine HU.out.mono ?_; rintro e w1 ⟨⟨v1, rfl, hr1⟩, hb1⟩; obtain ⟨A1, M1, cap1, rfl, -, -, -, -⟩ := resu_open hr1)
    go_ret2
    exact ⟨⟨_, rfl, resi_of (World.ownsRow_nil _ _ _ _) (by simp)⟩, hb1⟩
  · have h200 := good_len hg
    have hn' : (l.length : Int) ≤ 200 := by omega
    have HTC := hide' (fun r0 r1 r2 r3 r4 w => ltaken_any r0 r1 r2 r3 r4 w)
    have HEA := hide' (fun i (hi : i < l.length) => evA_get (l := l) hi)
    have HGE := hide' (fun i (hi : i < l.length) => tkE_good (good_ev hg hi))
    have HTR := hide' (takTo_rises l l.length)
    have HTI := hide' (takTo_in hg (Nat.le_refl l.length))
    have HTL := hide' (takTo_len hg (Nat.le_refl l.length))
    have HOR := hide' (fun lo M nn rows A cap w hG hA => order_any lo M nn rows (undersN l) (undersN_in l) A (takTo l l.length) cap (takTo_len hg (Nat.le_refl l.length)) (takTo_rises l l.length) (takTo_in hg (Nat.le_refl l.length)) w hG hA)
    have HOB := hide' (show okOrd l = ordOk (pairsP (undersN l) 100) (takTo l l.length) by unfold okOrd; rw [hg, Bool.true_and]; rfl)
    have HRR := hide' (show ordR l = if ordOk (pairsP (undersN l) 100) (takTo l l.length) = true then (ordN (pairsP (undersN l) 100) (takTo l l.length) (takTo l l.length).length).2 else [] by rw [← HOB.out]; rfl)
    have HRL := hide' (ordR_len l hg)
    rw [hg] at HU
    rw [← HRR.out, ← HOB.out] at HOR
    generalize okOrd l = ob at *
    generalize ordR l = rl at *
    generalize undersN l = us at *
    clear hg HOB HRR
    go_enter Try.func31, Try.ntmps31
    go_wp2_with (go_at_call 24; refine HU.out.mono ?_; rintro e w1 ⟨⟨v1, rfl, hr1⟩, hb1⟩; obtain ⟨A1, M1, cap1, rfl, -, -, -, hA1⟩ := resu_open hr1; have HA1 := hide' hA1; have B1 := hide' hb1; clear hr1 hA1)
    have M0 := hide' (mapv_made w1)
    have BB0 := hide' ((Below.refl w1.heap.size w1).up (.map #[] 0))
    go_loopw [20] (fun x wr => ∃ k : Nat, k ≤ l.length ∧ x = .int .i64 k ∧ ∃ n f, n ≤ k ∧ Hid (MapV wr w1.heap.size n f) ∧ Hid (KeysAre f (takTo l k)) ∧ Hid (IntsF f) ∧ Hid (Below w1.heap.size w1 wr)) (fun x _ => l.length - (intOf x).toNat)
    case atStart => exact ⟨0, Nat.zero_le _, rfl, 0, _, Nat.le_refl _, M0.out, keys_none, (fun x v h => by cases h), BB0.out⟩
    case round =>
      clear M0 BB0
      obtain ⟨k, hk, rfl, n, f, hn, hm, hkf, hif, hb⟩ := hrel
      by_cases hlt : k < l.length
      · have hk2 : (k : Int) < l.length := by omega
        have BW := hide' (B1.out.trans (hb.out.mono B1.out.size))
        obtain ⟨b, off, hA1', hc⟩ := HAA.out.keep BW.out
        have hA2 := hA1' (by intro h; rw [h] at hlt; simp at hlt)
        subst hA2
        obtain ⟨c0, c1, c2, c3, c4⟩ := ev_range (hc k l[k] (List.getElem?_eq_getElem hlt))
        have HEK := HEA.out k hlt
        have HNO := hide' (fun h => takTo_no (l := l) (n := k) h)
        have HYES := hide' (fun h => takTo_yes (l := l) (n := k) h)
        have HTG := HGE.out k hlt
        rw [HEK] at HNO HYES
        generalize l[k] = x at c0 c1 c2 c3 c4 HNO HYES HTG
        clear HEK hc hA1'
        obtain ⟨r0, r1, r2, r3, r4⟩ := x
        have HT := hide' (HTC.out r0 r1 r2 r3 r4)
        simp only at c0 c1 c2 c3 c4 HTG
        have E0 := hide' (evbox_new wr r0 r1 r2 r3 r4)
        have U0 := hide' ((Below.refl wr.heap.size wr).up (.cells #[.int .i64 r0, .int .i64 r1, .int .i64 r2, .int .i64 r3, .int .i64 r4] 50))
        obtain ⟨q0, q1, q2, q3, q4⟩ := E0.out
        generalize tkE ⟨r0, r1, r2, r3, r4⟩ = tx at *
        generalize tk (-1) r1 r2 r3 = ty at *
        rcases HTG with ⟨ht1, ht2⟩ | ⟨ht1, ht3, ht2⟩
        · subst ht2
          have HE := hide' (HNO.out (by omega))
          clear HNO HYES
          go_wp2_with (go_at_call 50; refine (HT.out _).mono ?_; rintro e w2 ⟨rfl, hb2⟩; have M2 := hide' ((hm.out.keep U0.out).keep hb2); have B2 := hide' (hb.out.trans ((U0.out.trans (hb2.mono U0.out.size)).mono hb.out.size)))
          go_roundw
          case rel => exact ⟨k + 1, by omega, by go_num, n, f, by omega, M2.out, by rw [HE.out]; exact hkf.out, hif.out, B2.out⟩
          case measure => simp [intOf]; omega
        · subst ht2
          have htd : (ty == -1) = false := by simp; omega
          have HE := hide' (HYES.out ht1)
          have hwx : wfI ty := wfI_small (by omega) (by omega)
          obtain ⟨c, hcv⟩ := hif.out.get ty
          have hn2 : n ≤ 1048576 := by omega
          clear HNO HYES
          go_wp2_with (first
            | (go_at_call 50; refine (HT.out _).mono ?_; rintro e w2 ⟨rfl, hb2⟩; have M2 := hide' ((hm.out.keep U0.out).keep hb2); have B2 := hide' (hb.out.trans ((U0.out.trans (hb2.mono U0.out.size)).mono hb.out.size)))
            | (at_lookup; refine mv_look _ rfl _ _ 72 rfl 3 Try.underlying72 _ (zeroInt2 _) w1.heap.size n f rfl M2.out ty hwx rfl _ hcv ?_)
            | (at_mapUpdate; refine mv_put _ rfl _ _ _ 72 rfl 3 Try.underlying72 w1.heap.size n f rfl M2.out hn2 ty hwx _ rfl rfl ?_; intro w4 hm4 hg4; have M4 := hide' hm4; have B4 := hide' (Below.grown B2.out hg4 B2.out.size (fun j hj => by cases hj; exact Nat.le_refl _)); clear hm4; go_frame))
          go_roundw
          case rel => exact ⟨k + 1, by omega, by go_num, n + 1, _, by omega, M4.out, by rw [HE.out]; exact hkf.out.put (fun y => by rw [putR_mem]), hif.out.put _ _, B4.out⟩
          case measure => simp [intOf]; omega
      · have hke : k = l.length := by omega
        have HKF := hide' (show KeysAre f (takTo l l.length) from hke ▸ hkf.out)
        have hn1000 : n ≤ 1000 := by omega
        clear hkf hif
        go_wp2_with (first
          | (go_at_call 54; refine (lockgraph_any A1 us cap1 (by have := HL.out; omega) (ends_wf HIN.out) _ (HA1.out.keep hb.out)).mono ?_; rintro e w2 ⟨⟨n2, rows, rfl, -, hg2⟩, hb2⟩; have G2 := hide' hg2; have M2 := hide' (hm.out.keep hb2); have B2 := hide' (hb.out.trans (hb2.mono hb.out.size)); clear hg2)
          | (go_at_call 60; refine (HRK.out w1.heap.size n f hn1000 _ M2.out).mono ?_; rintro e w3 ⟨⟨v3, ks, rfl, hl3, hr3, hk3, hw3, ho3⟩, hb3⟩; obtain rfl : ks = takTo l l.length := keys_eq hk3 HKF.out hr3 HTR.out hw3 (fun x hx => by have := HTI.out x hx; exact wfI_small (by omega) (by omega)); obtain ⟨A3, c3, rfl, hat3⟩ := own_at ho3; have G3 := hide' (G2.out.keep hb3); have L3 := hide' hat3; have B3 := hide' (B2.out.trans (hb3.mono B2.out.size)))
          | (go_at_call 59; refine (HOR.out _ _ _ _ _ _ _ G3.out L3.out).mono ?_; rintro e w4 ⟨⟨v4, rfl, ho4⟩, hb4⟩))
        go_ret2
        exact ⟨⟨_, rfl, resi_less (resi_of ho4 (by have := HRL.out; omega)) (Nat.le_trans B1.out.size B3.out.size)⟩, B1.out.trans ((B3.out.trans (hb4.mono B3.out.size)).mono B1.out.size)⟩

set_option maxRecDepth 20000 in
set_option maxHeartbeats 8000000 in
theorem sorder_any (A : Option Addr) (l : List EvD) (cap : Nat) (hcap : l.length ≤ cap) (hl : l.length ≤ 1048576) (w : World) (hA : EvsAt w A l) :
    Calls Try.prog 30 #[.slice A l.length cap] w fun e w' => (∃ v, e = .returned (.tuple #[v, .bool (okOrd l)]) ∧ ResI (ordR l) w' w.heap.size w'.heap.size v) ∧ Below w.heap.size w w' := by
  have HG := hide' (l6trace_any A l cap hl w hA)
  cases hg : goodTr l
  · obtain ⟨h1, h2⟩ := ord_bad hg
    rw [h1, h2]
    rw [hg] at HG
    clear hg hA h1 h2
    go_enter Try.func30, Try.ntmps30
    go_wp2_with (go_at_call 34; refine HG.out.mono ?_; rintro e w1 ⟨rfl, hb1⟩)
    go_ret2
    exact ⟨⟨_, rfl, resi_of (World.ownsRow_nil _ _ _ _) (by simp)⟩, hb1⟩
  · refine (sorder_yes A l cap hcap hg w hA).mono ?_
    rintro e w' ⟨v, rfl, hr⟩
    exact ⟨⟨v, rfl, resi_of hr.o (by have := ordR_len l hg; omega)⟩, hr.b⟩
end Go.Proofs.Ytmflbibogkebmaa
