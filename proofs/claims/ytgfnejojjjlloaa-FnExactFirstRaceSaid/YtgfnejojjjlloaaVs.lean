/- impl.locksBy. -/
import Derived.Test.YtgfnejojjjlloaaVr
import Derived.Test.YtgfnejojjjlloaaQd
import Derived.Deep.QuietTactic
import Derived.BigQuiet
namespace Go.Proofs.Ytgfnejojjjlloaa
open Go.RowKit Go.Maps
open Rd Fl

/-- The map in block M has the locks that th has behind k events as its keys. -/
structure LkM (t : List EvD) (th : Int) (w wr : World) (k : Nat) : Prop where
  b : Below w.heap.size w wr
  m : ∃ n f, MapV wr w.heap.size n f ∧ n ≤ k ∧ KeysAre f (heldTo t th k)
theorem LkM.keep {t : List EvD} {th : Int} {w wr wy : World} {k : Nat} (h : LkM t th w wr k) (hb : Below wr.heap.size wr wy) : LkM t th w wy k := by
  obtain ⟨n, f, h1, h2, h3⟩ := h.m
  exact ⟨h.b.trans (hb.mono h.b.size), n, f, h1.keep hb, h2, h3⟩
theorem LkM.none {t : List EvD} {th : Int} {w wr : World} {k : Nat} (h : LkM t th w wr k) (e : ¬ (evA t k).th = th) : LkM t th w wr (k + 1) := by
  obtain ⟨n, f, h1, h2, h3⟩ := h.m
  exact ⟨h.b, n, f, h1, by omega, by rw [heldTo_no e]; exact h3⟩

theorem cell_lt {w : World} {N o : Nat} {v : Value} (h : w.cell? ⟨N, o, none⟩ = some v) : N < w.heap.size := by
  rcases Nat.lt_or_ge N w.heap.size with h1 | h1
  · exact h1
  · exfalso
    simp [World.cell?, Array.getElem?_eq_none h1] at h
theorem EvBox.lt {w : World} {N : Nat} {a0 a1 a2 a3 a4 : Int} (h : EvBox w N a0 a1 a2 a3 a4) : N < w.heap.size := cell_lt h.1
theorem EvBox.row {w w' : World} {N : Nat} {a0 a1 a2 a3 a4 : Int} (h : EvBox w N a0 a1 a2 a3 a4) {b : Nat} (hg : w.grownBy w' (some b)) (hne : N ≠ b) (hlt : N < w.heap.size) : EvBox w' N a0 a1 a2 a3 a4 := by
  have e := hg.block N hlt (fun e => hne (Option.some.inj e))
  have k : ∀ o, w'.cell? ⟨N, o, none⟩ = w.cell? ⟨N, o, none⟩ := fun o => by unfold World.cell?; simp only; rw [e]
  obtain ⟨h0, h1, h2, h3, h4⟩ := h
  exact ⟨(k 0).trans h0, (k 1).trans h1, (k 2).trans h2, (k 3).trans h3, (k 4).trans h4⟩

set_option maxRecDepth 20000 in
set_option maxHeartbeats 4000000 in
theorem locksby_any (hsort : SortSays) (hnil : SortNil) (A : Option Addr) (l : List EvD) (cap : Nat) (hcap : l.length ≤ cap) (hg : goodTr l = true) (i : Nat) (hi : i < l.length) (w : World) (hA : EvsAt w A l) :
    Calls Try.prog 53 #[.slice A l.length cap, .int .i64 (i : Int)] w fun e w' => (∃ v, e = .returned v ∧ w'.ownsRow w.heap.size 3 1 v (heldN l i).length ((heldN l i).map iv)) ∧ Below w.heap.size w w' := by
  have hmm := @run_makeMap Try.prog
  have h200 := good_len hg
  have hn' : (l.length : Int) ≤ 200 := by omega
  have hi2 : (i : Int) < l.length := by omega
  have HRK := hide' (fun b n f hn w hm => rkeysi_any hsort hnil b n f hn w hm)
  obtain ⟨b, off, hA1, hc⟩ := hA
  have hA2 := hA1 (by intro h; rw [h] at hi; simp at hi)
  subst hA2
  have HC := hide' (fun k (hk : k < l.length) => hc k l[k] (List.getElem?_eq_getElem hk))
  have HG := hide' hg
  obtain ⟨c0, -, -, -, -⟩ := ev_range (hc i l[i] (List.getElem?_eq_getElem hi))
  have HTH := hide' (show (evA l i).th = l[i].th by rw [evA_get hi])
  generalize hth : l[i].th = th at c0 HTH
  have HI := hide' c0
  clear hc hA1 hg hsort hnil c0 hth
  have M0 := hide' (show LkM l th w (w.alloc (.map #[] 0)) 0 from ⟨(Below.refl _ w).up _, 0, _, mapv_made w, Nat.le_refl _, keys_none⟩)
  go_enter Try.func53, Try.ntmps53
  go_wp2_with fail
  have H0 := hide' (show w.heap.size < (w.alloc (.map #[] 0)).heap.size by simp)
  go_loopw [15] (fun x wr => ∃ k : Nat, k ≤ i + 1 ∧ x = .int .i64 k ∧ Hid (LkM l th w wr k)) (fun x _ => i + 1 - (intOf x).toNat)
  case atStart => exact ⟨0, Nat.zero_le _, rfl, M0.out⟩
  case round =>
    clear M0 H0
    obtain ⟨k, hk, rfl, hr⟩ := hrel
    have HZ := hide' (show w.heap.size < wr.heap.size by obtain ⟨n, f, hm, -, -⟩ := hr.out.m; exact hm.lt)
    by_cases hlt : k < i + 1
    · have hkl : k < l.length := by omega
      have hk2 : (k : Int) < (i : Int) + 1 := by omega
      have hk3 : (k : Int) < l.length := by omega
      obtain ⟨c0, c1, c2, c3, c4⟩ := ev_range (range_keep hr.out.b (HC.out k hkl))
      have HI2 := keep_cell hr.out.b HI.out
      have HE := hide' (show evA l k = l[k] from evA_get hkl)
      have HGE := hide' (good_ev HG.out hkl)
      have HS := hide' (fun (hth : (evA l k).th = th) f (h : KeysAre f (heldTo l th k)) v => keys_step HG.out hkl hth h v)
      have HNO := hide' (fun (e : ¬ (evA l k).th = th) => hr.out.none e)
      rw [HE.out] at HS HNO
      generalize l[k] = x at c0 c1 c2 c3 c4 HGE HS HNO
      obtain ⟨r0, r1, r2, r3, r4⟩ := x
      simp only at c0 c1 c2 c3 c4 HGE HS HNO
      have hT := tkE_good HGE.out
      have hV := gvE_good HGE.out
      simp only at hT hV
      have HTK := hide' (fun w => ltaken_any r0 r1 r2 r3 r4 w)
      have HGV := hide' (fun w => lgiven_any r0 r1 r2 r3 r4 w)
      have hT2 : (tk (-1) r1 r2 r3 = -1) ∨ (¬ tk (-1) r1 r2 r3 = -1 ∧ 0 ≤ tk (-1) r1 r2 r3 ∧ tk (-1) r1 r2 r3 ≤ 99) := by omega
      have hV2 : -1 ≤ gv (-1) r1 r2 r3 ∧ gv (-1) r1 r2 r3 ≤ 99 := by omega
      clear hT hV HE HGE
      have E0 := hide' (evbox_new wr r0 r1 r2 r3 r4)
      have U0 := hide' ((Below.refl wr.heap.size wr).up (.cells #[.int .i64 r0, .int .i64 r1, .int .i64 r2, .int .i64 r3, .int .i64 r4] 56))
      have HI3 := keep_cell U0.out HI2
      obtain ⟨q0, q1, q2, q3, q4⟩ := E0.out
      cases hb : (r0 == th)
      · have HM := hide' (show LkM l th w _ (k + 1) from (HNO.out (by simpa using hb)).keep U0.out)
        clear HS HTK HGV HNO
        go_wp2_with fail
        go_quiet (fail)
        go_wp2_with fail
        go_roundw
        case rel => exact ⟨k + 1, by omega, by go_num, HM.out.keep (below_draws (Below.refl _ _) _)⟩
        case measure => simp [intOf]; omega
      · obtain ⟨n, f, hm, hn, hkf⟩ := hr.out.m
        have hrb := hr.out.b
        have HM := hide' (hm.keep U0.out)
        have HS2 := hide' (HS.out (by simpa using hb) f hkf (.int .i64 (k : Int)))
        have HB := hide' (hrb.trans (U0.out.mono hrb.size))
        have hn2 : n ≤ 1048576 := by omega
        clear HS HNO hm hkf hr
        go_wp2_with fail
        go_quiet (fail)
        generalize hWq : (wr.alloc (.cells #[.int .i64 r0, .int .i64 r1, .int .i64 r2, .int .i64 r3, .int .i64 r4] 56)).drewN nq = W1 at *
        have D1 := hide' (show Below (wr.alloc (.cells #[.int .i64 r0, .int .i64 r1, .int .i64 r2, .int .i64 r3, .int .i64 r4] 56)).heap.size (wr.alloc (.cells #[.int .i64 r0, .int .i64 r1, .int .i64 r2, .int .i64 r3, .int .i64 r4] 56)) W1 from by rw [← hWq]; exact below_draws (Below.refl _ _) _)
        have B1 := hide' (HB.out.trans (D1.out.mono (by have := hrb.size; have := U0.out.size; omega)))
        have M1 := hide' (HM.out.keep D1.out)
        have E1 := hide' (E0.out.keep D1.out)
        have hwM := hide' (show w.heap.size < wr.heap.size from HZ.out)
        generalize wr.heap.size = N at *
        clear HM HB D1 E0 U0 hWq HI3 HI2 q0 q1 q2 q3 q4 c0 c1 c2 c3 c4
        generalize tk (-1) r1 r2 r3 = x at *
        generalize gv (-1) r1 r2 r3 = y at *
        have hwy : wfI y := wfI_small hV2.1 (by omega)
        obtain ⟨S1, S2⟩ := HS2.out
        obtain ⟨q0, q1, q2, q3, q4⟩ := E1.out
        rcases hT2 with rfl | ⟨hx0, hx1, hx2⟩
        · have K1 := hide' (S1 rfl)
          clear S1 S2 HS2
          go_wp2_with (first
            | (go_at_call 70; refine (HTK.out _).mono ?_; rintro e w2 ⟨rfl, hb2⟩; have M2 := hide' (M1.out.keep hb2); have E2 := hide' (E1.out.keep hb2); have B2 := hide' (B1.out.trans (hb2.mono B1.out.size)); clear hb2 M1 E1 B1 q0 q1 q2 q3 q4; obtain ⟨q0, q1, q2, q3, q4⟩ := E2.out)
            | (go_at_call 71; refine (HGV.out _).mono ?_; rintro e w3 ⟨rfl, hb3⟩; have M3 := hide' (M2.out.keep hb3); have B3 := hide' (B2.out.trans (hb3.mono B2.out.size)))
            | (at_delete; refine mv_del _ rfl _ _ 76 rfl 3 Try.underlying76 w.heap.size n f rfl M3.out y hwy rfl ?_; intro w4 hm4 hg4; go_frame))
          have R4 := hide' (show LkM l th w w4 (k + 1) from ⟨Below.grown B3.out hg4 B3.out.size (fun j hj => by cases hj; exact Nat.le_refl _), n, _, hm4, by omega, K1.out⟩)
          go_roundw
          case rel => exact ⟨k + 1, by omega, by go_num, R4.out⟩
          case measure => simp [intOf]; omega
        · have K1 := hide' (S2 hx0)
          have hwx : wfI x := wfI_small (by omega) (by omega)
          have hx3 : (x == -1) = false := by simpa using hx0
          clear S1 S2 HS2
          go_wp2_with (first
            | (go_at_call 70; refine (HTK.out _).mono ?_; rintro e w2 ⟨rfl, hb2⟩; have M2 := hide' (M1.out.keep hb2); have E2 := hide' (E1.out.keep hb2); have B2 := hide' (B1.out.trans (hb2.mono B1.out.size)); clear hb2 M1 E1 B1 q0 q1 q2 q3 q4)
            | (at_mapUpdate; refine mv_put _ rfl _ _ _ 76 rfl 3 Try.underlying76 w.heap.size n f rfl M2.out hn2 x hwx _ rfl rfl ?_; intro w5 hm5 hg5; have M5 := hide' hm5; have B5 := hide' (Below.grown B2.out hg5 B2.out.size (fun j hj => by cases hj; exact Nat.le_refl _)); have E5 := hide' (E2.out.row hg5 (by have := hwM.out; omega) (by have := E2.out.lt; omega)); obtain ⟨q0, q1, q2, q3, q4⟩ := E5.out; clear hm5 hg5)
            | (go_at_call 71; refine (HGV.out _).mono ?_; rintro e w3 ⟨rfl, hb3⟩; have M3 := hide' (M5.out.keep hb3); have B3 := hide' (B5.out.trans (hb3.mono B5.out.size)))
            | (at_delete; refine mv_del _ rfl _ _ 76 rfl 3 Try.underlying76 w.heap.size (n + 1) _ rfl M3.out y hwy rfl ?_; intro w4 hm4 hg4; go_frame))
          have R4 := hide' (show LkM l th w w4 (k + 1) from ⟨Below.grown B3.out hg4 B3.out.size (fun j hj => by cases hj; exact Nat.le_refl _), n + 1, _, hm4, by omega, K1.out⟩)
          go_roundw
          case rel => exact ⟨k + 1, by omega, by go_num, R4.out⟩
          case measure => simp [intOf]; omega
    · have hke : k = i + 1 := by omega
      subst hke
      have hk2 : ¬ ((i : Int) + 1 < (i : Int) + 1) := by omega
      obtain ⟨n, f, hm, hn, hkf⟩ := hr.out.m
      have HO := hide' (HRK.out w.heap.size n f (by omega) wr hm)
      have HF := hide' hkf
      have HB := hide' hr.out.b
      have HD := hide' (show heldTo l th (i + 1) = heldN l i by unfold heldN; rw [HTH.out])
      have HR := hide' (heldN_rises l i)
      have HIN := hide' (show ∀ x ∈ heldN l i, wfI x from fun x hx => by
        rw [← HD.out] at hx
        have := heldTo_in HG.out th (i + 1) (by omega) x hx
        exact wfI_small (by omega) (by omega))
      clear hm hkf hr HRK
      go_wp2_with (go_at_call 49; refine HO.out.mono ?_; rintro e w5 ⟨⟨v, ks, rfl, hl, hris, hkeys, hwf, hown⟩, hb5⟩)
      have e1 : ks = heldN l i := keys_eq hkeys (HD.out ▸ HF.out) hris HR.out hwf HIN.out
      subst e1
      go_ret
      exact ⟨⟨_, rfl, own_less hown HB.out.size⟩, HB.out.trans (hb5.mono HB.out.size)⟩
end Go.Proofs.Ytgfnejojjjlloaa
