/- impl.locksAfter, impl.locksBy. spec.l7Held: the locks that a thread has. -/
import Derived.Test.YtmflbibogkebmaaVr
import Derived.Test.YtmflbibogkebmaaQd
import Derived.Deep.QuietTactic
import Derived.BigQuiet
import Derived.Test.YtmflbibogkebmaaPv
namespace Go.Proofs.Ytmflbibogkebmaa
open Go.RowKit Go.Maps
open Rd Fl

/-- The map in block M has the locks that th has behind k events as its keys. -/
structure LkM (t : List EvD) (th : Int) (w wr : World) (k : Nat) : Prop where
  b : Below w.heap.size w wr
  m : ∃ n f, MapV wr w.heap.size n f ∧ n ≤ k ∧ KeysAre f (heldTo t th k)
theorem LkM.keep {t : List EvD} {th : Int} {w wr wy : World} {k : Nat} (h : LkM t th w wr k) (hb : Below wr.heap.size wr wy) : LkM t th w wy k := by
  obtain ⟨n, f, h1, h2, h3⟩ := h.m
  exact ⟨h.b.trans (hb.mono h.b.size), n, f, h1.keep hb, h2, h3⟩
theorem LkM.none {t : List EvD} {th : Int} {w wr : World} {k : Nat} (h : LkM t th w wr k) (e : ¬ (evA t k).th = th) : LkM t th w wr (k + 1) := by
  obtain ⟨n, f, h1, h2, h3⟩ := h.m
  exact ⟨h.b, n, f, h1, by omega, by rw [heldTo_no e]; exact h3⟩

theorem cell_lt {w : World} {N o : Nat} {v : Value} (h : w.cell? ⟨N, o, none⟩ = some v) : N < w.heap.size := by
  rcases Nat.lt_or_ge N w.heap.size with h1 | h1
  · exact h1
  · exfalso
    simp [World.cell?, Array.getElem?_eq_none h1] at h
theorem EvBox.lt {w : World} {N : Nat} {a0 a1 a2 a3 a4 : Int} (h : EvBox w N a0 a1 a2 a3 a4) : N < w.heap.size := cell_lt h.1
theorem EvBox.row {w w' : World} {N : Nat} {a0 a1 a2 a3 a4 : Int} (h : EvBox w N a0 a1 a2 a3 a4) {b : Nat} (hg : w.grownBy w' (some b)) (hne : N ≠ b) (hlt : N < w.heap.size) : EvBox w' N a0 a1 a2 a3 a4 := by
  have e := hg.block N hlt (fun e => hne (Option.some.inj e))
  have k : ∀ o, w'.cell? ⟨N, o, none⟩ = w.cell? ⟨N, o, none⟩ := fun o => by unfold World.cell?; simp only; rw [e]
  obtain ⟨h0, h1, h2, h3, h4⟩ := h
  exact ⟨(k 0).trans h0, (k 1).trans h1, (k 2).trans h2, (k 3).trans h3, (k 4).trans h4⟩

set_option maxRecDepth 20000 in
set_option maxHeartbeats 4000000 in
theorem locksafter_any (hsort : SortSays) (hnil : SortNil) (A : Option Addr) (l : List EvD) (hl : l ≠ []) (n0 cap : Nat) (hcap : n0 ≤ cap) (hg : goodTr l = true) (hi : n0 ≤ l.length) (th : Int) (w : World) (hA : EvsAt w A l) :
    Calls Try.prog 51 #[.slice A n0 cap, .int .i64 th] w fun e w' => (∃ v, e = .returned v ∧ w'.ownsRow w.heap.size 3 1 v (heldTo l th n0).length ((heldTo l th n0).map iv)) ∧ Below w.heap.size w w' := by
  have hmm := @run_makeMap Try.prog
  have h200 := good_len hg
  have hn' : (l.length : Int) ≤ 200 := by omega
  have hn0 : (n0 : Int) ≤ 200 := by omega
  have HRK := hide' (fun b n f hn w hm => rkeysi_any hsort hnil b n f hn w hm)
  obtain ⟨b, off, hA1, hc⟩ := hA
  have hA2 := hA1 hl
  subst hA2
  have HC := hide' (fun k (hk : k < l.length) => hc k l[k] (List.getElem?_eq_getElem hk))
  have HG := hide' hg
  clear hc hA1 hg hsort hnil hl
  have M0 := hide' (show LkM l th w (w.alloc (.map #[] 0)) 0 from ⟨(Below.refl _ w).up _, 0, _, mapv_made w, Nat.le_refl _, keys_none⟩)
  go_enter Try.func51, Try.ntmps51
  go_wp2_with fail
  have H0 := hide' (show w.heap.size < (w.alloc (.map #[] 0)).heap.size by simp)
  go_loopw [12] (fun x wr => ∃ k : Nat, k ≤ n0 ∧ x = .int .i64 k ∧ Hid (LkM l th w wr k)) (fun x _ => n0 - (intOf x).toNat)
  case atStart => exact ⟨0, Nat.zero_le _, rfl, M0.out⟩
  case round =>
    clear M0 H0
    obtain ⟨k, hk, rfl, hr⟩ := hrel
    have HZ := hide' (show w.heap.size < wr.heap.size by obtain ⟨n, f, hm, -, -⟩ := hr.out.m; exact hm.lt)
    by_cases hlt : k < n0
    · have hkl : k < l.length := by omega
      have hk2 : (k : Int) < (n0 : Int) := by omega
      have hk3 : (k : Int) < l.length := by omega
      obtain ⟨c0, c1, c2, c3, c4⟩ := ev_range (range_keep hr.out.b (HC.out k hkl))
      have HE := hide' (show evA l k = l[k] from evA_get hkl)
      have HGE := hide' (good_ev HG.out hkl)
      have HS := hide' (fun (hth : (evA l k).th = th) f (h : KeysAre f (heldTo l th k)) v => keys_step HG.out hkl hth h v)
      have HNO := hide' (fun (e : ¬ (evA l k).th = th) => hr.out.none e)
      rw [HE.out] at HS HNO
      generalize l[k] = x at c0 c1 c2 c3 c4 HGE HS HNO
      obtain ⟨r0, r1, r2, r3, r4⟩ := x
      simp only at c0 c1 c2 c3 c4 HGE HS HNO
      have hT := tkE_good HGE.out
      have hV := gvE_good HGE.out
      simp only at hT hV
      have HTK := hide' (fun w => ltaken_any r0 r1 r2 r3 r4 w)
      have HGV := hide' (fun w => lgiven_any r0 r1 r2 r3 r4 w)
      have hT2 : (tk (-1) r1 r2 r3 = -1) ∨ (¬ tk (-1) r1 r2 r3 = -1 ∧ 0 ≤ tk (-1) r1 r2 r3 ∧ tk (-1) r1 r2 r3 ≤ 99) := by omega
      have hV2 : -1 ≤ gv (-1) r1 r2 r3 ∧ gv (-1) r1 r2 r3 ≤ 99 := by omega
      clear hT hV HE HGE
      have E0 := hide' (evbox_new wr r0 r1 r2 r3 r4)
      have U0 := hide' ((Below.refl wr.heap.size wr).up (.cells #[.int .i64 r0, .int .i64 r1, .int .i64 r2, .int .i64 r3, .int .i64 r4] 50))
      obtain ⟨q0, q1, q2, q3, q4⟩ := E0.out
      cases hb : (r0 == th)
      · have HM := hide' (show LkM l th w _ (k + 1) from (HNO.out (by simpa using hb)).keep U0.out)
        clear HS HTK HGV HNO
        go_wp2_with fail
        go_roundw
        case rel => exact ⟨k + 1, by omega, by go_num, HM.out⟩
        case measure => simp [intOf]; omega
      · obtain ⟨n, f, hm, hn, hkf⟩ := hr.out.m
        have hrb := hr.out.b
        have HM := hide' (hm.keep U0.out)
        have HS2 := hide' (HS.out (by simpa using hb) f hkf (.int .i64 (k : Int)))
        have HB := hide' (hrb.trans (U0.out.mono hrb.size))
        have hn2 : n ≤ 1048576 := by omega
        clear HS HNO hm hkf hr
        go_upto_region 6 with fail
        generalize hWq : (wr.alloc (.cells #[.int .i64 r0, .int .i64 r1, .int .i64 r2, .int .i64 r3, .int .i64 r4] 50)) = W1 at *
        have B1 := HB
        have M1 := HM
        have E1 := E0
        have hwM := hide' (show w.heap.size < wr.heap.size from HZ.out)
        generalize wr.heap.size = N at *
        clear HM HB E0 U0 hWq q0 q1 q2 q3 q4 c0 c1 c2 c3 c4
        generalize tk (-1) r1 r2 r3 = x at *
        generalize gv (-1) r1 r2 r3 = y at *
        have hwy : wfI y := wfI_small hV2.1 (by omega)
        obtain ⟨S1, S2⟩ := HS2.out
        obtain ⟨q0, q1, q2, q3, q4⟩ := E1.out
        rcases hT2 with rfl | ⟨hx0, hx1, hx2⟩
        · have K1 := hide' (S1 rfl)
          clear S1 S2 HS2
          go_wp2_with (first
            | (go_at_call 50; refine (HTK.out _).mono ?_; rintro e w2 ⟨rfl, hb2⟩; have M2 := hide' (M1.out.keep hb2); have E2 := hide' (E1.out.keep hb2); have B2 := hide' (B1.out.trans (hb2.mono B1.out.size)); clear hb2 M1 E1 B1 q0 q1 q2 q3 q4; obtain ⟨q0, q1, q2, q3, q4⟩ := E2.out)
            | (go_at_call 73; refine (HGV.out _).mono ?_; rintro e w3 ⟨rfl, hb3⟩; have M3 := hide' (M2.out.keep hb3); have B3 := hide' (B2.out.trans (hb3.mono B2.out.size)))
            | (at_delete; refine mv_del _ rfl _ _ 72 rfl 3 Try.underlying72 w.heap.size n f rfl M3.out y hwy rfl ?_; intro w4 hm4 hg4; go_frame))
          have R4 := hide' (show LkM l th w w4 (k + 1) from ⟨Below.grown B3.out hg4 B3.out.size (fun j hj => by cases hj; exact Nat.le_refl _), n, _, hm4, by omega, K1.out⟩)
          go_roundw
          case rel => exact ⟨k + 1, by omega, by go_num, R4.out⟩
          case measure => simp [intOf]; omega
        · have K1 := hide' (S2 hx0)
          have hwx : wfI x := wfI_small (by omega) (by omega)
          have hx3 : (x == -1) = false := by simpa using hx0
          clear S1 S2 HS2
          go_wp2_with (first
            | (go_at_call 50; refine (HTK.out _).mono ?_; rintro e w2 ⟨rfl, hb2⟩; have M2 := hide' (M1.out.keep hb2); have E2 := hide' (E1.out.keep hb2); have B2 := hide' (B1.out.trans (hb2.mono B1.out.size)); clear hb2 M1 E1 B1 q0 q1 q2 q3 q4)
            | (at_mapUpdate; refine mv_put _ rfl _ _ _ 72 rfl 3 Try.underlying72 w.heap.size n f rfl M2.out hn2 x hwx _ rfl rfl ?_; intro w5 hm5 hg5; have M5 := hide' hm5; have B5 := hide' (Below.grown B2.out hg5 B2.out.size (fun j hj => by cases hj; exact Nat.le_refl _)); have E5 := hide' (E2.out.row hg5 (by have := hwM.out; omega) (by have := E2.out.lt; omega)); obtain ⟨q0, q1, q2, q3, q4⟩ := E5.out; clear hm5 hg5)
            | (go_at_call 73; refine (HGV.out _).mono ?_; rintro e w3 ⟨rfl, hb3⟩; have M3 := hide' (M5.out.keep hb3); have B3 := hide' (B5.out.trans (hb3.mono B5.out.size)))
            | (at_delete; refine mv_del _ rfl _ _ 72 rfl 3 Try.underlying72 w.heap.size (n + 1) _ rfl M3.out y hwy rfl ?_; intro w4 hm4 hg4; go_frame))
          have R4 := hide' (show LkM l th w w4 (k + 1) from ⟨Below.grown B3.out hg4 B3.out.size (fun j hj => by cases hj; exact Nat.le_refl _), n + 1, _, hm4, by omega, K1.out⟩)
          go_roundw
          case rel => exact ⟨k + 1, by omega, by go_num, R4.out⟩
          case measure => simp [intOf]; omega
    · have hke : k = n0 := by omega
      subst hke
      have hk2 : ¬ ((k : Int) < (k : Int)) := by omega
      obtain ⟨n, f, hm, hn, hkf⟩ := hr.out.m
      have HO := hide' (HRK.out w.heap.size n f (by omega) wr hm)
      have HF := hide' hkf
      have HB := hide' hr.out.b
      have HR := hide' (heldTo_rises l th k)
      have HIN := hide' (show ∀ x ∈ heldTo l th k, wfI x from fun x hx => by
        have := heldTo_in HG.out th k hi x hx
        exact wfI_small (by omega) (by omega))
      clear hm hkf hr HRK
      go_wp2_with (go_at_call 60; refine HO.out.mono ?_; rintro e w5 ⟨⟨v, ks, rfl, hl, hris, hkeys, hwf, hown⟩, hb5⟩)
      have e1 : ks = heldTo l th k := keys_eq hkeys HF.out hris HR.out hwf HIN.out
      subst e1
      go_ret
      exact ⟨⟨_, rfl, own_less hown HB.out.size⟩, HB.out.trans (hb5.mono HB.out.size)⟩
set_option maxRecDepth 20000 in
set_option maxHeartbeats 4000000 in
theorem locksby_any (hsort : SortSays) (hnil : SortNil) (A : Option Addr) (l : List EvD) (cap : Nat) (hcap : l.length ≤ cap) (hg : goodTr l = true) (i : Nat) (hi : i < l.length) (w : World) (hA : EvsAt w A l) :
    Calls Try.prog 39 #[.slice A l.length cap, .int .i64 (i : Int)] w fun e w' => (∃ v, e = .returned v ∧ w'.ownsRow w.heap.size 3 1 v (heldN l i).length ((heldN l i).map iv)) ∧ Below w.heap.size w w' := by
  have h200 := good_len hg
  have hn' : (l.length : Int) ≤ 200 := by omega
  have hi2 : (i : Int) < l.length := by omega
  have hcap' : (l.length : Int) ≤ cap := by omega
  have hi3 : (i : Int) + 1 ≤ cap := by omega
  have hi4 : (0 : Int) ≤ (i : Int) + 1 := by omega
  have hi5 : IntKind.i64.wrap ((i : Int) + 1) = (i : Int) + 1 := by simp [IntKind.wrap, IntKind.bits, IntKind.signed]; omega
  have hi6 : ((i : Int) + 1).toNat = i + 1 := by omega
  have HLA := hide' (fun w1 (hb : Below w.heap.size w w1) => locksafter_any hsort hnil A l (by intro h; rw [h] at hi; simp at hi) (i + 1) cap (by omega) hg (by omega) (evA l i).th w1 (hA.keep hb))
  have HD : heldTo l (evA l i).th (i + 1) = heldN l i := rfl
  rw [HD] at HLA
  generalize heldN l i = LN at *
  rw [evA_get hi] at HLA
  obtain ⟨b, off, hA1, hc⟩ := hA
  have hA2 := hA1 (by intro h; rw [h] at hi; simp at hi)
  subst hA2
  obtain ⟨c0, -, -, -, -⟩ := ev_range (hc i l[i] (List.getElem?_eq_getElem hi))
  generalize hth : l[i].th = th at c0 HLA
  clear hc hA1 hg hsort hnil hth HD
  go_enter Try.func39, Try.ntmps39
  go_wp2_with fail
  go_region_with (go_at_call 51; refine (HLA.out _ (Below.refl _ _).drew).mono ?_; rintro e w1 ⟨⟨v, rfl, ho⟩, hb1⟩)
  all_goals go_wp2_with fail
  all_goals go_ret
  all_goals exact ⟨⟨v, rfl, ho⟩, (Below.refl _ _).drew.trans hb1⟩
end Go.Proofs.Ytmflbibogkebmaa
namespace Go.Proofs.Ytmflbibogkebmaa
open Go.RowKit Go.Maps
open Rd Fl

theorem dropL_take_no {l : List Int} {n : Int} {k : Nat} (hk : k < l.length) (h : l[k] = n) : dropL (l.take (k + 1)) n = dropL (l.take k) n := by
  unfold dropL
  rw [List.take_succ_eq_append_getElem hk, List.filter_append, h]
  simp
theorem dropL_take_yes {l : List Int} {n : Int} {k : Nat} (hk : k < l.length) (h : ¬ l[k] = n) : dropL (l.take (k + 1)) n = dropL (l.take k) n ++ [l[k]] := by
  unfold dropL
  rw [List.take_succ_eq_append_getElem hk, List.filter_append]
  simp [h]
theorem dropL_len (l : List Int) (n : Int) : (dropL l n).length ≤ l.length := List.length_filter_le _ _

set_option maxRecDepth 20000 in
set_option maxHeartbeats 2000000 in
theorem l7drop_any (A : Option Addr) (l : List Int) (cap : Nat) (n : Int) (hl : l.length ≤ 1000) (w : World) (hA : LAt iv w A l) :
    Calls Try.prog 58 #[.slice A l.length cap, .int .i64 n] w fun e w' => ∃ v, e = .returned v ∧ Rsp w v (dropL l n) w' := by
  obtain ⟨i0, hi, hz0, hz1, hz2⟩ := intInfo
  have hl' : (l.length : Int) ≤ 1000 := by omega
  obtain ⟨b, off, hA1, hc⟩ := hA
  by_cases he : l = []
  · subst he
    clear hc hA1
    go_enter Try.func58, Try.ntmps58
    go_wp2
    go_loopw [5, 10] (fun v i wr => v = .slice none 0 0 ∧ i = .int .i64 0 ∧ wr = w) (fun _ _ _ => 0)
    case atStart => exact ⟨rfl, rfl, rfl⟩
    case round =>
      obtain ⟨rfl, rfl, rfl⟩ := hrel
      go_wp2
      go_ret
      exact ⟨_, rfl, Below.refl _ _, World.ownsRow_nil _ _ _ _⟩
  · have hA2 := hA1 he
    subst hA2
    have HC := hide' (fun i (hi : i < l.length) => hc i l[i] (List.getElem?_eq_getElem hi))
    clear hc hA1 he
    go_enter Try.func58, Try.ntmps58
    go_wp2
    go_loopw [5, 10] (fun v i wr => ∃ k : Nat, k ≤ l.length ∧ i = .int .i64 k ∧ Hid (Rsp w v (dropL (l.take k) n) wr)) (fun _ i _ => l.length - (intOf i).toNat)
    case atStart => exact ⟨0, Nat.zero_le _, rfl, Below.refl _ _, World.ownsRow_nil _ _ _ _⟩
    case round =>
      obtain ⟨k, hk, rfl, hr⟩ := hrel
      by_cases hlt : k < l.length
      · have hk2 : (k : Int) < l.length := by omega
        have c0 := keep_cell hr.out.b (HC.out k hlt)
        have HN := hide' (fun h => dropL_take_no (n := n) hlt h)
        have HY := hide' (fun h => dropL_take_yes (n := n) hlt h)
        have HL := hide' (show (dropL (l.take k) n).length ≤ 1000 by have := dropL_len (l.take k) n; rw [List.length_take] at this; omega)
        unfold iv at c0
        generalize l[k] = x at c0 HN HY
        cases hb : (x == n)
        · have HE := hide' (HY.out (by simpa using hb))
          clear HN HY
          have hlen := HL.out
          have hsz := hr.out.b.size
          go_wp2_with (first
            | (at_builtin; refine wpList_append_own _ rfl _ _ 24 rfl w.heap.size 3 i0 (.int .i64 0) 1 8 Try.underlying24 hi hz0 hz1 hz2 rfl (by decide) _ _ _ rfl (hr.out.o.alloc _) ⟨wr.heap.size, 0, none⟩ 1 1 [iv x] rfl rfl (cell_one_new _ _ _) (one_iv x) (by unfold maxLen; omega) (by omega) (by simp; omega) ?_; intro v' w3 hown' hg3 hnil3; go_frame)
            | go_in)
          have R3 := hide' (show Rsp w v' (dropL (l.take (k + 1)) n) w3 from ⟨Below.grown (hr.out.b.up _) hg3 (by simp; omega) (own_base' hr.out.o), by rw [HE.out, List.length_append, List.map_append]; exact hown'⟩)
          go_roundw
          case rel => exact ⟨k + 1, by omega, by go_num, R3.out⟩
          case measure => simp [intOf]; omega
        · have HE := hide' (HN.out (by simpa using hb))
          clear HN HY
          go_wp2_with fail
          go_roundw
          case rel => exact ⟨k + 1, by omega, by go_num, by rw [HE.out]; exact hr.out⟩
          case measure => simp [intOf]; omega
      · have hke : k = l.length := by omega
        subst hke
        have HE := hide' (show Rsp w _ (dropL l n) wr by have := hr.out; rwa [List.take_length] at this)
        go_wp2
        go_ret
        exact ⟨_, rfl, HE.out⟩

theorem Rsp.open {w wr : World} {v : Value} {l : List Int} (h : Rsp w v l wr) (hl : l.length ≤ 1000) : ∃ A cap, v = .slice A l.length cap ∧ LAt iv wr A l := by
  obtain ⟨A, M, cap, h1, -, -, -, h2⟩ := resi_open (resi_of h.o hl)
  exact ⟨A, cap, h1, h2⟩
theorem Rsp.on {w wr w2 : World} {v v' : Value} {l l' : List Int} (h : Rsp w v l wr) (h' : Rsp wr v' l' w2) : Rsp w v' l' w2 := ⟨h.b.trans (h'.b.mono h.b.size), own_less h'.o h.b.size⟩
theorem heldA_yes {l : List Int} {e : EvD} (h : 0 ≤ tkE e) : heldA l e = putR l (tkE e) := by unfold heldA; rw [if_pos h]
theorem heldA_no {l : List Int} {e : EvD} (h : ¬ 0 ≤ tkE e) : heldA l e = l := by unfold heldA; rw [if_neg h]
theorem heldS_yes {l : List Int} {e : EvD} (h : 0 ≤ gvE e) : heldS l e = dropL (heldA l e) (gvE e) := by unfold heldS; rw [if_pos h]
theorem heldS_no {l : List Int} {e : EvD} (h : ¬ 0 ≤ gvE e) : heldS l e = heldA l e := by unfold heldS; rw [if_neg h]

set_option maxRecDepth 20000 in
set_option maxHeartbeats 4000000 in
theorem l7held_any (A : Option Addr) (l : List EvD) (cap : Nat) (hcap : l.length ≤ cap) (hg : goodTr l = true) (i : Nat) (hi : i < l.length) (w : World) (hA : EvsAt w A l) :
    Calls Try.prog 36 #[.slice A l.length cap, .int .i64 (i : Int)] w fun e w' => ∃ v, e = .returned v ∧ Rsp w v (heldN l i) w' := by
  have h200 := good_len hg
  have hn' : (l.length : Int) ≤ 200 := by omega
  have hi2 : (i : Int) < l.length := by omega
  obtain ⟨b, off, hA1, hc⟩ := hA
  have hA2 := hA1 (by intro h; rw [h] at hi; simp at hi)
  subst hA2
  have HC := hide' (fun k (hk : k < l.length) => hc k l[k] (List.getElem?_eq_getElem hk))
  have HG := hide' hg
  obtain ⟨c0, -, -, -, -⟩ := ev_range (hc i l[i] (List.getElem?_eq_getElem hi))
  have HTH := hide' (show (evA l i).th = l[i].th by rw [evA_get hi])
  generalize hth : l[i].th = th at c0 HTH
  have HI := hide' c0
  clear hc hA1 hg c0 hth
  go_enter Try.func36, Try.ntmps36
  go_wp2_with fail
  go_loopw [5, 15] (fun v x wr => ∃ k : Nat, k ≤ i + 1 ∧ x = .int .i64 k ∧ Hid (Rsp w v (heldTo l th k) wr)) (fun _ x _ => i + 1 - (intOf x).toNat)
  case atStart => exact ⟨0, Nat.zero_le _, rfl, Below.refl _ _, World.ownsRow_nil _ _ _ _⟩
  case round =>
    obtain ⟨k, hk, rfl, hr⟩ := hrel
    by_cases hlt : k < i + 1
    · have hkl : k < l.length := by omega
      have hk2 : (k : Int) < (i : Int) + 1 := by omega
      have hk3 : (k : Int) < l.length := by omega
      obtain ⟨c0, c1, c2, c3, c4⟩ := ev_range (range_keep hr.out.b (HC.out k hkl))
      have HI2 := keep_cell hr.out.b HI.out
      have HL := hide' (heldTo_len l th k)
      have HGE := hide' (good_ev HG.out hkl)
      have HS := hide' (fun (h : (evA l k).th = th) => heldTo_yes (k := k) h)
      have HNO := hide' (fun (e : ¬ (evA l k).th = th) => heldTo_no (k := k) e)
      rw [evA_get hkl] at HS HNO
      generalize heldTo l th k = L at *
      generalize l[k] = x at c0 c1 c2 c3 c4 HGE HS HNO
      obtain ⟨r0, r1, r2, r3, r4⟩ := x
      simp only at c0 c1 c2 c3 c4 HGE HS HNO
      have hT := tkE_good HGE.out
      have hV := gvE_good HGE.out
      have HTK := hide' (fun w => l6takes_any r0 r1 r2 r3 r4 w)
      have HGV := hide' (fun w => l6gives_any r0 r1 r2 r3 r4 w)
      rw [show tk (-3) r1 r2 r3 = tkE ⟨r0, r1, r2, r3, r4⟩ from rfl] at HTK
      rw [show gv (-2) r1 r2 r3 = gvE ⟨r0, r1, r2, r3, r4⟩ from rfl] at HGV
      have A1 := hide' (fun h => heldA_yes (l := L) (e := ⟨r0, r1, r2, r3, r4⟩) h)
      have A2 := hide' (fun h => heldA_no (l := L) (e := ⟨r0, r1, r2, r3, r4⟩) h)
      have S1 := hide' (fun h => heldS_yes (l := L) (e := ⟨r0, r1, r2, r3, r4⟩) h)
      have S2 := hide' (fun h => heldS_no (l := L) (e := ⟨r0, r1, r2, r3, r4⟩) h)
      have hT2 : -3 ≤ tkE ⟨r0, r1, r2, r3, r4⟩ ∧ tkE ⟨r0, r1, r2, r3, r4⟩ ≤ 99 := by omega
      have hV2 : -2 ≤ gvE ⟨r0, r1, r2, r3, r4⟩ ∧ gvE ⟨r0, r1, r2, r3, r4⟩ ≤ 99 := by omega
      generalize heldS L ⟨r0, r1, r2, r3, r4⟩ = LS at *
      generalize hLA : heldA L ⟨r0, r1, r2, r3, r4⟩ = LA at *
      have HLA := hide' (show LA.length ≤ k + 1 by rw [← hLA]; have := heldA_len L ⟨r0, r1, r2, r3, r4⟩; have := HL.out; omega)
      clear hLA hT hV HGE
      generalize tkE ⟨r0, r1, r2, r3, r4⟩ = x at *
      generalize gvE ⟨r0, r1, r2, r3, r4⟩ = y at *
      have hk1000 : k < 1000 := by omega
      have E0 := hide' (evbox_new wr r0 r1 r2 r3 r4)
      have U0 := hide' ((Below.refl wr.heap.size wr).up (.cells #[.int .i64 r0, .int .i64 r1, .int .i64 r2, .int .i64 r3, .int .i64 r4] 50))
      have HI3 := keep_cell U0.out HI2
      obtain ⟨q0, q1, q2, q3, q4⟩ := E0.out
      cases hb : (r0 == th)
      · have HE := hide' (HNO.out (by simpa using hb))
        clear HS HTK HGV HNO A1 A2 S1 S2
        go_wp2_with fail
        go_quiet (fail)
        go_wp2_with fail
        go_roundw
        case rel => exact ⟨k + 1, by omega, by go_num, by rw [HE.out]; exact (hr.out.keep U0.out).keep (below_draws (Below.refl _ _) _)⟩
        case measure => simp [intOf]; omega
      · have HE := hide' (HS.out (by simpa using hb))
        clear HS HNO
        have R0 := hide' (hr.out.keep U0.out)
        go_wp2_with fail
        go_quiet (fail)
        generalize hWq : (wr.alloc (.cells #[.int .i64 r0, .int .i64 r1, .int .i64 r2, .int .i64 r3, .int .i64 r4] 50)).drewN nq = W1 at *
        have D1 := hide' (show Below (wr.alloc (.cells #[.int .i64 r0, .int .i64 r1, .int .i64 r2, .int .i64 r3, .int .i64 r4] 50)).heap.size (wr.alloc (.cells #[.int .i64 r0, .int .i64 r1, .int .i64 r2, .int .i64 r3, .int .i64 r4] 50)) W1 from by rw [← hWq]; exact below_draws (Below.refl _ _) _)
        have R1 := hide' (R0.out.keep D1.out)
        have E1 := hide' (E0.out.keep D1.out)
        generalize wr.heap.size = N at *
        clear R0 D1 E0 U0 hWq HI3 HI2 q0 q1 q2 q3 q4 c0 c1 c2 c3 c4 hr
        obtain ⟨q0, q1, q2, q3, q4⟩ := E1.out
        rcases Int.lt_or_le x 0 with hx | hx
        · have HA := hide' (A2.out (by omega))
          have hx2 : decide (x ≥ 0) = false := decide_eq_false (by omega)
          clear A1 A2
          rcases Int.lt_or_le y 0 with hy | hy
          · have HH := hide' (S2.out (by omega))
            clear S1 S2
            go_wp2_with (first
              | (go_at_call 57; refine (HTK.out _).mono ?_; rintro e w2 ⟨rfl, hb2⟩; have R2 := hide' (R1.out.keep hb2); have E2 := hide' (E1.out.keep hb2); clear hb2 E1 q0 q1 q2 q3 q4; obtain ⟨q0, q1, q2, q3, q4⟩ := E2.out)
              | (go_at_call 67; refine (HGV.out _).mono ?_; rintro e w3 ⟨rfl, hb3⟩; have R3 := hide' (R2.out.keep hb3)))
            go_roundw
            case rel => exact ⟨k + 1, by omega, by go_num, by rw [HE.out, HH.out, HA.out]; exact R3.out⟩
            case measure => simp [intOf]; omega
          · have HH := hide' (S1.out (by omega))
            clear S1 S2
            rw [HA.out] at HH
            have HD := hide' (fun w3 (h : Rsp w u5 L w3) => by
              obtain ⟨A, c, e, hA⟩ := h.open (by have := HL.out; omega)
              have := l7drop_any A L c y (by have := HL.out; omega) w3 hA
              rw [← e] at this
              exact this)
            go_wp2_with (first
              | (go_at_call 57; refine (HTK.out _).mono ?_; rintro e w2 ⟨rfl, hb2⟩; have R2 := hide' (R1.out.keep hb2); have E2 := hide' (E1.out.keep hb2); clear hb2 E1 q0 q1 q2 q3 q4; obtain ⟨q0, q1, q2, q3, q4⟩ := E2.out)
              | (go_at_call 67; refine (HGV.out _).mono ?_; rintro e w3 ⟨rfl, hb3⟩; have R3 := hide' (R2.out.keep hb3))
              | (go_at_call 58; refine (HD.out _ R3.out).mono ?_; rintro e w4 ⟨v4, rfl, hr4⟩; have R4 := hide' (R3.out.on hr4)))
            go_roundw
            case rel => exact ⟨k + 1, by omega, by go_num, by rw [HE.out, HH.out]; exact R4.out⟩
            case measure => simp [intOf]; omega
        · have HA := hide' (A1.out (by omega))
          clear A1 A2
          have HP := hide' (fun w2 (h : Rsp w u5 L w2) => l1put_any L x u5 (by have := HL.out; omega) w w2 h)
          rcases Int.lt_or_le y 0 with hy | hy
          · have HH := hide' (S2.out (by omega))
            clear S1 S2
            go_wp2_with (first
              | (go_at_call 57; refine (HTK.out _).mono ?_; rintro e w2 ⟨rfl, hb2⟩; have R2 := hide' (R1.out.keep hb2); have E2 := hide' (E1.out.keep hb2); clear hb2 E1 q0 q1 q2 q3 q4)
              | (go_at_call 42; refine (HP.out _ R2.out).mono ?_; rintro e w5 ⟨⟨v5, rfl, hr5⟩, hb5⟩; have R5 := hide' hr5; have E5 := hide' (E2.out.keep hb5); obtain ⟨q0, q1, q2, q3, q4⟩ := E5.out)
              | (go_at_call 67; refine (HGV.out _).mono ?_; rintro e w3 ⟨rfl, hb3⟩; have R3 := hide' (R5.out.keep hb3)))
            go_roundw
            case rel => exact ⟨k + 1, by omega, by go_num, by rw [HE.out, HH.out, HA.out]; exact R3.out⟩
            case measure => simp [intOf]; omega
          · have HH := hide' (S1.out (by omega))
            clear S1 S2
            rw [HA.out] at HH HLA
            have HD := hide' (fun v5 w3 (h : Rsp w v5 (putR L x) w3) => by
              obtain ⟨A, c, e, hA⟩ := h.open (by have := HLA.out; omega)
              have := l7drop_any A (putR L x) c y (by have := HLA.out; omega) w3 hA
              rw [← e] at this
              exact this)
            go_wp2_with (first
              | (go_at_call 57; refine (HTK.out _).mono ?_; rintro e w2 ⟨rfl, hb2⟩; have R2 := hide' (R1.out.keep hb2); have E2 := hide' (E1.out.keep hb2); clear hb2 E1 q0 q1 q2 q3 q4)
              | (go_at_call 42; refine (HP.out _ R2.out).mono ?_; rintro e w5 ⟨⟨v5, rfl, hr5⟩, hb5⟩; have R5 := hide' hr5; have E5 := hide' (E2.out.keep hb5); obtain ⟨q0, q1, q2, q3, q4⟩ := E5.out)
              | (go_at_call 67; refine (HGV.out _).mono ?_; rintro e w3 ⟨rfl, hb3⟩; have R3 := hide' (R5.out.keep hb3))
              | (go_at_call 58; refine (HD.out _ _ R3.out).mono ?_; rintro e w4 ⟨v4, rfl, hr4⟩; have R4 := hide' (R3.out.on hr4)))
            go_roundw
            case rel => exact ⟨k + 1, by omega, by go_num, by rw [HE.out, HH.out]; exact R4.out⟩
            case measure => simp [intOf]; omega
    · have hke : k = i + 1 := by omega
      subst hke
      have hk2 : ¬ ((i : Int) + 1 < (i : Int) + 1) := by omega
      have HD := hide' (show Rsp w _ (heldN l i) wr by have := hr.out; unfold heldN; rw [HTH.out]; exact this)
      go_wp2_with fail
      go_ret
      exact ⟨_, rfl, HD.out⟩
end Go.Proofs.Ytmflbibogkebmaa
