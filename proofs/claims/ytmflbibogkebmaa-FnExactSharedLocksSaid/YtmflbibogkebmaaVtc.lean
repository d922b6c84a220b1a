/- impl.SharedLocks. -/
import Derived.Test.YtmflbibogkebmaaVtb
import Derived.Test.YtmflbibogkebmaaVtd
import Derived.Deep.DeepCutAuto
namespace Go.Proofs.Ytmflbibogkebmaa
open Go.RowKit Go.Maps
open Rd Fl

set_option maxRecDepth 20000 in
set_option maxHeartbeats 8000000 in
theorem ishared_yes (hsort : SortSays) (hnil : SortNil) (A : Option Addr) (l : List EvD) (cap : Nat) (hcap : l.length ≤ cap) (hg : goodTr l = true) (hne : l ≠ []) (w : World) (hA : EvsAt w A l) :
    Calls Try.prog 19 #[.slice A l.length cap] w fun e w' => ∃ v rvs, e = .returned (.tuple #[v, .bool true]) ∧ Below w.heap.size w w' ∧ LayM w' w.heap.size v rvs ((cellsTo l l.length).map (shRow l)) := by
  have hmm := @run_makeMap Try.prog
  have hmf : ∀ (fn : Fn) (first cap : Array Value) (w : World), (Instr.makeFunc fn first cap).run Try.prog w = .ok (.func fn first cap) w := fun _ _ _ _ => rfl
  obtain ⟨i0, hi, hz0, hz1, hz2⟩ := intInfo
  obtain ⟨i1, hj, hy0, hy1, hy2⟩ := intsInfo
  have h200 := good_len hg
  have hn' : (l.length : Int) ≤ 200 := by omega
  have HG := hide' (igoodtr_any A l cap (by omega) w hA)
  rw [hg] at HG
  have HTC := hide' (fun e w => touched_any e w)
  have HLB := hide' (fun i (hi : i < l.length) w hA => locksby_any hsort hnil A l cap hcap hg i hi w hA)
  have HRK := hide' (fun b n f hn w hm => rkeysl_any hsort hnil b n f hn w hm)
  have HGG := hide' hg
  have HAA := hide' hA
  have HEA := hide' (fun i (hi : i < l.length) => evA_get (l := l) hi)
  obtain ⟨b, off, hA1, hc⟩ := hA
  have hA2 := hA1 hne
  subst hA2
  have HCE := hide' (fun i (hi : i < l.length) => hc i l[i] (List.getElem?_eq_getElem hi))
  clear hc hA1 hne hg hsort hnil
  go_enter Try.func19, Try.ntmps19
  go_wp2_with (go_at_call 38; refine HG.out.mono ?_; rintro e w1 ⟨rfl, hb1⟩)
  have B1 := hide' hb1
  have M0 := hide' (show ShM l w (w1.alloc (.map #[] 0)) w1.heap.size 0 from ⟨hb1.up _, hb1.size, 0, _, mapv_made w1, Nat.le_refl _, fun x _ => rfl⟩)
  clear HG hb1
  generalize hM : w1.heap.size = M at M0 ⊢
  go_loopw [20] (fun x wr => ∃ k : Nat, k ≤ l.length ∧ x = .int .i64 k ∧ Hid (ShM l w wr M k)) (fun x _ => l.length - (intOf x).toNat)
  case atStart => exact ⟨0, Nat.zero_le _, rfl, M0.out⟩
  case round =>
    clear M0 hM
    obtain ⟨k, hk, rfl, hr⟩ := hrel
    by_cases hlt : k < l.length
    · have hk2 : (k : Int) < l.length := by omega
      obtain ⟨c0, c1, c2, c3, c4⟩ := ev_range (range_keep hr.out.b (HCE.out k hlt))
      have HGE := hide' (good_ev HGG.out hlt)
      have HTK := hide' (fun w => HTC.out l[k] w)
      have HEK := HEA.out k hlt
      have HNO := hide' (fun h => hr.out.none h)
      have HLK := hide' (fun w hA => HLB.out k hlt w hA)
      have HNW := hide' (fun c h h' => shTo_new (t := l) (k := k) (x := c) h h')
      have HOL := hide' (fun c L h h' => shTo_old (t := l) (k := k) (x := c) (l := L) h h')
      have HPUT := hide' (fun W w4 n f hb hl hm hn hr c v L hc hs ho hm4 hg => ShM.put (t := l) (w := w) (W := W) (w4 := w4) (M := M) (k := k) (n := n) (f := f) hb hl hm hn hr (c := c) (v := v) (L := L) hc hs ho hm4 hg)
      rw [HEK] at HNO HNW HOL HPUT
      have HLN := hide' (heldN_len l k)
      generalize l[k] = x at c0 c1 c2 c3 c4 HGE HTK HNO HNW HOL HPUT
      clear HEK
      obtain ⟨r0, r1, r2, r3, r4⟩ := x
      have E0 := hide' (evbox_new wr r0 r1 r2 r3 r4)
      have U0 := hide' ((Below.refl wr.heap.size wr).up (.cells #[.int .i64 r0, .int .i64 r1, .int .i64 r2, .int .i64 r3, .int .i64 r4] 50))
      unfold evV at HTK
      simp only at c0 c1 c2 c3 c4 HTK HNW HOL HPUT
      obtain ⟨q0, q1, q2, q3, q4⟩ := E0.out
      cases ht : tchB ⟨r0, r1, r2, r3, r4⟩
      · have HE := hide' (HNO.out ht)
        rw [tchN_no ht] at HTK
        clear HNO HNW HOL HPUT HLK
        go_wp2_with (go_at_call 44; refine (HTK.out _).mono ?_; rintro e w2 ⟨rfl, hb2⟩)
        go_roundw
        case rel => exact ⟨k + 1, by omega, by go_num, (HE.out.keep U0.out).keep hb2⟩
        case measure => simp [intOf]; omega
      · rw [tchN_yes ht] at HTK
        simp only at HTK
        have hob := tch_ob2 HGE.out ht
        have hob2 := (goodev_all HGE.out).2.2.2.2.2.1
        simp only at hob hob2
        have hwx : wfI r2 := wfI_small (by omega) (by omega)
        have hneg : (r2 == -1) = false := by rw [beq_eq_false_iff_ne]; omega
        obtain ⟨n, f, hm, hn, hrows⟩ := hr.out.m
        have HB := hide' hr.out.b
        have HL := hide' hr.out.l
        have HROW := hide' hrows
        have HMV := hide' hm
        have hn2 : n ≤ 1048576 := by omega
        have hrx := hrows r2 hwx
        clear hr hm hrows HNO
        generalize hH : heldN l k = H at *
        cases hs : shTo l k r2 with
        | none =>
          rw [hs] at hrx
          have hfx : f r2 = none := hrx
          have hu : (f r2).getD (.slice none 0 0) = .slice none 0 0 := by rw [hfx]; rfl
          have hcb : (f r2).isSome = false := by rw [hfx]; rfl
          have HSN := hide' (HNW.out r2 ⟨ht, rfl⟩ hs)
          clear HNW HOL hrx hfx hs
          go_wp2_with (first
            | (go_at_call 44; refine (HTK.out _).mono ?_; rintro e w2 ⟨rfl, hb2⟩; have U2 := hide' (U0.out.trans (hb2.mono U0.out.size)))
            | (go_at_call 39; refine (HLK.out _ (HAA.out.keep (HB.out.trans (U2.out.mono HB.out.size)))).mono ?_; rintro e w5 ⟨⟨v, rfl, ho⟩, hb5⟩; have O5 := hide' ho; have U5 := hide' (U2.out.trans (hb5.mono U2.out.size)); have M5 := hide' (HMV.out.keep U5.out); have S5 := hide' U2.out.size; clear ho hb5)
            | (at_lookup; refine mv_look_ok _ rfl _ _ 57 rfl 24 Try.underlying57 _ (zeroInts _) M n f rfl M5.out r2 hwx rfl _ _ hu hcb ?_; have N5 := hide' (M5.out.keep ((Below.refl _ _).up (.cells #[.slice none 0 0] 24))))
            | (at_mapUpdate; refine mv_put _ rfl _ _ _ 57 rfl 24 Try.underlying57 M n f rfl N5.out hn2 r2 hwx _ rfl rfl ?_; intro w8 hm8 hg8; go_frame))
          have W6 := hide' (U5.out.up (.cells #[.slice none 0 0] 24))
          have R8 := hide' (HPUT.out _ w8 n f (HB.out.trans (W6.out.mono HB.out.size)) HL.out N5.out hn (fun x hx => (HROW.out x hx).to fun b _ hb' => W6.out.block b hb') r2 v H rfl HSN.out (own_less (O5.out.alloc _) (Nat.le_trans HB.out.size S5.out)) hm8 hg8)
          go_roundw
          case rel => exact ⟨k + 1, by omega, by go_num, R8.out⟩
          case measure => simp [intOf]; omega
        | some L =>
          rw [hs] at hrx
          obtain ⟨u, hfx, huo⟩ := hrx
          have hcb : (f r2).isSome = true := by rw [hfx]; rfl
          have HSN := hide' (HOL.out r2 L ⟨ht, rfl⟩ hs)
          have hLL := shTo_len k r2 L hs
          obtain ⟨A6, M6, cap6, rfl, -, -, -, -⟩ := resi_open (resi_of huo (by omega))
          have hu : (f r2).getD (.slice none 0 0) = .slice A6 L.length cap6 := by rw [hfx]; rfl
          have HDEL := hide' (fun z w5 v hz hz5 ho hb => del_shared (wr := wr) (w5 := w5) (lo := w.heap.size) (z := z) (u := .slice A6 L.length cap6) (v := v) (H := H) (L := L) huo (by omega) (by have := HLN.out; omega) hz hz5 ho hb)
          have HML := hide' HMV.out.lt
          clear HNW HOL hfx hs huo hLL
          go_wp2_with (first
            | (go_at_call 44; refine (HTK.out _).mono ?_; rintro e w2 ⟨rfl, hb2⟩; have U2 := hide' (U0.out.trans (hb2.mono U0.out.size)))
            | (go_at_call 39; refine (HLK.out _ (HAA.out.keep (HB.out.trans (U2.out.mono HB.out.size)))).mono ?_; rintro e w5 ⟨⟨v, rfl, ho⟩, hb5⟩; have O5 := hide' ho; have U5 := hide' (U2.out.trans (hb5.mono U2.out.size)); have M5 := hide' (HMV.out.keep U5.out); have S5 := hide' U2.out.size; have Z5 := hide' hb5.size; clear ho hb5)
            | (at_lookup; refine mv_look_ok _ rfl _ _ 57 rfl 24 Try.underlying57 _ (zeroInts _) M n f rfl M5.out r2 hwx rfl _ _ hu hcb ?_)
            | (go_at_call 45; go_loud (refine (HDEL.out _ _ _ S5.out Z5.out O5.out U5.out).mono ?_; rintro e w7 ⟨v7, rfl, ho7, hsm, hb7⟩; have O7 := hide' ho7; have U7 := hide' hb7; have N7 := hide' (HMV.out.to (hsm M HML.out)); have SM := hide' hsm; clear ho7 hsm hb7))
            | (at_mapUpdate; refine mv_put _ rfl _ _ _ 57 rfl 24 Try.underlying57 M n f rfl N7.out hn2 r2 hwx _ rfl rfl ?_; intro w8 hm8 hg8; go_frame))
          have R8 := hide' (HPUT.out _ w8 n f (HB.out.trans (U7.out.mono HB.out.size)) HL.out N7.out hn (fun x hx => (HROW.out x hx).to fun b _ hb' => SM.out b hb') r2 v7 (bothL H L) rfl HSN.out (own_less O7.out (Nat.le_trans HB.out.size S5.out)) hm8 hg8)
          go_roundw
          case rel => exact ⟨k + 1, by omega, by go_num, R8.out⟩
          case measure => simp [intOf]; omega
    · have hke : k = l.length := by omega
      subst hke
      obtain ⟨n, f, hm, hn, hrows⟩ := hr.out.m
      have HO := hide' (HRK.out M n f (by omega) wr hm)
      have HKC := hide' (show KeysAre f (cellsTo l l.length) from fun x hx => by
        have h := hrows x hx
        rw [← shTo_some]
        cases hs : shTo l l.length x with
        | none => rw [hs] at h; rw [show f x = none from h]; simp
        | some L => rw [hs] at h; obtain ⟨u, h1, -⟩ := h; rw [h1]; simp)
      have HB := hide' hr.out.b
      have HMV := hide' hm
      have HROW := hide' hrows
      have HCI := hide' (cellsTo_in HGG.out l.length (Nat.le_refl _))
      have HCR := hide' (cellsTo_rises l l.length)
      have HCN := hide' (cellsTo_len l l.length)
      clear hm hrows hr HRK
      go_wp2_with (go_at_call 48; refine HO.out.mono ?_; rintro e w5 ⟨⟨v, ks, rfl, hl', hris, hkeys, hwf, hown⟩, hb5⟩; have e1 : ks = cellsTo l l.length := keys_eq hkeys HKC.out hris HCR.out hwf (fun x hx => by have := HCI.out x hx; exact wfI_small (by omega) (by omega)); subst e1; obtain ⟨A5, M5, cap5, rfl, -, -, -, hat5⟩ := resi_open (resi_of hown (by omega)))
      have B5 := hide' (HB.out.trans (hb5.mono HB.out.size))
      have M5' := hide' (HMV.out.keep hb5)
      have HR5 := hide' (fun x hx => (HROW.out x hx).to (w' := w5) fun b _ hb' => hb5.block b hb')
      have AT := hide' hat5
      have L0 := hide' (laym_nil w5 w5.heap.size)
      clear hown hb5 hat5 hkeys hwf HO HMV HROW
      generalize hcs0 : cellsTo l l.length = cs at *
      have hcs : (cs.length : Int) ≤ 200 := by omega
      go_loopw [11, 49] (fun v x wr => ∃ (k : Nat) (rvs : List Value), k ≤ cs.length ∧ x = .int .i64 k ∧ Hid (Below w5.heap.size w5 wr) ∧ Hid (LayM wr w5.heap.size v rvs ((cs.take k).map (shRow l)))) (fun _ x _ => cs.length - (intOf x).toNat)
      case atStart => exact ⟨0, [], Nat.zero_le _, rfl, Below.refl _ _, L0.out⟩
      case round =>
        clear L0
        obtain ⟨k, rvs, hk', rfl, hbw, hlay⟩ := hrel
        by_cases hlt' : k < cs.length
        · obtain ⟨b5, off5, hA5, hc5⟩ := AT.out
          have hA5' := hA5 (by intro h; rw [h] at hlt'; simp at hlt')
          subst hA5'
          have hk3 : (k : Int) < cs.length := by omega
          have d0 := keep_cell hbw.out (hc5 k cs[k] (List.getElem?_eq_getElem hlt'))
          have HTK := hide' (List.take_succ_eq_append_getElem hlt')
          have HX := HCI.out cs[k] (List.getElem_mem hlt')
          have HXK := hide' ((HKC.out cs[k] (wfI_small (by omega) (by omega))).2 (List.getElem_mem hlt'))
          clear hc5 hA5
          unfold iv at d0
          generalize cs[k] = c at d0 HTK HX HXK
          have hwc : wfI c := wfI_small (by omega) (by omega)
          have hrc := HR5.out c hwc
          cases hs : shTo l l.length c with
          | none =>
            rw [hs] at hrc
            exfalso
            have h1 := HXK.out
            rw [show f c = none from hrc] at h1
            cases h1
          | some L =>
            rw [hs] at hrc
            obtain ⟨u, hfc, huo⟩ := hrc
            have hLL := shTo_len l.length c L hs
            obtain ⟨A6, M6, cap6, rfl, -, -, -, hat6⟩ := resi_open (resi_of huo (by omega))
            have hu : (f c).getD (.slice none 0 0) = .slice A6 L.length cap6 := by rw [hfc]; rfl
            have HSR := hide' (show (cs.take (k + 1)).map (shRow l) = (cs.take k).map (shRow l) ++ [c :: L] by rw [HTK.out, List.map_append]; unfold shRow; simp [hs])
            have M6' := hide' ((M5'.out.keep hbw.out).keep ((Below.refl _ _).up (.cells #[.int .i64 c] 3)))
            have hat6' := hat6.keep (hbw.out.up (.cells #[.int .i64 c] 3))
            have O1 := hide' (own_one wr (.int .i64 c) 3 wr.heap.size (Nat.le_refl _))
            have hlsn : ((cs.take k).map (shRow l)).length = k := by rw [List.length_map, List.length_take]; omega
            have hsz := hbw.out.size
            have hLL2 : L.length ≤ 1000 := by omega
            have HLO := hide' B5.out.size
            generalize hls : (cs.take k).map (shRow l) = ls at *
            clear hfc huo hat6 HXK hs
            cases A6 with
            | none =>
              have hL0 : L = [] := by
                obtain ⟨b', off', h1, -⟩ := hat6'
                by_cases hL : L = []
                · exact hL
                · cases h1 hL
              subst hL0
              go_wp2_with (first
                | (at_lookup; refine mv_look _ rfl _ _ 57 rfl 24 Try.underlying57 _ (zeroInts _) M n f rfl M6'.out c hwc rfl _ hu ?_)
                | (at_builtin; refine wpList_append_none rfl _ _ 24 rfl 3 i0 Try.underlying24 hi wr.heap.size 1 _ 1 cap6 [iv c] rfl O1.out rfl ?_; rintro v6 rfl)
                | (at_builtin; refine wpList_append_own_at _ rfl _ _ 34 rfl w5.heap.size 24 i1 (.slice none 0 0) 1 24 Try.underlying34 hj hy0 hy1 hy2 rfl (by decide) _ _ _ rfl ((hlay.out.keep ((Below.refl _ _).up _)).top.alloc _) ⟨wr.heap.size + 1, 0, none⟩ 1 1 [.slice (some ⟨wr.heap.size, 0, none⟩) 1 1] rfl rfl ?c1 ?c2 ?c3 ?c4 ?c5 ?_)
                | go_in)
              case c1 =>
                intro j u hj
                match j, hj with
                | 0, hj => simp at hj; subst hj; simp [Addr.add]
              case c2 => intro u hu; simp at hu; subst hu; rfl
              case c3 => unfold maxLen; omega
              case c4 => omega
              case c5 => simp; omega
              intro v7 w7 hown7 hg7 _ _
              have R7 := hide' (hlay.out.row2 (L := []) hsz O1.out (fun b hb' => ((Below.refl _ wr).up (.cells #[.int .i64 c] 3)).block b hb') (by rw [hlsn]; exact hown7) hg7)
              have Q7 := hide' (Below.grown ((hbw.out.up (.cells #[.int .i64 c] 3)).up (.cells #[.slice (some ⟨wr.heap.size, 0, none⟩) 1 1] 24)) hg7 (by simp; omega) (own_base' hlay.out.top))
              go_wp2_with fail
              go_roundw
              case rel => exact ⟨k + 1, _, by omega, by go_num, Q7.out, by rw [HSR.out]; exact R7.out⟩
              case measure => simp [intOf]; omega
            | some ad =>
              have HNW := hide' (lat_news hat6')
              have H6L := hide' (fun (w6 : World) (G6 : (wr.alloc (.cells #[.int .i64 c] 3)).grownBy w6 (some wr.heap.size)) (b : Nat) (hb' : b < wr.heap.size) => (G6.block b (by simp; omega) (by intro e; have := Option.some.inj e; omega)).trans (((Below.refl _ wr).up (.cells #[.int .i64 c] 3)).block b hb'))
              go_wp2_with (first
                | (at_lookup; refine mv_look _ rfl _ _ 57 rfl 24 Try.underlying57 _ (zeroInts _) M n f rfl M6'.out c hwc rfl _ hu ?_)
                | (at_builtin; have _t := O1; refine wpList_append_own_at _ rfl _ _ 24 rfl wr.heap.size 3 i0 (.int .i64 0) 1 8 Try.underlying24 hi hz0 hz1 hz2 rfl (by decide) _ _ _ rfl O1.out ad L.length cap6 (L.map iv) rfl (by simp) HNW.out (iv_ones L) (by unfold maxLen; omega) (by omega) (by simp) ?_; intro v6 w6 hown6 hg6 hnil6 hblk6; have O6 := hide' hown6; have G6 := hide' hg6; obtain ⟨A8, cap8, rfl⟩ := own_shape hown6; have B6 := hide' (Below.grown ((Below.refl wr.heap.size wr).up (.cells #[.int .i64 c] 3)) hg6 (by simp) (fun j hj' => by cases hj'; exact Nat.le_refl _)); have L6 := hide' (hlay.out.keep B6.out); clear hown6 hg6 hnil6 hblk6 O1 _t)
                | (at_builtin; have _t2 := O6; refine wpList_append_own_at _ rfl _ _ 34 rfl w5.heap.size 24 i1 (.slice none 0 0) 1 24 Try.underlying34 hj hy0 hy1 hy2 rfl (by decide) _ _ _ rfl (L6.out.top.alloc _) ⟨w6.heap.size, 0, none⟩ 1 1 [.slice A8 (1 + L.length) cap8] rfl rfl ?c1 ?c2 ?c3 ?c4 ?c5 ?_)
                | go_in)
              case c2 => rfl
              case c3 => unfold maxLen; omega
              case c4 => omega
              case c5 => have := B6.out.size; simp; omega
              intro v7 w7 hown7 hg7 _ _
              have R7 := hide' (hlay.out.row2 (L := L) hsz O6.out (H6L.out _ G6.out) (by rw [hlsn]; exact hown7) hg7)
              have Q7 := hide' (Below.grown ((hbw.out.trans (B6.out.mono hsz)).up (.cells #[.slice A8 (1 + L.length) cap8] 24)) hg7 (by have := B6.out.size; simp; omega) (own_base' hlay.out.top))
              go_wp2_with fail
              go_roundw
              case rel => exact ⟨k + 1, _, by omega, by go_num, Q7.out, by rw [HSR.out]; exact R7.out⟩
              case measure => simp [intOf]; omega
        · have hke' : k = cs.length := by omega
          subst hke'
          have HD := hide' (show LayM wr w5.heap.size _ rvs (cs.map (shRow l)) by have := hlay.out; rwa [List.take_length] at this)
          have HB' := hide' (B5.out.trans (hbw.out.mono B5.out.size))
          go_wp2_with fail
          go_ret2
          exact ⟨_, rvs, rfl, HB'.out, by rw [hcs0]; exact HD.out.less B5.out.size⟩
end Go.Proofs.Ytmflbibogkebmaa
