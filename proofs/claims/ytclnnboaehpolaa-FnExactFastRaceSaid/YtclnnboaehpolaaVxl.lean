/- spec.FastRace. spec.FastRace at any trace. -/
import Derived.Test.YtclnnboaehpolaaVxj
import Derived.Test.YtclnnboaehpolaaVte
import Derived.Deep.DeepCutAuto
import Derived.BigQuiet
import Derived.BigRegion
namespace Go.Proofs.Ytclnnboaehpolaa
open Go.RowKit Go.Maps
open Rd Fl

theorem l7cInfo : ∃ i, Try.prog.info? 40 = some i ∧ i.zero = some (.agg #[.int .i64 0, .int .i64 0, .int .i64 0, .slice none 0 0]) ∧ i.size = 4 ∧ i.bytes = 48 := by
  have h1 : (Try.prog.info? 40).map (·.size) = some 4 := by kernel_rfl
  have h2 : (Try.prog.info? 40).map (·.bytes) = some 48 := by kernel_rfl
  have h3 : (Try.prog.info? 40).bind (·.zero) = some (.agg #[.int .i64 0, .int .i64 0, .int .i64 0, .slice none 0 0]) := by kernel_rfl
  cases hi : Try.prog.info? 40 with
  | none => rw [hi] at h1; cases h1
  | some i => exact ⟨i, rfl, by rw [hi] at h3; simpa using h3, by rw [hi] at h1; simpa using h1, by rw [hi] at h2; simpa using h2⟩
theorem below_draw1 {B : Nat} {a w : World} (h : Below B a w) (n : Nat) : Below B a (w.drewN n) := h.trans ⟨rfl, rfl, rfl, Nat.le_refl _, fun _ _ => rfl⟩
theorem cell_at0 {t : List EvD} {lo : Nat} {wr : World} {k B cap : Nat} {M : Int → Nat} {l : List Int} (h : wr.ownsRow lo 40 4 (.slice (some ⟨B, 0, none⟩) l.length cap) l.length (cellsR t k M l)) {i : Nat} {c : Int} (hi : l[i]? = some c) :
    CellAt wr B (i * 4) c (stTo t k c).1 (stTo t k c).2 (.slice (some ⟨M c, 0, none⟩) 5 5) := by
  have hlt : i < l.length := (List.getElem?_eq_some_iff.1 hi).1
  have g := fun j (hj : j < 4) => (h.cellAt (i * 4 + j) (by omega)).trans (cellsR_get t k M l i j c hi hj)
  exact ⟨g 0 (by omega), g 1 (by omega), g 2 (by omega), g 3 (by omega)⟩
theorem fastB_eq2 (t : List EvD) (k : Nat) (x : EvD) (h : evA t k = x) : fastB t k = (decide ((stTo t k x.ob).2 > ckI t k (stTo t k x.ob).1) || (!(x.kd == 2) && (decide (ldTo t k x.ob 0 > ckI t k 0) || (decide (ldTo t k x.ob 1 > ckI t k 1) || (decide (ldTo t k x.ob 2 > ckI t k 2) || (decide (ldTo t k x.ob 3 > ckI t k 3) || decide (ldTo t k x.ob 4 > ckI t k 4))))))) := by subst h; rfl
/-- l7Find at the rows of the cells met -/
theorem l7find_met {t : List EvD} {k lo cap : Nat} {A : Option Addr} {M : Int → Nat} {wr : World} (ho1 : wr.ownsRow lo 40 4 (.slice A (metTo t k).length cap) (metTo t k).length (cellsR t k M (metTo t k)))
    (hl : (metTo t k).length ≤ k) (hk : k ≤ 200) (wq : World) (hq : Below wr.heap.size wr wq) (x : Int) :
    Calls Try.prog 12 #[.slice A (metTo t k).length cap, .int .i64 x] wq fun e w' => (∃ j : Int, e = .returned (.int .i64 j) ∧ ((x ∉ metTo t k ∧ j = -1) ∨ ∃ i : Nat, (metTo t k)[i]? = some x ∧ j = (i : Int))) ∧ Below wq.heap.size wq w' := by
  obtain ⟨B, hB⟩ : ∃ B, 0 < (metTo t k).length → A = some ⟨B, 0, none⟩ := by
    rcases ho1.2 with ⟨e, h0⟩ | ⟨g, c, cur, e, -⟩
    · exact ⟨0, fun h => by omega⟩
    · injection e with e1 e2 e3; exact ⟨g, fun _ => e1⟩
  refine (l7find_any A (metTo t k).length cap (by omega) (fun i => ((metTo t k)[i]?).getD 0) (fun i => (stTo t k (((metTo t k)[i]?).getD 0)).1) (fun i => (stTo t k (((metTo t k)[i]?).getD 0)).2) (fun i => M (((metTo t k)[i]?).getD 0)) (fun _ => 0) (fun _ => 5) B 0 x wq hB (fun i hi => ?_)).mono ?_
  · have hA := hB (by omega)
    subst hA
    have hc := List.getElem?_eq_getElem hi
    have e : ((metTo t k)[i]?).getD 0 = (metTo t k)[i] := by rw [hc]; rfl
    simp only [e]
    rw [Nat.zero_add]
    exact (cell_at0 ho1 hc).keep hq
  · rintro e w' ⟨rfl, hb⟩
    refine ⟨⟨_, rfl, ?_⟩, hb⟩
    have hcc : ∀ i, (h : i < (metTo t k).length) → (fun i => ((metTo t k)[i]?).getD 0) i = (metTo t k)[i] := fun i h => by simp only [List.getElem?_eq_getElem h]; rfl
    by_cases hm : x ∈ metTo t k
    · obtain ⟨i, hi, hx⟩ := List.getElem_of_mem hm
      exact .inr ⟨i, by rw [List.getElem?_eq_getElem hi, hx], met_row hcc hi hx⟩
    · exact .inl ⟨hm, met_rowno hcc hm⟩

theorem made5 (w : World) {base : Nat} (hb : base ≤ w.heap.size) : (w.alloc (.cells (madeCells #[.int .i64 0] 5) 3)).ownsRow base 3 1 (.slice (some ⟨w.heap.size, 0, none⟩) 5 5) 5 [iv 0, iv 0, iv 0, iv 0, iv 0] := by
  have h := World.ownsRow_lit (base := base) (e := 3) (size := 1) w (madeCells #[.int .i64 0] 5) 5 hb (by decide) (size_madeCells _ _)
  have e : (madeCells #[(.int .i64 0 : Value)] 5).toList = [iv 0, iv 0, iv 0, iv 0, iv 0] := toList_madeCells_one _ 5
  rwa [e] at h
theorem loads_get {t : List EvD} {w wr : World} {k B : Nat} {c : Int} (h : wr.ownsRow w.heap.size 3 1 (.slice (some ⟨B, 0, none⟩) 5 5) 5 (loadsR t k c)) : ∀ j : Nat, j < 5 → wr.cell? ⟨B, j, none⟩ = some (.int .i64 (ldTo t k c (j : Int))) := by
  intro j hj
  rw [h.cellAt j (by omega)]
  match j, hj with
  | 0, _ => rfl
  | 1, _ => rfl
  | 2, _ => rfl
  | 3, _ => rfl
  | 4, _ => rfl
/-- the way of a cell that was not met: what holds behind the append -/
theorem add_met {t : List EvD} {w wr w3 W w' : World} {k : Nat} {AV : Option Addr} {cv : Nat} {v' : Value} {M : Int → Nat} {l : List Int} {x : Int} {R : Array Value} {T : TypeId}
    (HRB : Below w.heap.size w wr) (HO1 : wr.ownsRow w.heap.size 40 4 (.slice AV l.length cv) l.length (cellsR t k M l))
    (HO2 : ∀ c, c ∈ l → wr.ownsRow w.heap.size 3 1 (.slice (some ⟨M c, 0, none⟩) 5 5) 5 (loadsR t k c) ∧ (Value.slice AV l.length cv).ownBlock ≠ some (M c)) (HO3 : ∀ c c', c ∈ l → c' ∈ l → c ≠ c' → M c ≠ M c')
    (Z3 : Below wr.heap.size wr w3) (hlt : wr.heap.size < w3.heap.size) (hx : x ∉ l) (hn : stTo t k x = (0, 0) ∧ ∀ i, ldTo t k x i = 0) (hW : W = ((w3.alloc (.cells (madeCells #[.int .i64 0] 5) 3)).alloc (.cells R T)).drew)
    (hown : w'.ownsRow w.heap.size 40 4 v' (l.length + 1) (cellsR t k M l ++ [iv x, iv 0, iv 0, .slice (some ⟨w3.heap.size, 0, none⟩) 5 5])) (hgrow : W.grownBy w' (Value.slice AV l.length cv).ownBlock)
    (hblk : v'.ownBlock = (Value.slice AV l.length cv).ownBlock ∨ v'.ownBlock = some W.heap.size) {a0 a1 a2 a3 a4 : Int} (HE : EvBox w3 wr.heap.size a0 a1 a2 a3 a4) :
    FsR t w w' k (l ++ [x]) v' ∧ EvBox w' wr.heap.size a0 a1 a2 a3 a4 ∧ wr.heap.size < w'.heap.size := by
  have B3 : Below w3.heap.size w3 W := by rw [hW]; exact (((Below.refl w3.heap.size w3).up _).up _).trans (Below.refl _ _).drew
  have BW : Below wr.heap.size wr W := Z3.trans (B3.mono Z3.size)
  have hsz : w3.heap.size ≤ W.heap.size := B3.size
  have hL : W.ownsRow w.heap.size 3 1 (.slice (some ⟨w3.heap.size, 0, none⟩) 5 5) 5 [iv 0, iv 0, iv 0, iv 0, iv 0] := by
    rw [hW]
    exact own_keep (made5 w3 (by have := HRB.size; have := Z3.size; omega)) (((Below.refl _ _).up _).trans (Below.refl _ _).drew)
  have hne : ∀ b, wr.heap.size ≤ b → (Value.slice AV l.length cv).ownBlock ≠ some b := fun b hb e => by have := (HO1.lt b e).2; omega
  refine ⟨FsR.add (HRB.trans (BW.mono HRB.size)) (own_keep HO1 BW) (fun c hc => ⟨own_keep (HO2 c hc).1 BW, (HO2 c hc).2⟩) HO3 hx hn.1 hn.2 hL (fun c hc e => ?_) (hne _ (by omega)) hown hgrow ?_, ?_, ?_⟩
  · have := ((HO2 c hc).1.lt (M c) rfl).2; omega
  · rcases hblk with e | e
    · exact .inl e
    · exact .inr ⟨_, Nat.le_refl _, e⟩
  · have HEW : EvBox W wr.heap.size a0 a1 a2 a3 a4 := HE.keep B3
    obtain ⟨e0, e1, e2, e3, e4⟩ := HEW
    have hr := fun e => hne wr.heap.size (Nat.le_refl _) (Eq.symm e)
    exact ⟨hgrow.cell e0 hr, hgrow.cell e1 hr, hgrow.cell e2 hr, hgrow.cell e3 hr, hgrow.cell e4 hr⟩
  · have := hgrow.size; omega

set_option maxRecDepth 20000 in
set_option maxHeartbeats 8000000 in
theorem sfast_yes (A : Option Addr) (l : List EvD) (cap : Nat) (hg : goodTr l = true) (hne : l ≠ []) (w : World) (hA : EvsAt w A l) :
    Calls Try.prog 5 #[.slice A l.length cap] w fun e w' => e = .returned (.tuple #[.int .i64 (fastN l).1, .int .i64 (fastN l).2.1, .bool (fastN l).2.2]) ∧ Below w.heap.size w w' := by
  have h200 := good_len hg
  obtain ⟨i1, hi1, hy0, hy1, hy2⟩ := l7cInfo
  have hn' : (l.length : Int) ≤ 200 := by omega
  have hpos : 0 < l.length := List.length_pos_iff.2 hne
  have HG := hide' (l6trace_any A l cap (by omega) w hA)
  rw [hg] at HG
  have HC := hide' (fun w1 (hb : Below w.heap.size w w1) => l6clocks_any A l cap hg w1 (hA.keep hb))
  have HTC := hide' (fun e w => l7touch_any e w)
  have HEA := hide' (fun i (hi : i < l.length) => evA_get (l := l) hi)
  have HGG := hide' hg
  obtain ⟨b, off, hA1, hc⟩ := hA
  have hA2 := hA1 hne
  subst hA2
  have HCE := hide' (fun i (hi : i < l.length) => hc i l[i] (List.getElem?_eq_getElem hi))
  clear hc hA1 hne hg
  go_enter Try.func5, Try.ntmps5
  go_upto_region 4 with (first | (go_at_call 9; refine HG.out.mono ?_; rintro e w0 ⟨rfl, hb0⟩; have B0 := hide' hb0) | (go_at_call 10; refine (HC.out _ B0.out).mono ?_; rintro e w1 ⟨⟨v, rfl, hr⟩, hb1⟩; obtain ⟨A1, g, cap1, M, O, C, hv, c2, c3, -⟩ := hr.c; rw [clksTo_len] at hv; subst hv))
  have hAG : A1 = some ⟨g, 0, none⟩ := (c2 (by rw [clksTo_len]; omega)).1
  subst hAG
  have CK := hide' (fun i (hi : i < l.length) => by
    have h := c3 i (by rw [clksTo_len]; exact hi)
    simp only [clksTo_get] at h
    exact (show w1.cell? ⟨g, i, none⟩ = some (.slice (some ⟨M i, O i, none⟩) 5 (C i)) ∧ ∀ t : Nat, t < 5 → w1.cell? ⟨M i, O i + t, none⟩ = some (.int .i64 (ckI l i (t : Int))) from ⟨by have := h.1; rwa [clock_len] at this, fun t ht => h.2.2.2.2.2 t _ (clock_get l i t ht)⟩))
  have B1 := hide' (B0.out.trans (hb1.mono B0.out.size))
  have EV1 := hide' (fun i (hi : i < l.length) => range_keep B1.out (HCE.out i hi))
  clear c2 c3 hr hb1 HC HG HCE B0
  go_wp2_with fail
  go_loopw [6, 20] (fun v x wr => ∃ k : Nat, k ≤ l.length ∧ x = .int .i64 k ∧ Hid (FsR l w1 wr k (metTo l k) v) ∧ Hid (∀ j, j < k → fstB l j = false)) (fun _ x _ => l.length - (intOf x).toNat)
  case atStart => exact ⟨0, Nat.zero_le _, rfl, FsR.start (Below.refl _ _), fun j hj => absurd hj (by omega)⟩
  case round =>
    obtain ⟨k, hk, rfl, hr, hlow⟩ := hrel
    by_cases hlt : k < l.length
    · have hk2 : (k : Int) < l.length := by omega
      have hev := EV1.out k hlt
      obtain ⟨c0, c1, c2, c3, c4⟩ := ev_range (range_keep hr.out.b hev)
      have HGE := hide' (good_ev HGG.out hlt)
      have HTK := hide' (fun w => HTC.out l[k] w)
      have HEK := HEA.out k hlt
      have hk200 : k ≤ 200 := by omega
      have HNO := hide' (fun h => hr.out.skip h)
      have HMN := hide' (fun h => met_no (t := l) (k := k) h)
      have HFB := hide' (show fstB l k = (tchB (evA l k) && fastB l k) from rfl)
      have HAT := hide' (fun h => fastN_at HGG.out hlt h hlow.out)
      have HMO := hide' (fun h => met_ob (t := l) (k := k) h)
      have HNEW := hide' (fun h => met_new (t := l) (k := k) h)
      have HSTH := hide' (stTo_th HGG.out k (by omega))
      have HOLD := hide' (fun h => met_old (t := l) (k := k) h)
      have HFR := hide' (fastB_eq2 l k _ HEK)
      have HLOAD := hide' (fun (wz : World) (ll : List Int) (v : Value) (M : Int → Nat) hb h1 h2 h3 hk x hx hm th hth h5 => FsR.load (t := l) (w := w1) (wr := wz) (k := k) (l := ll) (v := v) (M := M) hb h1 h2 h3 hk (x := x) hx hm (th := th) hth h5)
      have HSTORE := hide' (fun (wz : World) (B cap : Nat) (M : Int → Nat) hb h1 h2 h3 hk x hx i hi th hth L hL hLn hBL => FsR.store (t := l) (w := w1) (wr := wz) (k := k) (B := B) (cap := cap) (l := metTo l (k + 1)) (M := M) hb h1 h2 h3 (met_nodup l (k + 1)) hk (x := x) hx (i := i) hi (th := th) hth (L := L) hL hLn hBL)
      rw [HEK] at HNO HFB HAT HMN HMO HNEW HOLD HLOAD HSTORE
      obtain ⟨kg, kf⟩ := CK.out k hlt
      have kg := keep_cell hr.out.b kg
      generalize l[k] = x at c0 c1 c2 c3 c4 HGE HTK HNO HFB HAT HMN HMO HNEW HOLD HFR HLOAD HSTORE
      clear hev HEK
      obtain ⟨r0, r1, r2, r3, r4⟩ := x
      have E0 := hide' (evbox_new wr r0 r1 r2 r3 r4)
      have U0 := hide' ((Below.refl wr.heap.size wr).up (.cells #[.int .i64 r0, .int .i64 r1, .int .i64 r2, .int .i64 r3, .int .i64 r4] 35))
      unfold evV at HTK
      simp only at c0 c1 c2 c3 c4 HTK HAT HMO HNEW HOLD HFR HLOAD HSTORE
      obtain ⟨q0, q1, q2, q3, q4⟩ := E0.out
      cases ht : tchB ⟨r0, r1, r2, r3, r4⟩
      · have HE := hide' (HNO.out ht)
        have HM := hide' (HMN.out ht)
        have HF := hide' (show fstB l k = false by rw [HFB.out, ht]; rfl)
        rw [ht] at HTK
        clear HNO HFB HAT HMN HMO HNEW HOLD HFR HLOAD HSTORE
        go_wp2_with (go_at_call 11; refine (HTK.out _).mono ?_; rintro e w2 ⟨rfl, hb2⟩)
        go_roundw
        case rel => exact ⟨k + 1, by omega, by go_num, by rw [HM.out]; exact (HE.out.keep U0.out).keep hb2, fun j hj => by
          by_cases e : j = k
          · rw [e]; exact HF.out
          · exact hlow.out j (by omega)⟩
        case measure => simp [intOf]; omega
      · have hob := tch_ob2 HGE.out ht
        have hall := goodev_all HGE.out
        simp only at hob hall
        have hwx : wfI r2 := wfI_small (by omega) (by omega)
        obtain ⟨th, hth⟩ : ∃ th : Nat, r0 = th := ⟨r0.toNat, by omega⟩
        have hth5 : th < 5 := by omega
        have hkd : r1 = 2 ∨ r1 = 3 := by
          unfold tchB at ht
          rw [Bool.or_eq_true, beq_iff_eq, beq_iff_eq] at ht
          exact ht
        have HTH := hide' hth
        have HKD := hide' hkd
        have HOB := hide' hob
        have HT := hide' ht
        rw [ht] at HTK
        have HMO := hide' (HMO.out ht)
        have HNEW := hide' (HNEW.out ht)
        have HLN := hide' (met_len l k)
        clear hob hall hth hkd ht HNO HMN
        obtain ⟨Mr, ho1, ho2, ho3⟩ := hr.out.m
        have HO1 := hide' ho1
        have HO2 := hide' ho2
        have HO3 := hide' ho3
        obtain ⟨AV, cv, hv⟩ := own_shape ho1
        subst hv
        have HRB := hide' hr.out.b
        have HR := hide' hr.out
        have rowOk : ∀ i, i < (metTo l k).length → ∃ c, (metTo l k)[i]? = some c := fun i hi => ⟨_, List.getElem?_eq_getElem hi⟩
        clear rowOk ho1 ho2 ho3
        have HFIND := hide' (fun (wq : World) (hq : Below wr.heap.size wr wq) => l7find_met (ho1 := HO1.out) HLN.out hk200 wq hq r2)
        go_upto_if 33 with (first | (go_at_call 11; refine (HTK.out _).mono ?_; rintro e w2 ⟨rfl, hb2⟩; have Z2 := hide' (U0.out.trans (hb2.mono U0.out.size)); obtain ⟨q0, q1, q2, q3, q4⟩ := E0.out.keep hb2) | (go_at_call 12; refine (HFIND.out _ Z2.out).mono ?_; rintro e w3 ⟨⟨jx, rfl, hj⟩, hb3⟩; have Z3 := hide' (Z2.out.trans (hb3.mono Z2.out.size)); have E3 := hide' ((E0.out.keep hb2).keep hb3)))
        have HJ := hide' hj
        clear hj hb2 hb3
        obtain ⟨q0, q1, q2, q3, q4⟩ := E3.out
        go_cut [6, 9] (fun v j wx => ∃ i : Nat, j = .int .i64 (i : Int) ∧ i < 200 ∧ Hid ((metTo l (k + 1))[i]? = some r2) ∧ Hid (FsR l w1 wx k (metTo l (k + 1)) v) ∧ Hid (EvBox wx wr.heap.size r0 r1 r2 r3 r4) ∧ Hid (wr.heap.size < wx.heap.size))
        case first =>
          have HN := hide' E3.out.lt
          rcases HJ.out with ⟨hno, rfl⟩ | ⟨i, hi, rfl⟩
          · have HX := hide' hno
            clear hno
            have hmk5 : ∀ w, (Instr.makeSlice 38 (.int .i64 5) (.int .i64 5)).run Try.prog w = .ok (.slice (some ⟨w.heap.size, 0, none⟩) 5 5) (w.alloc (.cells (madeCells #[.int .i64 0] 5) 3)) := fun w => make_ints 5 (by omega) w
            have E3a := hide' (E3.out.keep ((Below.refl w3.heap.size w3).up (.cells (madeCells #[.int .i64 0] 5) 3)))
            obtain ⟨-, -, q2a, -, -⟩ := E3a.out
            have HL200 := hide' (show (metTo l k).length ≤ 200 from Nat.le_trans HLN.out hk200)
            have HADD := hide' (fun (W w' : World) (v' : Value) => add_met (t := l) (w := w1) (wr := wr) (w3 := w3) (W := W) (w' := w') (k := k) (v' := v') (R := #[.int .i64 r2, .int .i64 0, .int .i64 0, .slice (some ⟨w3.heap.size, 0, none⟩) 5 5]) (T := 40) HRB.out HO1.out HO2.out HO3.out Z3.out HN.out HX.out (met_none HX.out))
            have HB3 := hide' (fun A B => Z3.out.trans (((((Below.refl w3.heap.size w3).up A).up B).trans (Below.refl _ _).drew).mono Z3.out.size))
            have hw13 : w1.heap.size ≤ w3.heap.size := Nat.le_trans HRB.out.size Z3.out.size
            go_wp2_with fail
            go_region_law (refine step_append_own rfl (.tmp 36) (.tmp 41) 33 rfl w1.heap.size 40 i1 (.agg #[.int .i64 0, .int .i64 0, .int .i64 0, .slice none 0 0]) 4 48 Try.underlying33 hi1 hy0 hy1 hy2 rfl (by decide) (.slice AV (metTo l k).length cv) (metTo l k).length (cellsR l k Mr (metTo l k)) (by simp [Act.eval]) (own_keep HO1.out (HB3.out _ _)) ⟨w3.heap.size + 1, 0, none⟩ 1 1 [iv r2, iv 0, iv 0, .slice (some ⟨w3.heap.size, 0, none⟩) 5 5] (by simp [Act.eval]) rfl (by intro t u hu; match t, hu with | 0, hu => (simp at hu; subst hu; simp [Addr.add, iv]) | 1, hu => (simp at hu; subst hu; simp [Addr.add, iv]) | 2, hu => (simp at hu; subst hu; simp [Addr.add, iv]) | 3, hu => (simp at hu; subst hu; simp [Addr.add])) (by intro u hu; simp at hu; rcases hu with rfl | rfl | rfl <;> rfl) (by have := HL200.out; unfold maxLen; omega) (by have := HL200.out; omega) (by simp; omega) ?_; intro v' w' hown hgrow hblk; have HA := hide' (HADD.out _ w' v' rfl hown hgrow hblk E3.out); clear hown hgrow hblk)
            all_goals
              go_wp2_with fail
              go_meet
              have e := HNEW.out HX.out
              exact ⟨(metTo l k).length, rfl, by have := HLN.out; omega, by rw [e, List.getElem?_append_right (Nat.le_refl _), Nat.sub_self]; rfl, by rw [e]; exact HA.out.1, HA.out.2.1, HA.out.2.2⟩
          · have HI := hide' hi
            have HI2 := hide' (show i < 200 from by have := (List.getElem?_eq_some_iff.1 hi).1; have := HLN.out; omega)
            clear hi
            have hdi : decide ((i : Int) < 0) = false := decide_eq_false (by omega)
            go_wp2_with fail
            go_meet
            have e := HOLD.out (List.mem_of_getElem? HI.out)
            exact ⟨i, rfl, HI2.out, by rw [e]; exact HI.out, by rw [e]; exact HR.out.keep Z3.out, E3.out, HN.out⟩
        case rest =>
          obtain ⟨i, rfl, hi200, HI, R4, E4, HN⟩ := hcut
          clear HO1 HO2 HO3 HFIND HR E3 Z3 Z2
          obtain ⟨M4, o1, o2, o3⟩ := R4.out.m
          obtain ⟨AV4, cv4, hv⟩ := own_shape o1
          subst hv
          have hil := (List.getElem?_eq_some_iff.1 HI.out).1
          have hilz : (i : Int) < (metTo l (k + 1)).length := by omega
          obtain ⟨B4, hB4⟩ : ∃ B, AV4 = some ⟨B, 0, none⟩ := by
            rcases o1.2 with ⟨e, h0⟩ | ⟨g, c, cur, e, -⟩
            · omega
            · injection e with e1 e2 e3; exact ⟨g, e1⟩
          subst hB4
          obtain ⟨d0, d1, d2, d3⟩ := cell_at0 o1 HI.out
          have HO1 := hide' o1
          have HO2 := hide' o2
          have HO3 := hide' o3
          clear o1 o2 o3 q0 q1 q2 q3 q4 kg kf
          obtain ⟨q0, q1, q2, q3, q4⟩ := E4.out
          obtain ⟨kg, kf⟩ := CK.out k hlt
          have kg := keep_cell R4.out.b kg
          obtain ⟨st, hst⟩ : ∃ st : Nat, (stTo l k r2).1 = st := ⟨(stTo l k r2).1.toNat, by have := HSTH.out r2; omega⟩
          have hst5 : st < 5 := by have := HSTH.out r2; omega
          rw [hst] at d1 HFR
          have kst := keep_cell R4.out.b (kf st hst5)
          have HST := hide' hst
          clear hst
          have HLG := hide' (loads_get (HO2.out r2 (List.mem_of_getElem? HI.out)).1)
          have HKF := hide' (fun t (ht : t < 5) => keep_cell R4.out.b (kf t ht))
          clear kf kst
          have kst := HKF.out st hst5
          go_wp2_with fail
          go_quiet (fail)
          cases hgt : decide ((stTo l k r2).2 > ckI l k (st : Int))
          · rcases HKD.out with rfl | rfl
            · have HF := hide' (show fstB l k = false by rw [HFB.out, HT.out, HFR.out, hgt]; rfl)
              obtain ⟨wo, rfl⟩ : ∃ wo, wo = wr := ⟨_, rfl⟩
              have e0 := HTH.out
              subst e0
              have kth := HKF.out th hth5
              have HMI := hide' (List.mem_of_getElem? HI.out)
              have eth := HLG.out th hth5
              have fth := (HO2.out r2 HMI.out).1.frozenAt th
              have hth5i : (th : Int) < 5 := by omega
              have HEND := hide' (HLOAD.out (wc.drewN nq).drew (metTo l (k + 1)) _ M4 (R4.out.b.trans (((below_draw1 (Below.refl _ wc) nq).trans (Below.refl _ _).drew).mono R4.out.b.size)) (own_keep HO1.out ((below_draw1 (Below.refl _ wc) nq).trans (Below.refl _ _).drew)) (fun c hc => ⟨own_keep (HO2.out c hc).1 ((below_draw1 (Below.refl _ wc) nq).trans (Below.refl _ _).drew), (HO2.out c hc).2⟩) HO3.out rfl r2 rfl HMI.out th rfl hth5)
              go_wp2_with fail
              go_loopw [70] (fun x wx => ∃ i2 : Nat, i2 ≤ 5 ∧ x = .int .i64 (i2 : Int) ∧ wx = wc.drewN nq) (fun x _ => 5 - (intOf x).toNat)
              case atStart => exact ⟨0, by omega, rfl, rfl⟩
              case round =>
                obtain ⟨i2, hi2, rfl, rfl⟩ := hrel
                by_cases h5 : i2 < 5
                · have e1 := HLG.out i2 h5
                  go_wp2_with fail
                  go_roundw
                  case rel => exact ⟨i2 + 1, by omega, by go_num, trivial⟩
                  case measure => simp [intOf]; omega
                · have h5 : i2 = 5 := by omega
                  subst h5
                  clear hi2
                  go_wp2_with fail
                  go_region
                  go_wp2_with fail
                  go_roundw
                  case rel => exact ⟨k + 1, by omega, by go_num, HEND.out, fun j hj => by
                    by_cases e : j = k
                    · rw [e]; exact HF.out
                    · exact hlow.out j (by omega)⟩
                  case measure => simp [intOf]; omega
            · obtain ⟨wo, rfl⟩ : ∃ wo, wo = wr := ⟨_, rfl⟩
              have e0 := HTH.out
              subst e0
              have hi4 : i * 4 + 3 < (metTo l (k + 1)).length * 4 := by omega
              have kth := HKF.out th hth5
              have HMI := hide' (List.mem_of_getElem? HI.out)
              have hth5i : (th : Int) < 5 := by omega
              go_wp2_with fail
              go_loopw [70] (fun x wx => ∃ i2 : Nat, i2 ≤ 5 ∧ x = .int .i64 (i2 : Int) ∧ wx = wc.drewN nq ∧ Hid (∀ j : Nat, j < i2 → decide (ldTo l k r2 j > ckI l k j) = false)) (fun x _ => 5 - (intOf x).toNat)
              case atStart => exact ⟨0, by omega, rfl, rfl, fun j hj => absurd hj (by omega)⟩
              case round =>
                obtain ⟨i2, hi2, rfl, rfl, hno⟩ := hrel
                by_cases h5 : i2 < 5
                · have e1 := HLG.out i2 h5
                  have e2 := HKF.out i2 h5
                  cases hg2 : decide (ldTo l k r2 i2 > ckI l k i2)
                  · have HN2 := hide' (show ∀ j : Nat, j < i2 + 1 → decide (ldTo l k r2 j > ckI l k j) = false from fun j hj => by
                      by_cases e : j = i2
                      · rw [e]; exact hg2
                      · exact hno.out j (by omega))
                    go_wp2_with fail
                    go_roundw
                    case rel => exact ⟨i2 + 1, by omega, by go_num, trivial, HN2.out⟩
                    case measure => simp [intOf]; omega
                  · have HF := hide' (show fstB l k = true by
                      rw [HFB.out, HT.out, HFR.out, hgt]
                      have : i2 = 0 ∨ i2 = 1 ∨ i2 = 2 ∨ i2 = 3 ∨ i2 = 4 := by omega
                      rcases this with rfl | rfl | rfl | rfl | rfl <;> simp at hg2 <;> simp [hg2])
                    go_wp2_with fail
                    go_ret3
                    exact ⟨by rw [HAT.out HF.out]; rfl, B1.out.trans ((below_draw1 R4.out.b _).mono B1.out.size)⟩
                · have h5 : i2 = 5 := by omega
                  subst h5
                  clear hi2
                  have HF := hide' (show fstB l k = false by
                    rw [HFB.out, HT.out, HFR.out, hgt]
                    have a0 := hno.out 0 (by omega)
                    have a1 := hno.out 1 (by omega)
                    have a2 := hno.out 2 (by omega)
                    have a3 := hno.out 3 (by omega)
                    have a4 := hno.out 4 (by omega)
                    simp at a0 a1 a2 a3 a4
                    simp [a0, a1, a2, a3, a4])
                  have hmk5 : ∀ w, (Instr.makeSlice 38 (.int .i64 5) (.int .i64 5)).run Try.prog w = .ok (.slice (some ⟨w.heap.size, 0, none⟩) 5 5) (w.alloc (.cells (madeCells #[.int .i64 0] 5) 3)) := fun w => make_ints 5 (by omega) w
                  have BA := hide' ((below_draw1 (Below.refl wc.heap.size wc) (nq + 1)).up (.cells (madeCells #[.int .i64 0] 5) 3))
                  have E4a := hide' ((E4.out.keep (below_draw1 (Below.refl _ wc) (nq + 1))).keep ((Below.refl _ (wc.drewN (nq + 1))).up (.cells (madeCells #[.int .i64 0] 5) 3)))
                  obtain ⟨q0a, q1a, q2a, -, -⟩ := E4a.out
                  have ktha := keep_cell BA.out kth
                  have d0a := keep_cell BA.out d0
                  have d1a := keep_cell BA.out d1
                  have d2a := keep_cell BA.out d2
                  have d3a := keep_cell BA.out d3
                  have g0 := HO1.out.frozenAt (i * 4)
                  have g1 := HO1.out.frozenAt (i * 4 + 1)
                  have g2 := HO1.out.frozenAt (i * 4 + 2)
                  have g3 := HO1.out.frozenAt (i * 4 + 3)
                  have HO1a := hide' (own_keep HO1.out BA.out)
                  have g0a := HO1a.out.frozenAt (i * 4)
                  have g1a := HO1a.out.frozenAt (i * 4 + 1)
                  have g2a := HO1a.out.frozenAt (i * 4 + 2)
                  have g3a := HO1a.out.frozenAt (i * 4 + 3)
                  have BN := hide' ((below_draw1 (Below.refl wc.heap.size wc) (nq + 1)).up (.cells (madeCells #[.int .i64 0] 5) 3))
                  have hwc : w1.heap.size ≤ wc.heap.size := R4.out.b.size
                  have HEND := hide' (HSTORE.out ((wc.drewN (nq + 1)).alloc (.cells (madeCells #[.int .i64 0] 5) 3)) B4 cv4 M4 (R4.out.b.trans (BN.out.mono R4.out.b.size)) HO1a.out (fun c hc => ⟨own_keep (HO2.out c hc).1 BN.out, (HO2.out c hc).2⟩) HO3.out (by trivial) r2 rfl i HI.out th rfl wc.heap.size (made5 (wc.drewN (nq + 1)) hwc) (fun c hc e => by have := ((HO2.out c hc).1.lt (M4 c) rfl).2; omega) (fun e => by have := (HO1.out.lt B4 rfl).2; omega))
                  go_wp2_with fail
                  go_region
                  go_wp2_with fail
                  go_roundw
                  case rel => exact ⟨k + 1, by omega, by go_num, HEND.out, fun j hj => by
                    by_cases e : j = k
                    · rw [e]; exact HF.out
                    · exact hlow.out j (by omega)⟩
                  case measure => simp [intOf]; omega
          · have HF := hide' (show fstB l k = true by rw [HFB.out, HT.out, HFR.out, hgt]; rfl)
            go_wp2_with fail
            go_ret3
            exact ⟨by rw [HAT.out HF.out]; rfl, B1.out.trans ((below_draw1 R4.out.b _).mono B1.out.size)⟩
    · have hke : k = l.length := by omega
      subst hke
      have HE := hide' (fastN_end HGG.out hlow.out)
      have HB := hide' (B1.out.trans (hr.out.b.mono B1.out.size))
      go_wp2_with fail
      go_ret3
      exact ⟨by rw [HE.out]; rfl, HB.out⟩
end Go.Proofs.Ytclnnboaehpolaa
namespace Go.Proofs.Ytclnnboaehpolaa
open Go.RowKit Go.Maps
open Rd Fl

set_option maxRecDepth 20000 in
set_option maxHeartbeats 4000000 in
theorem sfast_any (A : Option Addr) (l : List EvD) (cap : Nat) (hl : l.length ≤ 1048576) (w : World) (hA : EvsAt w A l) :
    Calls Try.prog 5 #[.slice A l.length cap] w fun e w' => e = .returned (.tuple #[.int .i64 (fastN l).1, .int .i64 (fastN l).2.1, .bool (fastN l).2.2]) ∧ Below w.heap.size w w' := by
  have HG := hide' (l6trace_any A l cap hl w hA)
  cases hg : goodTr l
  · have HE := hide' (fastN_no hg)
    rw [hg] at HG
    clear hg hA
    go_enter Try.func5, Try.ntmps5
    go_wp2_with (go_at_call 9; refine HG.out.mono ?_; rintro e w1 ⟨rfl, hb1⟩)
    go_ret3
    exact ⟨by rw [HE.out]; rfl, hb1⟩
  · by_cases hne : l = []
    · subst hne
      have HE := hide' (fastN_end hg (fun j hj => absurd hj (by simp)))
      have HC := hide' (fun w1 (hb : Below w.heap.size w w1) => l6clocks_any A [] cap hg w1 (hA.keep hb))
      rw [hg] at HG
      clear hA
      go_enter Try.func5, Try.ntmps5
      go_wp2_with (first | (go_at_call 9; refine HG.out.mono ?_; rintro e w0 ⟨rfl, hb0⟩; have B0 := hide' hb0) | (go_at_call 10; refine (HC.out _ B0.out).mono ?_; rintro e w1 ⟨⟨v, rfl, hr⟩, hb1⟩))
      have B2 := hide' (B0.out.trans (hb1.mono B0.out.size))
      clear hb1 hr
      go_loopw [6, 20] (fun _ x wr => x = .int .i64 0 ∧ Hid (Below w.heap.size w wr)) (fun _ _ _ => 0)
      case atStart => exact ⟨rfl, B2.out⟩
      case round =>
        obtain ⟨rfl, hb⟩ := hrel
        go_wp2_with fail
        go_ret3
        exact ⟨by rw [HE.out]; rfl, hb.out⟩
    · exact sfast_yes A l cap hg hne w hA
end Go.Proofs.Ytclnnboaehpolaa
