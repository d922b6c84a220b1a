/- impl.ProgText at a good program: contract. -/
import Derived.Test.YtdifamjkbagfcaaDoorProgN
namespace Go.Proofs.YtdifamjkbagfcaaDoor
open Go.RowKit
open Rd Fl

theorem run_three (a b c : Int) (i : Nat) (v : Value) (hv : (i = 0 ∧ v = .int .i64 a) ∨ (i = 1 ∧ v = .int .i64 b) ∨ (i = 2 ∧ v = .int .i64 c)) (w : World) :
    (Instr.index 72 (.agg #[.int .i64 a, .int .i64 b, .int .i64 c]) (.int .i64 (i : Int))).run Tryd.prog w = .ok v w := by
  rcases hv with ⟨rfl, rfl⟩ | ⟨rfl, rfl⟩ | ⟨rfl, rfl⟩ <;> simp [Instr.index, run_underlying Tryd.underlying72, asIntOf, go_sem, part]

theorem blank_size (d : ByteArray) (h : d.size ≤ 3) : ((⟨#[32]⟩ : ByteArray) ++ d).size ≤ 50000 := by
  rw [ByteArray.size_append, show (ByteArray.mk #[32]).size = 1 from rfl]
  omega

def hdI (d1 d2 d3 : ByteArray) (k : Nat) : ByteArray :=
  if k = 0 then ⟨#[112, 114, 111, 103]⟩ else if k = 1 then ⟨#[112, 114, 111, 103]⟩ ++ (⟨#[32]⟩ ++ d1)
  else if k = 2 then (⟨#[112, 114, 111, 103]⟩ ++ (⟨#[32]⟩ ++ d1)) ++ (⟨#[32]⟩ ++ d2)
  else ((⟨#[112, 114, 111, 103]⟩ ++ (⟨#[32]⟩ ++ d1)) ++ (⟨#[32]⟩ ++ d2)) ++ (⟨#[32]⟩ ++ d3)
theorem hdI_size (d1 d2 d3 : ByteArray) (z1 : d1.size ≤ 3) (z2 : d2.size ≤ 3) (z3 : d3.size ≤ 3) (k : Nat) : (hdI d1 d2 d3 k).size ≤ 50 := by
  have a1 : (ByteArray.mk #[112, 114, 111, 103]).size = 4 := rfl
  have a2 : (ByteArray.mk #[32]).size = 1 := rfl
  unfold hdI
  split
  · omega
  · split
    · simp only [ByteArray.size_append]; omega
    · split <;> (simp only [ByteArray.size_append]; omega)
theorem hdI_head (cl lk cd : Int) : hdI (decB cl) (decB lk) (decB cd) 3 ++ lf = headT cl lk cd := by
  have e : (ByteArray.mk #[112, 114, 111, 103, 32]) = ⟨#[112, 114, 111, 103]⟩ ++ ⟨#[32]⟩ := rfl
  unfold hdI headT
  rw [if_neg (by decide), if_neg (by decide), if_neg (by decide), e]
  simp only [ByteArray.append_assoc]

theorem hdI_1 (d1 d2 d3 : ByteArray) : hdI d1 d2 d3 0 ++ (⟨#[32]⟩ ++ d1) = hdI d1 d2 d3 1 := by
  unfold hdI
  rw [if_pos rfl, if_neg (by decide), if_pos rfl]
theorem hdI_2 (d1 d2 d3 : ByteArray) : hdI d1 d2 d3 1 ++ (⟨#[32]⟩ ++ d2) = hdI d1 d2 d3 2 := by
  unfold hdI
  rw [if_neg (by decide), if_pos rfl, if_neg (by decide), if_neg (by decide), if_pos rfl]
theorem hdI_3 (d1 d2 d3 : ByteArray) : hdI d1 d2 d3 2 ++ (⟨#[32]⟩ ++ d3) = hdI d1 d2 d3 3 := by
  unfold hdI
  rw [if_neg (by decide), if_neg (by decide), if_pos rfl, if_neg (by decide), if_neg (by decide), if_neg (by decide)]

set_option maxRecDepth 20000 in
set_option maxHeartbeats 8000000 in
theorem iprog_any (tx : OpD → ByteArray) (cl lk cd : Int) (R : Option Addr) (rs : List (List OpD)) (cap : Nat) (hn : rs.length ≤ 4) (hne : rs ≠ []) (h1 : 0 ≤ cl ∧ cl ≤ 4) (h2 : 0 ≤ lk ∧ lk ≤ 4) (h3 : 0 ≤ cd ∧ cd ≤ 4)
    (hls : ∀ l ∈ rs, l.length ≤ 24) (htx : ∀ l ∈ rs, ∀ o ∈ l, TxAt tx o)
    (hG : ∀ R cap w, RoutsAt w R rs → Forms w → Calls Tryd.prog 37 #[.agg #[.int .i64 cl, .int .i64 lk, .int .i64 cd, .slice R rs.length cap]] w fun e w' => e = .returned (.bool true) ∧ Below w.heap.size w w')
    (w : World) (hR : RoutsAt w R rs) (hE : EnvT w) (hF : Forms w) :
    Calls Tryd.prog 11 #[.agg #[.int .i64 cl, .int .i64 lk, .int .i64 cd, .slice R rs.length cap]] w fun e w' => e = .returned (.tuple #[.string (routL tx (headT cl lk cd) rs), .bool true]) ∧ Below w.heap.size w w' := by
  have HTX := hide' htx
  have HLL := hide' hls
  have HRR := hide' hR
  have HE := hide' hE
  have HF := hide' hF
  have HG := hide' hG
  have z1 := decB_size cl h1.1 (by omega)
  have z2 := decB_size lk h2.1 (by omega)
  have z3 := decB_size cd h3.1 (by omega)
  have H1 := hide' (fun w hE => itoa_tx cl (by omega) (by omega) w (EnvT.pow hE))
  have H2 := hide' (fun w hE => itoa_tx lk (by omega) (by omega) w (EnvT.pow hE))
  have H3 := hide' (fun w hE => itoa_tx cd (by omega) (by omega) w (EnvT.pow hE))
  rw [tx_dec cl h1.1] at H1
  rw [tx_dec lk h2.1] at H2
  rw [tx_dec cd h3.1] at H3
  have HZ : Hid ((headT cl lk cd).size ≤ 100) := headT_size cl lk cd h1 h2 h3
  have HH := hide' (hdI_head cl lk cd)
  have HNE := hide' hne
  have hst := store_f
  have hl' : (rs.length : Int) ≤ 4 := by omega
  generalize headT cl lk cd = HD at HH HZ ⊢
  generalize decB cl = d1 at H1 z1 HH
  generalize decB lk = d2 at H2 z2 HH
  generalize decB cd = d3 at H3 z3 HH
  have i0 : ∀ w, (Instr.index 72 (.agg #[.int .i64 cl, .int .i64 lk, .int .i64 cd]) (.int .i64 0)).run Tryd.prog w = .ok (.int .i64 cl) w := fun w => run_three cl lk cd 0 _ (.inl ⟨rfl, rfl⟩) w
  have i1 : ∀ w, (Instr.index 72 (.agg #[.int .i64 cl, .int .i64 lk, .int .i64 cd]) (.int .i64 1)).run Tryd.prog w = .ok (.int .i64 lk) w := fun w => run_three cl lk cd 1 _ (.inr (.inl ⟨rfl, rfl⟩)) w
  have i2 : ∀ w, (Instr.index 72 (.agg #[.int .i64 cl, .int .i64 lk, .int .i64 cd]) (.int .i64 2)).run Tryd.prog w = .ok (.int .i64 cd) w := fun w => run_three cl lk cd 2 _ (.inr (.inr ⟨rfl, rfl⟩)) w
  have HS := hide' (hdI_size d1 d2 d3 z1 z2 z3)
  clear htx hls h1 h2 h3 hR hE hF hG hne
  go_enter Tryd.func11, Tryd.ntmps11
  go_wp2_with fail
  refine (HG.out _ _ _ (HRR.out.keep ((Below.refl _ w).up _)) (HF.out.below ((Below.refl _ w).up _))).mono ?_
  rintro e w1 ⟨rfl, hb1⟩
  have HW := hide' (((Below.refl _ w).up _).trans (hb1.mono (by simp)))
  have HP := hide' ((pbox_new w cl lk cd R rs.length cap 30).keep hb1)
  have HR1 := hide' (HRR.out.keep HW.out)
  have HE1 := hide' (HE.out.below HW.out)
  have HF1 := hide' (HF.out.below HW.out)
  clear hb1 HRR HE HF HG
  go_wp2_with fail
  refine (write_acc w1.heap.size ⟨#[]⟩ ⟨#[112, 114, 111, 103]⟩ _ (bld_new w1) (by decide) (by decide)).mono ?_
  rintro e w2 ⟨rfl, hbl2, hb2⟩
  have HB2 := hide' (((Below.refl _ w1).up (.cells #[.pointer none, .slice none 0 0] 67)).trans hb2)
  have HL2 : Hid (BldAt w1.heap.size (hdI d1 d2 d3 0) w2) := hbl2
  obtain ⟨p0, p1, p2, p3⟩ := HP.out.keep HB2.out
  clear hb2 hbl2
  go_wp2_with fail
  go_loopw [24] (fun i wr => ∃ k : Nat, k ≤ 3 ∧ i = .int .i64 k ∧ Hid (BldAt w1.heap.size (hdI d1 d2 d3 k) wr) ∧ Hid (Below w1.heap.size w1 wr)) (fun i _ => 3 - (intOf i).toNat)
  case atStart => exact ⟨0, Nat.zero_le _, rfl, HL2.out, HB2.out⟩
  case round =>
    obtain ⟨k, hk, rfl, hbl, hb⟩ := hrel
    have hk4 : k = 0 ∨ k = 1 ∨ k = 2 ∨ k = 3 := by omega
    rcases hk4 with rfl | rfl | rfl | rfl
    · go_wp2_with fail
      refine (H1.out _ (HE1.out.below hb.out)).mono ?_
      rintro e w3 ⟨rfl, hb3⟩
      have hk3 := hide' (hbl.out.keep hb3)
      have hs0 : Hid ((hdI d1 d2 d3 0).size ≤ 50000) := Nat.le_trans (HS.out 0) (by omega)
      have hs1 : Hid (((⟨#[32]⟩ : ByteArray) ++ d1).size ≤ 50000) := blank_size d1 (by omega)
      have hx3 := hb.out.trans (hb3.mono hb.out.size)
      go_wp2_with fail
      refine Calls.mono (write_acc w1.heap.size (hdI d1 d2 d3 0) _ w3 hk3.out hs0.out hs1.out) ?_
      rintro e w4 ⟨rfl, hbl4, hb4⟩
      rw [hdI_1] at hbl4
      go_wp2_with fail
      go_roundw
      case rel => exact ⟨1, by omega, by go_num, hbl4, hx3.trans hb4⟩
      case measure => simp [intOf]
    · go_wp2_with fail
      refine (H2.out _ (HE1.out.below hb.out)).mono ?_
      rintro e w3 ⟨rfl, hb3⟩
      have hk3 := hide' (hbl.out.keep hb3)
      have hs0 : Hid ((hdI d1 d2 d3 1).size ≤ 50000) := Nat.le_trans (HS.out 1) (by omega)
      have hs1 : Hid (((⟨#[32]⟩ : ByteArray) ++ d2).size ≤ 50000) := blank_size d2 (by omega)
      have hx3 := hb.out.trans (hb3.mono hb.out.size)
      go_wp2_with fail
      refine Calls.mono (write_acc w1.heap.size (hdI d1 d2 d3 1) _ w3 hk3.out hs0.out hs1.out) ?_
      rintro e w4 ⟨rfl, hbl4, hb4⟩
      rw [hdI_2] at hbl4
      go_wp2_with fail
      go_roundw
      case rel => exact ⟨2, by omega, by go_num, hbl4, hx3.trans hb4⟩
      case measure => simp [intOf]
    · go_wp2_with fail
      refine (H3.out _ (HE1.out.below hb.out)).mono ?_
      rintro e w3 ⟨rfl, hb3⟩
      have hk3 := hide' (hbl.out.keep hb3)
      have hs0 : Hid ((hdI d1 d2 d3 2).size ≤ 50000) := Nat.le_trans (HS.out 2) (by omega)
      have hs1 : Hid (((⟨#[32]⟩ : ByteArray) ++ d3).size ≤ 50000) := blank_size d3 (by omega)
      have hx3 := hb.out.trans (hb3.mono hb.out.size)
      go_wp2_with fail
      refine Calls.mono (write_acc w1.heap.size (hdI d1 d2 d3 2) _ w3 hk3.out hs0.out hs1.out) ?_
      rintro e w4 ⟨rfl, hbl4, hb4⟩
      rw [hdI_3] at hbl4
      go_wp2_with fail
      go_roundw
      case rel => exact ⟨3, by omega, by go_num, hbl4, hx3.trans hb4⟩
      case measure => simp [intOf]
    · go_wp2_with fail
      refine (write_acc w1.heap.size (hdI d1 d2 d3 3) ⟨#[10]⟩ _ hbl.out (Nat.le_trans (HS.out 3) (by omega)) (by decide)).mono ?_
      rintro e w4 ⟨rfl, hbl4, hb4⟩
      have HL4 : Hid (BldAt w1.heap.size HD w4) := by
        show BldAt _ _ _
        rw [← HH.out]
        exact hbl4
      have HB4 := hide' (hb.out.trans hb4)
      clear hbl4 hb4 hb hbl p0 p1 p2 p3
      obtain ⟨p0, p1, p2, p3⟩ := HP.out.keep HB4.out
      obtain ⟨b, off, hA1, hc⟩ := HR1.out
      have hA2 := hA1 HNE.out
      subst hA2
      have HC := hide' (fun i (hi : i < rs.length) => hc i rs[i] (List.getElem?_eq_getElem hi))
      clear hc hA1
      go_wp2_with fail
      go_loopw [36] (fun i wr => ∃ (k : Nat) (S : ByteArray), k ≤ rs.length ∧ i = .int .i64 k ∧ Hid (S = routL tx HD (rs.take k)) ∧ Hid (S.size ≤ 100 + k * 4000) ∧ Hid (BldAt w1.heap.size S wr) ∧ Hid (Below w1.heap.size w1 wr)) (fun i _ => rs.length - (intOf i).toNat)
      case atStart => exact ⟨0, HD, Nat.zero_le _, rfl, rfl, HZ.out, HL4.out, HB4.out⟩
      case round =>
        obtain ⟨k, S, hk, rfl, hS, hz, hbl, hb⟩ := hrel
        by_cases hlt : k < rs.length
        · obtain ⟨A, cp, x1, y1⟩ := HC.out k hlt
          have q1 := keep_cell hb.out x1
          have Y1 := hide' y1
          have HX := hide' (HTX.out rs[k] (List.getElem_mem hlt))
          have HL := hide' (HLL.out rs[k] (List.getElem_mem hlt))
          have hll : (rs[k].length : Int) ≤ 24 := by have := HL.out; omega
          have HK : Hid (routL tx HD (rs.take (k + 1)) = linesL tx (S ++ routW) rs[k]) := by
            show _ = _
            rw [hS.out]
            exact routL_take tx HD rs k hlt
          clear x1 y1 p0 p1 p2 p3
          generalize rs[k] = l at q1 Y1 HX HL hll HK
          have HB0 : Hid ((S ++ routW).size ≤ 108 + k * 4000) := by
            show _ ≤ _
            rw [ByteArray.size_append, routW_size]
            have := hz.out
            omega
          go_wp2_with fail
          refine (write_acc w1.heap.size S routW _ hbl.out (by have := hz.out; omega) (by decide)).mono ?_
          rintro e w5 ⟨rfl, hbl5, hb5⟩
          have HL5 := hide' hbl5
          have HB5 := hide' (hb.out.trans hb5)
          clear hbl5 hb5
          go_wp2_with fail
          go_loopw [43] (fun i wx => ∃ (j : Nat) (U : ByteArray), j ≤ l.length ∧ i = .int .i64 j ∧ Hid (U = linesL tx (S ++ routW) (l.take j)) ∧ Hid (U.size ≤ 108 + k * 4000 + j * 101) ∧ Hid (BldAt w1.heap.size U wx) ∧ Hid (Below w1.heap.size w1 wx)) (fun i _ => l.length - (intOf i).toNat)
          case atStart => exact ⟨0, S ++ routW, Nat.zero_le _, rfl, rfl, HB0.out, HL5.out, HB5.out⟩
          case round =>
            obtain ⟨j, U, hj, rfl, hU, hu, hbx, hx⟩ := hrel
            by_cases hjl : j < l.length
            · obtain ⟨b2, off2, hB1, hc2⟩ := Y1.out
              have hB2 := hB1 (by intro h; rw [h] at hjl; simp at hjl)
              subst hB2
              obtain ⟨c0, c1, c2, c3⟩ := op_range (range_keep hx.out (hc2 j l[j] (List.getElem?_eq_getElem hjl)))
              obtain ⟨t1, -, t2⟩ := HX.out l[j] (List.getElem_mem hjl)
              have HT := hide' t2
              have HJ : Hid (linesL tx (S ++ routW) (l.take (j + 1)) = U ++ (tx l[j] ++ lf)) := by
                show _ = _
                rw [hU.out]
                exact linesL_take tx (S ++ routW) l j hjl
              clear t2 hc2 hB1
              generalize tx l[j] = X at t1 HT HJ
              generalize l[j] = o at c0 c1 c2 c3 HT
              have hbz := hx.out.size
              have HUZ : Hid ((U ++ (X ++ lf)).size ≤ 108 + k * 4000 + (j + 1) * 101) := by
                show _ ≤ _
                rw [ByteArray.size_append, ByteArray.size_append, lf_size]
                have := hu.out
                omega
              go_wp2_with fail
              refine (HT.out _ (HE1.out.below (hx.out.up _)) (HF1.out.below (hx.out.up _))).mono ?_
              rintro e w6 ⟨rfl, hb6⟩
              have hx6 := (hx.out.up _).trans (hb6.mono (by simp; omega))
              have hl6 := (hbx.out.keep ((Below.refl _ _).up _)).keep hb6
              go_wp2_with fail
              refine (write_acc w1.heap.size U (X ++ lf) _ hl6 (by have := hu.out; have := HL.out; omega) (by rw [ByteArray.size_append, lf_size]; omega)).mono ?_
              rintro e w7 ⟨rfl, hbl7, hb7⟩
              go_wp2_with fail
              go_roundw
              case rel => exact ⟨j + 1, U ++ (X ++ lf), by omega, by go_num, HJ.out.symm, HUZ.out, hbl7, hx6.trans hb7⟩
              case measure => simp [intOf]; omega
            · have hje : j = l.length := by omega
              subst hje
              have HUU : Hid (U = routL tx HD (rs.take (k + 1))) := by
                show _ = _
                rw [HK.out, hU.out, List.take_length]
              have HU2 : Hid (U.size ≤ 100 + (k + 1) * 4000) := by
                show _ ≤ _
                have := hu.out
                have := HL.out
                omega
              go_wp2_with fail
              go_roundw
              case rel => exact ⟨k + 1, U, by omega, by go_num, HUU.out, HU2.out, hbx.out, hx.out⟩
              case measure => simp [intOf]; omega
        · have hke : k = rs.length := by omega
          have HEN : Hid (S = routL tx HD rs) := by
            show _ = _
            rw [hS.out, hke, List.take_length]
          clear hS hz hlt
          go_wp2_with fail
          refine (string_acc w1.heap.size S _ hbl.out).mono ?_
          rintro e w8 ⟨rfl, hb8⟩
          go_wp2_with fail
          go_ret2
          exact ⟨by rw [HEN.out]; rfl, HW.out.trans ((hb.out.trans hb8).mono HW.out.size)⟩

end Go.Proofs.YtdifamjkbagfcaaDoor
