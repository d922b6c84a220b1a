/- FnExactWaitsFor walked. -/
import Derived.Test.YtdifamjkbagfcaaDoorRq
import Derived.Test.YtdifamjkbagfcaaDoorLw
import Derived.Test.YtdifamjkbagfcaaDoorStL
import Derived.Test.YtdifamjkbagfcaaDoorStF
import Derived.Deep.DeepCutAuto
namespace Go.Proofs.YtdifamjkbagfcaaDoor
open Go.RowKit
open Rd Fl

set_option maxRecDepth 20000 in
set_option maxHeartbeats 16000000 in
theorem law_waitsfor (cl lk cd : Int) (R : Option Addr) (rs : List (List OpD)) (cap : Nat) (hl : rs.length ≤ 9223372036854775807) (hls : ∀ l ∈ rs, l.length ≤ 9223372036854775807) (hr : ∀ l ∈ rs, ∀ o ∈ l, o.r < 9223372036854775808) (s : StD) (T C O : Option Addr) (k1 k2 k3 : Nat) (hf : StFit s 9223372036854775807) (hn : StNums s) (w : World) (hR : RoutsAt w R rs) (hS : StAt w T C O s) (hF : Forms w) :
    Calls Tryd.prog 7 #[.agg #[.int .i64 cl, .int .i64 lk, .int .i64 cd, .slice R rs.length cap], .agg #[.slice T s.ts.length k1, .slice C s.cl.length k2, .slice O s.ow.length k3, .int .i64 s.ft]] w fun e w' => e = .returned (.bool true) ∧ Below w.heap.size w w' := by
  have HSZ := hide' (fun w hR => szprog_le cl lk cd R rs cap hl hls w hR)
  have HSS := hide' (fun (left : Int) h0 h1 w hS => szstate_any s T C O k1 k2 k3 left h0 h1 hf w hS)
  have HTP0 := hide' (fun hl hls w hR => toprog_any cl lk cd R rs cap hl hls w hR)
  have HTS0 := hide' (fun hf w hS => tostate_any s T C O k1 k2 k3 hf w hS)
  have HGB := hide' (fun hl hls ho => waits_res cl lk cd rs hl hls hr s ho hn)
  have HEP0 := hide' (fun hl hls A B ca cb w hA hB => eqprog_any cl lk cd A B rs ca cb hl hls hr w hA hB)
  have HES0 := hide' (fun hf T C O T' C' O' a1 a2 a3 b1 b2 b3 w hA hB => eqstate_any s T C O T' C' O' a1 a2 a3 b1 b2 b3 hf hn w hA hB)
  have HMP0 := hide' (fun hl hls cap N hi w hN hO => markprog_any cl lk cd rs cap N hi hl hls w hN hO)
  have HMS0 := hide' (fun hf c1 c2 c3 N1 N2 N3 hi k h0 hk w hz hS => markstate_any s c1 c2 c3 N1 N2 N3 hi k h0 hk hf w hz hS)
  have HFO := hide' (fun (h : StFit s 1048576) => h.o)
  have HRR := hide' hR
  have HST := hide' hS
  have HF := hide' hF
  clear hl hls hr hR hF hS hn hf
  generalize hg : goodSt cl lk cd rs s = g at HGB
  generalize hrs : waitsN cl lk cd rs s = rl at HGB
  clear hg hrs
  generalize s.ts.length = n1 at *
  generalize s.cl.length = n2 at *
  generalize s.ft = ft at *
  generalize hn3 : s.ow.length = n3 at *
  clear hn3
  go_enter Tryd.func7, Tryd.ntmps7
  go_wp2_with fail
  have h2 := two_new w cl lk cd R rs.length cap T C O n1 k1 n2 k2 n3 k3 ft 24 50
  refine (HSZ.out _ (HRR.out.keep h2.b)).mono ?_
  generalize ((w.alloc (.cells #[.int .i64 cl, .int .i64 lk, .int .i64 cd, .slice R rs.length cap] 24)).alloc (.cells #[.slice T n1 k1, .slice C n2 k2, .slice O n3 k3, .int .i64 ft] 50)) = W0 at h2
  rintro e w1 ⟨⟨n, rfl, hn1, hn2, hn3⟩, hb1⟩
  have T1 := hide' (h2.keep hb1)
  clear hb1 h2
  obtain ⟨⟨p0, p1, p2, p3⟩, ⟨q0, q1, q2, q3⟩, -⟩ := T1.out
  by_cases hn0 : n < 0
  · clear hn3
    go_wp2_with fail
    go_ret
    exact ⟨rfl, T1.out.b⟩
  · obtain ⟨hl, hls⟩ := hn3 (by omega)
    have HTP := hide' (HTP0.out hl hls)
    have HEP := hide' (HEP0.out hl hls)
    have HMP := hide' (HMP0.out hl hls)
    have HGB2 := hide' (HGB.out hl hls)
    clear hn3 HTP0 HEP0 HMP0 HGB hl hls HSZ
    go_wp2_with fail
    refine (HSS.out n (by omega) hn2 _ (HST.out.keep T1.out.b)).mono ?_
    rintro e w2 ⟨⟨m, rfl, hm1, hm2, hm3⟩, hb2⟩
    have T2 := hide' (T1.out.keep hb2)
    clear hb2 p0 p1 p2 p3 q0 q1 q2 q3
    obtain ⟨⟨p0, p1, p2, p3⟩, ⟨q0, q1, q2, q3⟩, -⟩ := T2.out
    by_cases hm0 : m < 0
    · clear hm3
      go_wp2_with fail
      go_ret
      exact ⟨rfl, T2.out.b⟩
    · have hfit := hm3 (by omega)
      have HTS := hide' (HTS0.out hfit)
      have HES := hide' (HES0.out hfit)
      have HMS := hide' (HMS0.out hfit)
      obtain ⟨hgs, hgi⟩ := HGB2.out (HFO.out hfit)
      have HGS := hide' hgs
      have HGI := hide' hgi
      have D2 := hide' (T2.out.keep (Below.refl _ w2).drew)
      clear hm3 HTS0 HES0 HMS0 HGB2 hfit HFO hgs hgi HSS T1 hn1 hn2 hm1 hm2
      go_wp2_with fail
      go_cut [6, 7] (fun t b wx => b = .bool g ∧ Hid (Two w cl lk cd R rs.length cap T C O n1 k1 n2 k2 n3 k3 ft wx) ∧ ∃ h0 : Nat, Hid (ResP rl wx w.heap.size h0 t ∧ h0 ≤ wx.heap.size))
      case first =>
        go_region_with (first | (go_at_call 10; refine (HTP.out _ (HRR.out.keep D2.out.b)).mono ?_; rintro e w3 ⟨⟨N3, rfl, -, -, ho3⟩, hb3⟩; have T3 := hide' (D2.out.keep hb3); obtain ⟨-, ⟨y0, y1, y2, y3⟩, -⟩ := T3.out) | (go_at_call 26; refine (HTS.out _ (HST.out.keep T3.out.b)).mono ?_; rintro e w4 ⟨⟨M1, M2, M3, rfl, -, -, -, -, ho4⟩, hb4⟩; have T4 := hide' (T3.out.keep hb4)) | (go_at_call 28; refine (HGS.out _ _ _ _ _ _ _ _ _ (ho3.routs.keep hb4) ho4.at).mono ?_; rintro e w5 ⟨⟨v0, rfl, hr0⟩, hb5⟩; have T5 := hide' (T4.out.keep hb5); have R5 := hide' (resp_less hr0 T4.out.b.size)))
        all_goals
          go_wp2_with fail
          go_meet
          exact ⟨rfl, T5.out, _, R5.out, Nat.le_refl _⟩
      case rest =>
        obtain ⟨rfl, T6, h0, RH6⟩ := hcut
        clear p0 p1 p2 p3 q0 q1 q2 q3 T2 D2 HGS
        obtain ⟨⟨p0, p1, p2, p3⟩, ⟨q0, q1, q2, q3⟩, -⟩ := T6.out
        have R6 := hide' RH6.out.1
        have Z6 := hide' RH6.out.2
        clear RH6
        go_wp2_with fail
        refine (HTP.out _ (HRR.out.keep T6.out.b)).mono ?_
        rintro e w7 ⟨⟨N7, rfl, hN1, hN2, ho7⟩, hb7⟩
        have T7 := hide' (T6.out.keep hb7)
        have O7 := hide' ho7.routs
        have I7 := hide' ho7.in
        have R7 := hide' (resp_keep R6.out hb7)
        have HN1 := hide' (show h0 ≤ N7 from Nat.le_trans Z6.out hN1)
        have HN2 := hide' hN2
        have HN3 := hide' (show w.heap.size + 2 ≤ N7 by have := World.block_lt_of_cell? _ _ T6.out.s.c0; simp only at this; omega)
        clear hb7 ho7 T6 R6 Z6 hN1 hN2 p0 p1 p2 p3 q0 q1 q2 q3
        obtain ⟨⟨p0, p1, p2, p3⟩, ⟨q0, q1, q2, q3⟩, -⟩ := T7.out
        have z1 : w.heap.size < w7.heap.size := World.block_lt_of_cell? w7 _ p0
        have z2 : w.heap.size + 1 < w7.heap.size := World.block_lt_of_cell? w7 _ q0
        go_wp2_with fail
        refine (HTS.out _ (HST.out.keep (T7.out.b.up _))).mono ?_
        rintro e w8 ⟨⟨M1, M2, M3, rfl, hM1, hM2, hM3, hM4, ho8⟩, hb8⟩
        have T8 := hide' ((T7.out.keep ((Below.refl _ _).up _)).keep hb8)
        have X8 := hide' ((pbox_new w7 cl lk cd (some ⟨N7, 0, none⟩) rs.length rs.length 30).keep hb8)
        have O8 := hide' ((O7.out.keep ((Below.refl _ _).up _)).keep hb8)
        have I8 := hide' ((I7.out.keep ((Below.refl _ _).up _)).keep hb8)
        have R8 := hide' (resp_keep (resp_keep R7.out ((Below.refl _ _).up _)) hb8)
        have S8 := hide' ho8.at
        have J8 := hide' (ho8.in hM2 hM3 hM4)
        have HX := hide' (show w7.heap.size < M1 by simp at hM1; omega)
        clear hb8 ho8 T7 O7 I7 R7 hM1 hM2 hM3 hM4 p0 p1 p2 p3 q0 q1 q2 q3 z1 z2
        obtain ⟨⟨p0, p1, p2, p3⟩, ⟨q0, q1, q2, q3⟩, -⟩ := T8.out
        obtain ⟨x0, x1, x2, x3⟩ := X8.out
        have z1 : w.heap.size < w8.heap.size := World.block_lt_of_cell? w8 _ p0
        have z2 : w.heap.size + 1 < w8.heap.size := World.block_lt_of_cell? w8 _ q0
        have z3 : w7.heap.size < w8.heap.size := World.block_lt_of_cell? w8 _ x0
        have hgg : (g != g) = false := by simp
        go_wp2_with fail
        refine (HGI.out _ _ _ _ _ _ _ _ _ (O8.out.keep ((Below.refl _ _).up _)) (S8.out.keep ((Below.refl _ _).up _)) (HF.out.below (T8.out.b.up _))).mono ?_
        rintro e w9 ⟨⟨v, rfl, hr9⟩, hb9⟩
        have L9 := hide' (show Lx w cl lk cd R rs cap T C O s n1 k1 n2 k2 n3 k3 ft N7 w7.heap.size w7.heap.size M1 M2 M3 w8.heap.size w8.heap.size w9 from ⟨(T8.out.keep ((Below.refl _ _).up _)).keep hb9, (X8.out.keep ((Below.refl _ _).up _)).keep hb9, (sbox_new w8 (some ⟨M1, 0, none⟩) (some ⟨M2, 0, none⟩) (some ⟨M3, 0, none⟩) n1 n1 n2 n2 n3 n3 ft 43).keep hb9, (I8.out.keep ((Below.refl _ _).up _)).keep hb9, (J8.out.keep ((Below.refl _ _).up _)).keep hb9, HN3.out, HN2.out, Nat.le_refl _, HX.out, Nat.le_refl _⟩)
        have O9 := hide' ((O8.out.keep ((Below.refl _ _).up _)).keep hb9)
        have S9 := hide' ((S8.out.keep ((Below.refl _ _).up _)).keep hb9)
        have R9 := hide' (resp_keep (resp_keep R8.out ((Below.refl _ _).up _)) hb9)
        have V9 := hide' (resp_more (resp_less hr9 (show w8.heap.size + 1 ≤ _ by simp)) (show w9.heap.size ≤ w9.heap.size + 1 by omega))
        have ZV := hide' (show w8.heap.size + 1 < w9.heap.size + 1 by have := hb9.size; simp at this; omega)
        have ZW := hide' (show w7.heap.size < w8.heap.size from z3)
        clear hr9 hb9 T8 X8 O8 S8 I8 J8 R8 HX HN2 HN3 p0 p1 p2 p3 q0 q1 q2 q3 x0 x1 x2 x3 z1 z2 z3
        generalize w9.heap.size + 1 = hv at V9 ZV
        generalize hB8 : w8.heap.size = B8 at *
        generalize hB7 : w7.heap.size = B7 at *
        obtain ⟨⟨⟨p0, p1, p2, p3⟩, ⟨q0, q1, q2, q3⟩, -⟩, ⟨x0, x1, x2, x3⟩, ⟨y0, y1, y2, y3⟩, -, -, -, -, -, -, -⟩ := L9.out
        go_wp2_with (go_at_call 30; refine (resp_eq V9.out R9.out).mono ?_; rintro e w10 ⟨rfl, hb10⟩; have L10 := hide' (L9.out.keep hb10); have O10 := hide' (O9.out.keep hb10); have S10 := hide' (S9.out.keep hb10); have R10 := hide' (resp_keep R9.out hb10); have V10 := hide' (resp_keep V9.out hb10); clear p0 p1 p2 p3 q0 q1 q2 q3 x0 x1 x2 x3 y0 y1 y2 y3; obtain ⟨⟨⟨p0, p1, p2, p3⟩, ⟨q0, q1, q2, q3⟩, -⟩, ⟨x0, x1, x2, x3⟩, ⟨y0, y1, y2, y3⟩, -, -, -, -, -, -, -⟩ := L10.out)
        clear hb10 L9 O9 S9 R9 V9
        have D10 := hide' (Below.refl w10.heap.size w10).drew
        go_cut [58] (fun t wx => t = .bool false ∧ Hid (Lx w cl lk cd R rs cap T C O s n1 k1 n2 k2 n3 k3 ft N7 B7 B7 M1 M2 M3 B8 B8 wx) ∧ Hid (StAt wx (some ⟨M1, 0, none⟩) (some ⟨M2, 0, none⟩) (some ⟨M3, 0, none⟩) s) ∧ Hid (ResP rl wx w.heap.size h0 u6) ∧ Hid (ResP rl wx (B8 + 1) hv v))
        case first =>
          go_region_with (first | (go_at_call 10; refine (HTP.out _ (HRR.out.keep (L10.out.keep D10.out).t.b)).mono ?_; rintro e w11 ⟨⟨N11, rfl, -, -, ho11⟩, hb11⟩; have B11 := hide' (D10.out.trans hb11); obtain ⟨u6', v1', v2', v3'⟩ := L10.out.x.keep B11.out) | (go_at_call 12; refine (HEP.out _ _ _ _ _ (O10.out.keep B11.out) ho11.routs).mono ?_; rintro e w12 ⟨rfl, hb12⟩; have B12 := hide' (B11.out.trans (hb12.mono B11.out.size))))
          all_goals
            go_wp2_with fail
            go_meet
            exact ⟨rfl, L10.out.keep B12.out, S10.out.keep B12.out, resp_keep R10.out B12.out, resp_keep V10.out B12.out⟩
        case rest =>
          obtain ⟨rfl, L13, S13, R13, V13⟩ := hcut
          clear p0 p1 p2 p3 q0 q1 q2 q3 x0 x1 x2 x3 y0 y1 y2 y3 D10 L10 O10 S10 R10 V10 HEP
          obtain ⟨⟨⟨p0, p1, p2, p3⟩, ⟨q0, q1, q2, q3⟩, -⟩, ⟨x0, x1, x2, x3⟩, ⟨y0, y1, y2, y3⟩, -, -, -, -, -, -, -⟩ := L13.out
          go_wp2_with fail
          have D13 := hide' (L13.out.keep (Below.refl _ _).drew)
          have E13 := hide' (Below.refl wc.heap.size wc).drew
          go_cut [63] (fun t wx => t = .bool false ∧ Hid (Lx w cl lk cd R rs cap T C O s n1 k1 n2 k2 n3 k3 ft N7 B7 B7 M1 M2 M3 B8 B8 wx) ∧ Hid (ResP rl wx w.heap.size h0 u6) ∧ Hid (ResP rl wx (B8 + 1) hv v))
          case first =>
            go_region_with (first | (go_at_call 26; refine (HTS.out _ (HST.out.keep D13.out.t.b)).mono ?_; rintro e w14 ⟨⟨L1, L2, L3, rfl, -, -, -, -, ho14⟩, hb14⟩; have B14 := hide' (E13.out.trans hb14); obtain ⟨u6', v1', v2', v3'⟩ := L13.out.y.keep B14.out) | (go_at_call 21; refine (HES.out _ _ _ _ _ _ _ _ _ _ _ _ _ (S13.out.keep B14.out) ho14.at).mono ?_; rintro e w15 ⟨rfl, hb15⟩; have B15 := hide' (B14.out.trans (hb15.mono B14.out.size))))
            all_goals
              go_wp2_with fail
              go_meet
              exact ⟨rfl, L13.out.keep B15.out, resp_keep R13.out B15.out, resp_keep V13.out B15.out⟩
          case rest =>
            obtain ⟨rfl, L16, R16, V16⟩ := hcut
            clear p0 p1 p2 p3 q0 q1 q2 q3 x0 x1 x2 x3 y0 y1 y2 y3 D13 E13 L13 S13 R13 V13 HES
            obtain ⟨-, ⟨x0, x1, x2, x3⟩, ⟨y0, y1, y2, y3⟩, -, -, -, -, -, -, -⟩ := L16.out
            go_wp2_with fail
            refine (HMP.out _ N7 B7 _ (by have := L16.out.z; have := L16.out.q2; have := L16.out.q3; have := L16.out.q4; have := L16.out.m; have := L16.out.q5; omega) L16.out.o).mono ?_
            rintro e w17 ⟨⟨y, rfl, hy0, hy1⟩, he17⟩
            have L17 := hide' (L16.out.editP he17)
            have R17 := hide' (resp_edit R16.out he17 (.inr (by have := HN1.out; omega)))
            have V17 := hide' (resp_edit V16.out he17 (.inl (by have := ZW.out; omega)))
            clear he17 L16 R16 V16 x0 x1 x2 x3 y0 y1 y2 y3 HMP
            obtain ⟨-, -, ⟨y0, y1, y2, y3⟩, -, -, -, -, -, -, -⟩ := L17.out
            go_wp2_with fail
            refine (HMS.out _ _ _ M1 M2 M3 B8 y hy0 (by omega) _ (Nat.le_of_lt L17.out.z) L17.out.s).mono ?_
            rintro e w18 ⟨⟨k, rfl, hk0⟩, he18⟩
            have T18 := hide' (L17.out.editS he18)
            have R18 := hide' (resp_edit R17.out he18 (.inr (by have := HN1.out; have := L17.out.q2; have := L17.out.q3; have := L17.out.q4; omega)))
            have V18 := hide' (resp_edit V17.out he18 (.inl (by omega)))
            have HLO := hide' (show h0 ≤ B8 + 1 by have := HN1.out; have := L17.out.q2; have := L17.out.q3; have := ZW.out; omega)
            have HTW := hide' (show w.heap.size + 2 ≤ B8 + 1 by have := L17.out.q1; have := L17.out.q2; have := L17.out.q3; have := ZW.out; omega)
            clear he18 L17 R17 V17 y0 y1 y2 y3 HMS hy0 hy1
            obtain ⟨⟨p0, p1, p2, p3⟩, ⟨q0, q1, q2, q3⟩, -⟩ := T18.out
            go_wp2_with (first | (go_at_call 30; refine (resp_eq V18.out R18.out).mono ?_; rintro e w19 ⟨rfl, hb19⟩; have T19 := hide' (T18.out.keep hb19); have R19 := hide' (resp_keep R18.out hb19); have V19 := hide' (resp_keep V18.out hb19); clear hb19 p0 p1 p2 p3 q0 q1 q2 q3) | (go_at_call 31; refine (resp_mark V19.out ZV.out).mono ?_; rintro e w20 ⟨⟨m2, rfl, hm20, hmk20⟩, he20⟩; have T20 := hide' (T19.out.edit he20 HTW.out); have R20 := hide' (resp_edit R19.out he20 (.inr HLO.out)); have K20 := hide' hmk20; clear hmk20 he20 T19 R19 V19) | (go_at_call 32; refine (mkdp_held K20.out).mono ?_; rintro e w21 ⟨rfl, hb21⟩; have T21 := hide' (T20.out.keep hb21); have R21 := hide' (resp_keep R20.out hb21); have K21 := hide' (mkdp_keep K20.out hb21); clear hb21 T20 R20 K20; obtain ⟨⟨p0, p1, p2, p3⟩, ⟨q0, q1, q2, q3⟩, -⟩ := T21.out))
            have D21 := hide' (T21.out.keep (Below.refl _ w21).drew)
            have E21 := hide' (Below.refl w21.heap.size w21).drew
            clear T18 R18 V18
            go_cut [15, 16] (fun t b wx => b = .bool g ∧ Hid (Two w cl lk cd R rs.length cap T C O n1 k1 n2 k2 n3 k3 ft wx) ∧ Hid (ResP rl wx w.heap.size h0 u6) ∧ Hid (MkdP rl wx (B8 + 1) hv v m2) ∧ ∃ a1 a2 : Nat, Hid (ResP rl wx a1 a2 t))
            case first =>
              go_region_with (first | (go_at_call 10; refine (HTP.out _ (HRR.out.keep D21.out.b)).mono ?_; rintro e w22 ⟨⟨N22, rfl, -, -, ho22⟩, hb22⟩; have T22 := hide' (D21.out.keep hb22); have B22 := hide' (E21.out.trans hb22); obtain ⟨-, ⟨y0, y1, y2, y3⟩, -⟩ := T22.out) | (go_at_call 26; refine (HTS.out _ (HST.out.keep T22.out.b)).mono ?_; rintro e w23 ⟨⟨L1, L2, L3, rfl, -, -, -, -, ho23⟩, hb23⟩; have T23 := hide' (T22.out.keep hb23); have B23 := hide' (B22.out.trans (hb23.mono B22.out.size))) | (go_at_call 29; refine (HGI.out _ _ _ _ _ _ _ _ _ (ho22.routs.keep hb23) ho23.at (HF.out.below T23.out.b)).mono ?_; rintro e w24 ⟨⟨v24, rfl, hr24⟩, hb24⟩; have T24 := hide' (T23.out.keep hb24); have B24 := hide' (B23.out.trans (hb24.mono B23.out.size)); have V24 := hide' hr24))
              all_goals
                go_wp2_with fail
                go_meet
                exact ⟨rfl, T24.out, resp_keep R21.out B24.out, mkdp_keep K21.out B24.out, _, _, V24.out⟩
            case rest =>
              obtain ⟨rfl, T25, R25, K25, a1, a2, V25⟩ := hcut
              clear D21 E21 R21 K21 T21 p0 p1 p2 p3 q0 q1 q2 q3
              go_wp2_with (first | (go_at_call 30; refine (resp_eq V25.out R25.out).mono ?_; rintro e w26 ⟨rfl, hb26⟩; have T26 := hide' (T25.out.keep hb26); have K26 := hide' (mkdp_keep K25.out hb26); clear hb26) | (go_at_call 32; refine (mkdp_held K26.out).mono ?_; rintro e w27 ⟨rfl, hb27⟩; have T27 := hide' (T26.out.keep hb27); clear hb27))
              go_ret
              exact ⟨rfl, T27.out.b⟩
end Go.Proofs.YtdifamjkbagfcaaDoor
