/- FnExactSameState walked. -/
import Derived.Test.YtdifamjkbagfcabSp
import Derived.Deep.DeepCutAuto
import Derived.Deep.RegionWith
namespace Go.Proofs.Ytdifamjkbagfcab
open Go.RowKit
open Rd Fl

set_option maxRecDepth 20000 in
set_option maxHeartbeats 8000000 in
theorem law_samestate (s u : StD) (T C O T' C' O' : Option Addr) (k1 k2 k3 j1 j2 j3 : Nat) (hf : StFit s 9223372036854775807) (hg : StFit u 9223372036854775807) (hn : StNums s) (hm : StNums u) (w : World) (hA : StAt w T C O s) (hB : StAt w T' C' O' u) :
    Calls Try.prog 3 #[.agg #[.slice T s.ts.length k1, .slice C s.cl.length k2, .slice O s.ow.length k3, .int .i64 s.ft], .agg #[.slice T' u.ts.length j1, .slice C' u.cl.length j2, .slice O' u.ow.length j3, .int .i64 u.ft]] w fun e w' => e = .returned (.bool true) ∧ Below w.heap.size w w' := by
  have HSA := hide' (fun (left : Int) h0 h1 w hS => szstate_any s T C O k1 k2 k3 left h0 h1 hf w hS)
  have HSB := hide' (fun (left : Int) h0 h1 w hS => szstate_any u T' C' O' j1 j2 j3 left h0 h1 hg w hS)
  have HTA0 := hide' (fun hf w hS => tostate_any s T C O k1 k2 k3 hf w hS)
  have HTB0 := hide' (fun hf w hS => tostate_any u T' C' O' j1 j2 j3 hf w hS)
  have HGB := hide' (fun hf hg => samest_both s u hf hg hn hm)
  have HEA0 := hide' (fun hf T C O T' C' O' a1 a2 a3 b1 b2 b3 w hA hB => eqstate_any s T C O T' C' O' a1 a2 a3 b1 b2 b3 hf hn w hA hB)
  have HEB0 := hide' (fun hf T C O T' C' O' a1 a2 a3 b1 b2 b3 w hA hB => eqstate_any u T C O T' C' O' a1 a2 a3 b1 b2 b3 hf hm w hA hB)
  have HA := hide' hA
  have HB := hide' hB
  clear hf hg hn hm hA hB
  generalize hgg : stSame s u = g at HGB
  clear hgg
  generalize s.ts.length = n1 at *
  generalize s.cl.length = n2 at *
  generalize s.ow.length = n3 at *
  generalize s.ft = ft at *
  generalize u.ts.length = m1 at *
  generalize u.cl.length = m2 at *
  generalize u.ow.length = m3 at *
  generalize u.ft = fu at *
  go_enter Try.func3, Try.ntmps3
  go_wp2_with fail
  have h2 := two2_new w T C O n1 k1 n2 k2 n3 k3 ft T' C' O' m1 j1 m2 j2 m3 j3 fu 26
  unfold ssW at h2
  refine (HSA.out 1048576 (by omega) (by omega) _ (HA.out.keep h2.b)).mono ?_
  generalize ((w.alloc (.cells #[.slice T n1 k1, .slice C n2 k2, .slice O n3 k3, .int .i64 ft] 26)).alloc (.cells #[.slice T' m1 j1, .slice C' m2 j2, .slice O' m3 j3, .int .i64 fu] 26)) = W0 at h2
  rintro e w1 ⟨⟨n, rfl, hn1, hn2, hn3⟩, hb1⟩
  have T1 := hide' (h2.keep hb1)
  clear hb1 h2
  obtain ⟨⟨p0, p1, p2, p3⟩, ⟨q0, q1, q2, q3⟩, -⟩ := T1.out
  by_cases hn0 : n < 0
  · clear hn3
    go_wp2_with fail
    go_ret
    exact ⟨rfl, T1.out.b⟩
  · have hfa := hn3 (by omega)
    have HTA := hide' (HTA0.out hfa)
    have HEA := hide' (HEA0.out hfa)
    have HGB2 := hide' (HGB.out hfa)
    clear hn3 HTA0 HEA0 HGB hfa HSA
    go_wp2_with fail
    refine (HSB.out n (by omega) hn2 _ (HB.out.keep T1.out.b)).mono ?_
    rintro e w2 ⟨⟨m, rfl, hm1, hm2, hm3⟩, hb2⟩
    have T2 := hide' (T1.out.keep hb2)
    clear hb2 p0 p1 p2 p3 q0 q1 q2 q3
    obtain ⟨⟨p0, p1, p2, p3⟩, ⟨q0, q1, q2, q3⟩, -⟩ := T2.out
    by_cases hm0 : m < 0
    · clear hm3
      go_wp2_with fail
      go_ret
      exact ⟨rfl, T2.out.b⟩
    · have hfit := hm3 (by omega)
      have HTB := hide' (HTB0.out hfit)
      have HEB := hide' (HEB0.out hfit)
      obtain ⟨hgs, hgi⟩ := HGB2.out hfit
      have HGS := hide' hgs
      have HGI := hide' hgi
      have D2 := hide' (T2.out.keep (Below.refl _ w2).drew)
      clear hm3 HTB0 HEB0 HGB2 hfit hgs hgi HSB T1 hn1 hn2 hm1 hm2
      go_wp2_with fail
      go_cut [6] (fun t wx => t = .bool g ∧ Hid (Two2 w T C O n1 k1 n2 k2 n3 k3 ft T' C' O' m1 j1 m2 j2 m3 j3 fu wx))
      case first =>
        go_region_with (first | (go_at_call_of 6 T; refine (HTA.out _ (HA.out.keep D2.out.b)).mono ?_; rintro e w3 ⟨⟨L1, L2, L3, rfl, -, -, -, -, ho3⟩, hb3⟩; have T3 := hide' (D2.out.keep hb3); obtain ⟨-, ⟨y0, y1, y2, y3⟩, -⟩ := T3.out) | (go_at_call_of 6 T'; refine (HTB.out _ (HB.out.keep T3.out.b)).mono ?_; rintro e w4 ⟨⟨M1, M2, M3, rfl, -, -, -, -, ho4⟩, hb4⟩; have T4 := hide' (T3.out.keep hb4)) | (go_at_call 5; refine (HGS.out _ _ _ _ _ _ _ _ _ _ _ _ _ (ho3.at.keep hb4) ho4.at).mono ?_; rintro e w5 ⟨rfl, hb5⟩; have T5 := hide' (T4.out.keep hb5)))
        all_goals
          go_wp2_with fail
          go_meet
          exact ⟨rfl, T5.out⟩
      case rest =>
        obtain ⟨rfl, T6⟩ := hcut
        clear p0 p1 p2 p3 q0 q1 q2 q3 T2 D2 HGS
        obtain ⟨⟨p0, p1, p2, p3⟩, ⟨q0, q1, q2, q3⟩, -⟩ := T6.out
        go_wp2_with fail
        refine (HTA.out _ (HA.out.keep T6.out.b)).mono ?_
        rintro e w7 ⟨⟨L1, L2, L3, rfl, -, -, -, -, ho7⟩, hb7⟩
        have T7 := hide' (T6.out.keep hb7)
        have O7 := hide' ho7.at
        clear hb7 ho7 T6 p0 p1 p2 p3 q0 q1 q2 q3
        obtain ⟨⟨p0, p1, p2, p3⟩, ⟨q0, q1, q2, q3⟩, -⟩ := T7.out
        have z1 : w.heap.size < w7.heap.size := World.block_lt_of_cell? w7 _ p0
        have z2 : w.heap.size + 1 < w7.heap.size := World.block_lt_of_cell? w7 _ q0
        go_wp2_with fail
        refine (HTB.out _ (HB.out.keep (T7.out.b.up _))).mono ?_
        rintro e w8 ⟨⟨M1, M2, M3, rfl, -, -, -, -, ho8⟩, hb8⟩
        have T8 := hide' ((T7.out.keep ((Below.refl _ _).up _)).keep hb8)
        have X8 := hide' ((sbox_new w7 (some ⟨L1, 0, none⟩) (some ⟨L2, 0, none⟩) (some ⟨L3, 0, none⟩) n1 n1 n2 n2 n3 n3 ft 31).keep hb8)
        have O8 := hide' ((O7.out.keep ((Below.refl _ _).up _)).keep hb8)
        have S8 := hide' ho8.at
        clear hb8 ho8 T7 O7 p0 p1 p2 p3 q0 q1 q2 q3 z1 z2
        obtain ⟨⟨p0, p1, p2, p3⟩, ⟨q0, q1, q2, q3⟩, -⟩ := T8.out
        obtain ⟨x0, x1, x2, x3⟩ := X8.out
        have z1 : w.heap.size < w8.heap.size := World.block_lt_of_cell? w8 _ p0
        have z2 : w.heap.size + 1 < w8.heap.size := World.block_lt_of_cell? w8 _ q0
        have z3 : w7.heap.size < w8.heap.size := World.block_lt_of_cell? w8 _ x0
        have hgg : (g != g) = false := by simp
        go_wp2_with fail
        refine (HGI.out _ _ _ _ _ _ _ _ _ _ _ _ _ (O8.out.keep ((Below.refl _ _).up _)) (S8.out.keep ((Below.refl _ _).up _))).mono ?_
        rintro e w9 ⟨rfl, hb9⟩
        have T9 := hide' ((T8.out.keep ((Below.refl _ _).up _)).keep hb9)
        have X9 := hide' ((X8.out.keep ((Below.refl _ _).up _)).keep hb9)
        have Y9 := hide' ((sbox_new w8 (some ⟨M1, 0, none⟩) (some ⟨M2, 0, none⟩) (some ⟨M3, 0, none⟩) m1 m1 m2 m2 m3 m3 fu 31).keep hb9)
        have O9 := hide' ((O8.out.keep ((Below.refl _ _).up _)).keep hb9)
        have S9 := hide' ((S8.out.keep ((Below.refl _ _).up _)).keep hb9)
        clear hb9 T8 X8 O8 S8 p0 p1 p2 p3 q0 q1 q2 q3 x0 x1 x2 x3 z1 z2 z3 HGI
        obtain ⟨⟨p0, p1, p2, p3⟩, ⟨q0, q1, q2, q3⟩, -⟩ := T9.out
        obtain ⟨x0, x1, x2, x3⟩ := X9.out
        obtain ⟨y0, y1, y2, y3⟩ := Y9.out
        have D9 := hide' (T9.out.keep (Below.refl _ w9).drew)
        go_wp2_with fail
        generalize w8.heap.size = B8 at *
        go_cut [39] (fun t wx => t = .bool false ∧ Hid (Two2 w T C O n1 k1 n2 k2 n3 k3 ft T' C' O' m1 j1 m2 j2 m3 j3 fu wx) ∧ Hid (SBox B8 (some ⟨M1, 0, none⟩) (some ⟨M2, 0, none⟩) (some ⟨M3, 0, none⟩) m1 m1 m2 m2 m3 m3 fu wx) ∧ Hid (StAt wx (some ⟨M1, 0, none⟩) (some ⟨M2, 0, none⟩) (some ⟨M3, 0, none⟩) u))
        case first =>
          go_region_with (first | (go_at_call 6; refine (HTA.out _ (HA.out.keep D9.out.b)).mono ?_; rintro e w10 ⟨⟨N1, N2, N3, rfl, -, -, -, -, ho10⟩, hb10⟩; have B10 := hide' ((Below.refl _ w9).drew.trans hb10); obtain ⟨v0, v1, v2, v3⟩ := X9.out.keep B10.out) | (go_at_call 8; refine (HEA.out _ _ _ _ _ _ _ _ _ _ _ _ _ (O9.out.keep B10.out) ho10.at).mono ?_; rintro e w11 ⟨rfl, hb11⟩; have B11 := hide' (B10.out.trans (hb11.mono B10.out.size))))
          all_goals
            go_wp2_with fail
            go_meet
            exact ⟨rfl, T9.out.keep B11.out, Y9.out.keep B11.out, S9.out.keep B11.out⟩
        case rest =>
          obtain ⟨rfl, T12, Y12, S12⟩ := hcut
          clear p0 p1 p2 p3 q0 q1 q2 q3 x0 x1 x2 x3 y0 y1 y2 y3 D9 S9 O9 Y9 X9 T9 HTA HEA
          obtain ⟨⟨p0, p1, p2, p3⟩, ⟨q0, q1, q2, q3⟩, -⟩ := T12.out
          obtain ⟨y0, y1, y2, y3⟩ := Y12.out
          go_wp2_with fail
          have D12 := hide' (T12.out.keep (Below.refl _ _).drew)
          have Z12 := hide' (Y12.out.keep (Below.refl _ _).drew)
          have U12 := hide' (S12.out.keep (Below.refl _ _).drew)
          go_region_with (first | (go_at_call 6; refine (HTB.out _ (HB.out.keep D12.out.b)).mono ?_; rintro e w13 ⟨⟨L1, L2, L3, rfl, -, -, -, -, ho13⟩, hb13⟩; have B13 := hide' hb13; obtain ⟨v0, v1, v2, v3⟩ := Z12.out.keep B13.out) | (go_at_call 8; refine (HEB.out _ _ _ _ _ _ _ _ _ _ _ _ _ (U12.out.keep B13.out) ho13.at).mono ?_; rintro e w14 ⟨rfl, hb14⟩))
          all_goals
            have B14 := hide' ((D12.out.keep B13.out).b.trans (hb14.mono (D12.out.keep B13.out).b.size))
            clear hb14 hb13 ho13
            go_wp2_with fail
            go_ret
            exact ⟨rfl, B14.out⟩
end Go.Proofs.Ytdifamjkbagfcab
