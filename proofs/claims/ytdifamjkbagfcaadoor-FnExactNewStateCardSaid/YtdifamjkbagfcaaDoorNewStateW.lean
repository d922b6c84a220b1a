/- FnExactNewState walked. -/
import Derived.Test.YtdifamjkbagfcaaDoorNu
import Derived.Test.YtdifamjkbagfcaaDoorStL
import Derived.Deep.DeepCutAuto
namespace Go.Proofs.YtdifamjkbagfcaaDoor
open Go.RowKit
open Rd Fl

/-- The argument's box at w's end, the boxes of the two answers (X0, X2) and of the copy that was handed in (X1, its lists from N on). -/
structure Lz (w : World) (cl lk cd : Int) (R : Option Addr) (rs : List (List OpD)) (cap : Nat) (s : StD) (T0 C0 O0 T C O : Option Addr) (l1 l2 l3 a1 a2 a3 b1 b2 b3 : Nat) (ft : Int) (X0 N hp X1 X2 : Nat) (wx : World) : Prop where
  p : PBox w.heap.size cl lk cd R rs.length cap wx
  b : Below w.heap.size w wx
  x0 : SBox X0 T0 C0 O0 l1 a1 l2 a2 l3 a3 ft wx
  x1 : PBox X1 cl lk cd (some ⟨N, 0, none⟩) rs.length rs.length wx
  x2 : SBox X2 T C O l1 b1 l2 b2 l3 b3 ft wx
  o : OwnIn wx N hp rs
  r0 : ResS s wx w.heap.size X0 (.agg #[.slice T0 l1 a1, .slice C0 l2 a2, .slice O0 l3 a3, .int .i64 ft])
  q0 : w.heap.size < X0
  q1 : X0 < N
  q2 : N < hp
  q3 : hp ≤ X1
  q4 : X1 < X2
theorem Lz.z {w : World} {cl lk cd : Int} {R : Option Addr} {rs : List (List OpD)} {cap : Nat} {s : StD} {T0 C0 O0 T C O : Option Addr} {l1 l2 l3 a1 a2 a3 b1 b2 b3 : Nat} {ft : Int} {X0 N hp X1 X2 : Nat} {wx : World} (h : Lz w cl lk cd R rs cap s T0 C0 O0 T C O l1 l2 l3 a1 a2 a3 b1 b2 b3 ft X0 N hp X1 X2 wx) : X2 < wx.heap.size := World.block_lt_of_cell? wx _ h.x2.c0
theorem Lz.keep {w : World} {cl lk cd : Int} {R : Option Addr} {rs : List (List OpD)} {cap : Nat} {s : StD} {T0 C0 O0 T C O : Option Addr} {l1 l2 l3 a1 a2 a3 b1 b2 b3 : Nat} {ft : Int} {X0 N hp X1 X2 : Nat} {wx wy : World} (h : Lz w cl lk cd R rs cap s T0 C0 O0 T C O l1 l2 l3 a1 a2 a3 b1 b2 b3 ft X0 N hp X1 X2 wx) (hb : Below wx.heap.size wx wy) : Lz w cl lk cd R rs cap s T0 C0 O0 T C O l1 l2 l3 a1 a2 a3 b1 b2 b3 ft X0 N hp X1 X2 wy :=
  ⟨h.p.keep hb, h.b.trans (hb.mono h.b.size), h.x0.keep hb, h.x1.keep hb, h.x2.keep hb, h.o.keep hb, ress_keep h.r0 hb, h.q0, h.q1, h.q2, h.q3, h.q4⟩
theorem Lz.editP {w : World} {cl lk cd : Int} {R : Option Addr} {rs : List (List OpD)} {cap : Nat} {s : StD} {T0 C0 O0 T C O : Option Addr} {l1 l2 l3 a1 a2 a3 b1 b2 b3 : Nat} {ft : Int} {X0 N hp X1 X2 : Nat} {wx wy : World} (h : Lz w cl lk cd R rs cap s T0 C0 O0 T C O l1 l2 l3 a1 a2 a3 b1 b2 b3 ft X0 N hp X1 X2 wx) (he : Edit (N + 1) hp wx wy) : Lz w cl lk cd R rs cap s T0 C0 O0 T C O l1 l2 l3 a1 a2 a3 b1 b2 b3 ft X0 N hp X1 X2 wy := by
  have a0 := h.q0; have a1 := h.q1; have a2 := h.q2; have a3 := h.q3; have a4 := h.q4
  exact ⟨h.p.edit he (by omega), h.b.trans (he.b.mono (by omega)), h.x0.edit he (by omega), h.x1.edit he (by omega), h.x2.edit he (by omega), h.o.edit he (by omega), ress_edit h.r0 he (.inr (by omega)), a0, a1, a2, a3, a4⟩
theorem Lz.editS {w : World} {cl lk cd : Int} {R : Option Addr} {rs : List (List OpD)} {cap : Nat} {s : StD} {T0 C0 O0 T C O : Option Addr} {l1 l2 l3 a1 a2 a3 b1 b2 b3 : Nat} {ft : Int} {X0 N hp X1 X2 : Nat} {wx wy : World} (h : Lz w cl lk cd R rs cap s T0 C0 O0 T C O l1 l2 l3 a1 a2 a3 b1 b2 b3 ft X0 N hp X1 X2 wx) (he : Edit (X1 + 1) X2 wx wy) : Lz w cl lk cd R rs cap s T0 C0 O0 T C O l1 l2 l3 a1 a2 a3 b1 b2 b3 ft X0 N hp X1 X2 wy := by
  have a0 := h.q0; have a1 := h.q1; have a2 := h.q2; have a3 := h.q3; have a4 := h.q4
  exact ⟨h.p.edit he (by omega), h.b.trans (he.b.mono (by omega)), h.x0.edit he (by omega), h.x1.edit he (by omega), h.x2.edit he (by omega), h.o.edit he (by omega), ress_edit h.r0 he (.inr (by omega)), a0, a1, a2, a3, a4⟩

theorem ress_form {s : StD} {w : World} {lo hi : Nat} {v : Value} (h : ResS s w lo hi v) : ∃ T C O k1 k2 k3, v = .agg #[.slice T s.ts.length k1, .slice C s.cl.length k2, .slice O s.ow.length k3, .int .i64 s.ft] := by
  obtain ⟨T, C, O, -, -, -, -, k1, k2, k3, h1, -⟩ := h.r
  exact ⟨T, C, O, k1, k2, k3, h1⟩
theorem new_form (cl lk cd : Int) (rs : List (List OpD)) (hl : rs.length ≤ 1048576) (hls : ∀ l ∈ rs, l.length ≤ 1048576) (hr : ∀ l ∈ rs, ∀ o ∈ l, o.r < 9223372036854775808) :
    (∀ R cap w, RoutsAt w R rs → Calls Tryd.prog 19 #[.agg #[.int .i64 cl, .int .i64 lk, .int .i64 cd, .slice R rs.length cap]] w fun e w' => (∃ T C O k1 k2 k3, e = .returned (.tuple #[.agg #[.slice T (newN cl lk cd rs).ts.length k1, .slice C (newN cl lk cd rs).cl.length k2, .slice O (newN cl lk cd rs).ow.length k3, .int .i64 (newN cl lk cd rs).ft], .bool (goodS cl lk cd rs)]) ∧ ResS (newN cl lk cd rs) w' w.heap.size w'.heap.size (.agg #[.slice T (newN cl lk cd rs).ts.length k1, .slice C (newN cl lk cd rs).cl.length k2, .slice O (newN cl lk cd rs).ow.length k3, .int .i64 (newN cl lk cd rs).ft])) ∧ Below w.heap.size w w') ∧
    (∀ R cap w, RoutsAt w R rs → Forms w → Calls Tryd.prog 20 #[.agg #[.int .i64 cl, .int .i64 lk, .int .i64 cd, .slice R rs.length cap]] w fun e w' => (∃ T C O k1 k2 k3, e = .returned (.tuple #[.agg #[.slice T (newN cl lk cd rs).ts.length k1, .slice C (newN cl lk cd rs).cl.length k2, .slice O (newN cl lk cd rs).ow.length k3, .int .i64 (newN cl lk cd rs).ft], .bool (goodS cl lk cd rs)]) ∧ ResS (newN cl lk cd rs) w' w.heap.size w'.heap.size (.agg #[.slice T (newN cl lk cd rs).ts.length k1, .slice C (newN cl lk cd rs).cl.length k2, .slice O (newN cl lk cd rs).ow.length k3, .int .i64 (newN cl lk cd rs).ft])) ∧ Below w.heap.size w w') := by
  obtain ⟨h1, h2⟩ := new_both cl lk cd rs hl hls hr
  refine ⟨fun R cap w hR => (h1 R cap w hR).mono ?_, fun R cap w hR hF => (h2 R cap w hR hF).mono ?_⟩
  all_goals
    rintro e w' ⟨⟨v, rfl, h⟩, hb⟩
    obtain ⟨T, C, O, k1, k2, k3, rfl⟩ := ress_form h
    exact ⟨⟨T, C, O, k1, k2, k3, rfl, h⟩, hb⟩

set_option maxRecDepth 20000 in
set_option maxHeartbeats 16000000 in
theorem law_newstate (cl lk cd : Int) (R : Option Addr) (rs : List (List OpD)) (cap : Nat) (hl : rs.length ≤ 9223372036854775807) (hls : ∀ l ∈ rs, l.length ≤ 9223372036854775807) (hr : ∀ l ∈ rs, ∀ o ∈ l, o.r < 9223372036854775808) (w : World) (hR : RoutsAt w R rs) (hF : Forms w) :
    Calls Tryd.prog 5 #[.agg #[.int .i64 cl, .int .i64 lk, .int .i64 cd, .slice R rs.length cap]] w fun e w' => e = .returned (.bool true) ∧ Below w.heap.size w w' := by
  have HSZ := hide' (fun w hR => szprog_le cl lk cd R rs cap hl hls w hR)
  have HTP0 := hide' (fun hl hls w hR => toprog_any cl lk cd R rs cap hl hls w hR)
  have HGB := hide' (fun hl hls => new_form cl lk cd rs hl hls hr)
  have HEP0 := hide' (fun hl hls A B ca cb w hA hB => eqprog_any cl lk cd A B rs ca cb hl hls hr w hA hB)
  have HMP0 := hide' (fun hl hls cap N hi w hN hO => markprog_any cl lk cd rs cap N hi hl hls w hN hO)
  have HRR := hide' hR
  have HF := hide' hF
  clear hl hls hr hR hF
  generalize hg : goodS cl lk cd rs = g at HGB
  generalize hrs : newN cl lk cd rs = rl at HGB
  clear hg hrs
  generalize hl1 : rl.ts.length = l1 at HGB
  generalize hl2 : rl.cl.length = l2 at HGB
  generalize hl3 : rl.ow.length = l3 at HGB
  generalize hft : rl.ft = ft at HGB
  clear hl1 hl2 hl3 hft
  go_enter Tryd.func5, Tryd.ntmps5
  go_wp2_with fail
  have hP := pbox_new w cl lk cd R rs.length cap 24
  have hB : Below w.heap.size w (w.alloc (.cells #[.int .i64 cl, .int .i64 lk, .int .i64 cd, .slice R rs.length cap] 24)) := (Below.refl _ w).up _
  refine (HSZ.out _ (HRR.out.keep hB)).mono ?_
  generalize (w.alloc (.cells #[.int .i64 cl, .int .i64 lk, .int .i64 cd, .slice R rs.length cap] 24)) = W0 at hP hB
  rintro e w1 ⟨⟨n, rfl, hn1, hn2, hn3⟩, hb1⟩
  have P1 := hide' (hP.keep hb1)
  have B1 := hide' (hB.trans (hb1.mono hB.size))
  clear hb1 hP hB
  obtain ⟨p0, p1, p2, p3⟩ := P1.out
  by_cases hn0 : n < 0
  · clear hn3
    go_wp2_with fail
    go_ret
    exact ⟨rfl, B1.out⟩
  · obtain ⟨hl, hls⟩ := hn3 (by omega)
    have HTP := hide' (HTP0.out hl hls)
    have HEP := hide' (HEP0.out hl hls)
    have HMP := hide' (HMP0.out hl hls)
    obtain ⟨hgs, hgi⟩ := HGB.out hl hls
    have HGS := hide' hgs
    have HGI := hide' hgi
    clear hn3 HTP0 HEP0 HMP0 HGB hl hls HSZ hgs hgi hn1 hn2
    have hgg : (g != g) = false := by simp
    go_wp2_with (first | (go_at_call 10; refine (HTP.out _ (HRR.out.keep B1.out)).mono ?_; rintro e w2 ⟨⟨N2, rfl, -, -, ho2⟩, hb2⟩) | (go_at_call 19; refine (HGS.out _ _ _ ho2.routs).mono ?_; rintro e w3 ⟨⟨T0, C0, O0, a1, a2, a3, rfl, hr3⟩, hb3⟩; have B23 := hide' (hb2.trans (hb3.mono hb2.size)); have P3 := hide' (P1.out.keep B23.out); have B3 := hide' (B1.out.trans (B23.out.mono B1.out.size)); have R3 := hide' (ress_less hr3 (lo' := w.heap.size) (Nat.le_trans B1.out.size hb2.size)); clear p0 p1 p2 p3; obtain ⟨p0, p1, p2, p3⟩ := P3.out; have z1 : w.heap.size < w3.heap.size := World.block_lt_of_cell? w3 _ p0; clear hb2 hb3 hr3 ho2) | fail)
    have S3 := hide' (sbox_new w3 T0 C0 O0 l1 a1 l2 a2 l3 a3 ft 43)
    have U3 := hide' ((Below.refl _ w3).up (.cells #[.slice T0 l1 a1, .slice C0 l2 a2, .slice O0 l3 a3, .int .i64 ft] 43))
    refine (HTP.out _ (HRR.out.keep (B3.out.up _))).mono ?_
    rintro e w4 ⟨⟨N, rfl, hN1, hN2, ho4⟩, hb4⟩
    have HN1 := hide' (show w3.heap.size < N by simp at hN1; omega)
    have HN2 := hide' hN2
    have P4 := hide' ((P3.out.keep U3.out).keep hb4)
    have B4 := hide' ((B3.out.up (.cells #[.slice T0 l1 a1, .slice C0 l2 a2, .slice O0 l3 a3, .int .i64 ft] 43)).trans (hb4.mono (B3.out.up (.cells #[.slice T0 l1 a1, .slice C0 l2 a2, .slice O0 l3 a3, .int .i64 ft] 43)).size))
    have S4 := hide' (S3.out.keep hb4)
    have R4 := hide' (ress_keep (ress_keep R3.out U3.out) hb4)
    have O4 := hide' ho4.routs
    have I4 := hide' ho4.in
    have Z0 := hide' (show w.heap.size < w3.heap.size from z1)
    clear p0 p1 p2 p3 hN1 hN2 hb4 ho4 P3 B3 S3 R3 U3 B23
    generalize w3.heap.size = X0 at *
    obtain ⟨p0, p1, p2, p3⟩ := P4.out
    obtain ⟨c0, c1, c2, c3⟩ := S4.out
    have z2 : w.heap.size < w4.heap.size := World.block_lt_of_cell? w4 _ p0
    have z3 : X0 < w4.heap.size := World.block_lt_of_cell? w4 _ c0
    go_wp2_with fail
    have U4 := hide' ((Below.refl _ w4).up (.cells #[.int .i64 cl, .int .i64 lk, .int .i64 cd, .slice (some ⟨N, 0, none⟩) rs.length rs.length] 30))
    have X4 := hide' (pbox_new w4 cl lk cd (some ⟨N, 0, none⟩) rs.length rs.length 30)
    refine (HGI.out _ _ _ (O4.out.keep U4.out) (HF.out.below (B4.out.up _))).mono ?_
    rintro e w5 ⟨⟨T, C, O, b1, b2, b3, rfl, hr5⟩, hb5⟩
    have HB5 := hide' (U4.out.trans (hb5.mono U4.out.size))
    have V5 := hide' (ress_less hr5 (show w4.heap.size + 1 ≤ _ by simp))
    have X5 := hide' (X4.out.keep hb5)
    have ZX := hide' (show w4.heap.size < w5.heap.size by have := hb5.size; simp at this; omega)
    have P5 := hide' (P4.out.keep HB5.out)
    have S5 := hide' (S4.out.keep HB5.out)
    clear hr5 hb5 p0 p1 p2 p3 c0 c1 c2 c3 z2 z3
    obtain ⟨p0, p1, p2, p3⟩ := P5.out
    obtain ⟨c0, c1, c2, c3⟩ := S5.out
    obtain ⟨d0, d1, d2, d3⟩ := X5.out
    have z2 : w.heap.size < w5.heap.size := World.block_lt_of_cell? w5 _ p0
    have z3 : X0 < w5.heap.size := World.block_lt_of_cell? w5 _ c0
    have z4 : w4.heap.size < w5.heap.size := World.block_lt_of_cell? w5 _ d0
    go_wp2_with fail
    have U5 := hide' ((Below.refl _ w5).up (.cells #[.slice T l1 b1, .slice C l2 b2, .slice O l3 b3, .int .i64 ft] 43))
    have L6 := hide' (show Lz w cl lk cd R rs cap rl T0 C0 O0 T C O l1 l2 l3 a1 a2 a3 b1 b2 b3 ft X0 N w4.heap.size w4.heap.size w5.heap.size (w5.alloc (.cells #[.slice T l1 b1, .slice C l2 b2, .slice O l3 b3, .int .i64 ft] 43)) from ⟨P5.out.keep U5.out, (B4.out.trans (HB5.out.mono B4.out.size)).up _, S5.out.keep U5.out, X5.out.keep U5.out, sbox_new w5 T C O l1 b1 l2 b2 l3 b3 ft 43, (I4.out.keep HB5.out).keep U5.out, ress_keep (ress_keep R4.out HB5.out) U5.out, Z0.out, HN1.out, HN2.out, Nat.le_refl _, ZX.out⟩)
    have V6 := hide' (ress_keep V5.out U5.out)
    have O6 := hide' ((O4.out.keep HB5.out).keep U5.out)
    refine (ress_eq V6.out L6.out.r0).mono ?_
    generalize (w5.alloc (.cells #[.slice T l1 b1, .slice C l2 b2, .slice O l3 b3, .int .i64 ft] 43)) = w6 at *
    rintro e w7 ⟨rfl, hb7⟩
    have L7 := hide' (L6.out.keep hb7)
    have V7 := hide' (ress_keep V6.out hb7)
    have O7 := hide' (O6.out.keep hb7)
    clear hb7 L6 V6 O6 U5 V5 X5 S5 P5 HB5 U4 X4 R4 O4 I4 S4 B4 P4 p0 p1 p2 p3 c0 c1 c2 c3 d0 d1 d2 d3 z2 z3 z4 Z0 HN1 HN2 ZX
    generalize w4.heap.size = X1 at *
    generalize w5.heap.size = X2 at *
    obtain ⟨⟨p0, p1, p2, p3⟩, -, ⟨c0, c1, c2, c3⟩, ⟨d0, d1, d2, d3⟩, ⟨f0, f1, f2, f3⟩, -, -, -, -, -, -, -⟩ := L7.out
    go_wp2_with fail
    have D7 := hide' (Below.refl w7.heap.size w7).drew
    go_cut [45] (fun t wx => t = .bool false ∧ Hid (Lz w cl lk cd R rs cap rl T0 C0 O0 T C O l1 l2 l3 a1 a2 a3 b1 b2 b3 ft X0 N X1 X1 X2 wx) ∧ Hid (ResS rl wx (X1 + 1) X2 (.agg #[.slice T l1 b1, .slice C l2 b2, .slice O l3 b3, .int .i64 ft])))
    case first =>
      go_region_with (first | (go_at_call 10; refine (HTP.out _ (HRR.out.keep (L7.out.keep D7.out).b)).mono ?_; rintro e w8 ⟨⟨N8, rfl, -, -, ho8⟩, hb8⟩; have B8 := hide' (D7.out.trans hb8); obtain ⟨v0', v1', v2', v3'⟩ := L7.out.x1.keep B8.out) | (go_at_call 12; refine (HEP.out _ _ _ _ _ (O7.out.keep B8.out) ho8.routs).mono ?_; rintro e w9 ⟨rfl, hb9⟩; have B9 := hide' (B8.out.trans (hb9.mono B8.out.size))))
      all_goals
        go_wp2_with fail
        go_meet
        exact ⟨rfl, L7.out.keep B9.out, ress_keep V7.out B9.out⟩
    case rest =>
      obtain ⟨rfl, L10, V10⟩ := hcut
      clear p0 p1 p2 p3 c0 c1 c2 c3 d0 d1 d2 d3 f0 f1 f2 f3 L7 V7 O7 D7 HEP HGS
      obtain ⟨⟨p0, p1, p2, p3⟩, -, ⟨c0, c1, c2, c3⟩, ⟨d0, d1, d2, d3⟩, ⟨f0, f1, f2, f3⟩, -, -, -, -, -, -, -⟩ := L10.out
      go_wp2_with fail
      refine (HMP.out _ N X1 _ (by have := L10.out.z; have := L10.out.q2; have := L10.out.q4; omega) L10.out.o).mono ?_
      rintro e w11 ⟨⟨y, rfl, hy0, hy1⟩, he11⟩
      have L11 := hide' (L10.out.editP he11)
      have V11 := hide' (ress_edit V10.out he11 (.inl (by omega)))
      clear he11 L10 V10 HMP p0 p1 p2 p3 c0 c1 c2 c3 d0 d1 d2 d3 f0 f1 f2 f3
      obtain ⟨⟨p0, p1, p2, p3⟩, -, ⟨c0, c1, c2, c3⟩, ⟨d0, d1, d2, d3⟩, ⟨f0, f1, f2, f3⟩, -, -, -, -, -, -, -⟩ := L11.out
      have hy2 : ¬ y < 0 := by omega
      go_wp2_with (first | (go_at_call 21; refine (ress_eq V11.out L11.out.r0).mono ?_; rintro e w12 ⟨rfl, hb12⟩; have L12 := hide' (L11.out.keep hb12); have V12 := hide' (ress_keep V11.out hb12); clear hb12 p0 p1 p2 p3 c0 c1 c2 c3 d0 d1 d2 d3 f0 f1 f2 f3; obtain ⟨⟨p0, p1, p2, p3⟩, -, ⟨c0, c1, c2, c3⟩, ⟨d0, d1, d2, d3⟩, ⟨f0, f1, f2, f3⟩, -, -, -, -, -, -, -⟩ := L12.out) | (go_at_call 22; refine (ress_mark V12.out (by have := L12.out.z; have := L12.out.q4; omega) (Nat.le_of_lt L12.out.z)).mono ?_; rintro e w13 ⟨⟨m2, rfl, hm20, hmk⟩, he13⟩; have L13 := hide' (L12.out.editS he13); have K13 := hide' hmk; clear hmk he13 p0 p1 p2 p3 c0 c1 c2 c3 d0 d1 d2 d3 f0 f1 f2 f3; obtain ⟨⟨p0, p1, p2, p3⟩, -, ⟨c0, c1, c2, c3⟩, ⟨d0, d1, d2, d3⟩, ⟨f0, f1, f2, f3⟩, -, -, -, -, -, -, -⟩ := L13.out) | (go_at_call 23; refine (mkds_held K13.out).mono ?_; rintro e w14 ⟨rfl, hb14⟩; have L14 := hide' (L13.out.keep hb14); have K14 := hide' (mkds_keep K13.out hb14); clear hb14 p0 p1 p2 p3 c0 c1 c2 c3 d0 d1 d2 d3 f0 f1 f2 f3; obtain ⟨⟨p0, p1, p2, p3⟩, -, ⟨c0, c1, c2, c3⟩, ⟨d0, d1, d2, d3⟩, ⟨f0, f1, f2, f3⟩, -, -, -, -, -, -, -⟩ := L14.out))
      clear L11 V11 V12 L12 L13 K13
      refine (HTP.out _ (HRR.out.keep L14.out.b)).mono ?_
      rintro e w15 ⟨⟨N15, rfl, -, -, ho15⟩, hb15⟩
      have L15 := hide' (L14.out.keep hb15)
      have K15 := hide' (mkds_keep K14.out hb15)
      have O15 := hide' ho15.routs
      clear hb15 ho15 L14 K14
      clear p0 p1 p2 p3 c0 c1 c2 c3 d0 d1 d2 d3 f0 f1 f2 f3
      obtain ⟨⟨p0, p1, p2, p3⟩, -, ⟨c0, c1, c2, c3⟩, ⟨d0, d1, d2, d3⟩, ⟨f0, f1, f2, f3⟩, -, -, -, -, -, -, -⟩ := L15.out
      go_wp2_with fail
      refine (HGI.out _ _ _ O15.out (HF.out.below L15.out.b)).mono ?_
      rintro e w16 ⟨⟨T', C', O', h1, h2, h3, rfl, hr16⟩, hb16⟩
      have L16 := hide' (L15.out.keep hb16)
      have K16 := hide' (mkds_keep K15.out hb16)
      have V16 := hide' hr16
      clear hb16 hr16 L15 K15 O15
      clear p0 p1 p2 p3 c0 c1 c2 c3 d0 d1 d2 d3 f0 f1 f2 f3
      obtain ⟨⟨p0, p1, p2, p3⟩, -, ⟨c0, c1, c2, c3⟩, ⟨d0, d1, d2, d3⟩, ⟨f0, f1, f2, f3⟩, -, -, -, -, -, -, -⟩ := L16.out
      have z1 : w.heap.size < w16.heap.size := World.block_lt_of_cell? w16 _ p0
      have z2 : X0 < w16.heap.size := World.block_lt_of_cell? w16 _ c0
      have z3 : X1 < w16.heap.size := World.block_lt_of_cell? w16 _ d0
      have z4 : X2 < w16.heap.size := World.block_lt_of_cell? w16 _ f0
      go_wp2_with fail
      have U16 := hide' ((Below.refl _ w16).up (.cells #[.slice T' l1 h1, .slice C' l2 h2, .slice O' l3 h3, .int .i64 ft] 43))
      have L17 := hide' (L16.out.keep U16.out)
      have K17 := hide' (mkds_keep K16.out U16.out)
      refine (ress_eq (ress_keep V16.out U16.out) L17.out.r0).mono ?_
      generalize (w16.alloc (.cells #[.slice T' l1 h1, .slice C' l2 h2, .slice O' l3 h3, .int .i64 ft] 43)) = w17 at *
      rintro e w18 ⟨rfl, hb18⟩
      have L18 := hide' (L17.out.keep hb18)
      have K18 := hide' (mkds_keep K17.out hb18)
      clear hb18 L16 L17 K16 K17 V16 U16 z1 z2 z3 z4
      clear p0 p1 p2 p3 c0 c1 c2 c3 d0 d1 d2 d3 f0 f1 f2 f3
      obtain ⟨⟨p0, p1, p2, p3⟩, -, ⟨c0, c1, c2, c3⟩, ⟨d0, d1, d2, d3⟩, ⟨f0, f1, f2, f3⟩, -, -, -, -, -, -, -⟩ := L18.out
      go_wp2_with (go_at_call 23; refine (mkds_held K18.out).mono ?_; rintro e w19 ⟨rfl, hb19⟩; have B19 := hide' (L18.out.keep hb19).b; clear hb19)
      go_ret
      exact ⟨rfl, B19.out⟩
end Go.Proofs.YtdifamjkbagfcaaDoor
