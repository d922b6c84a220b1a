/- FnExactThreadsOf walked. -/
import Derived.Test.YtddapifljinjeaaTf
import Derived.Test.YtddapifljinjeaaStF
import Derived.Deep.DeepCutAuto
import Derived.Deep.RegionWith
namespace Go.Proofs.Ytddapifljinjeaa
open Go.RowKit
open Rd Fl

/-- The argument's box at w's end and the box X of the copy that was handed in, its lists from NE on. -/
structure Lq (w : World) (r : RunD) (rc : Int) (E P T C O : Option Addr) (n4 n5 n1 n2 n3 k4 k5 k1 k2 k3 : Nat) (ft : Int) (NE NP N1 N2 N3 hp X : Nat) (wx : World) : Prop where
  a : RBox w.heap.size rc E n4 k4 P n5 k5 T C O n1 k1 n2 k2 n3 k3 ft wx
  b : Below w.heap.size w wx
  x : RBox X rc (some ⟨NE, 0, none⟩) n4 n4 (some ⟨NP, 0, none⟩) n5 n5 (some ⟨N1, 0, none⟩) (some ⟨N2, 0, none⟩) (some ⟨N3, 0, none⟩) n1 n1 n2 n2 n3 n3 ft wx
  o : RunIn wx NE NP N1 N2 N3 hp r
  q1 : w.heap.size < NE
  q3 : hp ≤ X
theorem Lq.z {w : World} {r : RunD} {rc : Int} {E P T C O : Option Addr} {n4 n5 n1 n2 n3 k4 k5 k1 k2 k3 : Nat} {ft : Int} {NE NP N1 N2 N3 hp X : Nat} {wx : World} (h : Lq w r rc E P T C O n4 n5 n1 n2 n3 k4 k5 k1 k2 k3 ft NE NP N1 N2 N3 hp X wx) : X < wx.heap.size := World.block_lt_of_cell? wx _ h.x.c0
theorem Lq.q {w : World} {r : RunD} {rc : Int} {E P T C O : Option Addr} {n4 n5 n1 n2 n3 k4 k5 k1 k2 k3 : Nat} {ft : Int} {NE NP N1 N2 N3 hp X : Nat} {wx : World} (h : Lq w r rc E P T C O n4 n5 n1 n2 n3 k4 k5 k1 k2 k3 ft NE NP N1 N2 N3 hp X wx) : NE < hp := by have := h.o.n1; have := h.o.n2; have := h.o.s.n2; have := h.o.s.n3; have := h.o.s.hi; omega
theorem Lq.keep {w : World} {r : RunD} {rc : Int} {E P T C O : Option Addr} {n4 n5 n1 n2 n3 k4 k5 k1 k2 k3 : Nat} {ft : Int} {NE NP N1 N2 N3 hp X : Nat} {wx : World} {wy : World} (h : Lq w r rc E P T C O n4 n5 n1 n2 n3 k4 k5 k1 k2 k3 ft NE NP N1 N2 N3 hp X wx) (hb : Below wx.heap.size wx wy) : Lq w r rc E P T C O n4 n5 n1 n2 n3 k4 k5 k1 k2 k3 ft NE NP N1 N2 N3 hp X wy :=
  ⟨h.a.keep hb, h.b.trans (hb.mono h.b.size), h.x.keep hb, h.o.keep hb, h.q1, h.q3⟩
/-- the argument's box alone -/
structure La (w : World) (rc : Int) (E P T C O : Option Addr) (n4 n5 n1 n2 n3 k4 k5 k1 k2 k3 : Nat) (ft : Int) (wx : World) : Prop where
  a : RBox w.heap.size rc E n4 k4 P n5 k5 T C O n1 k1 n2 k2 n3 k3 ft wx
  b : Below w.heap.size w wx
theorem La.keep {w : World} {rc : Int} {E P T C O : Option Addr} {n4 n5 n1 n2 n3 k4 k5 k1 k2 k3 : Nat} {ft : Int} {wx wy : World} (h : La w rc E P T C O n4 n5 n1 n2 n3 k4 k5 k1 k2 k3 ft wx) (hb : Below wx.heap.size wx wy) : La w rc E P T C O n4 n5 n1 n2 n3 k4 k5 k1 k2 k3 ft wy := ⟨h.a.keep hb, h.b.trans (hb.mono h.b.size)⟩
theorem La.edit {w : World} {rc : Int} {E P T C O : Option Addr} {n4 n5 n1 n2 n3 k4 k5 k1 k2 k3 : Nat} {ft : Int} {wx wy : World} (h : La w rc E P T C O n4 n5 n1 n2 n3 k4 k5 k1 k2 k3 ft wx) {a b : Nat} (he : Edit a b wx wy) (hp : w.heap.size < a) : La w rc E P T C O n4 n5 n1 n2 n3 k4 k5 k1 k2 k3 ft wy := ⟨h.a.edit he (.inl hp), h.b.trans (he.b.mono (by omega))⟩
theorem Lq.editR {w : World} {r : RunD} {rc : Int} {E P T C O : Option Addr} {n4 n5 n1 n2 n3 k4 k5 k1 k2 k3 : Nat} {ft : Int} {NE NP N1 N2 N3 hp X : Nat} {wx : World} {wy : World} (h : Lq w r rc E P T C O n4 n5 n1 n2 n3 k4 k5 k1 k2 k3 ft NE NP N1 N2 N3 hp X wx) (he : Edit NE hp wx wy) : La w rc E P T C O n4 n5 n1 n2 n3 k4 k5 k1 k2 k3 ft wy := ⟨h.a.edit he (.inl h.q1), h.b.trans (he.b.mono (by have := h.q1; omega))⟩

set_option maxRecDepth 20000 in
set_option maxHeartbeats 16000000 in
theorem law_threadsof (r : RunD) (E P T C O : Option Addr) (k4 k5 k1 k2 k3 : Nat) (hf : RunFit r 9223372036854775807) (hn : StNums r.en) (w : World) (hS : RunAt w E P T C O r) :
    Calls Try.prog 3 #[.agg #[.int .i64 r.cd, .slice E r.tr.length k4, .slice P r.pk.length k5, .slice T r.en.ts.length k1, .slice C r.en.cl.length k2, .slice O r.en.ow.length k3, .int .i64 r.en.ft]] w fun e w' => e = .returned (.bool true) ∧ Below w.heap.size w w' := by
  have HSZ := hide' (fun w h => szrun_any r E P T C O k4 k5 k1 k2 k3 1048576 (by omega) (by omega) hf w h)
  have HT0 := hide' (fun hf w h => torun_any r E P T C O k4 k5 k1 k2 k3 hf w h)
  have HGB := hide' (fun (hf : RunFit r 1048576) => (⟨fun E P T C O k4 k5 k1 k2 k3 w (h : RunAt w E P T C O r) => sthreads_any r E P T C O k4 k5 k1 k2 k3 hf.e w h.e, fun E P T C O k4 k5 k1 k2 k3 w (h : RunAt w E P T C O r) => ithreads_any r E P T C O k4 k5 k1 k2 k3 hf.e w h.e⟩ : (∀ E P T C O k4 k5 k1 k2 k3 w, RunAt w E P T C O r → _) ∧ (∀ E P T C O k4 k5 k1 k2 k3 w, RunAt w E P T C O r → _)))
  have HE0 := hide' (fun hf E P T C O E' P' T' C' O' a1 a2 a3 a4 a5 b1 b2 b3 b4 b5 w hA hB => eqrun_any r E P T C O E' P' T' C' O' a1 a2 a3 a4 a5 b1 b2 b3 b4 b5 hf hn w hA hB)
  have HM0 := hide' (fun hf c4 c5 c1 c2 c3 NE NP N1 N2 N3 hi w hz hS => markrun_any r c4 c5 c1 c2 c3 NE NP N1 N2 N3 hi 1 (by omega) (by omega) hf w hz hS)
  have HRR := hide' hS
  clear hf hn hS
  generalize hg : decide (r.tr.length ≤ 200) = g at HGB
  generalize hrs : threadsN r = rl at HGB
  clear hg hrs
  generalize r.cd = rc at *
  generalize r.tr.length = n4 at *
  generalize r.pk.length = n5 at *
  generalize r.en.ts.length = n1 at *
  generalize r.en.cl.length = n2 at *
  generalize r.en.ow.length = n3 at *
  generalize r.en.ft = ft at *
  go_enter Try.func3, Try.ntmps3
  go_wp2_with fail
  have hA : La w rc E P T C O n4 n5 n1 n2 n3 k4 k5 k1 k2 k3 ft (w.alloc (.cells #[.int .i64 rc, .slice E n4 k4, .slice P n5 k5, .slice T n1 k1, .slice C n2 k2, .slice O n3 k3, .int .i64 ft] 29)) := ⟨rbox_new w rc E n4 k4 P n5 k5 T C O n1 k1 n2 k2 n3 k3 ft 29, (Below.refl _ w).up _⟩
  refine (HSZ.out _ (HRR.out.keep hA.b)).mono ?_
  generalize (w.alloc (.cells #[.int .i64 rc, .slice E n4 k4, .slice P n5 k5, .slice T n1 k1, .slice C n2 k2, .slice O n3 k3, .int .i64 ft] 29)) = W0 at hA
  rintro e w1 ⟨⟨n, rfl, hn1, hn2, hn3⟩, hb1⟩
  have A1 := hide' (hA.keep hb1)
  clear hb1 hA
  obtain ⟨p0, p1, p2, p3, p4, p5, p6⟩ := A1.out.a
  by_cases hn0 : n < 0
  · clear hn3
    go_wp2_with fail
    go_ret
    exact ⟨rfl, A1.out.b⟩
  · have hfit := hn3 (by omega)
    have HT := hide' (HT0.out hfit)
    have HE := hide' (HE0.out hfit)
    have HM := hide' (HM0.out hfit)
    obtain ⟨hgs, hgi⟩ := HGB.out hfit
    have HGS := hide' hgs
    have HGI := hide' hgi
    clear hn3 HT0 HE0 HM0 HGB hfit HSZ hgs hgi hn1 hn2
    have hgg : (g != g) = false := by simp
    go_wp2_with (first | (go_at_call 7; refine (HT.out _ (HRR.out.keep A1.out.b)).mono ?_; rintro e w2 ⟨⟨e1, e2, e3, e4, e5, rfl, -, -, -, -, -, -, ho2⟩, hb2⟩) | (go_at_call 6; refine (HGS.out _ _ _ _ _ _ _ _ _ _ _ ho2.at).mono ?_; rintro e w3 ⟨⟨v0, rfl, hr3⟩, hb3⟩; have B23 := hide' (hb2.trans (hb3.mono hb2.size)); have A3 := hide' (A1.out.keep B23.out); have R3 := hide' (resi_less hr3 (lo' := w.heap.size) (Nat.le_trans A1.out.b.size hb2.size)); clear p0 p1 p2 p3 p4 p5 p6; obtain ⟨p0, p1, p2, p3, p4, p5, p6⟩ := A3.out.a; clear hb2 hb3 hr3 ho2) | fail)
    refine (HT.out _ (HRR.out.keep A3.out.b)).mono ?_
    rintro e w4 ⟨⟨NE, NP, N1, N2, N3, rfl, hq1, hq2, hq3, hq4, hq5, hq6, ho4⟩, hb4⟩
    have QN := hide' (show w.heap.size < NE by have := World.block_lt_of_cell? w3 _ p0; simp only at this; omega)
    have ZR := hide' (show w3.heap.size ≤ NE from hq1)
    have A4 := hide' (A3.out.keep hb4)
    have R4 := hide' (resi_keep R3.out hb4)
    have S4 := hide' ho4.at
    have I4 := hide' (ho4.in hq2 hq3 hq4 hq5 hq6)
    generalize w3.heap.size = h0 at *
    clear p0 p1 p2 p3 p4 p5 p6 hq1 hq2 hq3 hq4 hq5 hq6 hb4 ho4 A3 R3 B23 A1
    obtain ⟨p0, p1, p2, p3, p4, p5, p6⟩ := A4.out.a
    have z2 : w.heap.size < w4.heap.size := World.block_lt_of_cell? w4 _ p0
    go_wp2_with fail
    have U4 := hide' ((Below.refl _ w4).up (.cells #[.int .i64 rc, .slice (some ⟨NE, 0, none⟩) n4 n4, .slice (some ⟨NP, 0, none⟩) n5 n5, .slice (some ⟨N1, 0, none⟩) n1 n1, .slice (some ⟨N2, 0, none⟩) n2 n2, .slice (some ⟨N3, 0, none⟩) n3 n3, .int .i64 ft] 38))
    have X4 := hide' (rbox_new w4 rc (some ⟨NE, 0, none⟩) n4 n4 (some ⟨NP, 0, none⟩) n5 n5 (some ⟨N1, 0, none⟩) (some ⟨N2, 0, none⟩) (some ⟨N3, 0, none⟩) n1 n1 n2 n2 n3 n3 ft 38)
    have L4 := hide' (show Lq w r rc E P T C O n4 n5 n1 n2 n3 k4 k5 k1 k2 k3 ft NE NP N1 N2 N3 w4.heap.size w4.heap.size (w4.alloc (.cells #[.int .i64 rc, .slice (some ⟨NE, 0, none⟩) n4 n4, .slice (some ⟨NP, 0, none⟩) n5 n5, .slice (some ⟨N1, 0, none⟩) n1 n1, .slice (some ⟨N2, 0, none⟩) n2 n2, .slice (some ⟨N3, 0, none⟩) n3 n3, .int .i64 ft] 38)) from ⟨A4.out.a.keep U4.out, A4.out.b.trans (U4.out.mono A4.out.b.size), X4.out, I4.out.keep U4.out, QN.out, Nat.le_refl _⟩)
    have R5 := hide' (resi_keep R4.out U4.out)
    have S5 := hide' (S4.out.keep U4.out)
    refine (HGI.out _ _ _ _ _ _ _ _ _ _ _ S5.out).mono ?_
    have ZX := hide' (show w4.heap.size + 1 = (w4.alloc (.cells #[.int .i64 rc, .slice (some ⟨NE, 0, none⟩) n4 n4, .slice (some ⟨NP, 0, none⟩) n5 n5, .slice (some ⟨N1, 0, none⟩) n1 n1, .slice (some ⟨N2, 0, none⟩) n2 n2, .slice (some ⟨N3, 0, none⟩) n3 n3, .int .i64 ft] 38)).heap.size by simp)
    clear U4 X4 A4 R4 S4 I4 p0 p1 p2 p3 p4 p5 p6 z2
    generalize (w4.alloc (.cells #[.int .i64 rc, .slice (some ⟨NE, 0, none⟩) n4 n4, .slice (some ⟨NP, 0, none⟩) n5 n5, .slice (some ⟨N1, 0, none⟩) n1 n1, .slice (some ⟨N2, 0, none⟩) n2 n2, .slice (some ⟨N3, 0, none⟩) n3 n3, .int .i64 ft] 38)) = w5 at *
    generalize w4.heap.size = X at *
    rintro e w6 ⟨⟨v, rfl, hr6⟩, hb6⟩
    have L6 := hide' (L4.out.keep hb6)
    have R6 := hide' (resi_keep R5.out hb6)
    have S6 := hide' (S5.out.keep hb6)
    have V6 := hide' (resi_more (resi_less hr6 (Nat.le_of_eq ZX.out)) (show w6.heap.size ≤ w6.heap.size + 1 by omega))
    have ZV := hide' (show X + 1 < w6.heap.size + 1 by have := L6.out.z; omega)
    clear hr6 hb6 L4 R5 S5 ZX
    generalize w6.heap.size + 1 = hv at V6 ZV
    obtain ⟨p0, p1, p2, p3, p4, p5, p6⟩ := L6.out.a
    obtain ⟨x0, x1, x2, x3, x4, x5, x6⟩ := L6.out.x
    go_wp2_with (go_at_call 9; refine (resi_eq V6.out R6.out).mono ?_; rintro e w10 ⟨rfl, hb10⟩; have L10 := hide' (L6.out.keep hb10); have S10 := hide' (S6.out.keep hb10); have R10 := hide' (resi_keep R6.out hb10); have V10 := hide' (resi_keep V6.out hb10); clear p0 p1 p2 p3 p4 p5 p6 x0 x1 x2 x3 x4 x5 x6; obtain ⟨p0, p1, p2, p3, p4, p5, p6⟩ := L10.out.a; obtain ⟨x0, x1, x2, x3, x4, x5, x6⟩ := L10.out.x)
    clear hb10 L6 S6 R6 V6
    have D10 := hide' (Below.refl w10.heap.size w10).drew
    go_cut [45] (fun t wx => t = .bool false ∧ Hid (Lq w r rc E P T C O n4 n5 n1 n2 n3 k4 k5 k1 k2 k3 ft NE NP N1 N2 N3 X X wx) ∧ Hid (ResI rl wx w.heap.size h0 v0) ∧ Hid (ResI rl wx (X + 1) hv v))
    case first =>
      go_region_with (first | (go_at_call 7; refine (HT.out _ (HRR.out.keep (L10.out.keep D10.out).b)).mono ?_; rintro e w11 ⟨⟨e1, e2, e3, e4, e5, rfl, -, -, -, -, -, -, ho11⟩, hb11⟩; have B11 := hide' (D10.out.trans hb11); obtain ⟨v0', v1', v2', v3', v4', v5', v6'⟩ := L10.out.x.keep B11.out) | (go_at_call 10; refine (HE.out _ _ _ _ _ _ _ _ _ _ _ _ _ _ _ _ _ _ _ _ _ (S10.out.keep B11.out) ho11.at).mono ?_; rintro e w12 ⟨rfl, hb12⟩; have B12 := hide' (B11.out.trans (hb12.mono B11.out.size))))
      all_goals
        go_wp2_with fail
        go_meet
        exact ⟨rfl, L10.out.keep B12.out, resi_keep R10.out B12.out, resi_keep V10.out B12.out⟩
    case rest =>
      obtain ⟨rfl, L13, R13, V13⟩ := hcut
      clear p0 p1 p2 p3 p4 p5 p6 x0 x1 x2 x3 x4 x5 x6 D10 L10 S10 R10 V10 HE HGS
      obtain ⟨x0, x1, x2, x3, x4, x5, x6⟩ := L13.out.x
      go_wp2_with fail
      refine (HM.out _ _ _ _ _ NE NP N1 N2 N3 X _ (Nat.le_of_lt L13.out.z) L13.out.o).mono ?_
      rintro e w17 ⟨⟨y, rfl, hy0⟩, he17⟩
      have A17 := hide' (L13.out.editR he17)
      have R17 := hide' (resi_edit R13.out he17 (.inr ZR.out))
      have V17 := hide' (resi_edit V13.out he17 (.inl (by omega)))
      have HLO := hide' (show h0 ≤ X + 1 by have := ZR.out; have := L13.out.q; omega)
      have HTW := hide' (show w.heap.size < X + 1 by have := QN.out; have := L13.out.q; omega)
      clear he17 L13 R13 V13 x0 x1 x2 x3 x4 x5 x6 HM
      obtain ⟨p0, p1, p2, p3, p4, p5, p6⟩ := A17.out.a
      go_wp2_with (first | (go_at_call 9; refine (resi_eq V17.out R17.out).mono ?_; rintro e w19 ⟨rfl, hb19⟩; have A19 := hide' (A17.out.keep hb19); have R19 := hide' (resi_keep R17.out hb19); have V19 := hide' (resi_keep V17.out hb19); clear hb19 p0 p1 p2 p3 p4 p5 p6) | (go_at_call 12; refine (resi_mark V19.out ZV.out).mono ?_; rintro e w20 ⟨⟨m2, rfl, hm20, hmk20⟩, he20⟩; have A20 := hide' (A19.out.edit he20 HTW.out); have R20 := hide' (resi_edit R19.out he20 (.inr HLO.out)); have K20 := hide' hmk20; clear hmk20 he20 A19 R19 V19) | (go_at_call 13; refine (mkdi_held K20.out).mono ?_; rintro e w21 ⟨rfl, hb21⟩; have A21 := hide' (A20.out.keep hb21); have R21 := hide' (resi_keep R20.out hb21); have K21 := hide' (mkdi_keep K20.out hb21); clear hb21 A20 R20 K20; obtain ⟨p0, p1, p2, p3, p4, p5, p6⟩ := A21.out.a))
      clear A17 R17 V17
      refine (HT.out _ (HRR.out.keep A21.out.b)).mono ?_
      rintro e w22 ⟨⟨e1, e2, e3, e4, e5, rfl, -, -, -, -, -, -, ho22⟩, hb22⟩
      have A22 := hide' (A21.out.keep hb22)
      have R22 := hide' (resi_keep R21.out hb22)
      have K22 := hide' (mkdi_keep K21.out hb22)
      clear hb22 A21 R21 K21 p0 p1 p2 p3 p4 p5 p6
      go_wp2_with fail
      refine (HGI.out _ _ _ _ _ _ _ _ _ _ _ ho22.at).mono ?_
      rintro e w24 ⟨⟨v24, rfl, hr24⟩, hb24⟩
      have A24 := hide' (A22.out.keep hb24)
      have R24 := hide' (resi_keep R22.out hb24)
      have K24 := hide' (mkdi_keep K22.out hb24)
      have V24 := hide' hr24
      clear hb24 hr24 A22 R22 K22
      go_wp2_with (first | (go_at_call 9; refine (resi_eq V24.out R24.out).mono ?_; rintro e w26 ⟨rfl, hb26⟩; have A26 := hide' (A24.out.keep hb26); have K26 := hide' (mkdi_keep K24.out hb26); clear hb26) | (go_at_call 13; refine (mkdi_held K26.out).mono ?_; rintro e w27 ⟨rfl, hb27⟩; have A27 := hide' (A26.out.keep hb27); clear hb27))
      go_ret
      exact ⟨rfl, A27.out.b⟩
end Go.Proofs.Ytddapifljinjeaa
