/- FnExactSpawnsIn walked. -/
import Derived.Test.YtddapifljinjeaaDoorSr
import Derived.Test.YtddapifljinjeaaDoorStL
import Derived.Test.YtddapifljinjeaaDoorMk
import Derived.Deep.DeepCutAuto
import Derived.Deep.RegionWith
namespace Go.Proofs.YtddapifljinjeaaDoor
open Go.RowKit
open Rd Fl

/-- The argument's box at w's end and the box X of the copy that was handed in, its lists from N on. -/
structure Lp (w : World) (cl lk cd : Int) (R : Option Addr) (rs : List (List OpD)) (cap N hp X : Nat) (wx : World) : Prop where
  p : PBox w.heap.size cl lk cd R rs.length cap wx
  b : Below w.heap.size w wx
  x : PBox X cl lk cd (some ⟨N, 0, none⟩) rs.length rs.length wx
  o : OwnIn wx N hp rs
  q1 : w.heap.size < N
  q2 : N < hp
  q3 : hp ≤ X
theorem Lp.z {w : World} {cl lk cd : Int} {R : Option Addr} {rs : List (List OpD)} {cap N hp X : Nat} {wx : World} (h : Lp w cl lk cd R rs cap N hp X wx) : X < wx.heap.size := World.block_lt_of_cell? wx _ h.x.c0
theorem Lp.keep {w : World} {cl lk cd : Int} {R : Option Addr} {rs : List (List OpD)} {cap N hp X : Nat} {wx wy : World} (h : Lp w cl lk cd R rs cap N hp X wx) (hb : Below wx.heap.size wx wy) : Lp w cl lk cd R rs cap N hp X wy :=
  ⟨h.p.keep hb, h.b.trans (hb.mono h.b.size), h.x.keep hb, h.o.keep hb, h.q1, h.q2, h.q3⟩
/-- the argument's box alone -/
structure Lb (w : World) (cl lk cd : Int) (R : Option Addr) (n cap : Nat) (wx : World) : Prop where
  p : PBox w.heap.size cl lk cd R n cap wx
  b : Below w.heap.size w wx
theorem Lb.keep {w : World} {cl lk cd : Int} {R : Option Addr} {n cap : Nat} {wx wy : World} (h : Lb w cl lk cd R n cap wx) (hb : Below wx.heap.size wx wy) : Lb w cl lk cd R n cap wy := ⟨h.p.keep hb, h.b.trans (hb.mono h.b.size)⟩
theorem pbox_edit {N : Nat} {cl lk cd : Int} {R : Option Addr} {n cap : Nat} {w w' : World} (h : PBox N cl lk cd R n cap w) {a b : Nat} (he : Edit a b w w') (hp : N < a ∨ b ≤ N) : PBox N cl lk cd R n cap w' := ⟨he.cell h.c0 hp, he.cell h.c1 hp, he.cell h.c2 hp, he.cell h.c3 hp⟩
theorem Lb.edit {w : World} {cl lk cd : Int} {R : Option Addr} {n cap : Nat} {wx wy : World} (h : Lb w cl lk cd R n cap wx) {a b : Nat} (he : Edit a b wx wy) (hp : w.heap.size < a) : Lb w cl lk cd R n cap wy := ⟨pbox_edit h.p he (.inl hp), h.b.trans (he.b.mono (by omega))⟩
theorem Lp.editP {w : World} {cl lk cd : Int} {R : Option Addr} {rs : List (List OpD)} {cap N hp X : Nat} {wx wy : World} (h : Lp w cl lk cd R rs cap N hp X wx) (he : Edit (N + 1) hp wx wy) : Lb w cl lk cd R rs.length cap wy := ⟨pbox_edit h.p he (.inl (by have := h.q1; omega)), h.b.trans (he.b.mono (by have := h.q1; omega))⟩

set_option maxRecDepth 20000 in
set_option maxHeartbeats 16000000 in
theorem law_spawnsin (cl lk cd : Int) (R : Option Addr) (rs : List (List OpD)) (cap : Nat) (hl : rs.length ≤ 9223372036854775807) (hls : ∀ l ∈ rs, l.length ≤ 9223372036854775807) (hr : ∀ l ∈ rs, ∀ o ∈ l, o.r < 9223372036854775808) (w : World) (hR : RoutsAt w R rs) (hF : Forms w) :
    Calls Tryd.prog 3 #[.agg #[.int .i64 cl, .int .i64 lk, .int .i64 cd, .slice R rs.length cap]] w fun e w' => e = .returned (.bool true) ∧ Below w.heap.size w w' := by
  have HSZ := hide' (fun w hR => szprog_le cl lk cd R rs cap hl hls w hR)
  have HTP0 := hide' (fun hl hls w hR => toprog_any cl lk cd R rs cap hl hls w hR)
  have HGS0 := hide' (fun hl hls R cap w hR => sspawns_any cl lk cd R rs cap hl hls hr w hR)
  have HGI0 := hide' (fun hl hls R cap w hR hF => ispawns_any cl lk cd R rs cap hl hls hr w hR hF)
  have HEP0 := hide' (fun hl hls A B ca cb w hA hB => eqprog_any cl lk cd A B rs ca cb hl hls hr w hA hB)
  have HMP0 := hide' (fun hl hls cap N hi w hN hO => markprog_any cl lk cd rs cap N hi hl hls w hN hO)
  have HRR := hide' hR
  have HF := hide' hF
  clear hl hls hr hR hF
  generalize hg : goodS cl lk cd rs = g at HGS0 HGI0
  generalize hrs : spN cl lk cd rs = rl at HGS0 HGI0
  clear hg hrs
  go_enter Tryd.func3, Tryd.ntmps3
  go_wp2_with fail
  have hA : Lb w cl lk cd R rs.length cap (w.alloc (.cells #[.int .i64 cl, .int .i64 lk, .int .i64 cd, .slice R rs.length cap] 24)) := ⟨pbox_new w cl lk cd R rs.length cap 24, (Below.refl _ w).up _⟩
  refine (HSZ.out _ (HRR.out.keep hA.b)).mono ?_
  generalize (w.alloc (.cells #[.int .i64 cl, .int .i64 lk, .int .i64 cd, .slice R rs.length cap] 24)) = W0 at hA
  rintro e w1 ⟨⟨n, rfl, hn1, hn2, hn3⟩, hb1⟩
  have A1 := hide' (hA.keep hb1)
  clear hb1 hA
  obtain ⟨p0, p1, p2, p3⟩ := A1.out.p
  by_cases hn0 : n < 0
  · clear hn3
    go_wp2_with fail
    go_ret
    exact ⟨rfl, A1.out.b⟩
  · obtain ⟨hl, hls⟩ := hn3 (by omega)
    have HTP := hide' (HTP0.out hl hls)
    have HEP := hide' (HEP0.out hl hls)
    have HMP := hide' (HMP0.out hl hls)
    have HGS := hide' (HGS0.out hl hls)
    have HGI := hide' (HGI0.out hl hls)
    clear hn3 HTP0 HEP0 HMP0 HGS0 HGI0 hl hls HSZ hn1 hn2
    have hgg : (g != g) = false := by simp
    go_wp2_with (first | (go_at_call 6; refine (HTP.out _ (HRR.out.keep A1.out.b)).mono ?_; rintro e w2 ⟨⟨N2, rfl, -, -, ho2⟩, hb2⟩) | (go_at_call 5; refine (HGS.out _ _ _ ho2.routs).mono ?_; rintro e w3 ⟨⟨v0, rfl, hr3⟩, hb3⟩; have B23 := hide' (hb2.trans (hb3.mono hb2.size)); have A3 := hide' (A1.out.keep B23.out); have R3 := hide' (resi_less hr3 (lo' := w.heap.size) (Nat.le_trans A1.out.b.size hb2.size)); clear p0 p1 p2 p3; obtain ⟨p0, p1, p2, p3⟩ := A3.out.p; clear hb2 hb3 hr3 ho2) | fail)
    refine (HTP.out _ (HRR.out.keep A3.out.b)).mono ?_
    rintro e w4 ⟨⟨N, rfl, hN1, hN2, ho4⟩, hb4⟩
    have QN := hide' (show w.heap.size < N by have := World.block_lt_of_cell? w3 _ p0; simp only at this; omega)
    have ZR := hide' (show w3.heap.size ≤ N from hN1)
    have QH := hide' (show N < w4.heap.size from hN2)
    have A4 := hide' (A3.out.keep hb4)
    have R4 := hide' (resi_keep R3.out hb4)
    have S4 := hide' ho4.routs
    have I4 := hide' ho4.in
    generalize w3.heap.size = h0 at *
    clear p0 p1 p2 p3 hN1 hN2 hb4 ho4 A3 R3 B23 A1
    obtain ⟨p0, p1, p2, p3⟩ := A4.out.p
    have z2 : w.heap.size < w4.heap.size := World.block_lt_of_cell? w4 _ p0
    go_wp2_with fail
    have U4 := hide' ((Below.refl _ w4).up (.cells #[.int .i64 cl, .int .i64 lk, .int .i64 cd, .slice (some ⟨N, 0, none⟩) rs.length rs.length] 31))
    have X4 := hide' (pbox_new w4 cl lk cd (some ⟨N, 0, none⟩) rs.length rs.length 31)
    have L4 := hide' (show Lp w cl lk cd R rs cap N w4.heap.size w4.heap.size (w4.alloc (.cells #[.int .i64 cl, .int .i64 lk, .int .i64 cd, .slice (some ⟨N, 0, none⟩) rs.length rs.length] 31)) from ⟨A4.out.p.keep U4.out, A4.out.b.trans (U4.out.mono A4.out.b.size), X4.out, I4.out.keep U4.out, QN.out, QH.out, Nat.le_refl _⟩)
    have R5 := hide' (resi_keep R4.out U4.out)
    have S5 := hide' (S4.out.keep U4.out)
    refine (HGI.out _ _ _ S5.out (HF.out.below L4.out.b)).mono ?_
    have ZX := hide' (show w4.heap.size + 1 = (w4.alloc (.cells #[.int .i64 cl, .int .i64 lk, .int .i64 cd, .slice (some ⟨N, 0, none⟩) rs.length rs.length] 31)).heap.size by simp)
    clear U4 X4 A4 R4 S4 I4 p0 p1 p2 p3 z2 QH
    generalize (w4.alloc (.cells #[.int .i64 cl, .int .i64 lk, .int .i64 cd, .slice (some ⟨N, 0, none⟩) rs.length rs.length] 31)) = w5 at *
    generalize w4.heap.size = X at *
    rintro e w6 ⟨⟨v, rfl, hr6⟩, hb6⟩
    have L6 := hide' (L4.out.keep hb6)
    have R6 := hide' (resi_keep R5.out hb6)
    have S6 := hide' (S5.out.keep hb6)
    have V6 := hide' (resi_more (resi_less hr6 (Nat.le_of_eq ZX.out)) (show w6.heap.size ≤ w6.heap.size + 1 by omega))
    have ZV := hide' (show X + 1 < w6.heap.size + 1 by have := L6.out.z; omega)
    clear hr6 hb6 L4 R5 S5 ZX
    generalize w6.heap.size + 1 = hv at V6 ZV
    obtain ⟨p0, p1, p2, p3⟩ := L6.out.p
    obtain ⟨x0, x1, x2, x3⟩ := L6.out.x
    go_wp2_with (go_at_call 8; refine (resi_eq V6.out R6.out).mono ?_; rintro e w10 ⟨rfl, hb10⟩; have L10 := hide' (L6.out.keep hb10); have S10 := hide' (S6.out.keep hb10); have R10 := hide' (resi_keep R6.out hb10); have V10 := hide' (resi_keep V6.out hb10); clear p0 p1 p2 p3 x0 x1 x2 x3; obtain ⟨p0, p1, p2, p3⟩ := L10.out.p; obtain ⟨x0, x1, x2, x3⟩ := L10.out.x)
    clear hb10 L6 S6 R6 V6
    have D10 := hide' (Below.refl w10.heap.size w10).drew
    go_cut [45] (fun t wx => t = .bool false ∧ Hid (Lp w cl lk cd R rs cap N X X wx) ∧ Hid (ResI rl wx w.heap.size h0 v0) ∧ Hid (ResI rl wx (X + 1) hv v))
    case first =>
      go_region_with (first | (go_at_call 6; refine (HTP.out _ (HRR.out.keep (L10.out.keep D10.out).b)).mono ?_; rintro e w11 ⟨⟨N11, rfl, -, -, ho11⟩, hb11⟩; have B11 := hide' (D10.out.trans hb11); obtain ⟨v0', v1', v2', v3'⟩ := L10.out.x.keep B11.out) | (go_at_call 9; refine (HEP.out _ _ _ _ _ (S10.out.keep B11.out) ho11.routs).mono ?_; rintro e w12 ⟨rfl, hb12⟩; have B12 := hide' (B11.out.trans (hb12.mono B11.out.size))))
      all_goals
        go_wp2_with fail
        go_meet
        exact ⟨rfl, L10.out.keep B12.out, resi_keep R10.out B12.out, resi_keep V10.out B12.out⟩
    case rest =>
      obtain ⟨rfl, L13, R13, V13⟩ := hcut
      clear p0 p1 p2 p3 x0 x1 x2 x3 D10 L10 S10 R10 V10 HEP HGS
      obtain ⟨x0, x1, x2, x3⟩ := L13.out.x
      go_wp2_with fail
      refine (HMP.out _ N X _ (by have := L13.out.z; have := L13.out.q2; omega) L13.out.o).mono ?_
      rintro e w17 ⟨⟨y, rfl, hy0, hy1⟩, he17⟩
      have A17 := hide' (L13.out.editP he17)
      have R17 := hide' (resi_edit R13.out he17 (.inr (by have := ZR.out; omega)))
      have V17 := hide' (resi_edit V13.out he17 (.inl (by omega)))
      have HLO := hide' (show h0 ≤ X + 1 by have := ZR.out; have := L13.out.q2; omega)
      have HTW := hide' (show w.heap.size < X + 1 by have := QN.out; have := L13.out.q2; omega)
      clear he17 L13 R13 V13 x0 x1 x2 x3 HMP hy1
      obtain ⟨p0, p1, p2, p3⟩ := A17.out.p
      go_wp2_with (first | (go_at_call 8; refine (resi_eq V17.out R17.out).mono ?_; rintro e w19 ⟨rfl, hb19⟩; have A19 := hide' (A17.out.keep hb19); have R19 := hide' (resi_keep R17.out hb19); have V19 := hide' (resi_keep V17.out hb19); clear hb19 p0 p1 p2 p3) | (go_at_call 11; refine (resi_mark V19.out ZV.out).mono ?_; rintro e w20 ⟨⟨m2, rfl, hm20, hmk20⟩, he20⟩; have A20 := hide' (A19.out.edit he20 HTW.out); have R20 := hide' (resi_edit R19.out he20 (.inr HLO.out)); have K20 := hide' hmk20; clear hmk20 he20 A19 R19 V19) | (go_at_call 12; refine (mkdi_held K20.out).mono ?_; rintro e w21 ⟨rfl, hb21⟩; have A21 := hide' (A20.out.keep hb21); have R21 := hide' (resi_keep R20.out hb21); have K21 := hide' (mkdi_keep K20.out hb21); clear hb21 A20 R20 K20; obtain ⟨p0, p1, p2, p3⟩ := A21.out.p))
      clear A17 R17 V17
      refine (HTP.out _ (HRR.out.keep A21.out.b)).mono ?_
      rintro e w22 ⟨⟨N22, rfl, -, -, ho22⟩, hb22⟩
      have A22 := hide' (A21.out.keep hb22)
      have R22 := hide' (resi_keep R21.out hb22)
      have K22 := hide' (mkdi_keep K21.out hb22)
      clear hb22 A21 R21 K21 p0 p1 p2 p3
      go_wp2_with fail
      refine (HGI.out _ _ _ ho22.routs (HF.out.below A22.out.b)).mono ?_
      rintro e w24 ⟨⟨v24, rfl, hr24⟩, hb24⟩
      have A24 := hide' (A22.out.keep hb24)
      have R24 := hide' (resi_keep R22.out hb24)
      have K24 := hide' (mkdi_keep K22.out hb24)
      have V24 := hide' hr24
      clear hb24 hr24 A22 R22 K22
      go_wp2_with (first | (go_at_call 8; refine (resi_eq V24.out R24.out).mono ?_; rintro e w26 ⟨rfl, hb26⟩; have A26 := hide' (A24.out.keep hb26); have K26 := hide' (mkdi_keep K24.out hb26); clear hb26) | (go_at_call 12; refine (mkdi_held K26.out).mono ?_; rintro e w27 ⟨rfl, hb27⟩; have A27 := hide' (A26.out.keep hb27); clear hb27))
      go_ret
      exact ⟨rfl, A27.out.b⟩
end Go.Proofs.YtddapifljinjeaaDoor
