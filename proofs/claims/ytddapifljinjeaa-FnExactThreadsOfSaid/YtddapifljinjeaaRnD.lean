/- Runs: comparisons, marks (frame). -/
import Derived.Test.YtddapifljinjeaaRnC
namespace Go.Proofs.Ytddapifljinjeaa
open Go.RowKit
open Rd Fl

set_option maxRecDepth 20000 in
set_option maxHeartbeats 2000000 in
theorem eqrun_any (r : RunD) (E P T C O E' P' T' C' O' : Option Addr) (k4 k5 k1 k2 k3 j4 j5 j1 j2 j3 : Nat) (hf : RunFit r 1048576) (hn : StNums r.en) (w : World) (hA : RunAt w E P T C O r) (hB : RunAt w E' P' T' C' O' r) :
    Calls Try.prog 10 #[.agg #[.int .i64 r.cd, .slice E r.tr.length k4, .slice P r.pk.length k5, .slice T r.en.ts.length k1, .slice C r.en.cl.length k2, .slice O r.en.ow.length k3, .int .i64 r.en.ft], .agg #[.int .i64 r.cd, .slice E' r.tr.length j4, .slice P' r.pk.length j5, .slice T' r.en.ts.length j1, .slice C' r.en.cl.length j2, .slice O' r.en.ow.length j3, .int .i64 r.en.ft]] w fun e w' => e = .returned (.bool true) ∧ Below w.heap.size w w' := by
  have H1 := hide' (fun w h1 h2 => eqevs_any E E' r.tr k4 j4 hf.e w h1 h2)
  have H2 := hide' (fun w h1 h2 => eqints_any P P' r.pk k5 j5 hf.p w h1 h2)
  have H3 := hide' (fun w h1 h2 => eqstate_any r.en T C O T' C' O' k1 k2 k3 j1 j2 j3 hf.s hn w h1 h2)
  have HA := hide' hA
  have HB := hide' hB
  clear hf hn hA hB
  generalize r.cd = rc at *
  generalize r.tr.length = n4 at *
  generalize r.pk.length = n5 at *
  generalize r.en.ts.length = n1 at *
  generalize r.en.cl.length = n2 at *
  generalize r.en.ow.length = n3 at *
  generalize r.en.ft = ft at *
  go_enter Try.func10, Try.ntmps10
  go_wp2_with fail
  have hb0 : Below w.heap.size w ((w.alloc (.cells #[.int .i64 rc, .slice E n4 k4, .slice P n5 k5, .slice T n1 k1, .slice C n2 k2, .slice O n3 k3, .int .i64 ft] 38)).alloc (.cells #[.int .i64 rc, .slice E' n4 j4, .slice P' n5 j5, .slice T' n1 j1, .slice C' n2 j2, .slice O' n3 j3, .int .i64 ft] 38)) := below2 w _ _
  refine (H1.out _ (HA.out.e.keep hb0) (HB.out.e.keep hb0)).mono ?_
  have hx := (rbox_new w rc E n4 k4 P n5 k5 T C O n1 k1 n2 k2 n3 k3 ft 38).keep ((Below.refl _ _).up (.cells #[.int .i64 rc, .slice E' n4 j4, .slice P' n5 j5, .slice T' n1 j1, .slice C' n2 j2, .slice O' n3 j3, .int .i64 ft] 38))
  have hy := rbox_new (w.alloc (.cells #[.int .i64 rc, .slice E n4 k4, .slice P n5 k5, .slice T n1 k1, .slice C n2 k2, .slice O n3 k3, .int .i64 ft] 38)) rc E' n4 j4 P' n5 j5 T' C' O' n1 j1 n2 j2 n3 j3 ft 38
  rw [show (w.alloc (.cells #[.int .i64 rc, .slice E n4 k4, .slice P n5 k5, .slice T n1 k1, .slice C n2 k2, .slice O n3 k3, .int .i64 ft] 38)).heap.size = w.heap.size + 1 by simp] at hy
  generalize ((w.alloc (.cells #[.int .i64 rc, .slice E n4 k4, .slice P n5 k5, .slice T n1 k1, .slice C n2 k2, .slice O n3 k3, .int .i64 ft] 38)).alloc (.cells #[.int .i64 rc, .slice E' n4 j4, .slice P' n5 j5, .slice T' n1 j1, .slice C' n2 j2, .slice O' n3 j3, .int .i64 ft] 38)) = W at hb0 hx hy
  rintro e w1 ⟨rfl, hb1⟩
  have X1 := hide' (hx.keep hb1)
  have Y1 := hide' (hy.keep hb1)
  obtain ⟨a0, a1, a2, a3, a4, a5, a6⟩ := X1.out
  obtain ⟨c0, c1, c2, c3, c4, c5, c6⟩ := Y1.out
  have B1 := hide' (hb0.trans (hb1.mono hb0.size))
  clear hb1 hx hy hb0
  go_wp2_with fail
  refine (H2.out _ (HA.out.p.keep B1.out) (HB.out.p.keep B1.out)).mono ?_
  rintro e w2 ⟨rfl, hb2⟩
  have X2 := hide' (X1.out.keep hb2)
  have Y2 := hide' (Y1.out.keep hb2)
  clear a0 a1 a2 a3 a4 a5 a6 c0 c1 c2 c3 c4 c5 c6
  obtain ⟨a0, a1, a2, a3, a4, a5, a6⟩ := X2.out
  obtain ⟨c0, c1, c2, c3, c4, c5, c6⟩ := Y2.out
  have B2 := hide' (B1.out.trans (hb2.mono B1.out.size))
  clear hb2
  go_wp2_with fail
  refine (H3.out _ (HA.out.s.keep B2.out) (HB.out.s.keep B2.out)).mono ?_
  rintro e w3 ⟨rfl, hb3⟩
  have B3 := hide' (B2.out.trans (hb3.mono B2.out.size))
  clear hb3 a0 a1 a2 a3 a4 a5 a6 c0 c1 c2 c3 c4 c5 c6
  go_wp2_with fail
  all_goals first
    | (go_ret; exact ⟨rfl, B3.out⟩)
    | (go_quiet (fail); go_wp2_with fail; go_ret; exact ⟨rfl, below_draws B3.out _⟩)

/-- A run's lists lie in blocks from NE on and below hi, and can be written. -/
structure RunIn (w : World) (NE NP N1 N2 N3 hi : Nat) (r : RunD) : Prop where
  e : w.there NE 0 (r.tr.length * 5)
  p : w.there NP 0 r.pk.length
  s : StIn w N1 N2 N3 hi r.en
  n1 : NE < NP
  n2 : NP < N1
theorem RunOwn.in {w : World} {NE NP N1 N2 N3 : Nat} {r : RunD} (h : RunOwn w NE NP N1 N2 N3 r) (h0 : NE < NP) (h1 : NP < N1) (h2 : N1 < N2) (h3 : N2 < N3) (h4 : N3 < w.heap.size) : RunIn w NE NP N1 N2 N3 w.heap.size r := ⟨h.e.1, h.p.1, h.s.in h2 h3 h4, h0, h1⟩
theorem RunIn.keep {w w' : World} {NE NP N1 N2 N3 hi : Nat} {r : RunD} (h : RunIn w NE NP N1 N2 N3 hi r) (hb : Below w.heap.size w w') : RunIn w' NE NP N1 N2 N3 hi r := ⟨there_keep hb h.e, there_keep hb h.p, h.s.keep hb, h.n1, h.n2⟩
theorem RunIn.edit {w w' : World} {NE NP N1 N2 N3 hi : Nat} {r : RunD} (h : RunIn w NE NP N1 N2 N3 hi r) {lo up : Nat} (he : Edit lo up w w') (hN : N1 < lo ∨ up ≤ N1) : RunIn w' NE NP N1 N2 N3 hi r := ⟨he.th _ _ _ h.e, he.th _ _ _ h.p, h.s.edit he hN, h.n1, h.n2⟩

set_option maxRecDepth 20000 in
set_option maxHeartbeats 2000000 in
theorem markrun_any (r : RunD) (c4 c5 c1 c2 c3 NE NP N1 N2 N3 hi : Nat) (k : Int) (h0 : 0 ≤ k) (hk : k ≤ 1048576) (hf : RunFit r 1048576) (w : World) (hz : hi ≤ w.heap.size) (hS : RunIn w NE NP N1 N2 N3 hi r) :
    Calls Try.prog 11 #[.agg #[.int .i64 r.cd, .slice (some ⟨NE, 0, none⟩) r.tr.length c4, .slice (some ⟨NP, 0, none⟩) r.pk.length c5, .slice (some ⟨N1, 0, none⟩) r.en.ts.length c1, .slice (some ⟨N2, 0, none⟩) r.en.cl.length c2, .slice (some ⟨N3, 0, none⟩) r.en.ow.length c3, .int .i64 r.en.ft], .int .i64 k] w fun e w' => (∃ y : Int, e = .returned (.int .i64 y) ∧ 0 ≤ y) ∧ Edit NE hi w w' := by
  have q1 := hS.n1
  have q2 := hS.n2
  have q3 := hS.s.n2
  have q4 := hS.s.n3
  have q5 := hS.s.hi
  have hl4 : (r.tr.length : Int) ≤ 1048576 := by have := hf.e; omega
  have hl5 : (r.pk.length : Int) ≤ 1048576 := by have := hf.p; omega
  have H1 := hide' (fun w h => markevs_any (some ⟨NE, 0, none⟩) r.tr.length c4 NE k h0 (by omega) hf.e (fun _ => rfl) w h)
  have H2 := hide' (fun (y : Int) hy0 hy1 w h => markints_any (some ⟨NP, 0, none⟩) r.pk.length c5 NP y hy0 hy1 hf.p (fun _ => rfl) w h)
  have H3 := hide' (fun (y : Int) hy0 hy1 w hz h => markstate_any r.en c1 c2 c3 N1 N2 N3 hi y hy0 hy1 hf.s w hz h)
  have HS := hide' hS
  have Q := hide' (show NE < NP ∧ NP < N1 ∧ N1 < N2 ∧ N2 < N3 ∧ N3 < hi from ⟨q1, q2, q3, q4, q5⟩)
  have HZ := hide' hz
  clear hS hf q1 q2 q3 q4 q5 hz
  generalize hn0 : r.cd = rc at *
  generalize hn4 : r.tr.length = n4 at *
  generalize hn5 : r.pk.length = n5 at *
  generalize hn1 : r.en.ts.length = n1 at *
  generalize hn2 : r.en.cl.length = n2 at *
  generalize hn3 : r.en.ow.length = n3 at *
  generalize hn6 : r.en.ft = ft at *
  go_enter Try.func11, Try.ntmps11
  go_wp2_with fail
  have hbw : Below w.heap.size w (w.alloc (.cells #[.int .i64 rc, .slice (some ⟨NE, 0, none⟩) n4 c4, .slice (some ⟨NP, 0, none⟩) n5 c5, .slice (some ⟨N1, 0, none⟩) n1 c1, .slice (some ⟨N2, 0, none⟩) n2 c2, .slice (some ⟨N3, 0, none⟩) n3 c3, .int .i64 ft] 38)) := (Below.refl _ w).up _
  have E0 := hide' (Edit.of_below (lo := NE) (hi := hi) hbw (by have := Q.out; have := HZ.out; omega))
  have hbox := rbox_new w rc (some ⟨NE, 0, none⟩) n4 c4 (some ⟨NP, 0, none⟩) n5 c5 (some ⟨N1, 0, none⟩) (some ⟨N2, 0, none⟩) (some ⟨N3, 0, none⟩) n1 c1 n2 c2 n3 c3 ft 38
  have HS1 := hide' (HS.out.keep hbw)
  have hz2 := hbw.size
  have T1 := hide' HS1.out.e
  simp only [hn4] at T1
  refine (H1.out _ T1.out).mono ?_
  generalize (w.alloc (.cells #[.int .i64 rc, .slice (some ⟨NE, 0, none⟩) n4 c4, .slice (some ⟨NP, 0, none⟩) n5 c5, .slice (some ⟨N1, 0, none⟩) n1 c1, .slice (some ⟨N2, 0, none⟩) n2 c2, .slice (some ⟨N3, 0, none⟩) n3 c3, .int .i64 ft] 38)) = w0 at *
  rintro e w1 ⟨rfl, -, he1⟩
  have he1' := he1.mono (lo' := NE) (hi' := hi) (Nat.le_refl _) (by have := Q.out; omega)
  have X1 := hide' (hbox.edit he1' (.inr HZ.out))
  obtain ⟨a0, a1, a2, a3, a4, a5, a6⟩ := X1.out
  have E1 := hide' (E0.out.trans he1')
  have I1 := hide' (HS1.out.edit he1 (.inr (by have := Q.out; omega)))
  have Z1 := hide' (show hi ≤ w1.heap.size by have := he1.b.size; have := HZ.out; omega)
  have T2 := hide' I1.out.p
  simp only [hn5] at T2
  clear he1 he1' hbox hbw
  go_wp2_with fail
  refine (H2.out (k + 5 * n4) (by omega) (by omega) _ T2.out).mono ?_
  rintro e w2 ⟨rfl, -, he2⟩
  have he2' := he2.mono (lo' := NE) (hi' := hi) (by have := Q.out; omega) (by have := Q.out; omega)
  have X2 := hide' (X1.out.edit he2' (.inr HZ.out))
  clear a0 a1 a2 a3 a4 a5 a6
  obtain ⟨a0, a1, a2, a3, a4, a5, a6⟩ := X2.out
  have E2 := hide' (E1.out.trans he2')
  have I2 := hide' (I1.out.edit he2 (.inr (by have := Q.out; omega)))
  have Z2 := hide' (show hi ≤ w2.heap.size by have := he2.b.size; have := Z1.out; omega)
  clear he2 he2'
  go_wp2_with fail
  refine (H3.out (k + 5 * n4 + n5) (by omega) (by omega) _ Z2.out I2.out.s).mono ?_
  rintro e w3 ⟨⟨y, rfl, hy⟩, he3⟩
  have E3 := hide' (E2.out.trans (he3.mono (by have := Q.out; omega) (Nat.le_refl _)))
  clear he3 a0 a1 a2 a3 a4 a5 a6
  go_wp2_with fail
  go_ret
  exact ⟨⟨_, rfl, hy⟩, E3.out⟩
end Go.Proofs.Ytddapifljinjeaa
