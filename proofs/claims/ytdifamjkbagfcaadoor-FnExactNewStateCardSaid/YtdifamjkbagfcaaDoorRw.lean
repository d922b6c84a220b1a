/- Answers that are states: marked and held. -/
import Derived.Test.YtdifamjkbagfcaaDoorRv
namespace Go.Proofs.YtdifamjkbagfcaaDoor
open Go.RowKit
open Rd Fl

/-- v's numbers are 1, 2 and so on up to y. -/
structure MkdS (s : StD) (w : World) (v : Value) (y : Int) : Prop where
  n : s.ts.length ≤ 5 ∧ (∀ t ∈ s.ts, t.sk.length ≤ 8) ∧ s.cl.length ≤ 4 ∧ s.ow.length ≤ 4
  y : y = 1 + tof s.ts s.ts.length + s.cl.length + s.ow.length
  c : ∃ T C O N1 N2 N3 F k1 k2 k3, v = .agg #[.slice T s.ts.length k1, .slice C s.cl.length k2, .slice O s.ow.length k3, .int .i64 s.ft] ∧ (s.ts.length ≠ 0 → T = some ⟨N1, 0, none⟩) ∧ (s.cl.length ≠ 0 → C = some ⟨N2, 0, none⟩) ∧ (s.ow.length ≠ 0 → O = some ⟨N3, 0, none⟩) ∧
    (∀ i (h : i < s.ts.length), ThK w N1 F i s.ts[i] (1 + tof s.ts i)) ∧ (∀ j : Nat, j < s.cl.length → w.cell? ⟨N2, j, none⟩ = some (fw (1 + tof s.ts s.ts.length + j))) ∧ (∀ j : Nat, j < s.ow.length → w.cell? ⟨N3, j, none⟩ = some (.int .i64 (1 + tof s.ts s.ts.length + s.cl.length + j)))
theorem mkds_keep {s : StD} {w w' : World} {v : Value} {y : Int} (h : MkdS s w v y) (hb : Below w.heap.size w w') : MkdS s w' v y := by
  obtain ⟨T, C, O, N1, N2, N3, F, k1, k2, k3, h1, h2, h3, h4, h5, h6, h7⟩ := h.c
  exact ⟨h.n, h.y, T, C, O, N1, N2, N3, F, k1, k2, k3, h1, h2, h3, h4, fun i hi => (h5 i hi).keep hb, fun j hj => keep_cell hb (h6 j hj), fun j hj => keep_cell hb (h7 j hj)⟩

set_option maxRecDepth 20000 in
set_option maxHeartbeats 2000000 in
theorem mkds_held {s : StD} {w : World} {v : Value} {y : Int} (h : MkdS s w v y) : Calls Tryd.prog 23 #[v, .int .i64 1] w fun e w' => e = .returned (.int .i64 y) ∧ Below w.heap.size w w' := by
  obtain ⟨T, C, O, N1, N2, N3, F, k1, k2, k3, rfl, h2, h3, h4, h5, h6, h7⟩ := h.c
  obtain ⟨n1, n2, n3, n4⟩ := h.n
  have hy := h.y
  have hto := tof_le s.ts n2 s.ts.length
  have H1 := hide' (fun (wx : World) (hb : Below w.heap.size w wx) => heldths_any T s.ts k1 N1 F n1 n2 h2 wx (fun i hi => (h5 i hi).keep hb))
  have H2 := hide' (fun (wx : World) (hb : Below w.heap.size w wx) => heldfls_any C s.cl.length k2 N2 (1 + tof s.ts s.ts.length) (by omega) (by omega) h3 wx (fun j hj => keep_cell hb (h6 j hj)))
  have H3 := hide' (fun (wx : World) (hb : Below w.heap.size w wx) => heldints_any O s.ow.length k3 N3 (1 + tof s.ts s.ts.length + s.cl.length) (by omega) (by omega) (by omega) h4 wx (fun j hj => keep_cell hb (h7 j hj)))
  subst hy
  generalize hA : (1 + tof s.ts s.ts.length : Int) = a at *
  have a1 : 1 ≤ a := by omega
  have a2 : a ≤ 66 := by omega
  clear hA hto h5 h6 h7 n2
  generalize hn1 : s.ts.length = l1 at *
  generalize s.cl.length = l2 at *
  generalize s.ow.length = l3 at *
  generalize s.ft = ft at *
  have b1 : ¬ a < 0 := by omega
  have b2 : ¬ a + l2 < 0 := by omega
  have b3 : ¬ a + l2 + l3 < 0 := by omega
  have HBX := hide' ((Below.refl _ w).up (.cells #[.slice T l1 k1, .slice C l2 k2, .slice O l3 k3, .int .i64 ft] 43))
  go_enter Tryd.func23, Tryd.ntmps23
  go_wp2_with (first | (go_at_call 54; refine (H1.out _ HBX.out).mono ?_; rintro e w' ⟨rfl, rfl⟩) | (go_at_call 55; refine (H2.out _ HBX.out).mono ?_; rintro e w' ⟨rfl, rfl⟩) | (go_at_call 18; refine (H3.out _ HBX.out).mono ?_; rintro e w' ⟨rfl, rfl⟩))
  go_ret
  exact ⟨rfl, HBX.out⟩
end Go.Proofs.YtdifamjkbagfcaaDoor
