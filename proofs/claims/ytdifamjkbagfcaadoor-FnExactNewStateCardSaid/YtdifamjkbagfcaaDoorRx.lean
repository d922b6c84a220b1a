/- Answers that are states: marked. -/
import Derived.Test.YtdifamjkbagfcaaDoorRw
import Derived.Test.YtdifamjkbagfcaaDoorLw
namespace Go.Proofs.YtdifamjkbagfcaaDoor
open Go.RowKit
open Rd Fl

theorem blk_pick {α : Type} {f : α → Value} {l : List α} {w w1 : World} {lo hi : Nat} {A : Option Addr} {M : Nat} (h : Blk f l w lo hi A M) (he1 : Edit lo hi w w1) (hlo : lo ≤ w.heap.size) :
    ∃ M', (l.length ≠ 0 → M' = M ∧ A = some ⟨M', 0, none⟩) ∧ (l.length = 0 → M' = w1.heap.size) ∧ w1.there M' 0 l.length ∧ ∀ wx, Edit M' (M' + 1) w1 wx → Edit lo hi w1 wx := by
  by_cases h0 : l.length = 0
  · exact ⟨w1.heap.size, (fun h => absurd h0 h), (fun _ => rfl), (fun j hj => absurd hj (by omega)), fun wx he => Edit.of_below he.b (Nat.le_trans hlo he1.b.size)⟩
  · obtain ⟨h1, h2, h3, -, h5⟩ := h h0
    exact ⟨M, (fun _ => ⟨rfl, h1⟩), (fun h => absurd h h0), he1.th _ _ _ h5.1, fun wx he => he.mono h2 h3⟩
/-- marks elsewhere leave a marked thread as it is -/
theorem ThK.past {w w' : World} {N : Nat} {F : Nat → Nat} {i : Nat} {t : ThD} {k : Int} (h : ThK w N F i t k) {M n : Nat} (he : Edit M (M + 1) w w') (h0 : n = 0 → M = w.heap.size) (h1 : n ≠ 0 → N ≠ M) (h2 : n ≠ 0 → t.sk.length ≠ 0 → F i ≠ M) : ThK w' N F i t k := by
  obtain ⟨S, cap, g1, g2, g3⟩ := h
  have hlt := World.block_lt_of_cell? w _ (g1 0 _ rfl)
  simp only at hlt
  refine ThK.edit ⟨S, cap, g1, g2, g3⟩ he ?_ fun hne => ?_
  · by_cases e : n = 0
    · rw [h0 e]; exact .inl hlt
    · have := h1 e; omega
  · by_cases e : n = 0
    · rw [h0 e]; exact .inl (World.block_lt_of_cell? w _ (g3 0 (by omega)))
    · have := h2 e hne; omega
theorem StB.thc {s : StD} {w : World} {lo hi : Nat} {T C O : Option Addr} {N1 N2 N3 : Nat} {F : Nat → Nat} (h : StB s w lo hi T C O N1 N2 N3 F) : ∀ i (hi' : i < s.ts.length), ThC w N1 lo hi F i s.ts[i] := by
  intro i hi'
  obtain ⟨S, cap, g1, g2, g3, g4⟩ := h.k i hi'
  refine ⟨S, cap, (th_range g1).2.2.2.2.2, fun hne => ?_, g2⟩
  obtain ⟨a1, a2, a3, -, a5⟩ := g3 hne
  exact ⟨a1, g4 hne, a2, a3, a5.1⟩

set_option maxRecDepth 20000 in
set_option maxHeartbeats 4000000 in
theorem ress_mark {s : StD} {w : World} {lo hi : Nat} {v : Value} (h : ResS s w lo hi v) (hlo : lo ≤ w.heap.size) (hhi : hi ≤ w.heap.size) : Calls Tryd.prog 22 #[v, .int .i64 1] w fun e w' => (∃ y : Int, e = .returned (.int .i64 y) ∧ 0 ≤ y ∧ MkdS s w' v y) ∧ Edit lo hi w w' := by
  obtain ⟨T, C, O, N1, N2, N3, F, k1, k2, k3, rfl, hB⟩ := h.r
  have hn := h.n
  obtain ⟨n1, n2, n3, n4⟩ := h.n
  have hto := tof_le s.ts n2 s.ts.length
  have HB0 := hide' hB
  have H1 := hide' (fun (wx : World) (hb : StB s wx lo hi T C O N1 N2 N3 F) => markths_all T s.ts k1 N1 lo hi F n1 n2 hb.t wx hb.d hb.thc)
  have H2 := hide' (fun (M : Nat) (hA : s.cl.length ≠ 0 → C = some ⟨M, 0, none⟩) (wx : World) ht => markfls_any C s.cl.length k2 M (1 + tof s.ts s.ts.length) (by omega) (by omega) (by omega) hA wx ht)
  have H3 := hide' (fun (M : Nat) (hA : s.ow.length ≠ 0 → O = some ⟨M, 0, none⟩) (wx : World) ht => markints_any O s.ow.length k3 M (1 + tof s.ts s.ts.length + s.cl.length) (by omega) (by omega) (by omega) hA wx ht)
  have HFIN := hide' (fun (wx : World) (y : Int) (hy : y = 1 + tof s.ts s.ts.length + s.cl.length + s.ow.length) q2 q3 q4 q5 q6 q7 => (show MkdS s wx (.agg #[.slice T s.ts.length k1, .slice C s.cl.length k2, .slice O s.ow.length k3, .int .i64 s.ft]) y from ⟨hn, hy, T, C, O, N1, N2, N3, F, k1, k2, k3, rfl, q2, q3, q4, q5, q6, q7⟩))
  have HLO := hide' hlo
  have HHI := hide' hhi
  have HTO := hide' hto
  clear hB h hn hlo hhi hto n2
  go_enter Tryd.func22, Tryd.ntmps22
  go_wp2_with fail
  have hbw : Below w.heap.size w (w.alloc (.cells #[.slice T s.ts.length k1, .slice C s.cl.length k2, .slice O s.ow.length k3, .int .i64 s.ft] 43)) := (Below.refl _ w).up _
  have E0 := hide' (Edit.of_below (lo := lo) (hi := hi) hbw HLO.out)
  have hbox := sbox_new w T C O s.ts.length k1 s.cl.length k2 s.ow.length k3 s.ft 43
  have B0 := hide' (HB0.out.keep hbw)
  have Z0 := hide' hbw.size
  refine (H1.out _ B0.out).mono ?_
  generalize (w.alloc (.cells #[.slice T s.ts.length k1, .slice C s.cl.length k2, .slice O s.ow.length k3, .int .i64 s.ft] 43)) = w0 at *
  rintro e w1 ⟨rfl, hk1, he1⟩
  obtain ⟨a0, a1, a2, a3⟩ := hbox.edit he1 (.inr HHI.out)
  have E1 := hide' (E0.out.trans he1)
  obtain ⟨M2, m1, m2, m3, m4⟩ := blk_pick B0.out.c he1 (Nat.le_trans HLO.out Z0.out)
  have HK1 := hide' hk1
  have HM21 := hide' m1
  have HM22 := hide' m2
  have HM24 := hide' m4
  have HT2 := hide' m3
  have HE01 := hide' he1
  clear hk1 he1 m1 m2 m3 m4 hbox hbw
  go_wp2_with fail
  refine (H2.out M2 (fun h => (HM21.out h).2) _ HT2.out).mono ?_
  rintro e w2 ⟨rfl, hx2, he2⟩
  have he2' := HM24.out _ he2
  obtain ⟨b0, b1, b2, b3⟩ := (⟨a0, a1, a2, a3⟩ : SBox w.heap.size T C O s.ts.length k1 s.cl.length k2 s.ow.length k3 s.ft w1).edit he2' (.inr HHI.out)
  have E2 := hide' (E1.out.trans he2')
  have HK2 := hide' (fun i (hi' : i < s.ts.length) => (HK1.out i hi').past he2 HM22.out (fun hne => by rw [(HM21.out hne).1]; exact B0.out.e12 (by omega) hne) (fun hne hk => by rw [(HM21.out hne).1]; exact B0.out.f2 i hi' hk hne))
  obtain ⟨M3, m1, m2, m3, m4⟩ := blk_pick B0.out.o (HE01.out.trans he2') (Nat.le_trans HLO.out Z0.out)
  have HX2 := hide' hx2
  have HM31 := hide' m1
  have HM32 := hide' m2
  have HM34 := hide' m4
  have HT3 := hide' m3
  clear hx2 he2 he2' m1 m2 m3 m4 a0 a1 a2 a3
  go_wp2_with fail
  refine (H3.out M3 (fun h => (HM31.out h).2) _ HT3.out).mono ?_
  rintro e w3 ⟨rfl, hx3, he3⟩
  have E3 := hide' (E2.out.trans (HM34.out _ he3))
  have HK3 := hide' (fun i (hi' : i < s.ts.length) => (HK2.out i hi').past he3 HM32.out (fun hne => by rw [(HM31.out hne).1]; exact B0.out.e13 (by omega) hne) (fun hne hk => by rw [(HM31.out hne).1]; exact B0.out.f3 i hi' hk hne))
  have HX3 := hide' (show ∀ j : Nat, j < s.cl.length → w3.cell? ⟨M2, j, none⟩ = some (fw (1 + tof s.ts s.ts.length + j)) from fun j hj => he3.cell (HX2.out j hj) (by
    by_cases e : s.ow.length = 0
    · rw [HM32.out e]; exact .inl (World.block_lt_of_cell? w2 _ (HX2.out j hj))
    · have := B0.out.e23 (by omega) e
      rw [← (HM21.out (by omega)).1, ← (HM31.out e).1] at this
      omega))
  have HX4 := hide' hx3
  clear hx3 he3 b0 b1 b2 b3
  have hy0 : (0 : Int) ≤ 1 + tof s.ts s.ts.length + s.cl.length + s.ow.length := by omega
  go_wp2_with fail
  go_ret
  refine ⟨⟨_, rfl, hy0, HFIN.out _ _ rfl (fun h => (B0.out.t h).1) ?_ ?_ HK3.out ?_ ?_⟩, E3.out⟩
  · intro h; rw [(HM21.out h).2, (HM21.out h).1]
  · intro h; rw [(HM31.out h).2, (HM31.out h).1]
  · intro j hj; rw [← (HM21.out (by omega)).1]; exact HX3.out j hj
  · intro j hj; rw [← (HM31.out (by omega)).1]; exact HX4.out j hj
end Go.Proofs.YtdifamjkbagfcaaDoor
