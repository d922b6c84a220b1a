/- States: the copy as a struct. -/
import Derived.Test.YtddapifljinjeaaStD
namespace Go.Proofs.Ytddapifljinjeaa
open Go.RowKit
open Rd Fl

/-- A state's lists lie in blocks of their own. -/
structure StOwn (w : World) (N1 N2 N3 : Nat) (s : StD) : Prop where
  t : ThOwn w N1 s.ts.length s.ts
  c : LOwn fv w N2 s.cl
  o : LOwn iv w N3 s.ow
theorem StOwn.keep {w w' : World} {N1 N2 N3 : Nat} {s : StD} (h : StOwn w N1 N2 N3 s) (hb : Below w.heap.size w w') : StOwn w' N1 N2 N3 s := ⟨h.t.keep hb, h.c.keep hb, h.o.keep hb⟩
theorem StOwn.at {w : World} {N1 N2 N3 : Nat} {s : StD} (h : StOwn w N1 N2 N3 s) : StAt w (some ⟨N1, 0, none⟩) (some ⟨N2, 0, none⟩) (some ⟨N3, 0, none⟩) s := ⟨h.t.at, h.c.at, h.o.at⟩

set_option maxRecDepth 20000 in
set_option maxHeartbeats 2000000 in
theorem tostate_any (s : StD) (T C O : Option Addr) (k1 k2 k3 : Nat) (hf : StFit s 1048576) (w : World) (hS : StAt w T C O s) :
    Calls Try.prog 25 #[.agg #[.slice T s.ts.length k1, .slice C s.cl.length k2, .slice O s.ow.length k3, .int .i64 s.ft]] w fun e w' => (∃ N1 N2 N3, e = .returned (.agg #[.slice (some ⟨N1, 0, none⟩) s.ts.length s.ts.length, .slice (some ⟨N2, 0, none⟩) s.cl.length s.cl.length, .slice (some ⟨N3, 0, none⟩) s.ow.length s.ow.length, .int .i64 s.ft]) ∧ w.heap.size ≤ N1 ∧ N1 < N2 ∧ N2 < N3 ∧ N3 < w'.heap.size ∧ StOwn w' N1 N2 N3 s) ∧ Below w.heap.size w w' := by
  obtain ⟨ts, cl, ow, ft⟩ := s
  simp only at *
  have H1 := hide' (fun w h => toths_any T ts k1 hf.t hf.k w h)
  have H2 := hide' (fun w h => tofls_any C cl k2 hf.c w h)
  have H3 := hide' (fun w h => toints_any O ow k3 hf.o w h)
  have HT := hide' hS.t
  have HC := hide' hS.c
  have HO := hide' hS.o
  simp only at HT HC HO
  clear hf hS
  go_enter Try.func25, Try.ntmps25
  go_wp2_with fail
  have e3 : ∀ o1 o2 o3, (((w.alloc o1).alloc o2).alloc o3).heap.size = w.heap.size + 1 + 1 + 1 := fun o1 o2 o3 => by simp
  have b0 : ∀ o1 o2 o3, Below w.heap.size w (((w.alloc o1).alloc o2).alloc o3) := fun o1 o2 o3 => (((Below.refl _ w).up _).up _).up _
  refine (H1.out _ (HT.out.keep (b0 _ _ _))).mono ?_
  rintro e w1 ⟨rfl, hz1, ho1, hb1⟩
  obtain ⟨hc1, hf1⟩ := bcell hb1
  rw [e3] at ho1 hz1
  have hz : w.heap.size + 1 + 1 < w1.heap.size := by omega
  have P1 := hide' ho1
  have B1 := hide' ((b0 _ _ _).trans (hb1.mono (by rw [e3]; omega)))
  clear ho1 hb1
  simp only [e3] at *
  go_wp2_with fail
  refine (H2.out _ (HC.out.keep (below_set B1.out (w.heap.size + 1 + 1) 0 _ (by omega)))).mono ?_
  rintro e w2 ⟨rfl, hz2, ho2, hb2⟩
  obtain ⟨hc2, hf2⟩ := bcell hb2
  rw [set_size] at hz2 ho2
  have P2 := hide' ho2
  have Q2 := hide' ((P1.out.setc (w.heap.size + 1 + 1) 0 _ (by omega)).keep hb2)
  have B2 := hide' ((below_set B1.out (w.heap.size + 1 + 1) 0 _ (by omega)).trans (hb2.mono (by rw [set_size]; omega)))
  simp only [set_size] at hc2 hf2
  clear ho2 hb2
  have hza : w.heap.size < w1.heap.size := by omega
  have hzb : w.heap.size + 1 < w1.heap.size := by omega
  have hy2 : w.heap.size + 1 + 1 < w2.heap.size := by omega
  go_wp2_with fail
  refine (H3.out _ (HO.out.keep (below_set B2.out (w.heap.size + 1 + 1) 1 _ (by omega)))).mono ?_
  rintro e w3 ⟨rfl, hz3, ho3, hb3⟩
  obtain ⟨hc3, hf3⟩ := bcell hb3
  rw [set_size] at hz3 ho3
  have P3 := hide' ho3
  have Q3 := hide' ((Q2.out.setc (w.heap.size + 1 + 1) 1 _ (by omega)).keep hb3)
  have R3 := hide' ((P2.out.set (w.heap.size + 1 + 1) 1 _ (by omega)).keep hb3)
  have B3 := hide' ((below_set B2.out (w.heap.size + 1 + 1) 1 _ (by omega)).trans (hb3.mono (by rw [set_size]; omega)))
  simp only [set_size] at hc3 hf3
  clear ho3 hb3
  have hya : w.heap.size < w2.heap.size := by omega
  have hyb : w.heap.size + 1 < w2.heap.size := by omega
  have hy3 : w.heap.size + 1 + 1 < w3.heap.size := by omega
  go_wp2_with fail
  refine bodyPost_ret (v := .agg #[.slice (some ⟨w.heap.size + 1 + 1 + 1, 0, none⟩) ts.length ts.length, .slice (some ⟨w1.heap.size, 0, none⟩) cl.length cl.length, .slice (some ⟨w2.heap.size, 0, none⟩) ow.length ow.length, .int .i64 ft]) (by simp [results, Try.results25, go_sem, hc1, hc2, hc3, hzb, hyb]) rfl ?_
  refine ⟨⟨w.heap.size + 1 + 1 + 1, w1.heap.size, w2.heap.size, rfl, by omega, hz1, hz2, by simp only [set_size]; exact hz3, ?_⟩, ?_⟩
  · refine ⟨?_, ?_, ?_⟩
    · iterate 6 refine ThOwn.setc ?_ _ _ _ (by omega)
      exact Q3.out
    · iterate 6 refine LOwn.set ?_ _ _ _ (by omega)
      exact R3.out
    · iterate 6 refine LOwn.set ?_ _ _ _ (by omega)
      exact P3.out
  · iterate 6 refine below_set ?_ _ _ _ (by omega)
    exact B3.out
end Go.Proofs.Ytddapifljinjeaa
