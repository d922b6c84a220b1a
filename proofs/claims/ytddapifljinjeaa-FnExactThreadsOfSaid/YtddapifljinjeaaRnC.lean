/- Runs: the copy as a struct, comparisons, marks (frame). -/
import Derived.Test.YtddapifljinjeaaRnB
namespace Go.Proofs.Ytddapifljinjeaa
open Go.RowKit
open Rd Fl

/-- A run's lists lie in blocks of their own. -/
structure RunOwn (w : World) (NE NP N1 N2 N3 : Nat) (r : RunD) : Prop where
  e : EvsOwn w NE r.tr
  p : LOwn iv w NP r.pk
  s : StOwn w N1 N2 N3 r.en
theorem RunOwn.keep {w w' : World} {NE NP N1 N2 N3 : Nat} {r : RunD} (h : RunOwn w NE NP N1 N2 N3 r) (hb : Below w.heap.size w w') : RunOwn w' NE NP N1 N2 N3 r := ⟨h.e.keep hb, h.p.keep hb, h.s.keep hb⟩
theorem RunOwn.at {w : World} {NE NP N1 N2 N3 : Nat} {r : RunD} (h : RunOwn w NE NP N1 N2 N3 r) : RunAt w (some ⟨NE, 0, none⟩) (some ⟨NP, 0, none⟩) (some ⟨N1, 0, none⟩) (some ⟨N2, 0, none⟩) (some ⟨N3, 0, none⟩) r := ⟨h.e.at, h.p.at, h.s.at⟩
theorem StOwn.setc {w : World} {N1 N2 N3 : Nat} {s : StD} (h : StOwn w N1 N2 N3 s) (b o : Nat) (v : Value) (h1 : b < N1) (h2 : b < N2) (h3 : b < N3) : StOwn (w.setCell ⟨b, o, none⟩ v) N1 N2 N3 s := ⟨h.t.setc _ _ _ h1, h.c.set _ _ _ (by omega), h.o.set _ _ _ (by omega)⟩

set_option maxRecDepth 20000 in
set_option maxHeartbeats 4000000 in
theorem torun_any (r : RunD) (E P T C O : Option Addr) (k4 k5 k1 k2 k3 : Nat) (hf : RunFit r 1048576) (w : World) (hS : RunAt w E P T C O r) :
    Calls Try.prog 7 #[.agg #[.int .i64 r.cd, .slice E r.tr.length k4, .slice P r.pk.length k5, .slice T r.en.ts.length k1, .slice C r.en.cl.length k2, .slice O r.en.ow.length k3, .int .i64 r.en.ft]] w fun e w' => (∃ NE NP N1 N2 N3, e = .returned (.agg #[.int .i64 r.cd, .slice (some ⟨NE, 0, none⟩) r.tr.length r.tr.length, .slice (some ⟨NP, 0, none⟩) r.pk.length r.pk.length, .slice (some ⟨N1, 0, none⟩) r.en.ts.length r.en.ts.length, .slice (some ⟨N2, 0, none⟩) r.en.cl.length r.en.cl.length, .slice (some ⟨N3, 0, none⟩) r.en.ow.length r.en.ow.length, .int .i64 r.en.ft]) ∧ w.heap.size ≤ NE ∧ NE < NP ∧ NP < N1 ∧ N1 < N2 ∧ N2 < N3 ∧ N3 < w'.heap.size ∧ RunOwn w' NE NP N1 N2 N3 r) ∧ Below w.heap.size w w' := by
  obtain ⟨rc, tr, pk, en⟩ := r
  simp only at *
  have H1 := hide' (fun w h => toevs_any E tr k4 hf.e w h)
  have H2 := hide' (fun w h => toints_any P pk k5 hf.p w h)
  have H3 := hide' (fun w h => tostate_any en T C O k1 k2 k3 hf.s w h)
  have HE := hide' hS.e
  have HP := hide' hS.p
  have HS := hide' hS.s
  simp only at HE HP HS
  clear hf hS
  generalize hn4 : tr.length = n4 at *
  generalize hn5 : pk.length = n5 at *
  generalize hn1 : en.ts.length = n1 at *
  generalize hn2 : en.cl.length = n2 at *
  generalize hn3 : en.ow.length = n3 at *
  generalize en.ft = ft at *
  go_enter Try.func7, Try.ntmps7
  go_wp2_with fail
  have e3 : ∀ o1 o2 o3, (((w.alloc o1).alloc o2).alloc o3).heap.size = w.heap.size + 1 + 1 + 1 := fun o1 o2 o3 => by simp
  have b0 : ∀ o1 o2 o3, Below w.heap.size w (((w.alloc o1).alloc o2).alloc o3) := fun o1 o2 o3 => below3 w o1 o2 o3
  refine (H1.out _ (HE.out.keep (b0 _ _ _))).mono ?_
  rintro e w1 ⟨rfl, hz1, ho1, hb1⟩
  obtain ⟨hc1, hf1⟩ := bcell hb1
  rw [e3] at ho1 hz1
  have hz : w.heap.size + 1 + 1 < w1.heap.size := by omega
  have P1 := hide' ho1
  have B1 := hide' ((b0 _ _ _).trans (hb1.mono (by rw [e3]; omega)))
  clear ho1 hb1
  simp only [e3] at *
  go_wp2_with fail
  refine (H2.out _ (HP.out.keep (below_set B1.out (w.heap.size + 1 + 1) 1 _ (by omega)))).mono ?_
  rintro e w2 ⟨rfl, hz2, ho2, hb2⟩
  obtain ⟨hc2, hf2⟩ := bcell hb2
  rw [set_size] at hz2 ho2
  have P2 := hide' ho2
  have Q2 := hide' ((P1.out.set (w.heap.size + 1 + 1) 1 _ (by omega)).keep hb2)
  have B2 := hide' ((below_set B1.out (w.heap.size + 1 + 1) 1 _ (by omega)).trans (hb2.mono (by rw [set_size]; omega)))
  simp only [set_size] at hc2 hf2
  clear ho2 hb2
  have hza : w.heap.size < w1.heap.size := by omega
  have hzb : w.heap.size + 1 < w1.heap.size := by omega
  have hy2 : w.heap.size + 1 + 1 < w2.heap.size := by omega
  go_wp2_with fail
  refine (H3.out _ (HS.out.keep (below_set B2.out (w.heap.size + 1 + 1) 2 _ (by omega)))).mono ?_
  rintro e w3 ⟨⟨N1, N2, N3, rfl, hn1', hn2', hn3', hz3, ho3⟩, hb3⟩
  obtain ⟨hc3, hf3⟩ := bcell hb3
  rw [set_size] at hn1'
  have P3 := hide' ho3
  have Q3 := hide' ((Q2.out.set (w.heap.size + 1 + 1) 2 _ (by omega)).keep hb3)
  have R3 := hide' ((P2.out.set (w.heap.size + 1 + 1) 2 _ (by omega)).keep hb3)
  have B3 := hide' ((below_set B2.out (w.heap.size + 1 + 1) 2 _ (by omega)).trans (hb3.mono (by rw [set_size]; omega)))
  simp only [set_size] at hc3 hf3
  have hzz := hb3.size
  rw [set_size] at hzz
  clear ho3 hb3
  have hya : w.heap.size < w2.heap.size := by omega
  have hyb : w.heap.size + 1 < w2.heap.size := by omega
  have hy3 : w.heap.size + 1 + 1 < w3.heap.size := by omega
  go_wp2_with fail
  refine bodyPost_ret (v := .agg #[.int .i64 rc, .slice (some ⟨w.heap.size + 1 + 1 + 1, 0, none⟩) n4 n4, .slice (some ⟨w1.heap.size, 0, none⟩) n5 n5, .slice (some ⟨N1, 0, none⟩) n1 n1, .slice (some ⟨N2, 0, none⟩) n2 n2, .slice (some ⟨N3, 0, none⟩) n3 n3, .int .i64 ft]) (by simp [results, Try.results7, go_sem, hc1, hc2, hc3, hzb, hyb]) rfl ?_
  refine ⟨⟨w.heap.size + 1 + 1 + 1, w1.heap.size, N1, N2, N3, rfl, by omega, by omega, by omega, by omega, by omega, by simp only [set_size]; exact hz3, ?_⟩, ?_⟩
  · refine ⟨?_, ?_, ?_⟩
    · iterate 11 refine EvsOwn.set ?_ _ _ _ (by omega)
      exact Q3.out
    · iterate 11 refine LOwn.set ?_ _ _ _ (by omega)
      exact R3.out
    · iterate 11 refine StOwn.setc ?_ _ _ _ (by omega) (by omega) (by omega)
      exact P3.out
  · iterate 11 refine below_set ?_ _ _ _ (by omega)
    exact B3.out
end Go.Proofs.Ytddapifljinjeaa
