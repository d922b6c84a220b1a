/- ClocksOf: both sides. -/
import Derived.Test.YtiabocbabpcofaaQt
import Derived.Test.YtiabocbabpcofaaQv
namespace Go.Proofs.Ytiabocbabpcofaa
open Go.RowKit
open Rd Fl

/-- the clocks -/
def clocksN (l : List EvD) : List (List Int) := if goodTr l = true then clksTo l l.length else []
theorem clksTo_get (l : List EvD) (n i : Nat) (h : i < (clksTo l n).length) : (clksTo l n)[i] = clock l i := by
  simp [clksTo]
theorem clksTo_five (l : List EvD) (n : Nat) : ∀ x ∈ clksTo l n, x.length ≤ 1000 := by
  intro x hx
  unfold clksTo at hx
  obtain ⟨i, -, rfl⟩ := List.mem_map.1 hx
  rw [clock_len]; omega

theorem resq_clk {w w' : World} {l : List EvD} {M g : Nat} (h200 : l.length ≤ 200) (h : ClkM w w' l.length M g l.length) (hd : ∀ i, i < l.length → ∀ t : Nat, t < 5 → w'.cell? ⟨M, i * 5 + t, none⟩ = some (.int .i64 ((clk l i (t : Int) : Nat) : Int))) : ResQ (clksTo l l.length) w' w.heap.size w'.heap.size (.slice (some ⟨g, 0, none⟩) l.length l.length) := by
  have hm := h.m
  have hmg := h.mg
  have hz := h.z
  refine ⟨⟨some ⟨g, 0, none⟩, g, l.length, fun _ => M, fun i => i * 5, fun _ => 5, by rw [clksTo_len], fun _ => ⟨rfl, by omega, hz⟩, fun i hi => ?_, fun i j hij hj => ?_⟩, by rw [clksTo_len]; omega, clksTo_five l _⟩
  · have hi2 : i < l.length := by rw [clksTo_len] at hi; exact hi
    simp only [clksTo_get, clock_len]
    refine ⟨h.c i hi2, fun j hj => ?_, by omega, hm, by omega, fun t x ht => ?_⟩
    · have := h.tm (i * 5 + j) (by omega)
      rw [Nat.zero_add] at this
      exact this
    · have ht5 : t < 5 := by have := (List.getElem?_eq_some_iff.1 ht).1; rw [clock_len] at this; exact this
      rw [clock_get l i t ht5] at ht
      cases ht
      exact hd i hi2 t ht5
  · refine .inr ?_
    simp only [clksTo_get, clock_len]
    omega

set_option maxRecDepth 20000 in
set_option maxHeartbeats 4000000 in
theorem iclocks_nil (A : Option Addr) (cap : Nat) (w : World) (hA : EvsAt w A []) :
    Calls Try.prog 23 #[.slice A 0 cap] w fun e w' => ∃ g, e = .returned (.tuple #[.slice (some ⟨g, 0, none⟩) 0 0, .bool true]) ∧ Below w.heap.size w w' := by
  have HG : Hid (Calls Try.prog 12 #[.slice A 0 cap] w fun e w' => e = .returned (.bool true) ∧ Below w.heap.size w w') := igoodtr_any A [] cap (by simp) w hA
  have HNC : Hid (∀ w, Calls Try.prog 44 #[.int .i64 0] w fun e w' => e = .returned (.slice (some ⟨w.heap.size + 1, 0, none⟩) 0 0) ∧ ClkM w w' 0 w.heap.size (w.heap.size + 1) 0) := fun w => newcl_any 0 (by omega) w
  have hmk : ∀ w, (Instr.makeSlice 38 (.int .i64 5) (.int .i64 5)).run Try.prog w = .ok (.slice (some ⟨w.heap.size, 0, none⟩) 5 5) (w.alloc (.cells (madeCells #[.int .i64 0] 5) 3)) := make_ints 5 (by omega)
  go_enter Try.func23, Try.ntmps23
  go_wp2_with (first | (go_at_call 12; refine HG.out.mono ?_; rintro e w1 ⟨rfl, hb1⟩; have B1 := hide' hb1) | (go_at_call 44; refine (HNC.out _).mono ?_; rintro e w2 ⟨rfl, hk2⟩; have B2 := hide' (B1.out.trans (hk2.b.mono B1.out.size))))
  go_loopw [19] (fun i wr => i = .int .i64 0 ∧ Hid (Below w.heap.size w wr)) (fun _ _ => 0)
  case atStart => exact ⟨rfl, B2.out.up _⟩
  case round =>
    obtain ⟨rfl, hb⟩ := hrel
    go_wp2_with fail
    go_ret2
    exact ⟨_, rfl, hb.out⟩

theorem resq_nil (A : Option Addr) (cap lo hi : Nat) (w : World) : ResQ [] w lo hi (.slice A 0 cap) :=
  ⟨⟨A, 0, cap, fun _ => 0, fun _ => 0, fun _ => 0, rfl, (fun h => absurd rfl h), (fun i h => absurd h (by simp)), (fun i j _ h => absurd h (by simp))⟩, by simp, fun l hl => by cases hl⟩

set_option maxRecDepth 20000 in
set_option maxHeartbeats 4000000 in
theorem iclocks_no (A : Option Addr) (l : List EvD) (cap : Nat) (hl : l.length ≤ 1048576) (hg : goodTr l = false) (w : World) (hA : EvsAt w A l) :
    Calls Try.prog 23 #[.slice A l.length cap] w fun e w' => e = .returned (.tuple #[.slice none 0 0, .bool false]) ∧ Below w.heap.size w w' := by
  have HG := hide' (igoodtr_any A l cap hl w hA)
  rw [hg] at HG
  clear hg hA
  go_enter Try.func23, Try.ntmps23
  go_wp2_with (go_at_call 12; refine HG.out.mono ?_; rintro e w1 ⟨rfl, hb1⟩)
  go_ret2
  exact ⟨rfl, hb1⟩

theorem iclocks_any (A : Option Addr) (l : List EvD) (cap : Nat) (hcap : l.length ≤ cap) (hl : l.length ≤ 1048576) (w : World) (hA : EvsAt w A l) :
    Calls Try.prog 23 #[.slice A l.length cap] w fun e w' => (∃ v, e = .returned (.tuple #[v, .bool (goodTr l)]) ∧ ResQ (clocksN l) w' w.heap.size w'.heap.size v) ∧ Below w.heap.size w w' := by
  unfold clocksN
  cases hg : goodTr l
  · rw [if_neg (by simp)]
    refine (iclocks_no A l cap hl hg w hA).mono ?_
    rintro e w' ⟨rfl, hb⟩
    exact ⟨⟨_, rfl, resq_nil _ _ _ _ _⟩, hb⟩
  · rw [if_pos rfl]
    by_cases he : l = []
    · subst he
      refine (iclocks_nil A cap w hA).mono ?_
      rintro e w' ⟨g, rfl, hb⟩
      exact ⟨⟨_, rfl, resq_nil _ _ _ _ _⟩, hb⟩
    · refine (iclocks_yes A l cap hg he hcap w hA).mono ?_
      rintro e w' ⟨M, g, rfl, hk, hd⟩
      exact ⟨⟨_, rfl, resq_clk (good_len hg) hk hd⟩, hk.b⟩

set_option maxRecDepth 20000 in
set_option maxHeartbeats 4000000 in
theorem l6ahead_nil (A : Option Addr) (cap : Nat) (w : World) :
    Calls Try.prog 41 #[.slice A 0 cap] w fun e w' => ∃ g, e = .returned (.slice (some ⟨g, 0, none⟩) 0 0) ∧ Below w.heap.size w w' := by
  have hmk2 : ∀ w, (Instr.makeSlice 53 (.int .i64 0) (.int .i64 0)).run Try.prog w = .ok (.slice (some ⟨w.heap.size, 0, none⟩) 0 0) (w.alloc (.cells (madeCells #[.slice none 0 0] 0) 52)) := make_boolss 0 (by omega)
  go_enter Try.func41, Try.ntmps41
  go_wp2
  go_loopw [13] (fun i wr => i = .int .i64 0 ∧ Hid (Below w.heap.size w wr)) (fun _ _ => 0)
  case atStart => exact ⟨rfl, (Below.refl _ w).up _⟩
  case round =>
    obtain ⟨rfl, hb⟩ := hrel
    go_wp2_with fail
    go_ret
    exact ⟨_, rfl, hb.out⟩

set_option maxRecDepth 20000 in
set_option maxHeartbeats 4000000 in
theorem l6clocks_nil (A : Option Addr) (cap : Nat) (w : World) :
    Calls Try.prog 43 #[.slice A 0 cap] w fun e w' => e = .returned (.slice none 0 0) ∧ Below w.heap.size w w' := by
  have HM := hide' (l6ahead_nil A cap w)
  go_enter Try.func43, Try.ntmps43
  go_wp2_with (go_at_call 41; refine HM.out.mono ?_; rintro e w1 ⟨g, rfl, hb⟩)
  go_loopw [4, 14] (fun v i wr => v = .slice none 0 0 ∧ i = .int .i64 0 ∧ Hid (Below w.heap.size w wr)) (fun _ _ _ => 0)
  case atStart => exact ⟨rfl, rfl, hb⟩
  case round =>
    obtain ⟨rfl, rfl, hb⟩ := hrel
    go_wp2_with fail
    go_ret
    exact ⟨rfl, hb.out⟩

theorem l6clocks_any (A : Option Addr) (l : List EvD) (cap : Nat) (hg : goodTr l = true) (w : World) (hA : EvsAt w A l) :
    Calls Try.prog 43 #[.slice A l.length cap] w fun e w' => (∃ v, e = .returned v ∧ ResQ (clksTo l l.length) w' w.heap.size w'.heap.size v) ∧ Below w.heap.size w w' := by
  have h200 := good_len hg
  by_cases he : l = []
  · subst he
    refine (l6clocks_nil A cap w).mono ?_
    rintro e w' ⟨rfl, hb⟩
    exact ⟨⟨_, rfl, resq_nil _ _ _ _ _⟩, hb⟩
  · refine (l6clocks_yes A l cap hg he w hA).mono ?_
    rintro e w' ⟨v, g, hi, Ms, rfl, ho⟩
    exact ⟨⟨_, rfl, resq_less (resq_rowss ho.r (by rw [clksTo_len]; omega) (clksTo_five l _)) ho.w⟩, ho.b⟩

set_option maxRecDepth 20000 in
set_option maxHeartbeats 4000000 in
theorem sclocks_any (A : Option Addr) (l : List EvD) (cap : Nat) (hl : l.length ≤ 1048576) (w : World) (hA : EvsAt w A l) :
    Calls Try.prog 22 #[.slice A l.length cap] w fun e w' => (∃ v, e = .returned (.tuple #[v, .bool (goodTr l)]) ∧ ResQ (clocksN l) w' w.heap.size w'.heap.size v) ∧ Below w.heap.size w w' := by
  have HG := hide' (l6trace_any A l cap hl w hA)
  have HA := hide' hA
  unfold clocksN
  cases hg : goodTr l
  · rw [hg] at HG
    rw [if_neg (by simp)]
    clear hg hA
    go_enter Try.func22, Try.ntmps22
    go_wp2_with (go_at_call 30; refine HG.out.mono ?_; rintro e w1 ⟨rfl, hb1⟩)
    go_ret2
    exact ⟨⟨_, rfl, resq_nil _ _ _ _ _⟩, hb1⟩
  · have HC := hide' (fun w hA => l6clocks_any A l cap hg w hA)
    rw [hg] at HG
    rw [if_pos rfl]
    clear hg hA
    go_enter Try.func22, Try.ntmps22
    go_wp2_with (first | (go_at_call 30; refine HG.out.mono ?_; rintro e w1 ⟨rfl, hb1⟩; have B1 := hide' hb1) | (go_at_call 43; refine (HC.out _ (HA.out.keep B1.out)).mono ?_; rintro e w2 ⟨⟨v, rfl, hr⟩, hb2⟩; have R2 := hide' (resq_less hr B1.out.size); have B2 := hide' (B1.out.trans (hb2.mono B1.out.size))))
    go_ret2
    exact ⟨⟨_, rfl, R2.out⟩, B2.out⟩
end Go.Proofs.Ytiabocbabpcofaa
