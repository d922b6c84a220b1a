/- LayersOf: both sides. -/
import Derived.Test.YtbaknjfaplmaiaaRff
namespace Go.Proofs.Ytbaknjfaplmaiaa
open Go.RowKit
open Rd Fl

/-- the layers -/
def layersN (l : List EvD) : List (List Int) := if goodTr l = true then laysTo l l.length else []
theorem resq_nilL (A : Option Addr) (cap lo hi : Nat) (w : World) : ResQ [] w lo hi (.slice A 0 cap) :=
  ⟨⟨A, 0, cap, fun _ => 0, fun _ => 0, fun _ => 0, rfl, (fun h => absurd rfl h), (fun i h => absurd h (by simp)), (fun i j _ h => absurd h (by simp))⟩, by simp, fun l hl => by cases hl⟩
theorem LayI.res {w wr : World} {l : List EvD} {L : Nat} {v : Value} {rvs : List Value} {F : Nat → Nat} (h200 : l.length ≤ 200) (h : LayI w wr l L v rvs (laysTo l l.length) F) : ResQ (laysTo l l.length) wr w.heap.size wr.heap.size v :=
  resq_less (h.m.res (by rw [laysTo_len]; have := nlay_j l l.length; omega) (laysTo_short l _ (by omega)) (laysTo_ne l _)) (by have := h.l0; omega)

set_option maxRecDepth 20000 in
set_option maxHeartbeats 4000000 in
theorem ilayers_nil (A : Option Addr) (cap : Nat) (w : World) (hA : EvsAt w A []) :
    Calls Try.prog 9 #[.slice A 0 cap] w fun e w' => e = .returned (.tuple #[.slice none 0 0, .bool true]) ∧ Below w.heap.size w w' := by
  have HG : Hid (Calls Try.prog 26 #[.slice A 0 cap] w fun e w' => e = .returned (.bool true) ∧ Below w.heap.size w w') := igoodtr_any A [] cap (by simp) w hA
  have hmk : ∀ w, (Instr.makeSlice 37 (.int .i64 0) (.int .i64 0)).run Try.prog w = .ok (.slice (some ⟨w.heap.size, 0, none⟩) 0 0) (w.alloc (.cells (madeCells #[.int .i64 0] 0) 3)) := make_ints 0 (by omega)
  go_enter Try.func9, Try.ntmps9
  go_wp2_with (go_at_call 26; refine HG.out.mono ?_; rintro e w1 ⟨rfl, hb1⟩)
  go_loopw [4, 18] (fun v i wr => v = .slice none 0 0 ∧ i = .int .i64 0 ∧ Hid (Below w.heap.size w wr)) (fun _ _ _ => 0)
  case atStart => exact ⟨rfl, rfl, hb1.up _⟩
  case round =>
    obtain ⟨rfl, rfl, hb⟩ := hrel
    go_wp2_with fail
    go_ret2
    exact ⟨rfl, hb.out⟩

set_option maxRecDepth 20000 in
set_option maxHeartbeats 4000000 in
theorem layers_no (A : Option Addr) (l : List EvD) (cap : Nat) (hl : l.length ≤ 1048576) (hg : goodTr l = false) (w : World) (hA : EvsAt w A l) :
    (Calls Try.prog 9 #[.slice A l.length cap] w fun e w' => e = .returned (.tuple #[.slice none 0 0, .bool false]) ∧ Below w.heap.size w w') ∧
    (Calls Try.prog 7 #[.slice A l.length cap] w fun e w' => e = .returned (.tuple #[.slice none 0 0, .bool false]) ∧ Below w.heap.size w w') := by
  have HG := hide' (igoodtr_any A l cap hl w hA)
  have HS := hide' (l6trace_any A l cap hl w hA)
  rw [hg] at HG HS
  clear hg hA
  constructor
  · go_enter Try.func9, Try.ntmps9
    go_wp2_with (go_at_call 26; refine HG.out.mono ?_; rintro e w1 ⟨rfl, hb1⟩)
    go_ret2
    exact ⟨rfl, hb1⟩
  · go_enter Try.func7, Try.ntmps7
    go_wp2_with (go_at_call 22; refine HS.out.mono ?_; rintro e w1 ⟨rfl, hb1⟩)
    go_ret2
    exact ⟨rfl, hb1⟩

set_option maxRecDepth 20000 in
set_option maxHeartbeats 4000000 in
theorem l6ahead_nilL (A : Option Addr) (cap : Nat) (w : World) :
    Calls Try.prog 23 #[.slice A 0 cap] w fun e w' => ∃ g, e = .returned (.slice (some ⟨g, 0, none⟩) 0 0) ∧ Below w.heap.size w w' := by
  have hmk2 : ∀ w, (Instr.makeSlice 46 (.int .i64 0) (.int .i64 0)).run Try.prog w = .ok (.slice (some ⟨w.heap.size, 0, none⟩) 0 0) (w.alloc (.cells (madeCells #[.slice none 0 0] 0) 48)) := make_boolss 0 (by omega)
  go_enter Try.func23, Try.ntmps23
  go_wp2
  go_loopw [13] (fun i wr => i = .int .i64 0 ∧ Hid (Below w.heap.size w wr)) (fun _ _ => 0)
  case atStart => exact ⟨rfl, (Below.refl _ w).up _⟩
  case round =>
    obtain ⟨rfl, hb⟩ := hrel
    go_wp2_with fail
    go_ret
    exact ⟨_, rfl, hb.out⟩

set_option maxRecDepth 20000 in
set_option maxHeartbeats 4000000 in
theorem slayers_nil (A : Option Addr) (cap : Nat) (w : World) (hA : EvsAt w A []) :
    Calls Try.prog 7 #[.slice A 0 cap] w fun e w' => e = .returned (.tuple #[.slice none 0 0, .bool true]) ∧ Below w.heap.size w w' := by
  have HG : Hid (Calls Try.prog 22 #[.slice A 0 cap] w fun e w' => e = .returned (.bool true) ∧ Below w.heap.size w w') := l6trace_any A [] cap (by simp) w hA
  have HM := hide' (fun w => l6ahead_nilL A cap w)
  have hmk : ∀ w, (Instr.makeSlice 37 (.int .i64 0) (.int .i64 0)).run Try.prog w = .ok (.slice (some ⟨w.heap.size, 0, none⟩) 0 0) (w.alloc (.cells (madeCells #[.int .i64 0] 0) 3)) := make_ints 0 (by omega)
  go_enter Try.func7, Try.ntmps7
  go_wp2_with (first | (go_at_call 22; refine HG.out.mono ?_; rintro e w1 ⟨rfl, hb1⟩; have B1 := hide' hb1) | (go_at_call 23; refine (HM.out _).mono ?_; rintro e w2 ⟨g, rfl, hb2⟩; have B2 := hide' (B1.out.trans (hb2.mono B1.out.size))))
  go_loopw [6, 19] (fun v i wr => v = .slice none 0 0 ∧ i = .int .i64 0 ∧ Hid (Below w.heap.size w wr)) (fun _ _ _ => 0)
  case atStart => exact ⟨rfl, rfl, B2.out.up _⟩
  case round =>
    obtain ⟨rfl, rfl, hb⟩ := hrel
    go_wp2_with fail
    go_ret2
    exact ⟨rfl, hb.out⟩

theorem ilayers_any (A : Option Addr) (l : List EvD) (cap : Nat) (hcap : l.length ≤ cap) (hl : l.length ≤ 1048576) (w : World) (hA : EvsAt w A l) :
    Calls Try.prog 9 #[.slice A l.length cap] w fun e w' => (∃ v, e = .returned (.tuple #[v, .bool (goodTr l)]) ∧ ResQ (layersN l) w' w.heap.size w'.heap.size v) ∧ Below w.heap.size w w' := by
  unfold layersN
  cases hg : goodTr l
  · rw [if_neg (by simp)]
    refine (layers_no A l cap hl hg w hA).1.mono ?_
    rintro e w' ⟨rfl, hb⟩
    exact ⟨⟨_, rfl, resq_nilL _ _ _ _ _⟩, hb⟩
  · rw [if_pos rfl]
    by_cases he : l = []
    · subst he
      refine (ilayers_nil A cap w hA).mono ?_
      rintro e w' ⟨rfl, hb⟩
      exact ⟨⟨_, rfl, resq_nilL _ _ _ _ _⟩, hb⟩
    · refine (ilayers_yes A l cap hg he hcap w hA).mono ?_
      rintro e w' ⟨v, L, rvs, F, rfl, hk⟩
      exact ⟨⟨_, rfl, hk.res (good_len hg)⟩, hk.b⟩
theorem slayers_any (A : Option Addr) (l : List EvD) (cap : Nat) (hl : l.length ≤ 1048576) (w : World) (hA : EvsAt w A l) :
    Calls Try.prog 7 #[.slice A l.length cap] w fun e w' => (∃ v, e = .returned (.tuple #[v, .bool (goodTr l)]) ∧ ResQ (layersN l) w' w.heap.size w'.heap.size v) ∧ Below w.heap.size w w' := by
  unfold layersN
  cases hg : goodTr l
  · rw [if_neg (by simp)]
    refine (layers_no A l cap hl hg w hA).2.mono ?_
    rintro e w' ⟨rfl, hb⟩
    exact ⟨⟨_, rfl, resq_nilL _ _ _ _ _⟩, hb⟩
  · rw [if_pos rfl]
    by_cases he : l = []
    · subst he
      refine (slayers_nil A cap w hA).mono ?_
      rintro e w' ⟨rfl, hb⟩
      exact ⟨⟨_, rfl, resq_nilL _ _ _ _ _⟩, hb⟩
    · refine (slayers_yes A l cap hg he w hA).mono ?_
      rintro e w' ⟨v, w2, L, rvs, F, rfl, hb, hk⟩
      exact ⟨⟨_, rfl, resq_less (hk.res (good_len hg)) hb.size⟩, hb.trans (hk.b.mono hb.size)⟩
end Go.Proofs.Ytbaknjfaplmaiaa
