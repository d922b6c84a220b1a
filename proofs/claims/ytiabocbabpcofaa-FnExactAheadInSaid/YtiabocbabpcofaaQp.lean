/- AheadIn: both sides. -/
import Derived.Test.YtiabocbabpcofaaQn
import Derived.Test.YtiabocbabpcofaaQo
namespace Go.Proofs.Ytiabocbabpcofaa
open Go.RowKit
open Rd Fl

/-- what AheadIn tells -/
def aheadT (l : List EvD) (i j : Int) : Bool × Bool := if goodTr l = true ∧ (0 ≤ i ∧ i < l.length) ∧ (0 ≤ j ∧ j < l.length) then (ahB l i.toNat j.toNat, true) else (false, false)
theorem aheadT_no {l : List EvD} {i j : Int} (h : ¬ (goodTr l = true ∧ (0 ≤ i ∧ i < l.length) ∧ (0 ≤ j ∧ j < l.length))) : aheadT l i j = (false, false) := if_neg h
theorem aheadT_yes {l : List EvD} {i j : Nat} (h : goodTr l = true) (hi : i < l.length) (hj : j < l.length) : aheadT l i j = (ahB l i j, true) := by
  unfold aheadT
  rw [if_pos ⟨h, by omega, by omega⟩]; rfl

set_option maxRecDepth 20000 in
set_option maxHeartbeats 4000000 in
theorem sahead_no (A : Option Addr) (l : List EvD) (cap : Nat) (hl : l.length ≤ 1048576) (i j : Int) (w : World) (hA : EvsAt w A l)
    (h : goodTr l = false ∨ (goodTr l = true ∧ inR 0 ((l.length : Int) - 1) i = false) ∨ (goodTr l = true ∧ inR 0 ((l.length : Int) - 1) i = true ∧ inR 0 ((l.length : Int) - 1) j = false)) :
    Calls Try.prog 20 #[.slice A l.length cap, .int .i64 i, .int .i64 j] w fun e w' => e = .returned (.tuple #[.bool false, .bool false]) ∧ Below w.heap.size w w' := by
  have HIN : Hid (∀ n lo hi w, Calls Try.prog 40 #[.int .i64 n, .int .i64 lo, .int .i64 hi] w fun e w' => e = .returned (.bool (inR lo hi n)) ∧ w' = w) := fun n lo hi w => l1in_any n lo hi w
  have HG := hide' (l6trace_any A l cap hl w hA)
  have hl' : (l.length : Int) ≤ 1048576 := by omega
  rcases h with h1 | ⟨h1, h2⟩ | ⟨h1, h2, h3⟩
  all_goals
    rw [h1] at HG
    clear h1
    go_enter Try.func20, Try.ntmps20
    go_wp2_with (first | (go_at_call 30; refine HG.out.mono ?_; rintro e w1 ⟨rfl, hb1⟩) | (go_at_call 40; refine (HIN.out _ _ _ _).mono ?_; rintro e w' ⟨rfl, rfl⟩))
    go_ret2
    exact ⟨rfl, hb1⟩

set_option maxRecDepth 20000 in
set_option maxHeartbeats 4000000 in
theorem sahead_yes (A : Option Addr) (l : List EvD) (cap : Nat) (hg : goodTr l = true) (i j : Nat) (hi : i < l.length) (hj : j < l.length) (w : World) (hA : EvsAt w A l) :
    Calls Try.prog 20 #[.slice A l.length cap, .int .i64 (i : Int), .int .i64 (j : Int)] w fun e w' => e = .returned (.tuple #[.bool (ahB l i j), .bool true]) ∧ Below w.heap.size w w' := by
  have HIN : Hid (∀ n lo hi w, Calls Try.prog 40 #[.int .i64 n, .int .i64 lo, .int .i64 hi] w fun e w' => e = .returned (.bool (inR lo hi n)) ∧ w' = w) := fun n lo hi w => l1in_any n lo hi w
  have h200 := good_len hg
  have HG := hide' (l6trace_any A l cap (by omega) w hA)
  have hne : l ≠ [] := by intro h; rw [h] at hi; simp at hi
  have HM := hide' (fun w hA => l6ahead_any A l cap hg hne w hA)
  have HA := hide' hA
  have hl' : (l.length : Int) ≤ 200 := by omega
  have h1 : inR 0 ((l.length : Int) - 1) i = true := by unfold inR; exact decide_eq_true (by omega)
  have h2 : inR 0 ((l.length : Int) - 1) j = true := by unfold inR; exact decide_eq_true (by omega)
  have hi2 : (i : Int) < l.length := by omega
  have hj2 : (j : Int) < l.length := by omega
  rw [hg] at HG
  clear hg hA hne
  go_enter Try.func20, Try.ntmps20
  go_wp2_with (first | (go_at_call 30; refine HG.out.mono ?_; rintro e w1 ⟨rfl, hb1⟩; have B1 := hide' hb1) | (go_at_call 40; refine (HIN.out _ _ _ _).mono ?_; rintro e w' ⟨rfl, rfl⟩) | (go_at_call 41; refine (HM.out _ (HA.out.keep B1.out)).mono ?_; rintro e w2 ⟨g, rfl, hm⟩; obtain ⟨R, -, -, r3, r4⟩ := hm.r j hj; have r5 := r4 i hi; have B2 := hide' (B1.out.trans (hm.b.mono B1.out.size))))
  go_ret2
  exact ⟨rfl, B2.out⟩

theorem sahead_any (A : Option Addr) (l : List EvD) (cap : Nat) (hl : l.length ≤ 1048576) (i j : Int) (w : World) (hA : EvsAt w A l) :
    Calls Try.prog 20 #[.slice A l.length cap, .int .i64 i, .int .i64 j] w fun e w' => e = .returned (.tuple #[.bool (aheadT l i j).1, .bool (aheadT l i j).2]) ∧ Below w.heap.size w w' := by
  cases hg : goodTr l
  · rw [aheadT_no (by rw [hg]; simp)]
    exact sahead_no A l cap hl i j w hA (.inl hg)
  · by_cases h1 : 0 ≤ i ∧ i < l.length
    · by_cases h2 : 0 ≤ j ∧ j < l.length
      · obtain ⟨a, rfl⟩ : ∃ a : Nat, i = a := ⟨i.toNat, by omega⟩
        obtain ⟨b, rfl⟩ : ∃ b : Nat, j = b := ⟨j.toNat, by omega⟩
        rw [aheadT_yes hg (by omega) (by omega)]
        exact sahead_yes A l cap hg a b (by omega) (by omega) w hA
      · rw [aheadT_no (fun h => h2 h.2.2)]
        exact sahead_no A l cap hl i j w hA (.inr (.inr ⟨hg, by unfold inR; exact decide_eq_true (by omega), by unfold inR; exact decide_eq_false (by omega)⟩))
    · rw [aheadT_no (fun h => h1 h.2.1)]
      exact sahead_no A l cap hl i j w hA (.inr (.inl ⟨hg, by unfold inR; exact decide_eq_false (by omega)⟩))

set_option maxRecDepth 20000 in
set_option maxHeartbeats 4000000 in
theorem iahead_no (A : Option Addr) (l : List EvD) (cap : Nat) (hl : l.length ≤ 1048576) (i j : Int) (w : World) (hA : EvsAt w A l)
    (h : goodTr l = false ∨ (goodTr l = true ∧ j < i ∧ j < 0) ∨ (goodTr l = true ∧ ¬ j < i ∧ i < 0) ∨ (goodTr l = true ∧ j < i ∧ ¬ j < 0 ∧ (l.length : Int) ≤ i) ∨ (goodTr l = true ∧ ¬ j < i ∧ i < j ∧ ¬ i < 0 ∧ (l.length : Int) ≤ j) ∨ (goodTr l = true ∧ j = i ∧ ¬ i < 0 ∧ (l.length : Int) ≤ i)) :
    Calls Try.prog 21 #[.slice A l.length cap, .int .i64 i, .int .i64 j] w fun e w' => e = .returned (.tuple #[.bool false, .bool false]) ∧ Below w.heap.size w w' := by
  have HG := hide' (igoodtr_any A l cap hl w hA)
  have hl' : (l.length : Int) ≤ 1048576 := by omega
  rcases h with h1 | ⟨h1, h2, h3⟩ | ⟨h1, h2, h3⟩ | ⟨h1, h2, h3, h4⟩ | ⟨h1, h2, h3, h4, h5⟩ | ⟨h1, rfl, h3, h4⟩
  all_goals
    rw [h1] at HG
    clear h1
    go_enter Try.func21, Try.ntmps21
    go_wp2_with (go_at_call 12; refine HG.out.mono ?_; rintro e w1 ⟨rfl, hb1⟩)
    go_ret2
    exact ⟨rfl, hb1⟩

set_option maxRecDepth 20000 in
set_option maxHeartbeats 4000000 in
theorem iahead_yes (A : Option Addr) (l : List EvD) (cap : Nat) (hg : goodTr l = true) (i j : Nat) (hi : i < l.length) (hj : j < l.length) (w : World) (hA : EvsAt w A l) :
    Calls Try.prog 21 #[.slice A l.length cap, .int .i64 (i : Int), .int .i64 (j : Int)] w fun e w' => e = .returned (.tuple #[.bool (ahB l i j), .bool true]) ∧ Below w.heap.size w w' := by
  have h200 := good_len hg
  have HG := hide' (igoodtr_any A l cap (by omega) w hA)
  have HA := hide' hA
  have hl' : (l.length : Int) ≤ 200 := by omega
  have hi2 : (i : Int) < l.length := by omega
  have hj2 : (j : Int) < l.length := by omega
  have i0 : ¬ (i : Int) < 0 := by omega
  have j0 : ¬ (j : Int) < 0 := by omega
  rw [hg] at HG
  by_cases hij : i < j
  · have HW := hide' (fun w hA => wayleads_any A l cap hg i j hij hj w hA)
    have h3 : ¬ (j : Int) < i := by omega
    have h4 : (i : Int) < j := by omega
    clear hg hA
    go_enter Try.func21, Try.ntmps21
    go_wp2_with (first | (go_at_call 12; refine HG.out.mono ?_; rintro e w1 ⟨rfl, hb1⟩; have B1 := hide' hb1) | (go_at_call 42; refine (HW.out _ (HA.out.keep B1.out)).mono ?_; rintro e w2 ⟨rfl, hb2⟩))
    go_ret2
    exact ⟨rfl, B1.out.trans (hb2.mono B1.out.size)⟩
  · have hn : ahB l i j = false := by
      rw [Bool.eq_false_iff]; intro h; exact hij (ahB_lt l i j h)
    rw [hn]
    have h4 : ¬ (i : Int) < j := by omega
    clear hg hA hn
    by_cases hji : (j : Int) < i
    all_goals
      go_enter Try.func21, Try.ntmps21
      go_wp2_with (go_at_call 12; refine HG.out.mono ?_; rintro e w1 ⟨rfl, hb1⟩; have B1 := hide' hb1)
      go_ret2
      exact ⟨rfl, B1.out⟩

theorem iahead_any (A : Option Addr) (l : List EvD) (cap : Nat) (hl : l.length ≤ 1048576) (i j : Int) (w : World) (hA : EvsAt w A l) :
    Calls Try.prog 21 #[.slice A l.length cap, .int .i64 i, .int .i64 j] w fun e w' => e = .returned (.tuple #[.bool (aheadT l i j).1, .bool (aheadT l i j).2]) ∧ Below w.heap.size w w' := by
  cases hg : goodTr l
  · rw [aheadT_no (by rw [hg]; simp)]
    exact iahead_no A l cap hl i j w hA (.inl hg)
  · by_cases h : (0 ≤ i ∧ i < l.length) ∧ (0 ≤ j ∧ j < l.length)
    · obtain ⟨a, rfl⟩ : ∃ a : Nat, i = a := ⟨i.toNat, by omega⟩
      obtain ⟨b, rfl⟩ : ∃ b : Nat, j = b := ⟨j.toNat, by omega⟩
      rw [aheadT_yes hg (by omega) (by omega)]
      exact iahead_yes A l cap hg a b (by omega) (by omega) w hA
    · rw [aheadT_no (fun k => h k.2)]
      refine iahead_no A l cap hl i j w hA (.inr ?_)
      by_cases h1 : j < i
      · by_cases h2 : j < 0
        · exact .inl ⟨hg, h1, h2⟩
        · exact .inr (.inr (.inl ⟨hg, h1, h2, by omega⟩))
      · by_cases h2 : i < 0
        · exact .inr (.inl ⟨hg, h1, h2⟩)
        · by_cases h3 : i < j
          · exact .inr (.inr (.inr (.inl ⟨hg, h1, h3, h2, by omega⟩)))
          · exact .inr (.inr (.inr (.inr ⟨hg, by omega, h2, by omega⟩)))
end Go.Proofs.Ytiabocbabpcofaa
