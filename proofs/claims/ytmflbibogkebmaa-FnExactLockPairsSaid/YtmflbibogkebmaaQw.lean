/- ClocksOf: both sides. SideBySide: both sides. Races: what they are, in data. -/
import Derived.Test.YtmflbibogkebmaaQt
import Derived.Test.YtmflbibogkebmaaQv
import Derived.Test.YtmflbibogkebmaaSm
import Derived.Test.YtmflbibogkebmaaQi
import Derived.Test.YtmflbibogkebmaaVc
namespace Go.Proofs.Ytmflbibogkebmaa
open Go.RowKit
open Rd Fl

/-- the clocks -/
def clocksN (l : List EvD) : List (List Int) := if goodTr l = true then clksTo l l.length else []
theorem clksTo_get (l : List EvD) (n i : Nat) (h : i < (clksTo l n).length) : (clksTo l n)[i] = clock l i := by
  simp [clksTo]
theorem clksTo_five (l : List EvD) (n : Nat) : ∀ x ∈ clksTo l n, x.length ≤ 1000 := by
  intro x hx
  unfold clksTo at hx
  obtain ⟨i, -, rfl⟩ := List.mem_map.1 hx
  rw [clock_len]; omega

theorem resq_clk {w w' : World} {l : List EvD} {M g : Nat} (h200 : l.length ≤ 200) (h : ClkM w w' l.length M g l.length) (hd : ∀ i, i < l.length → ∀ t : Nat, t < 5 → w'.cell? ⟨M, i * 5 + t, none⟩ = some (.int .i64 ((clk l i (t : Int) : Nat) : Int))) : ResQ (clksTo l l.length) w' w.heap.size w'.heap.size (.slice (some ⟨g, 0, none⟩) l.length l.length) := by
  have hm := h.m
  have hmg := h.mg
  have hz := h.z
  refine ⟨⟨some ⟨g, 0, none⟩, g, l.length, fun _ => M, fun i => i * 5, fun _ => 5, by rw [clksTo_len], fun _ => ⟨rfl, by omega, hz⟩, fun i hi => ?_, fun i j hij hj => ?_⟩, by rw [clksTo_len]; omega, clksTo_five l _⟩
  · have hi2 : i < l.length := by rw [clksTo_len] at hi; exact hi
    simp only [clksTo_get, clock_len]
    refine ⟨h.c i hi2, fun j hj => ?_, by omega, hm, by omega, fun t x ht => ?_⟩
    · have := h.tm (i * 5 + j) (by omega)
      rw [Nat.zero_add] at this
      exact this
    · have ht5 : t < 5 := by have := (List.getElem?_eq_some_iff.1 ht).1; rw [clock_len] at this; exact this
      rw [clock_get l i t ht5] at ht
      cases ht
      exact hd i hi2 t ht5
  · refine .inr ?_
    simp only [clksTo_get, clock_len]
    omega

theorem resq_nil (A : Option Addr) (cap lo hi : Nat) (w : World) : ResQ [] w lo hi (.slice A 0 cap) :=
  ⟨⟨A, 0, cap, fun _ => 0, fun _ => 0, fun _ => 0, rfl, (fun h => absurd rfl h), (fun i h => absurd h (by simp)), (fun i j _ h => absurd h (by simp))⟩, by simp, fun l hl => by cases hl⟩

end Go.Proofs.Ytmflbibogkebmaa
namespace Go.Proofs.Ytmflbibogkebmaa
open Go.RowKit
open Rd Fl

/-- One clock is less just where its place comes ahead. -/
theorem less_ah {l : List EvD} (hg : goodTr l = true) {i j : Nat} (hij : i < j) (hj : j < l.length) : lessC (clock l i) (clock l j) = ahB l i j := by
  have hti : ∀ k (h : k < l.length), ∃ t : Nat, t < 5 ∧ (evA l k).th = (t : Int) := by
    intro k hk
    have := goodev_all (good_ev hg hk)
    rw [evA_get hk]
    exact ⟨(l[k].th).toNat, by omega, by omega⟩
  unfold lessC
  cases h : ahB l i j
  · obtain ⟨t, ht, he⟩ := hti i (by omega)
    have hlt := clk_not_le hij h
    rw [he] at hlt
    have : sameL lB (clock l i) (clock l j) = false := by
      refine sameL_no (clock_get l i t ht) (clock_get l j t ht) ?_
      unfold lB
      exact decide_eq_false (by omega)
    rw [this, Bool.false_and]
  · have h1 : sameL lB (clock l i) (clock l j) = true := by
      rw [sameL_iff]
      refine ⟨by rw [clock_len, clock_len], fun t x y hx hy => ?_⟩
      have ht : t < 5 := by have := (List.getElem?_eq_some_iff.1 hx).1; rw [clock_len] at this; exact this
      rw [clock_get l i t ht] at hx
      rw [clock_get l j t ht] at hy
      cases hx; cases hy
      unfold lB
      exact decide_eq_true (by have := clk_mono (l := l) (t : Int) h; omega)
    have h2 : sameL iB (clock l i) (clock l j) = false := by
      obtain ⟨t, ht, he⟩ := hti j hj
      have hlt := clk_self_lt h
      rw [he] at hlt
      refine sameL_no (clock_get l i t ht) (clock_get l j t ht) ?_
      unfold iB
      exact decide_eq_false (by omega)
    rw [h1, h2]; rfl

theorem box_new2 (w : World) (v : Value) (t : TypeId) : (w.alloc (.cells #[v] t)).cell? ⟨w.heap.size, 0, none⟩ = some v := by
  rw [World.cell?_alloc_new]; rfl
/-- the pairs of places of which neither comes ahead -/
def sideN (l : List EvD) : List (List Int) := if goodTr l = true then prAll (fun i j => !ahB l i j) l.length l.length else []
theorem sideN_len (l : List EvD) : (sideN l).length ≤ 40000 := by
  unfold sideN
  split
  · rename_i h
    have h1 := prAll_len (fun i j => !ahB l i j) l.length l.length
    have h2 := Nat.mul_le_mul (good_len h) (good_len h)
    omega
  · simp
theorem sideN_two (l : List EvD) : ∀ x ∈ sideN l, x.length ≤ 1000 := by
  unfold sideN
  split
  · exact prAll_two _ _ _
  · intro x h; cases h

end Go.Proofs.Ytmflbibogkebmaa
namespace Go.Proofs.Ytmflbibogkebmaa
open Go.RowKit
open Rd Fl

/-- a race's data -/
structure RcD where
  cl : Int
  fs : Int
  sc : Int
def RcD.cells (e : RcD) : List Value := [.int .i64 e.cl, .int .i64 e.fs, .int .i64 e.sc]
def mayB (a b : EvD) : Bool := tchB a && tchB b && (a.ob == b.ob) && !(a.th == b.th) && ((a.kd == 3) || (b.kd == 3))
def rcB (l : List EvD) (i j : Nat) : Bool := mayB (evA l i) (evA l j) && !ahB l i j
def rcTo (l : List EvD) (j : Nat) : Nat → List RcD
  | 0 => []
  | i + 1 => rcTo l j i ++ (if rcB l i j = true then [⟨(evA l j).ob, (i : Int), (j : Int)⟩] else [])
def rcAll (l : List EvD) : Nat → List RcD
  | 0 => []
  | j + 1 => rcAll l j ++ rcTo l j j
theorem rcTo_yes {l : List EvD} {j i : Nat} (h : rcB l i j = true) : rcTo l j (i + 1) = rcTo l j i ++ [⟨(evA l j).ob, (i : Int), (j : Int)⟩] := by
  conv => lhs; unfold rcTo
  rw [if_pos h]
theorem rcTo_no {l : List EvD} {j i : Nat} (h : rcB l i j = false) : rcTo l j (i + 1) = rcTo l j i := by
  conv => lhs; unfold rcTo
  rw [if_neg (by rw [h]; simp), List.append_nil]
theorem rcTo_len (l : List EvD) (j : Nat) : ∀ i, (rcTo l j i).length ≤ i
  | 0 => Nat.le_refl _
  | i + 1 => by
    unfold rcTo
    have := rcTo_len l j i
    rw [List.length_append]
    split <;> simp <;> omega
theorem rcAll_len (l : List EvD) : ∀ j, j ≤ 200 → (rcAll l j).length ≤ j * 200
  | 0, _ => by simp [rcAll]
  | j + 1, h => by
    unfold rcAll
    have h1 := rcAll_len l j (by omega)
    have h2 := rcTo_len l j j
    rw [List.length_append, Nat.succ_mul]
    omega
theorem rcAll_len2 {l : List EvD} {j i : Nat} (hj : j ≤ 200) (hi : i ≤ 200) : (rcAll l j ++ rcTo l j i).length ≤ 40200 := by
  have h1 := rcAll_len l j hj
  have h2 := rcTo_len l j i
  have h3 : j * 200 ≤ 200 * 200 := Nat.mul_le_mul_right _ hj
  rw [List.length_append]
  omega
/-- the races of a trace -/
def racesN (l : List EvD) : List RcD := if goodTr l = true then rcAll l l.length else []
theorem racesN_len (l : List EvD) : (racesN l).length ≤ 40200 := by
  unfold racesN
  split
  · rename_i h
    have h1 := rcAll_len l l.length (good_len h)
    have h3 : l.length * 200 ≤ 200 * 200 := Nat.mul_le_mul_right _ (good_len h)
    omega
  · simp
theorem tch_ob {e : EvD} (hg : goodEv e = true) (h : tchB e = true) : 0 ≤ e.ob := by
  unfold tchB at h
  rw [Bool.or_eq_true, beq_iff_eq, beq_iff_eq] at h
  have := goodev_all hg
  omega
/-- The code's test is the specification's for good events. -/
theorem may_code {a b : EvD} (ha : goodEv a = true) (hb : goodEv b = true) : (((a.kd == 3) || (b.kd == 3)) && (tchN a == tchN b) && !(a.th == b.th)) = mayB a b := by
  unfold mayB tchN
  have h1 := fun h => tch_ob ha h
  have h2 := fun h => tch_ob hb h
  have h3 : (a.kd == 3) = true → tchB a = true := by intro h; unfold tchB; rw [h, Bool.or_true]
  have h4 : (b.kd == 3) = true → tchB b = true := by intro h; unfold tchB; rw [h, Bool.or_true]
  generalize tchB a = ta at *
  generalize tchB b = tb at *
  generalize (a.kd == 3) = ka at *
  generalize (b.kd == 3) = kb at *
  generalize (a.th == b.th) = t at *
  cases ta <;> cases tb <;> cases ka <;> cases kb <;> cases t <;> simp at * <;> omega
end Go.Proofs.Ytmflbibogkebmaa
