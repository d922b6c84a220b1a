/- Schedules by rank: what is asked of one. -/
import Derived.Test.YtnmbkiajkpcmnaaDoorPc
import Derived.Test.YtnmbkiajkpcmnaaDoorSpD
namespace Go.Proofs.YtnmbkiajkpcmnaaDoor
open Go.RowKit
open Rd Fl

def okR (l : List Int) (i : Nat) : Bool := decide (0 ≤ l.getD i 0 ∧ l.getD i 0 ≤ 199) && (decide (i = 0) || decide (l.getD (i - 1) 0 < l.getD i 0))
/-- rising numbers of 0 to 199 -/
def risB (l : List Int) : Bool := (List.range l.length).all (okR l)
def newR (l : List Int) (i : Nat) : Bool := !((l.take i).contains (l.getD i 0))
/-- each number from 0 to 4 once -/
def onceB (l : List Int) : Bool := decide (l.length = 5) && (l.all (inC 0 4) && (List.range l.length).all (newR l))
/-- what is asked of a schedule -/
def goodC (r c : List Int) : Bool := onceB r && (decide (c.length ≤ 4) && risB c)

theorem range_all {p : Nat → Bool} {n : Nat} (h : ∀ i, i < n → p i = true) : (List.range n).all p = true := List.all_eq_true.2 fun i hi => h i (List.mem_range.1 hi)
theorem range_no {p : Nat → Bool} {n k : Nat} (h : k < n) (hp : p k = false) : (List.range n).all p = false := by
  rw [Bool.eq_false_iff]
  intro h2
  have := List.all_eq_true.1 h2 k (List.mem_range.2 h)
  rw [hp] at this; cases this

theorem nodup_of_new {l : List Int} (h : (List.range l.length).all (newR l) = true) : l.Nodup := by
  rw [List.nodup_iff_pairwise_ne, List.pairwise_iff_getElem]
  intro i j hi hj hij e
  have h1 := List.all_eq_true.1 h j (List.mem_range.2 hj)
  unfold newR at h1
  rw [List.getD_eq_getElem?_getD, List.getElem?_eq_getElem hj, Option.getD_some, Bool.not_eq_true', ← e] at h1
  have : l[i] ∈ l.take j := List.mem_take_iff_getElem.2 ⟨i, by omega, rfl⟩
  rw [List.contains_iff_mem.2 this] at h1
  cases h1
theorem new_of_nodup {l : List Int} (h : l.Nodup) : (List.range l.length).all (newR l) = true := by
  refine range_all fun j hj => ?_
  unfold newR
  rw [List.getD_eq_getElem?_getD, List.getElem?_eq_getElem hj, Option.getD_some, Bool.not_eq_true', Bool.eq_false_iff]
  intro hc
  obtain ⟨i, hi, e⟩ := List.mem_take_iff_getElem.1 (List.contains_iff_mem.1 hc)
  have := (List.pairwise_iff_getElem.1 (List.nodup_iff_pairwise_ne.1 h)) i j (by omega) hj (by omega)
  exact this e

/-- In order each number from 0 to 4 stands at its place. -/
theorem once_sort {l : List Int} (hl : l.length = 5) : (onceB l = true) ↔ (l.mergeSort fun x y => decide (x ≤ y)) = [0, 1, 2, 3, 4] := by
  have hp := List.mergeSort_perm l (fun x y => decide (x ≤ y))
  constructor
  · intro h
    unfold onceB at h
    rw [Bool.and_eq_true, Bool.and_eq_true] at h
    obtain ⟨-, h1, h2⟩ := h
    have hs := List.pairwise_mergeSort (le := fun x y : Int => decide (x ≤ y)) (fun a b c h1 h2 => by simp at *; omega) (fun a b => by simp; omega) l
    have hn := hp.nodup_iff.2 (nodup_of_new h2)
    have ha : ∀ x ∈ l.mergeSort (fun x y => decide (x ≤ y)), 0 ≤ x ∧ x ≤ 4 := fun x hx => by
      have := List.all_eq_true.1 h1 x (hp.mem_iff.1 hx)
      unfold inC at this
      exact of_decide_eq_true this
    have hlen : (l.mergeSort fun x y => decide (x ≤ y)).length = 5 := by rw [hp.length_eq]; exact hl
    generalize (l.mergeSort fun x y => decide (x ≤ y)) = s at hs hn ha hlen
    match s, hlen with
    | [a, b, c, d, e], _ =>
      simp at hs hn ha
      simp
      omega
  · intro h
    rw [h] at hp
    unfold onceB
    rw [Bool.and_eq_true, Bool.and_eq_true]
    refine ⟨by simpa using hl, List.all_eq_true.2 fun x hx => ?_, new_of_nodup (hp.nodup_iff.1 (by decide))⟩
    have hx2 := hp.mem_iff.2 hx
    simp at hx2
    unfold inC
    rcases hx2 with rfl | rfl | rfl | rfl | rfl <;> decide
end Go.Proofs.YtnmbkiajkpcmnaaDoor
