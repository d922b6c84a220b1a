/- Locks shared at all places of a cell: data. -/
import Derived.Test.YtmflbibogkebmaaVn
import Derived.Test.YtmflbibogkebmaaVc
import Derived.Test.YtmflbibogkebmaaSpD
namespace Go.Proofs.Ytmflbibogkebmaa
open Go.RowKit Go.Maps
open Rd Fl

/-- those of l that are in m -/
def bothL (l m : List Int) : List Int := l.filter fun x => decide (x ∈ m)
theorem bothL_mem {l m : List Int} {x : Int} : x ∈ bothL l m ↔ x ∈ l ∧ x ∈ m := by
  unfold bothL
  rw [List.mem_filter, decide_eq_true_iff]
theorem bothL_rises {l m : List Int} (h : l.Pairwise (· < ·)) : (bothL l m).Pairwise (· < ·) := by unfold bothL; exact h.filter _
theorem bothL_len (l m : List Int) : (bothL l m).length ≤ l.length := List.length_filter_le _ _
theorem bothL_swap {l m : List Int} (h : l.Pairwise (· < ·)) (h' : m.Pairwise (· < ·)) : bothL l m = bothL m l :=
  rises_ext _ _ (bothL_rises h) (bothL_rises h') fun x => by rw [bothL_mem, bothL_mem, and_comm]
theorem bothL_self (l : List Int) : bothL l l = l := by
  unfold bothL
  rw [List.filter_eq_self]
  intro x hx
  exact decide_eq_true hx
/-- the locks that are had at all places below k that touch cell x; none where there is no such place -/
def shTo (t : List EvD) : Nat → Int → Option (List Int)
  | 0, _ => none
  | k + 1, x => if tchB (evA t k) = true ∧ (evA t k).ob = x then (match shTo t k x with
      | none => some (heldN t k)
      | some l => some (bothL (heldN t k) l)) else shTo t k x
theorem shTo_no {t : List EvD} {k : Nat} {x : Int} (h : ¬ (tchB (evA t k) = true ∧ (evA t k).ob = x)) : shTo t (k + 1) x = shTo t k x := by
  conv => lhs; unfold shTo
  rw [if_neg h]
theorem shTo_new {t : List EvD} {k : Nat} {x : Int} (h : tchB (evA t k) = true ∧ (evA t k).ob = x) (hn : shTo t k x = none) : shTo t (k + 1) x = some (heldN t k) := by
  conv => lhs; unfold shTo
  rw [if_pos h, hn]
theorem shTo_old {t : List EvD} {k : Nat} {x : Int} {l : List Int} (h : tchB (evA t k) = true ∧ (evA t k).ob = x) (hn : shTo t k x = some l) : shTo t (k + 1) x = some (bothL (heldN t k) l) := by
  conv => lhs; unfold shTo
  rw [if_pos h, hn]
theorem shTo_rises (t : List EvD) : ∀ k x l, shTo t k x = some l → l.Pairwise (· < ·)
  | 0, x, l, h => by cases h
  | k + 1, x, l, h => by
    by_cases hc : tchB (evA t k) = true ∧ (evA t k).ob = x
    · cases hs : shTo t k x with
      | none => rw [shTo_new hc hs] at h; cases h; exact heldN_rises t k
      | some m => rw [shTo_old hc hs] at h; cases h; exact bothL_rises (heldN_rises t k)
    · rw [shTo_no hc] at h
      exact shTo_rises t k x l h
theorem shTo_len {t : List EvD} : ∀ k x l, shTo t k x = some l → l.length ≤ k
  | 0, x, l, h => by cases h
  | k + 1, x, l, h => by
    by_cases hc : tchB (evA t k) = true ∧ (evA t k).ob = x
    · cases hs : shTo t k x with
      | none => rw [shTo_new hc hs] at h; cases h; exact heldN_len t k
      | some m => rw [shTo_old hc hs] at h; cases h; exact Nat.le_trans (bothL_len _ _) (heldN_len t k)
    · rw [shTo_no hc] at h
      have := shTo_len k x l h
      omega
/-- the cells that are touched below k, rising -/
def cellsTo (t : List EvD) : Nat → List Int
  | 0 => []
  | k + 1 => if tchB (evA t k) = true then putR (cellsTo t k) (evA t k).ob else cellsTo t k
theorem cellsTo_yes {t : List EvD} {k : Nat} (h : tchB (evA t k) = true) : cellsTo t (k + 1) = putR (cellsTo t k) (evA t k).ob := by
  conv => lhs; unfold cellsTo
  rw [if_pos h]
theorem cellsTo_no {t : List EvD} {k : Nat} (h : tchB (evA t k) = false) : cellsTo t (k + 1) = cellsTo t k := by
  conv => lhs; unfold cellsTo
  rw [if_neg (by rw [h]; simp)]
theorem cellsTo_rises (t : List EvD) : ∀ k, (cellsTo t k).Pairwise (· < ·)
  | 0 => List.Pairwise.nil
  | k + 1 => by
    unfold cellsTo
    split
    · exact putR_rises _ _ (cellsTo_rises t k)
    · exact cellsTo_rises t k
theorem cellsTo_len (t : List EvD) : ∀ k, (cellsTo t k).length ≤ k
  | 0 => Nat.le_refl _
  | k + 1 => by
    have ih := cellsTo_len t k
    unfold cellsTo
    split
    · have := putR_len (evA t k).ob (cellsTo t k); omega
    · omega
theorem cellsTo_in {t : List EvD} (hg : goodTr t = true) : ∀ k, k ≤ t.length → ∀ x ∈ cellsTo t k, 0 ≤ x ∧ x ≤ 99
  | 0, _, x, h => by cases h
  | k + 1, hk, x, h => by
    have ih := cellsTo_in hg k (by omega)
    have hge := good_ev hg (i := k) (by omega)
    rw [← evA_get (by omega)] at hge
    unfold cellsTo at h
    split at h
    · rename_i ht
      rw [putR_mem] at h
      rcases h with rfl | h
      · have := goodev_all hge
        unfold tchB at ht
        rw [Bool.or_eq_true, beq_iff_eq, beq_iff_eq] at ht
        omega
      · exact ih x h
    · exact ih x h
/-- A cell has been touched just where it is told. -/
theorem shTo_some (t : List EvD) : ∀ k x, (shTo t k x).isSome = true ↔ x ∈ cellsTo t k
  | 0, x => by simp [shTo, cellsTo]
  | k + 1, x => by
    have ih := shTo_some t k x
    by_cases ht : tchB (evA t k) = true
    · rw [cellsTo_yes ht, putR_mem]
      by_cases hx : (evA t k).ob = x
      · cases hs : shTo t k x with
        | none => rw [shTo_new ⟨ht, hx⟩ hs]; simp [hx]
        | some m => rw [shTo_old ⟨ht, hx⟩ hs]; simp [hx]
      · rw [shTo_no (fun h => hx h.2), ih]
        constructor
        · exact .inr
        · rintro (h | h)
          · exact absurd h.symm hx
          · exact h
    · rw [shTo_no (fun h => ht h.1), cellsTo_no (by simpa using ht), ih]
/-- the lists told: a cell, and behind it the locks -/
def shRow (t : List EvD) (x : Int) : List Int := x :: (shTo t t.length x).getD []
def sharedN (t : List EvD) : List (List Int) := if goodTr t = true then (cellsTo t t.length).map (shRow t) else []
theorem shRow_len {t : List EvD} (hg : goodTr t = true) (x : Int) : (shRow t x).length ≤ 1000 := by
  unfold shRow
  have h2 := good_len hg
  cases hs : shTo t t.length x with
  | none => simp
  | some l =>
    have := shTo_len _ _ _ hs
    simp only [Option.getD_some, List.length_cons]
    omega
theorem sharedN_len (t : List EvD) : (sharedN t).length ≤ 40000 := by
  unfold sharedN
  split
  · rename_i h
    rw [List.length_map]
    have := cellsTo_len t t.length
    have := good_len h
    omega
  · simp
theorem sharedN_short (t : List EvD) : ∀ l ∈ sharedN t, l.length ≤ 1000 := by
  unfold sharedN
  split
  · rename_i h
    intro l hl
    obtain ⟨x, -, rfl⟩ := List.mem_map.1 hl
    exact shRow_len h x
  · intro l hl; cases hl
theorem sharedN_ne (t : List EvD) : ∀ l ∈ sharedN t, l ≠ [] := by
  unfold sharedN
  split
  · intro l hl
    obtain ⟨x, -, rfl⟩ := List.mem_map.1 hl
    unfold shRow
    simp
  · intro l hl; cases hl
end Go.Proofs.Ytmflbibogkebmaa
