/- Lists held against each other: contracts of both sides. Clocks held against each other: both sides. -/
import Derived.Test.YtmflbibogkebmaaStF
import Derived.Test.YtmflbibogkebmaaKind
import Derived.BigQuiet
namespace Go.Proofs.Ytmflbibogkebmaa
open Go.RowKit
open Rd Fl

def sameL {α : Type} (p : α → α → Bool) : List α → List α → Bool
  | [], [] => true
  | x :: l, y :: m => p x y && sameL p l m
  | _, _ => false
theorem sameL_iff {α : Type} (p : α → α → Bool) : ∀ l m : List α, sameL p l m = true ↔ l.length = m.length ∧ ∀ (i : Nat) x y, l[i]? = some x → m[i]? = some y → p x y = true := by
  intro l
  induction l with
  | nil =>
    intro m
    cases m with
    | nil => simp [sameL]
    | cons y m => simp [sameL]
  | cons x l ih =>
    intro m
    cases m with
    | nil => simp [sameL]
    | cons y m =>
      rw [sameL, Bool.and_eq_true, ih m]
      constructor
      · rintro ⟨h1, h2, h3⟩
        refine ⟨by simp [h2], fun i a b ha hb => ?_⟩
        cases i with
        | zero => simp at ha hb; subst ha hb; exact h1
        | succ i => exact h3 i a b (by simpa using ha) (by simpa using hb)
      · rintro ⟨h1, h2⟩
        exact ⟨h2 0 x y rfl rfl, by simpa using h1, fun i a b ha hb => h2 (i + 1) a b (by simpa using ha) (by simpa using hb)⟩
theorem sameL_len {α : Type} {p : α → α → Bool} {l m : List α} (h : l.length ≠ m.length) : sameL p l m = false := by
  rw [Bool.eq_false_iff]; intro h2; exact h ((sameL_iff p l m).1 h2).1
theorem sameL_no {α : Type} {p : α → α → Bool} {l m : List α} {k : Nat} {x y : α} (hx : l[k]? = some x) (hy : m[k]? = some y) (h : p x y = false) : sameL p l m = false := by
  rw [Bool.eq_false_iff]; intro h2; have := ((sameL_iff p l m).1 h2).2 k x y hx hy; rw [h] at this; cases this
/-- The first k are the same. -/
def SameTo {α : Type} (p : α → α → Bool) (l m : List α) (k : Nat) : Prop := ∀ (i : Nat) x y, i < k → l[i]? = some x → m[i]? = some y → p x y = true
theorem SameTo.zero {α : Type} (p : α → α → Bool) (l m : List α) : SameTo p l m 0 := fun i _ _ h => by omega
theorem SameTo.step {α : Type} {p : α → α → Bool} {l m : List α} {k : Nat} {x y : α} (h : SameTo p l m k) (hx : l[k]? = some x) (hy : m[k]? = some y) (hp : p x y = true) : SameTo p l m (k + 1) := by
  intro i a b hi ha hb
  by_cases e : i = k
  · subst e
    rw [hx] at ha
    rw [hy] at hb
    cases ha
    cases hb
    exact hp
  · exact h i a b (by omega) ha hb
theorem SameTo.all {α : Type} {p : α → α → Bool} {l m : List α} (h : SameTo p l m l.length) (hl : l.length = m.length) : sameL p l m = true :=
  (sameL_iff p l m).2 ⟨hl, fun i x y hx hy => h i x y (List.getElem?_eq_some_iff.1 hx).1 hx hy⟩
def sB (x y : Bool × Nat) : Bool := sameB x.1 x.2 y.1 y.2
def iB (x y : Int) : Bool := decide (x = y)

end Go.Proofs.Ytmflbibogkebmaa
namespace Go.Proofs.Ytmflbibogkebmaa
open Go.RowKit
open Rd Fl

def lB (x y : Int) : Bool := decide (x ≤ y)
/-- each of l is at most that of m, and they are not the same -/
def lessC (l m : List Int) : Bool := sameL lB l m && !sameL iB l m
/-- what ClockLess tells -/
def lessT (l m : List Int) : Bool × Bool := if l.length = m.length then (lessC l m, true) else (false, false)

end Go.Proofs.Ytmflbibogkebmaa
