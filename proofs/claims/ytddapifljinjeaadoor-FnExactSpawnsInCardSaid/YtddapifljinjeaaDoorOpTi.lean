/- impl.endsInText and OpText: contracts. -/
import Derived.Test.YtddapifljinjeaaDoorGood
import Derived.Test.YtddapifljinjeaaDoorOpTx
import Derived.Deep.RegionWith
namespace Go.Proofs.YtddapifljinjeaaDoor
open Go.RowKit
open Rd Fl

/-- the ends that go for a text -/
def endsT : Array Value := #[.int .i64 1, .int .i64 1000, .int .i64 1000, .int .i64 1000, .int .i64 1000, .int .i64 1000]
/-- the world in which the ends are filled up to a place -/
def endsW (w : World) (x1 x2 x3 x4 x5 : Int) : World := (w.alloc (.cells #[.int .i64 0, .int .i64 0, .int .i64 0, .int .i64 0, .int .i64 0, .int .i64 0] 67)).alloc (.cells #[.int .i64 1, .int .i64 x1, .int .i64 x2, .int .i64 x3, .int .i64 x4, .int .i64 x5] 67)

def formV (k : Nat) : Bool := decide (k = 1)
def formA (k : Nat) : Nat := if k = 2 ∨ k = 3 then 1 else if k = 10 ∨ k = 11 then 2 else if k = 12 ∨ k = 13 then 3 else if k = 14 then 4 else if k = 16 ∨ k = 17 then 5 else 0
def formB (k : Nat) : Nat := if k = 16 then 3 else 0
def formW (k : Nat) : ByteArray := opWords.getD k ⟨#[]⟩
/-- The table of forms stands. -/
def Forms (w : World) : Prop := ∀ k, k ≤ 17 → Form w k (formW k) (formV k) (formA k) (formB k)
theorem Forms.below {w w' : World} (h : Forms w) (hb : Below w.heap.size w w') : Forms w' := fun k hk =>
  let f := h k hk
  ⟨cell_keep hb f.word, cell_keep hb f.v, cell_keep hb f.a, cell_keep hb f.b⟩

theorem formA_lt (k : Nat) : formA k < 6 := by unfold formA; repeat (split <;> try omega)
theorem formB_lt (k : Nat) : formB k < 6 := by unfold formB; split <;> omega
def endT (f : Nat) : Int := if f = 0 then 1 else 1000
theorem endsT_at (f : Nat) (h : f < 6) : endsT[f]? = some (.int .i64 (endT f)) := by
  rcases (by omega : f = 0 ∨ f = 1 ∨ f = 2 ∨ f = 3 ∨ f = 4 ∨ f = 5) with rfl | rfl | rfl | rfl | rfl | rfl <;> rfl

theorem codes (k : Nat) (h1 : 1 ≤ k) (h2 : k ≤ 17) : k = 1 ∨ k = 2 ∨ k = 3 ∨ k = 4 ∨ k = 5 ∨ k = 6 ∨ k = 7 ∨ k = 8 ∨ k = 9 ∨ k = 10 ∨ k = 11 ∨ k = 12 ∨ k = 13 ∨ k = 14 ∨ k = 15 ∨ k = 16 ∨ k = 17 := by omega

theorem plain_good (k : Nat) (h1 : 1 ≤ k) (h2 : k ≤ 17) (a b : Int) (z : Bool) : plainB k a b z = goodB a b z (formV k) (endT (formA k)) (endT (formB k)) := by
  rw [Bool.eq_iff_iff]
  rcases codes k h1 h2 with rfl | rfl | rfl | rfl | rfl | rfl | rfl | rfl | rfl | rfl | rfl | rfl | rfl | rfl | rfl | rfl | rfl <;>
    simp [plainB, goodB, uV, uA, uB, formV, formA, formB, endT] <;> cases z <;> (try simp) <;> (try omega)

theorem words_at (k : Nat) (h2 : k ≤ 17) : wordsV[k]? = some (.string (formW k)) ∧ (formW k).size ≤ 10 := by
  by_cases h : k = 0
  · subst h; exact ⟨rfl, by decide⟩
  · rcases codes k (by omega) h2 with rfl | rfl | rfl | rfl | rfl | rfl | rfl | rfl | rfl | rfl | rfl | rfl | rfl | rfl | rfl | rfl | rfl <;> exact ⟨rfl, by decide⟩
theorem useT_nat (k : Nat) (h1 : 1 ≤ k) (h2 : k ≤ 17) : (useT k).data.toList = if formV k = true then [118] else if formA k = 0 then [] else if formB k = 0 then [97] else [97, 98] := by
  rcases codes k h1 h2 with rfl | rfl | rfl | rfl | rfl | rfl | rfl | rfl | rfl | rfl | rfl | rfl | rfl | rfl | rfl | rfl | rfl <;> rfl

theorem form_classes (k : Nat) (h1 : 1 ≤ k) (h2 : k ≤ 17) : (formV k = true ∧ formA k = 0 ∧ formB k = 0) ∨ (formV k = false ∧ formA k = 0 ∧ formB k = 0) ∨ (formV k = false ∧ formA k ≠ 0 ∧ formB k = 0) ∨ (formV k = false ∧ formA k ≠ 0 ∧ formB k ≠ 0) := by
  rcases codes k h1 h2 with rfl | rfl | rfl | rfl | rfl | rfl | rfl | rfl | rfl | rfl | rfl | rfl | rfl | rfl | rfl | rfl | rfl <;> decide

end Go.Proofs.YtddapifljinjeaaDoor
