/- States: copies of the exact laws. -/
import Derived.Test.YtgfnejojjjlloaaSt
import Derived.Test.YtgfnejojjjlloaaPrgD
namespace Go.Proofs.Ytgfnejojjjlloaa
open Go.RowKit
open Rd Fl

/-- The values of l lie in a block of their own. -/
def LOwn {α : Type} (f : α → Value) (w : World) (M : Nat) (l : List α) : Prop := w.there M 0 l.length ∧ ∀ i x, l[i]? = some x → w.cell? ⟨M, i, none⟩ = some (f x)
theorem LOwn.at {α : Type} {f : α → Value} {w : World} {M : Nat} {l : List α} (h : LOwn f w M l) : LAt f w (some ⟨M, 0, none⟩) l := ⟨M, 0, fun _ => rfl, fun i o ho => by rw [Nat.zero_add]; exact h.2 i o ho⟩
theorem LOwn.keep {α : Type} {f : α → Value} {w w' : World} {M : Nat} {l : List α} (h : LOwn f w M l) (hb : Below w.heap.size w w') : LOwn f w' M l := ⟨there_keep hb h.1, fun i o ho => keep_cell hb (h.2 i o ho)⟩
theorem LOwn.sets {α : Type} {f : α → Value} {w : World} {M : Nat} {l : List α} (h : LOwn f w M l) (N o : Nat) (vs : List Value) (hne : M ≠ N) : LOwn f (w.setCells N o vs) M l :=
  ⟨World.there_setCells h.1 N o vs, fun i x hx => by
    have h2 : w.rangeAt M i [f x] := fun j v hv => by
      cases j with
      | zero => simp only [List.getElem?_cons_zero, Option.some.injEq] at hv; subst hv; exact h.2 i x hx
      | succ j => simp at hv
    exact World.rangeAt_setCells_apart h2 N o vs (.inl hne) 0 _ rfl⟩
theorem LOwn.set {α : Type} {f : α → Value} {w : World} {M : Nat} {l : List α} (h : LOwn f w M l) (N o : Nat) (v : Value) (hne : M ≠ N) : LOwn f (w.setCell ⟨N, o, none⟩ v) M l := h.sets N o [v] hne

/-- The first k values have been copied. -/
structure CopTo {α : Type} (f : α → Value) (w wr : World) (l : List α) (k : Nat) : Prop where
  z : w.heap.size < wr.heap.size
  th : wr.there w.heap.size 0 l.length
  c : ∀ i x, i < k → l[i]? = some x → wr.cell? ⟨w.heap.size, i, none⟩ = some (f x)
  b : Below w.heap.size w wr
theorem CopTo.step {α : Type} {f : α → Value} {w wr : World} {l : List α} {k : Nat} {x : α} (h : CopTo f w wr l k) (hk : k < l.length) (hx : l[k]? = some x) : CopTo f w (wr.setCell ⟨w.heap.size, k, none⟩ (f x)) l (k + 1) := by
  refine ⟨by rw [set_size]; exact h.z, World.there_setCells h.th _ _ [_], fun i y hi hy => ?_, h.b.setCell (p := ⟨w.heap.size, k, none⟩) (Nat.le_refl _) _⟩
  by_cases e : i = k
  · subst e
    rw [hx] at hy
    cases hy
    obtain ⟨y, hy⟩ := Option.isSome_iff_exists.1 (h.th i hk).1
    rw [Nat.zero_add] at hy
    exact World.cell?_setCell_same _ _ _ hy
  · rw [World.cell?_setCell_other _ _ _ _ (by simp <;> omega)]
    exact h.c i y (by omega) hy
theorem CopTo.own {α : Type} {f : α → Value} {w wr : World} {l : List α} {k : Nat} (h : CopTo f w wr l k) (hk : k = l.length) : LOwn f wr w.heap.size l :=
  ⟨h.th, fun i x hx => h.c i x (by have := (List.getElem?_eq_some_iff.1 hx).1; omega) hx⟩
theorem CopTo.cell {α : Type} {f : α → Value} {w wr : World} {l : List α} {k : Nat} (h : CopTo f w wr l k) (hk : k < l.length) : ∃ y, wr.cell? ⟨w.heap.size, k, none⟩ = some y ∧ wr.frozen? ⟨w.heap.size, k, none⟩ = false := by
  obtain ⟨y, hy⟩ := Option.isSome_iff_exists.1 (h.th k hk).1
  have hz := (h.th k hk).2
  rw [Nat.zero_add] at hy hz
  exact ⟨y, hy, hz⟩

theorem inSize : (Try.prog.info? 3).map (·.size) = some 1 := by kernel_rfl
theorem inBytes : (Try.prog.info? 3).map (·.bytes) = some 8 := by kernel_rfl
theorem inZero : (Try.prog.info? 3).bind (·.zero) = some (.int .i64 0) := by kernel_rfl
theorem make_ints (n : Nat) (hn : n ≤ 1048576) (w : World) : (Instr.makeSlice 41 (.int .i64 (n : Int)) (.int .i64 (n : Int))).run Try.prog w = .ok (.slice (some ⟨w.heap.size, 0, none⟩) n n) (w.alloc (.cells (madeCells #[.int .i64 0] n) 3)) := by
  cases hi : Try.prog.info? 3 with
  | none => have := inSize; rw [hi] at this; cases this
  | some i =>
    have h1 : i.size = 1 := by have := inSize; rw [hi] at this; simpa using this
    have h2 : i.bytes = 8 := by have := inBytes; rw [hi] at this; simpa using this
    have h3 : i.zero = some (.int .i64 0) := by have := inZero; rw [hi] at this; simpa using this
    have := run_make (P := Try.prog) w 41 3 i _ Try.underlying41 hi h3 .i64 .i64 n n (by omega) (Int.le_refl _) (by rw [h2]; omega) (by omega)
    rw [h1] at this
    simpa [Value.cells] using this
end Go.Proofs.Ytgfnejojjjlloaa
