/- States: the copy of a whole state. -/
import Derived.Test.YtgfnejojjjlloaaStC
namespace Go.Proofs.Ytgfnejojjjlloaa
open Go.RowKit
open Rd Fl

theorem below_set {B : Nat} {a w : World} (h : Below B a w) (N o : Nat) (v : Value) (hN : B ≤ N) : Below B a (w.setCell ⟨N, o, none⟩ v) := h.setCell (p := ⟨N, o, none⟩) hN v

/-- The first k threads lie at N, their stacks in blocks of their own behind it. -/
def ThOwn (w : World) (N k : Nat) (ts : List ThD) : Prop :=
  ∀ i t, i < k → ts[i]? = some t → ∃ M, N < M ∧ M < w.heap.size ∧ w.rangeAt N (i * 6) (t.cells (some ⟨M, 0, none⟩) t.sk.length) ∧ LOwn fv w M t.sk ∧ w.there N (i * 6) 6
theorem ThOwn.keep {w w' : World} {N k : Nat} {ts : List ThD} (h : ThOwn w N k ts) (hb : Below w.heap.size w w') : ThOwn w' N k ts := by
  intro i l hi hl
  obtain ⟨M, h1, h2, h3, h4, h5⟩ := h i l hi hl
  exact ⟨M, h1, Nat.lt_of_lt_of_le h2 hb.size, range_keep hb h3, h4.keep hb, there_keep hb h5⟩
theorem ThOwn.setc {w : World} {N k : Nat} {ts : List ThD} (h : ThOwn w N k ts) (b o : Nat) (v : Value) (hb : b < N) : ThOwn (w.setCell ⟨b, o, none⟩ v) N k ts := by
  intro i l hi hl
  obtain ⟨M, h1, h2, h3, h4, h5⟩ := h i l hi hl
  exact ⟨M, h1, by rw [set_size]; exact h2, World.rangeAt_setCells_apart h3 b o [v] (.inl (by omega)), h4.set _ _ _ (by omega), World.there_setCells h5 b o [v]⟩
theorem ThOwn.at {w : World} {N : Nat} {ts : List ThD} (h : ThOwn w N ts.length ts) : ThsAt w (some ⟨N, 0, none⟩) ts := by
  refine ⟨N, 0, fun _ => rfl, fun i t ht => ?_⟩
  obtain ⟨M, h1, h2, h3, h4, -⟩ := h i t (List.getElem?_eq_some_iff.1 ht).1 ht
  exact ⟨_, _, by rw [Nat.zero_add]; exact h3, h4.at⟩

/-- The first k threads have been copied. -/
structure ThTo (w wr : World) (ts : List ThD) (k : Nat) : Prop where
  z : w.heap.size < wr.heap.size
  th : wr.there w.heap.size 0 (ts.length * 6)
  o : ThOwn wr w.heap.size k ts
  b : Below w.heap.size w wr
theorem ThTo.step {w wr w1 : World} {ts : List ThD} {k : Nat} {t : ThD} {M : Nat} (h : ThTo w wr ts k) (hk : k < ts.length) (ht : ts[k]? = some t) (hM : wr.heap.size ≤ M) (hM2 : M < w1.heap.size) (ho : LOwn fv w1 M t.sk) (hb1 : Below wr.heap.size wr w1) :
    ThTo w (w1.setCells w.heap.size (k * 6) (t.cells (some ⟨M, 0, none⟩) t.sk.length)) ts (k + 1) := by
  have hz := h.z
  have hth1 := there_keep hb1 h.th
  refine ⟨by rw [cells_size]; have := hb1.size; omega, World.there_setCells hth1 _ _ _, fun i x hi hx => ?_, below_cells (h.b.trans (hb1.mono (by omega))) (Nat.le_refl _) _ _⟩
  by_cases e : i = k
  · subst e
    rw [ht] at hx
    cases hx
    exact ⟨M, by omega, by rw [cells_size]; omega, World.rangeAt_setCells_same w1 _ _ _ (there_part hth1 _ _ (by show i * 6 + 6 ≤ _; omega)), ho.sets _ _ _ (by omega), World.there_setCells (there_part hth1 _ _ (by omega)) _ _ _⟩
  · obtain ⟨M', g1, g2, g3, g4, g5⟩ := (h.o.keep hb1) i x (by omega) hx
    exact ⟨M', g1, by rw [cells_size]; exact g2, World.rangeAt_setCells_apart g3 _ _ _ (.inr (.inl (by show i * 6 + 6 ≤ _; omega))), g4.sets _ _ _ (by omega), World.there_setCells g5 _ _ _⟩
theorem six_there {w : World} {N j : Nat} (h : w.there N j 6) : ∃ x0 x1 x2 x3 x4 x5, (w.cell? ⟨N, j, none⟩ = some x0 ∧ w.cell? ⟨N, j + 1, none⟩ = some x1 ∧ w.cell? ⟨N, j + 2, none⟩ = some x2 ∧ w.cell? ⟨N, j + 3, none⟩ = some x3 ∧ w.cell? ⟨N, j + 4, none⟩ = some x4 ∧ w.cell? ⟨N, j + 5, none⟩ = some x5) ∧ w.frozen? ⟨N, j, none⟩ = false ∧ w.frozen? ⟨N, j + 1, none⟩ = false ∧ w.frozen? ⟨N, j + 2, none⟩ = false ∧ w.frozen? ⟨N, j + 3, none⟩ = false ∧ w.frozen? ⟨N, j + 4, none⟩ = false ∧ w.frozen? ⟨N, j + 5, none⟩ = false := by
  have h0 := h 0 (by omega)
  have h1 := h 1 (by omega)
  have h2 := h 2 (by omega)
  have h3 := h 3 (by omega)
  have h4 := h 4 (by omega)
  have h5 := h 5 (by omega)
  obtain ⟨x0, e0⟩ := Option.isSome_iff_exists.1 h0.1
  obtain ⟨x1, e1⟩ := Option.isSome_iff_exists.1 h1.1
  obtain ⟨x2, e2⟩ := Option.isSome_iff_exists.1 h2.1
  obtain ⟨x3, e3⟩ := Option.isSome_iff_exists.1 h3.1
  obtain ⟨x4, e4⟩ := Option.isSome_iff_exists.1 h4.1
  obtain ⟨x5, e5⟩ := Option.isSome_iff_exists.1 h5.1
  exact ⟨x0, x1, x2, x3, x4, x5, ⟨e0, e1, e2, e3, e4, e5⟩, h0.2, h1.2, h2.2, h3.2, h4.2, h5.2⟩

end Go.Proofs.Ytgfnejojjjlloaa
