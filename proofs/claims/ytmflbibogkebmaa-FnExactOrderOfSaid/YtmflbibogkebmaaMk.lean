/- Programs: the copy as a struct, and comparisons. Marks: what the exact laws write into a copy of a program. -/
import Derived.Test.YtmflbibogkebmaaPrgC
import Derived.Test.YtmflbibogkebmaaKind
import Derived.Deep.RegionWith
namespace Go.Proofs.Ytmflbibogkebmaa
open Go.RowKit
open Rd Fl

theorem OwnTo.setc {w : World} {N k : Nat} {rs : List (List OpD)} (h : OwnTo w N k rs) (b o : Nat) (v : Value) (hb : b < N) : OwnTo (w.setCell ⟨b, o, none⟩ v) N k rs := by
  intro i l hi hl
  obtain ⟨M, h1, h2, h3, h4⟩ := h i l hi hl
  refine ⟨M, h1, by rw [set_size]; exact h2, ?_, h4.set _ _ _ (by omega)⟩
  rw [World.cell?_setCell_other _ _ _ _ (by simp <;> omega)]
  exact h3
theorem first_below {w wr w1 : World} (h : Below w.heap.size w wr) (hb : Below wr.drew.heap.size wr.drew w1) : Below w.heap.size w w1 := h.drew.trans (hb.mono h.size)

end Go.Proofs.Ytmflbibogkebmaa
namespace Go.Proofs.Ytmflbibogkebmaa
open Go.RowKit
open Rd Fl

theorem there_set {w : World} {N o n : Nat} (h : w.there N o n) (M p : Nat) (v : Value) : (w.setCell ⟨M, p, none⟩ v).there N o n := World.there_setCells h M p [v]

/-- Of the blocks that were there only those from lo on and below hi have turned; what could be written still can. -/
structure Edit (lo hi : Nat) (w w' : World) : Prop where
  b : Below lo w w'
  up : ∀ k, hi ≤ k → k < w.heap.size → w'.heap[k]? = w.heap[k]?
  th : ∀ N o n, w.there N o n → w'.there N o n
theorem Edit.refl (lo hi : Nat) (w : World) : Edit lo hi w w := ⟨Below.refl _ _, fun _ _ _ => rfl, fun _ _ _ h => h⟩
theorem Edit.trans {lo hi : Nat} {a b c : World} (h : Edit lo hi a b) (k : Edit lo hi b c) : Edit lo hi a c := ⟨h.b.trans k.b, fun i hi hz => (k.up i hi (Nat.lt_of_lt_of_le hz h.b.size)).trans (h.up i hi hz), fun N o n ht => k.th N o n (h.th N o n ht)⟩
theorem Edit.mono {lo hi lo' hi' : Nat} {w w' : World} (h : Edit lo hi w w') (h1 : lo' ≤ lo) (h2 : hi ≤ hi') : Edit lo' hi' w w' := ⟨h.b.mono h1, fun i hi hz => h.up i (Nat.le_trans h2 hi) hz, h.th⟩
theorem Edit.set {lo hi : Nat} {a w : World} (h : Edit lo hi a w) (N o : Nat) (v : Value) (h1 : lo ≤ N) (h2 : N < hi) : Edit lo hi a (w.setCell ⟨N, o, none⟩ v) :=
  ⟨h.b.setCell (p := ⟨N, o, none⟩) h1 v, fun k hk hz => (Below.heap_setCell _ _ _ _ (by show k ≠ N; omega)).trans (h.up k hk hz), fun M p n ht => there_set (h.th M p n ht) _ _ _⟩
theorem Edit.of_below {lo hi : Nat} {w w' : World} (h : Below w.heap.size w w') (hlo : lo ≤ w.heap.size) : Edit lo hi w w' := ⟨h.mono hlo, fun k _ hz => h.block k hz, fun _ _ _ ht => there_keep h ht⟩
theorem Edit.cell {lo hi : Nat} {w w' : World} (h : Edit lo hi w w') {N o : Nat} {v : Value} (hc : w.cell? ⟨N, o, none⟩ = some v) (hp : N < lo ∨ hi ≤ N) : w'.cell? ⟨N, o, none⟩ = some v := by
  rcases hp with hp | hp
  · exact (h.b.cell (p := ⟨N, o, none⟩) hp).trans hc
  · exact (World.cell?_of_block (w := w) (a := ⟨N, o, none⟩) (h.up N hp (World.block_lt_of_cell? w _ hc))).trans hc
theorem Edit.range {lo hi : Nat} {w w' : World} (h : Edit lo hi w w') {N o : Nat} {cs : List Value} (ht : w.rangeAt N o cs) (hp : N < lo ∨ hi ≤ N) : w'.rangeAt N o cs := fun j v hv => h.cell (ht j v hv) hp

/-- The routines lie at N's cells, each in a block of its own above N and below hi. -/
def OwnIn (w : World) (N hi : Nat) (rs : List (List OpD)) : Prop :=
  ∀ i l, rs[i]? = some l → ∃ M, N < M ∧ M < hi ∧ w.cell? ⟨N, i, none⟩ = some (.slice (some ⟨M, 0, none⟩) l.length l.length) ∧ w.there M 0 (l.length * 4)
theorem OwnTo.in {w : World} {N : Nat} {rs : List (List OpD)} (h : OwnTo w N rs.length rs) : OwnIn w N w.heap.size rs := by
  intro i l hl
  obtain ⟨M, h1, h2, h3, h4⟩ := h i l (List.getElem?_eq_some_iff.1 hl).1 hl
  exact ⟨M, h1, h2, h3, h4.1⟩
theorem OwnIn.keep {w w' : World} {N hi : Nat} {rs : List (List OpD)} (h : OwnIn w N hi rs) (hb : Below w.heap.size w w') : OwnIn w' N hi rs := by
  intro i l hl
  obtain ⟨M, h1, h2, h3, h4⟩ := h i l hl
  exact ⟨M, h1, h2, keep_cell hb h3, there_keep hb h4⟩
theorem OwnIn.edit {w w' : World} {N hi : Nat} {rs : List (List OpD)} (h : OwnIn w N hi rs) {lo up : Nat} (he : Edit lo up w w') (hN : N < lo ∨ up ≤ N) : OwnIn w' N hi rs := by
  intro i l hl
  obtain ⟨M, h1, h2, h3, h4⟩ := h i l hl
  exact ⟨M, h1, h2, he.cell h3 hN, he.th _ _ _ h4⟩

end Go.Proofs.Ytmflbibogkebmaa
