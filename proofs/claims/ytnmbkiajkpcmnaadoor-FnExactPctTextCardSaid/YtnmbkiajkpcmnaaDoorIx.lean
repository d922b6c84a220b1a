/- Lists of lists of ints: sizes, copies, comparisons, marks (laid by mkii.py). -/
import Derived.Test.YtnmbkiajkpcmnaaDoorMl
import Derived.Test.YtnmbkiajkpcmnaaDoorStF
import Derived.Test.YtnmbkiajkpcmnaaDoorRg
namespace Go.Proofs.YtnmbkiajkpcmnaaDoor
open Go.RowKit
open Rd Fl

theorem issInfo : (Tryd.prog.info? 22).map (·.size) = some 1 ∧ (Tryd.prog.info? 22).map (·.bytes) = some 24 ∧ (Tryd.prog.info? 22).bind (·.zero) = some (.slice none 0 0) := ⟨by kernel_rfl, by kernel_rfl, by kernel_rfl⟩
/-- The lists rs lie from R on. -/
def IssAt (w : World) (R : Option Addr) (rs : List (List Int)) : Prop :=
  ∃ b off, (rs ≠ [] → R = some ⟨b, off, none⟩) ∧ ∀ i l, rs[i]? = some l → ∃ A cap, w.cell? ⟨b, off + i, none⟩ = some (.slice A l.length cap) ∧ LAt iv w A l

theorem IssAt.keep {w w' : World} {R : Option Addr} {rs : List (List Int)} (h : IssAt w R rs) (hb : Below w.heap.size w w') : IssAt w' R rs := by
  obtain ⟨b, off, h1, h2⟩ := h
  refine ⟨b, off, h1, fun i l hi => ?_⟩
  obtain ⟨A, cap, h3, h4⟩ := h2 i l hi
  exact ⟨A, cap, keep_cell hb h3, h4.keep hb⟩

/-- The first k lists lie in blocks of their own behind N, N's first k cells leading there. -/
def IssTo (w : World) (N k : Nat) (rs : List (List Int)) : Prop :=
  ∀ i l, i < k → rs[i]? = some l → ∃ M, N < M ∧ M < w.heap.size ∧ w.cell? ⟨N, i, none⟩ = some (.slice (some ⟨M, 0, none⟩) l.length l.length) ∧ LOwn iv w M l
theorem IssTo.keep {w w' : World} {N k : Nat} {rs : List (List Int)} (h : IssTo w N k rs) (hb : Below w.heap.size w w') : IssTo w' N k rs := by
  intro i l hi hl
  obtain ⟨M, h1, h2, h3, h4⟩ := h i l hi hl
  exact ⟨M, h1, Nat.lt_of_lt_of_le h2 hb.size, keep_cell hb h3, h4.keep hb⟩
theorem IssTo.iss {w : World} {N : Nat} {rs : List (List Int)} (h : IssTo w N rs.length rs) : IssAt w (some ⟨N, 0, none⟩) rs := by
  refine ⟨N, 0, fun _ => rfl, fun i l hl => ?_⟩
  obtain ⟨M, h1, h2, h3, h4⟩ := h i l (List.getElem?_eq_some_iff.1 hl).1 hl
  exact ⟨_, _, by rw [Nat.zero_add]; exact h3, h4.at⟩


/-- One list more has been copied. -/
theorem toiss_step (w wr w1 : World) (rs : List (List Int)) (k : Nat) (l : List Int) (hk : k < rs.length) (hl : rs[k]? = some l) (hsz : w.heap.size < wr.heap.size) (hth : wr.there w.heap.size 0 rs.length)
    (hown : IssTo wr w.heap.size k rs) (hbw : Below w.heap.size w wr) (h1 : wr.heap.size < w1.heap.size) (h2 : LOwn iv w1 wr.heap.size l) (hb1 : Below wr.heap.size wr w1) :
    w.heap.size < (w1.setCell ⟨w.heap.size, k, none⟩ (.slice (some ⟨wr.heap.size, 0, none⟩) l.length l.length)).heap.size ∧
    (w1.setCell ⟨w.heap.size, k, none⟩ (.slice (some ⟨wr.heap.size, 0, none⟩) l.length l.length)).there w.heap.size 0 rs.length ∧
    IssTo (w1.setCell ⟨w.heap.size, k, none⟩ (.slice (some ⟨wr.heap.size, 0, none⟩) l.length l.length)) w.heap.size (k + 1) rs ∧
    Below w.heap.size w (w1.setCell ⟨w.heap.size, k, none⟩ (.slice (some ⟨wr.heap.size, 0, none⟩) l.length l.length)) := by
  have hth1 := there_keep hb1 hth
  refine ⟨by rw [set_size]; omega, World.there_setCells hth1 _ _ [_], fun i x hi hx => ?_, (hbw.trans (hb1.mono (by omega))).setCell (p := ⟨w.heap.size, k, none⟩) (Nat.le_refl _) _⟩
  by_cases e : i = k
  · subst e
    rw [hl] at hx
    cases hx
    obtain ⟨y, hy⟩ := Option.isSome_iff_exists.1 (hth1 i hk).1
    rw [Nat.zero_add] at hy
    exact ⟨wr.heap.size, hsz, by rw [set_size]; omega, World.cell?_setCell_same _ _ _ hy, h2.set _ _ _ (by omega)⟩
  · obtain ⟨M, g1, g2, g3, g4⟩ := (hown.keep hb1) i x (by omega) hx
    refine ⟨M, g1, by rw [set_size]; exact g2, ?_, g4.set _ _ _ (by omega)⟩
    rw [World.cell?_setCell_other _ _ _ _ (by simp <;> omega)]
    exact g3

/-- The lists lie at N's cells, each in a block of its own above N and below hi. -/
def IssIn (w : World) (N hi : Nat) (rs : List (List Int)) : Prop :=
  ∀ i l, rs[i]? = some l → ∃ M, N < M ∧ M < hi ∧ w.cell? ⟨N, i, none⟩ = some (.slice (some ⟨M, 0, none⟩) l.length l.length) ∧ w.there M 0 (l.length)
theorem IssTo.in {w : World} {N : Nat} {rs : List (List Int)} (h : IssTo w N rs.length rs) : IssIn w N w.heap.size rs := by
  intro i l hl
  obtain ⟨M, h1, h2, h3, h4⟩ := h i l (List.getElem?_eq_some_iff.1 hl).1 hl
  exact ⟨M, h1, h2, h3, h4.1⟩
theorem IssIn.keep {w w' : World} {N hi : Nat} {rs : List (List Int)} (h : IssIn w N hi rs) (hb : Below w.heap.size w w') : IssIn w' N hi rs := by
  intro i l hl
  obtain ⟨M, h1, h2, h3, h4⟩ := h i l hl
  exact ⟨M, h1, h2, keep_cell hb h3, there_keep hb h4⟩
theorem IssIn.edit {w w' : World} {N hi : Nat} {rs : List (List Int)} (h : IssIn w N hi rs) {lo up : Nat} (he : Edit lo up w w') (hN : N < lo ∨ up ≤ N) : IssIn w' N hi rs := by
  intro i l hl
  obtain ⟨M, h1, h2, h3, h4⟩ := h i l hl
  exact ⟨M, h1, h2, he.cell h3 hN, he.th _ _ _ h4⟩


end Go.Proofs.YtnmbkiajkpcmnaaDoor
