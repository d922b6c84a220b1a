/- Programs: the copy of a whole program. -/
import Derived.Test.YtgfnejojjjlloaaPrgC
namespace Go.Proofs.Ytgfnejojjjlloaa
open Go.RowKit
open Rd Fl

/-- The ops l lie in a block of their own. -/
def OpsOwn (w : World) (M : Nat) (l : List OpD) : Prop := w.there M 0 (l.length * 4) ∧ ∀ i o, l[i]? = some o → w.rangeAt M (i * 4) o.cells
theorem OpsOwn.at {w : World} {M : Nat} {l : List OpD} (h : OpsOwn w M l) : OpsAt w (some ⟨M, 0, none⟩) l := ⟨M, 0, fun _ => rfl, fun i o ho => by rw [Nat.zero_add]; exact h.2 i o ho⟩
theorem OpsOwn.keep {w w' : World} {M : Nat} {l : List OpD} (h : OpsOwn w M l) (hb : Below w.heap.size w w') : OpsOwn w' M l := ⟨there_keep hb h.1, fun i o ho => range_keep hb (h.2 i o ho)⟩
theorem OpsOwn.set {w : World} {M : Nat} {l : List OpD} (h : OpsOwn w M l) (N o : Nat) (v : Value) (hne : M ≠ N) : OpsOwn (w.setCell ⟨N, o, none⟩ v) M l :=
  ⟨World.there_setCells h.1 N o [v], fun i x hx => World.rangeAt_setCells_apart (h.2 i x hx) N o [v] (.inl hne)⟩
/-- The first k routines lie in blocks of their own behind N, N's first k cells leading there. -/
def OwnTo (w : World) (N k : Nat) (rs : List (List OpD)) : Prop :=
  ∀ i l, i < k → rs[i]? = some l → ∃ M, N < M ∧ M < w.heap.size ∧ w.cell? ⟨N, i, none⟩ = some (.slice (some ⟨M, 0, none⟩) l.length l.length) ∧ OpsOwn w M l
theorem OwnTo.keep {w w' : World} {N k : Nat} {rs : List (List OpD)} (h : OwnTo w N k rs) (hb : Below w.heap.size w w') : OwnTo w' N k rs := by
  intro i l hi hl
  obtain ⟨M, h1, h2, h3, h4⟩ := h i l hi hl
  exact ⟨M, h1, Nat.lt_of_lt_of_le h2 hb.size, keep_cell hb h3, h4.keep hb⟩
theorem OwnTo.routs {w : World} {N : Nat} {rs : List (List OpD)} (h : OwnTo w N rs.length rs) : RoutsAt w (some ⟨N, 0, none⟩) rs := by
  refine ⟨N, 0, fun _ => rfl, fun i l hl => ?_⟩
  obtain ⟨M, h1, h2, h3, h4⟩ := h i l (List.getElem?_eq_some_iff.1 hl).1 hl
  exact ⟨_, _, by rw [Nat.zero_add]; exact h3, h4.at⟩

theorem set_size (w : World) (a : Addr) (v : Value) : (w.setCell a v).heap.size = w.heap.size := by simp [World.setCell]

/-- One routine more has been copied. -/
theorem toopss_step (w wr w1 : World) (rs : List (List OpD)) (k : Nat) (l : List OpD) (hk : k < rs.length) (hl : rs[k]? = some l) (hsz : w.heap.size < wr.heap.size) (hth : wr.there w.heap.size 0 rs.length)
    (hown : OwnTo wr w.heap.size k rs) (hbw : Below w.heap.size w wr) (h1 : wr.heap.size < w1.heap.size) (h2 : OpsOwn w1 wr.heap.size l) (hb1 : Below wr.heap.size wr w1) :
    w.heap.size < (w1.setCell ⟨w.heap.size, k, none⟩ (.slice (some ⟨wr.heap.size, 0, none⟩) l.length l.length)).heap.size ∧
    (w1.setCell ⟨w.heap.size, k, none⟩ (.slice (some ⟨wr.heap.size, 0, none⟩) l.length l.length)).there w.heap.size 0 rs.length ∧
    OwnTo (w1.setCell ⟨w.heap.size, k, none⟩ (.slice (some ⟨wr.heap.size, 0, none⟩) l.length l.length)) w.heap.size (k + 1) rs ∧
    Below w.heap.size w (w1.setCell ⟨w.heap.size, k, none⟩ (.slice (some ⟨wr.heap.size, 0, none⟩) l.length l.length)) := by
  have hth1 := there_keep hb1 hth
  refine ⟨by rw [set_size]; omega, World.there_setCells hth1 _ _ [_], fun i x hi hx => ?_, (hbw.trans (hb1.mono (by omega))).setCell (p := ⟨w.heap.size, k, none⟩) (Nat.le_refl _) _⟩
  by_cases e : i = k
  · subst e
    rw [hl] at hx
    cases hx
    obtain ⟨y, hy⟩ := Option.isSome_iff_exists.1 (hth1 i hk).1
    rw [Nat.zero_add] at hy
    exact ⟨wr.heap.size, hsz, by rw [set_size]; omega, World.cell?_setCell_same _ _ _ hy, h2.set _ _ _ (by omega)⟩
  · obtain ⟨M, g1, g2, g3, g4⟩ := (hown.keep hb1) i x (by omega) hx
    refine ⟨M, g1, by rw [set_size]; exact g2, ?_, g4.set _ _ _ (by omega)⟩
    rw [World.cell?_setCell_other _ _ _ _ (by simp <;> omega)]
    exact g3

end Go.Proofs.Ytgfnejojjjlloaa
