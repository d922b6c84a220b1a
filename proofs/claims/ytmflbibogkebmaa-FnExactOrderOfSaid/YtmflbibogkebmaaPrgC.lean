/- Programs: sizes and copies of the exact laws. Programs: the copy of a whole program. -/
import Derived.Test.YtmflbibogkebmaaPrg
namespace Go.Proofs.Ytmflbibogkebmaa
open Go.RowKit
open Rd Fl

theorem i64_sub (n m : Int) (h1 : -9223372036854775808 ≤ n - m) (h2 : n - m ≤ 9223372036854775807) : wrap64 (n - m) = n - m := by
  unfold wrap64; omega

/-- A program's value: three numbers and its routines. -/
def progV (cl lk cd : Int) (R : Option Addr) (n cap : Nat) : Value := .agg #[.int .i64 cl, .int .i64 lk, .int .i64 cd, .slice R n cap]

theorem made_there (w : World) (z : Array Value) (n : Nat) (t : TypeId) : (w.alloc (.cells (madeCells z n) t)).there w.heap.size 0 n := by
  intro j hj
  refine ⟨?_, World.frozen?_alloc_new _ _ _ _⟩
  rw [World.cell?_alloc_new]
  have : 0 + j < (madeCells z n).size := by rw [size_madeCells]; omega
  rw [Array.getElem?_eq_getElem this]
  rfl
theorem there_keep {w w' : World} (hb : Below w.heap.size w w') {b o n : Nat} (h : w.there b o n) : w'.there b o n := by
  intro j hj
  obtain ⟨h1, h2⟩ := h j hj
  obtain ⟨v, hv⟩ := Option.isSome_iff_exists.1 h1
  have hlt := World.block_lt_of_cell? w _ hv
  exact ⟨by rw [keep_cell hb hv]; rfl, (hb.frozen (p := ⟨b, o + j, none⟩) hlt).trans h2⟩
theorem there_part {w : World} {b n : Nat} (h : w.there b 0 n) (o m : Nat) (hm : o + m ≤ n) : w.there b o m := by
  intro j hj
  have := h (o + j) (by omega)
  simpa using this
theorem below_cells {B : Nat} {a w : World} (h : Below B a w) {b : Nat} (hB : B ≤ b) : ∀ (vs : List Value) (o : Nat), Below B a (w.setCells b o vs) := by
  intro vs
  induction vs generalizing w with
  | nil => intro o; exact h
  | cons v r ih => intro o; exact ih (h.setCell (p := ⟨b, o, none⟩) hB v) (o + 1)

theorem four_there {w : World} {N j : Nat} (h : w.there N j 4) : ∃ x0 x1 x2 x3, w.cell? ⟨N, j, none⟩ = some x0 ∧ w.cell? ⟨N, j + 1, none⟩ = some x1 ∧ w.cell? ⟨N, j + 2, none⟩ = some x2 ∧ w.cell? ⟨N, j + 3, none⟩ = some x3 ∧ w.frozen? ⟨N, j, none⟩ = false ∧ w.frozen? ⟨N, j + 1, none⟩ = false ∧ w.frozen? ⟨N, j + 2, none⟩ = false ∧ w.frozen? ⟨N, j + 3, none⟩ = false := by
  have h0 := h 0 (by omega)
  have h1 := h 1 (by omega)
  have h2 := h 2 (by omega)
  have h3 := h 3 (by omega)
  obtain ⟨x0, e0⟩ := Option.isSome_iff_exists.1 h0.1
  obtain ⟨x1, e1⟩ := Option.isSome_iff_exists.1 h1.1
  obtain ⟨x2, e2⟩ := Option.isSome_iff_exists.1 h2.1
  obtain ⟨x3, e3⟩ := Option.isSome_iff_exists.1 h3.1
  exact ⟨x0, x1, x2, x3, e0, e1, e2, e3, h0.2, h1.2, h2.2, h3.2⟩

theorem cells_size (b : Nat) : ∀ (vs : List Value) (o : Nat) (w : World), (w.setCells b o vs).heap.size = w.heap.size
  | [], _, _ => rfl
  | v :: r, o, w => by
    rw [World.setCells, cells_size b r (o + 1)]
    simp [World.setCell]

/-- One op more has been copied. -/
theorem toops_step (w wr w1 : World) (l : List OpD) (k : Nat) (x : OpD) (hk : k < l.length) (hx : l[k]? = some x) (hsz : w.heap.size < wr.heap.size) (hth : wr.there w.heap.size 0 (l.length * 4))
    (hrg : ∀ i o, i < k → l[i]? = some o → wr.rangeAt w.heap.size (i * 4) o.cells) (hbw : Below w.heap.size w wr) (hb1 : Below wr.heap.size wr w1) :
    w.heap.size < (w1.setCells w.heap.size (k * 4) x.cells).heap.size ∧ (w1.setCells w.heap.size (k * 4) x.cells).there w.heap.size 0 (l.length * 4) ∧
    (∀ i o, i < k + 1 → l[i]? = some o → (w1.setCells w.heap.size (k * 4) x.cells).rangeAt w.heap.size (i * 4) o.cells) ∧ Below w.heap.size w (w1.setCells w.heap.size (k * 4) x.cells) := by
  have hth1 := there_keep hb1 hth
  refine ⟨?_, World.there_setCells hth1 _ _ _, fun i o hi ho => ?_, below_cells (hbw.trans (hb1.mono (by omega))) (Nat.le_refl _) _ _⟩
  · rw [cells_size]; have := hb1.size; omega
  · by_cases e : i = k
    · subst e
      rw [hx] at ho
      cases ho
      exact World.rangeAt_setCells_same w1 _ _ _ (there_part hth1 _ _ (by show i * 4 + 4 ≤ _; omega))
    · exact World.rangeAt_setCells_apart (range_keep hb1 (hrg i o (by omega) ho)) _ _ _ (.inr (.inl (by show i * 4 + 4 ≤ _; omega)))

end Go.Proofs.Ytmflbibogkebmaa
namespace Go.Proofs.Ytmflbibogkebmaa
open Go.RowKit
open Rd Fl

/-- The ops l lie in a block of their own. -/
def OpsOwn (w : World) (M : Nat) (l : List OpD) : Prop := w.there M 0 (l.length * 4) ∧ ∀ i o, l[i]? = some o → w.rangeAt M (i * 4) o.cells
theorem OpsOwn.at {w : World} {M : Nat} {l : List OpD} (h : OpsOwn w M l) : OpsAt w (some ⟨M, 0, none⟩) l := ⟨M, 0, fun _ => rfl, fun i o ho => by rw [Nat.zero_add]; exact h.2 i o ho⟩
theorem OpsOwn.keep {w w' : World} {M : Nat} {l : List OpD} (h : OpsOwn w M l) (hb : Below w.heap.size w w') : OpsOwn w' M l := ⟨there_keep hb h.1, fun i o ho => range_keep hb (h.2 i o ho)⟩
theorem OpsOwn.set {w : World} {M : Nat} {l : List OpD} (h : OpsOwn w M l) (N o : Nat) (v : Value) (hne : M ≠ N) : OpsOwn (w.setCell ⟨N, o, none⟩ v) M l :=
  ⟨World.there_setCells h.1 N o [v], fun i x hx => World.rangeAt_setCells_apart (h.2 i x hx) N o [v] (.inl hne)⟩
/-- The first k routines lie in blocks of their own behind N, N's first k cells leading there. -/
def OwnTo (w : World) (N k : Nat) (rs : List (List OpD)) : Prop :=
  ∀ i l, i < k → rs[i]? = some l → ∃ M, N < M ∧ M < w.heap.size ∧ w.cell? ⟨N, i, none⟩ = some (.slice (some ⟨M, 0, none⟩) l.length l.length) ∧ OpsOwn w M l
theorem OwnTo.keep {w w' : World} {N k : Nat} {rs : List (List OpD)} (h : OwnTo w N k rs) (hb : Below w.heap.size w w') : OwnTo w' N k rs := by
  intro i l hi hl
  obtain ⟨M, h1, h2, h3, h4⟩ := h i l hi hl
  exact ⟨M, h1, Nat.lt_of_lt_of_le h2 hb.size, keep_cell hb h3, h4.keep hb⟩
theorem OwnTo.routs {w : World} {N : Nat} {rs : List (List OpD)} (h : OwnTo w N rs.length rs) : RoutsAt w (some ⟨N, 0, none⟩) rs := by
  refine ⟨N, 0, fun _ => rfl, fun i l hl => ?_⟩
  obtain ⟨M, h1, h2, h3, h4⟩ := h i l (List.getElem?_eq_some_iff.1 hl).1 hl
  exact ⟨_, _, by rw [Nat.zero_add]; exact h3, h4.at⟩

theorem set_size (w : World) (a : Addr) (v : Value) : (w.setCell a v).heap.size = w.heap.size := by simp [World.setCell]

/-- One routine more has been copied. -/
theorem toopss_step (w wr w1 : World) (rs : List (List OpD)) (k : Nat) (l : List OpD) (hk : k < rs.length) (hl : rs[k]? = some l) (hsz : w.heap.size < wr.heap.size) (hth : wr.there w.heap.size 0 rs.length)
    (hown : OwnTo wr w.heap.size k rs) (hbw : Below w.heap.size w wr) (h1 : wr.heap.size < w1.heap.size) (h2 : OpsOwn w1 wr.heap.size l) (hb1 : Below wr.heap.size wr w1) :
    w.heap.size < (w1.setCell ⟨w.heap.size, k, none⟩ (.slice (some ⟨wr.heap.size, 0, none⟩) l.length l.length)).heap.size ∧
    (w1.setCell ⟨w.heap.size, k, none⟩ (.slice (some ⟨wr.heap.size, 0, none⟩) l.length l.length)).there w.heap.size 0 rs.length ∧
    OwnTo (w1.setCell ⟨w.heap.size, k, none⟩ (.slice (some ⟨wr.heap.size, 0, none⟩) l.length l.length)) w.heap.size (k + 1) rs ∧
    Below w.heap.size w (w1.setCell ⟨w.heap.size, k, none⟩ (.slice (some ⟨wr.heap.size, 0, none⟩) l.length l.length)) := by
  have hth1 := there_keep hb1 hth
  refine ⟨by rw [set_size]; omega, World.there_setCells hth1 _ _ [_], fun i x hi hx => ?_, (hbw.trans (hb1.mono (by omega))).setCell (p := ⟨w.heap.size, k, none⟩) (Nat.le_refl _) _⟩
  by_cases e : i = k
  · subst e
    rw [hl] at hx
    cases hx
    obtain ⟨y, hy⟩ := Option.isSome_iff_exists.1 (hth1 i hk).1
    rw [Nat.zero_add] at hy
    exact ⟨wr.heap.size, hsz, by rw [set_size]; omega, World.cell?_setCell_same _ _ _ hy, h2.set _ _ _ (by omega)⟩
  · obtain ⟨M, g1, g2, g3, g4⟩ := (hown.keep hb1) i x (by omega) hx
    refine ⟨M, g1, by rw [set_size]; exact g2, ?_, g4.set _ _ _ (by omega)⟩
    rw [World.cell?_setCell_other _ _ _ _ (by simp <;> omega)]
    exact g3

end Go.Proofs.Ytmflbibogkebmaa
