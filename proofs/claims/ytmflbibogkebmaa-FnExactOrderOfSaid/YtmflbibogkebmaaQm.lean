/- The specification's table of what comes ahead of what: data and memory. The specification's table of what comes ahead of what, walked. -/
import Derived.Test.YtmflbibogkebmaaQi
namespace Go.Proofs.Ytmflbibogkebmaa
open Go.RowKit
open Rd Fl

/-- k comes ahead of j by way of a place below i -/
def pah (l : List EvD) (j i k : Nat) : Bool := (List.range i).any fun m => rgt l m j && (decide (k = m) || ahB l k m)
theorem pah_zero (l : List EvD) (j k : Nat) : pah l j 0 k = false := rfl
theorem pah_succ (l : List EvD) (j i k : Nat) : pah l j (i + 1) k = (pah l j i k || (rgt l i j && (decide (k = i) || ahB l k i))) := by
  unfold pah
  rw [List.range_succ, List.any_append]
  simp
theorem pah_no {l : List EvD} {j i : Nat} (h : rgt l i j = false) (k : Nat) : pah l j (i + 1) k = pah l j i k := by
  rw [pah_succ, h]; simp
theorem pah_yes {l : List EvD} {j i : Nat} (h : rgt l i j = true) (k : Nat) : pah l j (i + 1) k = (pah l j i k || decide (k = i) || ahB l k i) := by
  rw [pah_succ, h]; simp [Bool.or_assoc]
theorem pah_full (l : List EvD) (j k : Nat) : pah l j j k = ahB l k j := by
  rw [Bool.eq_iff_iff, ahB_iff]
  unfold pah
  rw [List.any_eq_true]
  constructor
  · rintro ⟨m, hm, h⟩
    rw [Bool.and_eq_true, Bool.or_eq_true, decide_eq_true_eq] at h
    exact ⟨m, List.mem_range.1 hm, h.1, h.2⟩
  · rintro ⟨m, hm, h1, h2⟩
    exact ⟨m, List.mem_range.2 hm, by rw [Bool.and_eq_true, Bool.or_eq_true, decide_eq_true_eq]; exact ⟨h1, h2⟩⟩
/-- in the midst of a row: the first k are done -/
def mah (l : List EvD) (j i k x : Nat) : Bool := if x < k then pah l j (i + 1) x else pah l j i x || decide (x = i)
theorem mah_zero (l : List EvD) (j i x : Nat) : mah l j i 0 x = (pah l j i x || decide (x = i)) := by
  unfold mah; rw [if_neg (by omega)]
theorem mah_step {l : List EvD} {j i : Nat} (h : rgt l i j = true) (k x : Nat) : mah l j i (k + 1) x = if x = k then (mah l j i k k || ahB l k i) else mah l j i k x := by
  unfold mah
  by_cases e : x = k
  · subst e
    rw [if_pos (by omega), if_pos rfl, if_neg (by omega), pah_yes h]
  · rw [if_neg e]
    by_cases e2 : x < k
    · rw [if_pos e2, if_pos (by omega)]
    · rw [if_neg e2, if_neg (by omega)]
theorem mah_full (l : List EvD) (j i n x : Nat) (hx : x < n) : mah l j i n x = pah l j (i + 1) x := by
  unfold mah; rw [if_pos hx]

/-- The rows below j stand in blocks above g and below hi. -/
def Rows2 (l : List EvD) (g n : Nat) (w : World) (j hi : Nat) : Prop :=
  ∀ j', j' < j → ∃ R, g < R ∧ R < hi ∧ w.cell? ⟨g, j', none⟩ = some (.slice (some ⟨R, 0, none⟩) n n) ∧ ∀ i, i < n → w.cell? ⟨R, i, none⟩ = some (.bool (ahB l i j'))
theorem Rows2.keep {l : List EvD} {g n : Nat} {w w' : World} {j hi : Nat} (h : Rows2 l g n w j hi) (hb : Below w.heap.size w w') : Rows2 l g n w' j hi := by
  intro j' hj
  obtain ⟨R, h1, h2, h3, h4⟩ := h j' hj
  exact ⟨R, h1, h2, keep_cell hb h3, fun i hi => keep_cell hb (h4 i hi)⟩
theorem Rows2.more {l : List EvD} {g n : Nat} {w : World} {j hi hi' : Nat} (h : Rows2 l g n w j hi) (hb : hi ≤ hi') : Rows2 l g n w j hi' := by
  intro j' hj
  obtain ⟨R, h1, h2, h3, h4⟩ := h j' hj
  exact ⟨R, h1, by omega, h3, h4⟩
theorem Rows2.set {l : List EvD} {g n : Nat} {w : World} {j hi : Nat} (h : Rows2 l g n w j hi) (M o : Nat) (v : Value) (hM : hi ≤ M ∨ (M = g ∧ j ≤ o)) (hg : g < hi) : Rows2 l g n (w.setCell ⟨M, o, none⟩ v) j hi := by
  intro j' hj
  obtain ⟨R, h1, h2, h3, h4⟩ := h j' hj
  refine ⟨R, h1, h2, ?_, fun i hi => ?_⟩
  · rw [World.cell?_setCell_other _ _ _ _ (by simp <;> omega)]; exact h3
  · rw [World.cell?_setCell_other _ _ _ _ (by simp <;> omega)]; exact h4 i hi

/-- the head of the table, and its rows below j -/
structure MatO (w wr : World) (l : List EvD) (g n j : Nat) : Prop where
  b : Below w.heap.size w wr
  g0 : w.heap.size ≤ g
  t : wr.there g 0 n
  r : Rows2 l g n wr j wr.heap.size
  z : g < wr.heap.size
/-- the row j in the making: f says what stands in it -/
structure MatC (w wr : World) (l : List EvD) (g n j R : Nat) (f : Nat → Bool) : Prop where
  b : Below w.heap.size w wr
  g0 : w.heap.size ≤ g
  t : wr.there g 0 n
  r : Rows2 l g n wr j R
  c : wr.cell? ⟨g, j, none⟩ = some (.slice (some ⟨R, 0, none⟩) n n)
  th : wr.there R 0 n
  f : ∀ k, k < n → wr.cell? ⟨R, k, none⟩ = some (.bool (f k))
  gr : g < R
  z : R < wr.heap.size
theorem MatO.keep {w wr wy : World} {l : List EvD} {g n j : Nat} (h : MatO w wr l g n j) (hb : Below wr.heap.size wr wy) : MatO w wy l g n j :=
  ⟨h.b.trans (hb.mono h.b.size), h.g0, there_keep hb h.t, (h.r.keep hb).more hb.size, Nat.lt_of_lt_of_le h.z hb.size⟩
theorem MatC.keep {w wr wy : World} {l : List EvD} {g n j R : Nat} {f : Nat → Bool} (h : MatC w wr l g n j R f) (hb : Below wr.heap.size wr wy) : MatC w wy l g n j R f :=
  ⟨h.b.trans (hb.mono h.b.size), h.g0, there_keep hb h.t, h.r.keep hb, keep_cell hb h.c, there_keep hb h.th, fun k hk => keep_cell hb (h.f k hk), h.gr, Nat.lt_of_lt_of_le h.z hb.size⟩
theorem MatC.cong {w wr : World} {l : List EvD} {g n j R : Nat} {f f' : Nat → Bool} (h : MatC w wr l g n j R f) (e : ∀ k, k < n → f k = f' k) : MatC w wr l g n j R f' :=
  ⟨h.b, h.g0, h.t, h.r, h.c, h.th, fun k hk => by rw [← e k hk]; exact h.f k hk, h.gr, h.z⟩
theorem MatC.set {w wr : World} {l : List EvD} {g n j R : Nat} {f : Nat → Bool} (h : MatC w wr l g n j R f) (k : Nat) (hk : k < n) (v : Bool) : MatC w (wr.setCell ⟨R, k, none⟩ (.bool v)) l g n j R (fun x => if x = k then v else f x) := by
  have hgr := h.gr
  have hg0 := h.g0
  have hz := h.z
  refine ⟨h.b.setCell (p := ⟨R, k, none⟩) (by show w.heap.size ≤ R; omega) _, h.g0, there_set h.t _ _ _, h.r.set R k _ (.inl (Nat.le_refl _)) h.gr, ?_, there_set h.th _ _ _, fun x hx => ?_, h.gr, by rw [World.size_setCell]; exact h.z⟩
  · rw [World.cell?_setCell_other _ _ _ _ (by simp <;> omega)]; exact h.c
  · by_cases e : x = k
    · subst e
      rw [World.cell?_setCell_same _ _ _ (h.f x hk), if_pos rfl]
    · rw [World.cell?_setCell_other _ _ _ _ (by simp <;> omega), if_neg e]
      exact h.f x hx
theorem MatC.out {w wr : World} {l : List EvD} {g n j R : Nat} {f : Nat → Bool} (h : MatC w wr l g n j R f) (e : ∀ k, k < n → f k = ahB l k j) : MatO w wr l g n (j + 1) := by
  have hz := h.z
  have hgr := h.gr
  refine ⟨h.b, h.g0, h.t, fun j' hj => ?_, by omega⟩
  by_cases e1 : j' = j
  · subst e1
    exact ⟨R, h.gr, h.z, h.c, fun i hi => by rw [← e i hi]; exact h.f i hi⟩
  · exact h.r.more (by omega) j' (by omega)

theorem made_at (w : World) (z : Value) (n k : Nat) (t : TypeId) (hk : k < n) : (w.alloc (.cells (madeCells #[z] n) t)).cell? ⟨w.heap.size, k, none⟩ = some z := by
  rw [World.cell?_alloc_new]
  simp [madeCells, hk, Nat.mod_one]
theorem MatO.row {w wr : World} {l : List EvD} {g n j : Nat} (h : MatO w wr l g n j) (hj : j < n) :
    MatC w ((wr.alloc (.cells (madeCells #[.bool false] n) 4)).setCell ⟨g, j, none⟩ (.slice (some ⟨wr.heap.size, 0, none⟩) n n)) l g n j wr.heap.size (pah l j 0) := by
  have hz := h.z
  have hg0 := h.g0
  have B := (Below.refl wr.heap.size wr).up (.cells (madeCells #[.bool false] n) 4)
  obtain ⟨x0, y0⟩ := there_keep B h.t j hj
  rw [Nat.zero_add] at x0
  obtain ⟨x1, y1⟩ := Option.isSome_iff_exists.1 x0
  refine ⟨((h.b.trans (B.mono h.b.size)).setCell (p := ⟨g, j, none⟩) (by show w.heap.size ≤ g; omega) _), h.g0, there_set (there_keep B h.t) _ _ _, ?_, ?_, there_set (made_there wr _ _ _) _ _ _, fun k hk => ?_, hz, by rw [World.size_setCell]; simp⟩
  · exact (h.r.keep B).set g j _ (.inr ⟨rfl, Nat.le_refl _⟩) hz
  · rw [World.cell?_setCell_same _ _ _ y1]
  · rw [World.cell?_setCell_other _ _ _ _ (by simp <;> omega), made_at wr _ n k _ hk]; rfl

theorem boolInfo : ∃ i, Try.prog.info? 4 = some i ∧ i.zero = some (.bool false) ∧ i.size = 1 ∧ i.bytes = 1 := by
  have h1 : (Try.prog.info? 4).map (·.size) = some 1 := by kernel_rfl
  have h2 : (Try.prog.info? 4).map (·.bytes) = some 1 := by kernel_rfl
  have h3 : (Try.prog.info? 4).bind (·.zero) = some (.bool false) := by kernel_rfl
  cases hi : Try.prog.info? 4 with
  | none => rw [hi] at h1; cases h1
  | some i => exact ⟨i, rfl, by rw [hi] at h3; simpa using h3, by rw [hi] at h1; simpa using h1, by rw [hi] at h2; simpa using h2⟩
end Go.Proofs.Ytmflbibogkebmaa
namespace Go.Proofs.Ytmflbibogkebmaa
open Go.RowKit
open Rd Fl

end Go.Proofs.Ytmflbibogkebmaa
