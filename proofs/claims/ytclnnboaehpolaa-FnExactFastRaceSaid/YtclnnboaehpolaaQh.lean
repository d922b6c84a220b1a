/- Answers that are lists of lists of ints, each list anywhere: kept, compared, marked, held. -/
import Derived.Test.YtclnnboaehpolaaRp
namespace Go.Proofs.Ytclnnboaehpolaa
open Go.RowKit
open Rd Fl

/-- The lists ls are what v tells: the cells of block g lead to the places M i, O i, all in blocks from lo on and below hi, none over another one. -/
structure ResQ (ls : List (List Int)) (w : World) (lo hi : Nat) (v : Value) : Prop where
  c : ∃ (A : Option Addr) (g cap : Nat) (M O C : Nat → Nat), v = .slice A ls.length cap ∧ (ls.length ≠ 0 → A = some ⟨g, 0, none⟩ ∧ lo ≤ g ∧ g < hi) ∧
    (∀ i (h : i < ls.length), w.cell? ⟨g, i, none⟩ = some (.slice (some ⟨M i, O i, none⟩) ls[i].length (C i)) ∧ w.there (M i) (O i) ls[i].length ∧ M i ≠ g ∧ lo ≤ M i ∧ M i < hi ∧ ∀ t x, ls[i][t]? = some x → w.cell? ⟨M i, O i + t, none⟩ = some (iv x)) ∧
    (∀ i j (_ : i < j) (h : j < ls.length), M i ≠ M j ∨ O i + ls[i].length ≤ O j)
  n : ls.length ≤ 40000
  m : ∀ l ∈ ls, l.length ≤ 1000
theorem resq_keep {ls : List (List Int)} {w w' : World} {lo hi : Nat} {v : Value} (h : ResQ ls w lo hi v) (hb : Below w.heap.size w w') : ResQ ls w' lo hi v := by
  obtain ⟨A, g, cap, M, O, C, h1, h2, h3, h4⟩ := h.c
  refine ⟨⟨A, g, cap, M, O, C, h1, h2, fun i hi => ?_, h4⟩, h.n, h.m⟩
  obtain ⟨c1, c2, c3, c4, c5, c6⟩ := h3 i hi
  exact ⟨keep_cell hb c1, there_keep hb c2, c3, c4, c5, fun t x ht => keep_cell hb (c6 t x ht)⟩
theorem resq_less {ls : List (List Int)} {w : World} {lo lo' hi : Nat} {v : Value} (h : ResQ ls w lo hi v) (hb : lo' ≤ lo) : ResQ ls w lo' hi v := by
  obtain ⟨A, g, cap, M, O, C, h1, h2, h3, h4⟩ := h.c
  refine ⟨⟨A, g, cap, M, O, C, h1, fun hne => ⟨(h2 hne).1, Nat.le_trans hb (h2 hne).2.1, (h2 hne).2.2⟩, fun i hi => ?_, h4⟩, h.n, h.m⟩
  obtain ⟨c1, c2, c3, c4, c5, c6⟩ := h3 i hi
  exact ⟨c1, c2, c3, Nat.le_trans hb c4, c5, c6⟩
theorem resq_more {ls : List (List Int)} {w : World} {lo hi hi' : Nat} {v : Value} (h : ResQ ls w lo hi v) (hb : hi ≤ hi') : ResQ ls w lo hi' v := by
  obtain ⟨A, g, cap, M, O, C, h1, h2, h3, h4⟩ := h.c
  refine ⟨⟨A, g, cap, M, O, C, h1, fun hne => ⟨(h2 hne).1, (h2 hne).2.1, Nat.lt_of_lt_of_le (h2 hne).2.2 hb⟩, fun i hi => ?_, h4⟩, h.n, h.m⟩
  obtain ⟨c1, c2, c3, c4, c5, c6⟩ := h3 i hi
  exact ⟨c1, c2, c3, c4, Nat.lt_of_lt_of_le c5 hb, c6⟩
theorem resq_edit {ls : List (List Int)} {w w' : World} {lo hi : Nat} {v : Value} (h : ResQ ls w lo hi v) {a b : Nat} (he : Edit a b w w') (hp : b ≤ lo ∨ hi ≤ a) : ResQ ls w' lo hi v := by
  obtain ⟨A, g, cap, M, O, C, h1, h2, h3, h4⟩ := h.c
  refine ⟨⟨A, g, cap, M, O, C, h1, h2, fun i hi => ?_, h4⟩, h.n, h.m⟩
  obtain ⟨c1, c2, c3, c4, c5, c6⟩ := h3 i hi
  have hg := h2 (by omega)
  exact ⟨he.cell c1 (by omega), he.th _ _ _ c2, c3, c4, c5, fun t x ht => he.cell (c6 t x ht) (by omega)⟩
theorem resq_ll {ls : List (List Int)} {w : World} {lo hi : Nat} {v : Value} (h : ResQ ls w lo hi v) : ∃ A cap, v = .slice A ls.length cap ∧ LLAt w A ls := by
  obtain ⟨A, g, cap, M, O, C, h1, h2, h3, h4⟩ := h.c
  refine ⟨A, cap, h1, g, 0, fun hne => (h2 (fun e => hne (List.length_eq_zero_iff.1 e))).1, fun i l hl => ?_⟩
  obtain ⟨hi, rfl⟩ := List.getElem?_eq_some_iff.1 hl
  obtain ⟨c1, c2, c3, c4, c5, c6⟩ := h3 i hi
  exact ⟨_, _, by rw [Nat.zero_add]; exact c1, M i, O i, fun _ => rfl, fun t x ht => c6 t x ht⟩
/-- v's numbers are 1, 2 and so on up to y. -/
structure MkdQ (ls : List (List Int)) (w : World) (v : Value) (y : Int) : Prop where
  n : ls.length ≤ 40000
  m : ∀ l ∈ ls, l.length ≤ 1000
  y : y = 1 + offs ls ls.length
  c : ∃ (A : Option Addr) (g cap : Nat) (M O C : Nat → Nat), v = .slice A ls.length cap ∧ (ls.length ≠ 0 → A = some ⟨g, 0, none⟩) ∧ ∀ i (h : i < ls.length), w.cell? ⟨g, i, none⟩ = some (.slice (some ⟨M i, O i, none⟩) ls[i].length (C i)) ∧ ∀ t : Nat, t < ls[i].length → w.cell? ⟨M i, O i + t, none⟩ = some (.int .i64 (1 + offs ls i + t))
theorem mkdq_keep {ls : List (List Int)} {w w' : World} {v : Value} {y : Int} (h : MkdQ ls w v y) (hb : Below w.heap.size w w') : MkdQ ls w' v y := by
  obtain ⟨A, g, cap, M, O, C, h1, h2, h3⟩ := h.c
  exact ⟨h.n, h.m, h.y, A, g, cap, M, O, C, h1, h2, fun i hi => ⟨keep_cell hb (h3 i hi).1, fun t ht => keep_cell hb ((h3 i hi).2 t ht)⟩⟩
theorem resq_rowss {ls : List (List Int)} {w : World} {lo : Nat} {v : Value} {Ms : List Nat} (h : RowSS ls w lo v Ms) (hn : ls.length ≤ 40000) (hm : ∀ l ∈ ls, l.length ≤ 1000) : ResQ ls w lo w.heap.size v := by
  refine ⟨?_, hn, hm⟩
  rcases h.o.2 with ⟨rfl, h0⟩ | ⟨g, cap, cur, rfl, hb2, hgg, q1, q2, q3, q4⟩
  · have : ls = [] := List.length_eq_zero_iff.1 h0
    subst this
    exact ⟨none, 0, 0, fun _ => 0, fun _ => 0, fun _ => 0, rfl, (fun h => absurd rfl h), (fun i h => absurd h (by simp)), (fun i j _ h => absurd h (by simp))⟩
  · have hg := (h.o.lt g rfl).2
    refine ⟨some ⟨g, 0, none⟩, g, cap, fun i => Ms.getD i 0, fun _ => 0, fun i => (ls.getD i []).length, rfl, fun _ => ⟨rfl, hb2, hg⟩, fun i hi => ?_, fun i j hij hj => ?_⟩
    · have hi' : i < Ms.length := by rw [h.n]; exact hi
      have e1 : Ms.getD i 0 = Ms[i] := by rw [List.getD_eq_getElem?_getD, List.getElem?_eq_getElem hi']; rfl
      have e2 : ls.getD i [] = ls[i] := by rw [List.getD_eq_getElem?_getD, List.getElem?_eq_getElem hi]; rfl
      simp only [e1, e2]
      obtain ⟨c1, c2, c3⟩ := h.c i Ms[i] ls[i] (List.getElem?_eq_getElem hi') (List.getElem?_eq_getElem hi)
      have hk := h.o.cellAt i (by omega)
      rw [List.getElem?_zipWith, List.getElem?_eq_getElem hi', List.getElem?_eq_getElem hi] at hk
      refine ⟨hk, c3.1, fun e => ?_, c1, c2, fun t x ht => by rw [Nat.zero_add]; exact c3.2 t x ht⟩
      exact h.b Ms[i] (List.getElem_mem hi') (by rw [e]; rfl)
    · have hj' : j < Ms.length := by rw [h.n]; exact hj
      have e1 : Ms.getD i 0 = Ms[i] := by rw [List.getD_eq_getElem?_getD, List.getElem?_eq_getElem (by omega)]; rfl
      have e2 : Ms.getD j 0 = Ms[j] := by rw [List.getD_eq_getElem?_getD, List.getElem?_eq_getElem hj']; rfl
      simp only [e1, e2]
      have := h.d i j _ _ hij (List.getElem?_eq_getElem (by omega)) (List.getElem?_eq_getElem hj')
      exact .inl (by omega)
end Go.Proofs.Ytclnnboaehpolaa
