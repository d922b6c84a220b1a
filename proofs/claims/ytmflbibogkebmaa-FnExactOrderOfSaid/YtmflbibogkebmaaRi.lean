/- Answers that are lists of ints: kept, compared, marked, held. -/
import Derived.Test.YtmflbibogkebmaaMl
import Derived.Test.YtmflbibogkebmaaStF
namespace Go.Proofs.Ytmflbibogkebmaa
open Go.RowKit
open Rd Fl

/-- The list l is what v tells, in a block from lo on and below hi. -/
structure ResI (l : List Int) (w : World) (lo hi : Nat) (v : Value) : Prop where
  o : w.ownsRow lo 3 1 v l.length (l.map iv)
  u : ∀ k, v.ownBlock = some k → k < hi
  n : l.length ≤ 1000
theorem resi_of {l : List Int} {w : World} {lo : Nat} {v : Value} (h : w.ownsRow lo 3 1 v l.length (l.map iv)) (hn : l.length ≤ 1000) : ResI l w lo w.heap.size v := ⟨h, fun k hk => (h.lt k hk).2, hn⟩
theorem resi_keep {l : List Int} {w w' : World} {lo hi : Nat} {v : Value} (h : ResI l w lo hi v) (hb : Below w.heap.size w w') : ResI l w' lo hi v := ⟨own_keep h.o hb, h.u, h.n⟩
theorem resi_less {l : List Int} {w : World} {lo lo' hi : Nat} {v : Value} (h : ResI l w lo hi v) (hb : lo' ≤ lo) : ResI l w lo' hi v := ⟨own_less h.o hb, h.u, h.n⟩
theorem resi_more {l : List Int} {w : World} {lo hi hi' : Nat} {v : Value} (h : ResI l w lo hi v) (hb : hi ≤ hi') : ResI l w lo hi' v := ⟨h.o, fun k hk => Nat.lt_of_lt_of_le (h.u k hk) hb, h.n⟩
theorem resi_edit {l : List Int} {w w' : World} {lo hi : Nat} {v : Value} (h : ResI l w lo hi v) {a b : Nat} (he : Edit a b w w') (hp : b ≤ lo ∨ hi ≤ a) : ResI l w' lo hi v := by
  refine ⟨⟨h.o.1, ?_⟩, h.u, h.n⟩
  rcases h.o.2 with hn | ⟨g, cap, cur, rfl, hb2, hgg, rest⟩
  · exact .inl hn
  · have hlt := (Array.getElem?_eq_some_iff.1 hgg).1
    have hu := h.u g rfl
    refine .inr ⟨g, cap, cur, rfl, hb2, ?_, rest⟩
    rcases hp with hp | hp
    · exact (he.up g (by omega) hlt).trans hgg
    · exact (he.b.block g (by omega)).trans hgg
theorem resi_open {l : List Int} {w : World} {lo hi : Nat} {v : Value} (h : ResI l w lo hi v) : ∃ A M cap, v = .slice A l.length cap ∧ (l.length ≠ 0 → A = some ⟨M, 0, none⟩ ∧ lo ≤ M ∧ M < hi) ∧ (l.length = 0 → M = lo) ∧ w.there M 0 l.length ∧ LAt iv w A l := by
  rcases h.o.2 with ⟨rfl, hn⟩ | ⟨g, cap, cur, rfl, hb2, hgg, h1, h2, h3, h4⟩
  · have : l = [] := List.length_eq_zero_iff.1 hn
    subst this
    exact ⟨none, lo, 0, rfl, (fun h => absurd rfl h), (fun _ => rfl), (fun j hj => absurd hj (by simp)), ⟨0, 0, fun h => absurd rfl h, fun i x hx => by cases hx⟩⟩
  · have hu := h.u g rfl
    have hcell : ∀ i x, l[i]? = some x → w.cell? ⟨g, i, none⟩ = some (iv x) := by
      intro i x hx
      have hi := (List.getElem?_eq_some_iff.1 hx).1
      have hk := h.o.cellAt i (by omega)
      rw [hk, List.getElem?_map, hx]; rfl
    have hth : w.there g 0 l.length := by
      intro j hj
      refine ⟨?_, h.o.frozenAt _⟩
      rw [Nat.zero_add, hcell j l[j] (List.getElem?_eq_getElem hj)]; rfl
    by_cases he : l.length = 0
    · have : l = [] := List.length_eq_zero_iff.1 he
      subst this
      exact ⟨some ⟨g, 0, none⟩, lo, cap, rfl, (fun h => absurd rfl h), (fun _ => rfl), (fun j hj => absurd hj (by simp)), ⟨0, 0, fun h => absurd rfl h, fun i x hx => by cases hx⟩⟩
    · exact ⟨some ⟨g, 0, none⟩, g, cap, rfl, (fun _ => ⟨rfl, hb2, hu⟩), (fun h => absurd h he), hth, ⟨g, 0, fun _ => rfl, fun i x hx => by rw [Nat.zero_add]; exact hcell i x hx⟩⟩

theorem resi_eq {l : List Int} {w : World} {lo hi lo' hi' : Nat} {v u : Value} (h : ResI l w lo hi v) (h' : ResI l w lo' hi' u) : Calls Try.prog 13 #[v, u] w fun e w' => e = .returned (.bool true) ∧ Below w.heap.size w w' := by
  obtain ⟨A, -, ca, rfl, -, -, -, hA⟩ := resi_open h
  obtain ⟨B, -, cb, rfl, -, -, -, hB⟩ := resi_open h'
  exact eqints_any A B l ca cb (by have := h.n; omega) w hA hB

/-- v's numbers are 1, 2 and so on up to y. -/
structure MkdI (l : List Int) (w : World) (lo hi : Nat) (v : Value) (y : Int) : Prop where
  n : l.length ≤ 1000
  y : y = 1 + l.length
  c : ∃ A M cap, v = .slice A l.length cap ∧ (l.length ≠ 0 → A = some ⟨M, 0, none⟩ ∧ lo ≤ M ∧ M < hi) ∧ ∀ j : Nat, j < l.length → w.cell? ⟨M, j, none⟩ = some (.int .i64 (1 + j))
theorem mkdi_keep {l : List Int} {w w' : World} {lo hi : Nat} {v : Value} {y : Int} (h : MkdI l w lo hi v y) (hb : Below w.heap.size w w') : MkdI l w' lo hi v y := by
  obtain ⟨A, M, cap, h1, h2, h3⟩ := h.c
  exact ⟨h.n, h.y, A, M, cap, h1, h2, fun j hj => keep_cell hb (h3 j hj)⟩
theorem resi_mark {l : List Int} {w : World} {lo hi : Nat} {v : Value} (h : ResI l w lo hi v) (hlo : lo < hi) : Calls Try.prog 16 #[v, .int .i64 1] w fun e w' => (∃ y : Int, e = .returned (.int .i64 y) ∧ 0 ≤ y ∧ MkdI l w' lo hi v y) ∧ Edit lo hi w w' := by
  obtain ⟨A, M, cap, rfl, h1, h2, h3, -⟩ := resi_open h
  have hn := h.n
  refine (markints_any A l.length cap M 1 (by omega) (by omega) (by omega) (fun hne => (h1 hne).1) w h3).mono ?_
  rintro e w' ⟨rfl, hc, he⟩
  refine ⟨⟨_, rfl, by omega, hn, rfl, A, M, cap, rfl, h1, hc⟩, he.mono ?_ ?_⟩
  · by_cases e0 : l.length = 0
    · rw [h2 e0]; exact Nat.le_refl _
    · exact (h1 e0).2.1
  · by_cases e0 : l.length = 0
    · rw [h2 e0]; exact hlo
    · exact (h1 e0).2.2
theorem mkdi_held {l : List Int} {w : World} {lo hi : Nat} {v : Value} {y : Int} (h : MkdI l w lo hi v y) : Calls Try.prog 17 #[v, .int .i64 1] w fun e w' => e = .returned (.int .i64 y) ∧ Below w.heap.size w w' := by
  obtain ⟨A, M, cap, rfl, h1, h3⟩ := h.c
  have hn := h.n
  refine (heldints_any A l.length cap M 1 (by omega) (by omega) (by omega) (fun hne => (h1 hne).1) w h3).mono ?_
  rintro e w' ⟨rfl, rfl⟩
  exact ⟨by rw [h.y], Below.refl _ _⟩
end Go.Proofs.Ytmflbibogkebmaa
