/- slices.DeleteFunc at a row of a function's own. -/
import Derived.Test.YtclnnboaehpolaaVo
import Derived.Test.YtclnnboaehpolaaMk
namespace Go.Proofs.Ytclnnboaehpolaa
open Go.RowKit Go.Maps
open Rd Fl

/-- those of l that p does not name -/
def keepL (p : Int → Bool) (l : List Int) : List Int := l.filter fun x => !p x
theorem keepL_len (p : Int → Bool) (l : List Int) : (keepL p l).length ≤ l.length := List.length_filter_le _ _
theorem keepL_all {p : Int → Bool} {l : List Int} (h : ∀ x ∈ l, p x = false) : keepL p l = l := by
  unfold keepL
  rw [List.filter_eq_self]
  intro x hx
  rw [h x hx]; rfl
theorem keepL_no {p : Int → Bool} {l : List Int} {k : Nat} (hk : k < l.length) (h : p l[k] = true) : keepL p (l.take (k + 1)) = keepL p (l.take k) := by
  unfold keepL
  rw [List.take_succ_eq_append_getElem hk, List.filter_append]
  simp [h]
theorem keepL_yes {p : Int → Bool} {l : List Int} {k : Nat} (hk : k < l.length) (h : p l[k] = false) : keepL p (l.take (k + 1)) = keepL p (l.take k) ++ [l[k]] := by
  unfold keepL
  rw [List.take_succ_eq_append_getElem hk, List.filter_append]
  simp [h]
/-- DeleteFunc on its way: of the row in block g the first ones are those kept of the first j, those from j on are as they were. -/
structure DelS (p : Int → Bool) (l : List Int) (g cap : Nat) (w wr : World) (j : Nat) : Prop where
  e : Edit g (g + 1) w wr
  c : ∃ cur : Array Value, wr.heap[g]? = some (.cells cur 3 (0, 0)) ∧ cur.size = cap ∧ (∀ (t : Nat) (x : Int), (keepL p (l.take j))[t]? = some x → cur[t]? = some (iv x)) ∧ ∀ (t : Nat) (x : Int), j ≤ t → l[t]? = some x → cur[t]? = some (iv x)
theorem DelS.cell {p : Int → Bool} {l : List Int} {g cap : Nat} {w wr : World} {j : Nat} (h : DelS p l g cap w wr j) (t : Nat) (x : Int) (hj : j ≤ t) (hx : l[t]? = some x) : wr.cell? ⟨g, t, none⟩ = some (.int .i64 x) := by
  obtain ⟨cur, h1, -, -, h4⟩ := h.c
  have := h4 t x hj hx
  simp [World.cell?, h1, this, iv]
theorem DelS.frozen {p : Int → Bool} {l : List Int} {g cap : Nat} {w wr : World} {j : Nat} (h : DelS p l g cap w wr j) (t : Nat) : wr.frozen? ⟨g, t, none⟩ = false := by
  obtain ⟨cur, h1, -, -, -⟩ := h.c
  simp [World.frozen?, h1]
theorem DelS.has {p : Int → Bool} {l : List Int} {g cap : Nat} {w wr : World} {j : Nat} (h : DelS p l g cap w wr j) (t : Nat) (ht : t < cap) : ∃ x, wr.cell? ⟨g, t, none⟩ = some x := by
  obtain ⟨cur, h1, h2, -, -⟩ := h.c
  exact ⟨cur[t], by simp [World.cell?, h1, ht, h2]⟩
theorem DelS.drop {p : Int → Bool} {l : List Int} {g cap : Nat} {w wr : World} {j : Nat} (h : DelS p l g cap w wr j) (hj : j < l.length) (hp : p l[j] = true) : DelS p l g cap w wr (j + 1) := by
  obtain ⟨cur, h1, h2, h3, h4⟩ := h.c
  exact ⟨h.e, cur, h1, h2, (by rw [keepL_no hj hp]; exact h3), fun t x ht hx => h4 t x (by omega) hx⟩
theorem keepL_take_len (p : Int → Bool) (l : List Int) (j : Nat) : (keepL p (l.take j)).length ≤ j := by
  have := keepL_len p (l.take j)
  rw [List.length_take] at this
  omega
theorem DelS.put {p : Int → Bool} {l : List Int} {g cap : Nat} {w wr : World} {j : Nat} (h : DelS p l g cap w wr j) (hj : j < l.length) (hc : l.length ≤ cap) (hp : p l[j] = false) : DelS p l g cap w (wr.setCell ⟨g, (keepL p (l.take j)).length, none⟩ (.int .i64 l[j])) (j + 1) := by
  obtain ⟨cur, h1, h2, h3, h4⟩ := h.c
  have hk := keepL_take_len p l j
  refine ⟨h.e.set _ _ _ (Nat.le_refl _) (Nat.lt_succ_self _), cur.setIfInBounds (keepL p (l.take j)).length (.int .i64 l[j]), heap_setCell_same _ _ _ _ _ _ h1, by simpa using h2, ?_, ?_⟩
  · intro t x hx
    rw [keepL_yes hj hp] at hx
    rw [Array.getElem?_setIfInBounds]
    by_cases e : (keepL p (l.take j)).length = t
    · rw [if_pos e, if_pos (by omega)]
      rw [← e, List.getElem?_append_right (Nat.le_refl _), Nat.sub_self] at hx
      have : l[j] = x := by simpa using hx
      rw [this]; rfl
    · rw [if_neg e]
      have ht : t < (keepL p (l.take j)).length := by
        have := (List.getElem?_eq_some_iff.1 hx).1
        rw [List.length_append, List.length_singleton] at this
        omega
      rw [List.getElem?_append_left ht] at hx
      exact h3 t x hx
  · intro t x ht hx
    rw [Array.getElem?_setIfInBounds, if_neg (by omega)]
    exact h4 t x (by omega) hx
theorem DelS.start {p : Int → Bool} {l : List Int} {g cap : Nat} {w : World} {base j : Nat} (h : w.ownsRow base 3 1 (.slice (some ⟨g, 0, none⟩) l.length cap) l.length (l.map iv)) (hp : ∀ x ∈ l.take j, p x = false) (hj : j ≤ l.length) : DelS p l g cap w w j := by
  rcases h.2 with ⟨h0, -⟩ | ⟨g', cap', cur, h0, hb, hg, h1, h2, h3, h4⟩
  · cases h0
  · cases h0
    have hc : ∀ (t : Nat) (x : Int), l[t]? = some x → cur[t]? = some (iv x) := by
      intro t x hx
      have ht := (List.getElem?_eq_some_iff.1 hx).1
      have : (cur.toList.take (l.length * 1))[t]? = (l.map iv)[t]? := by rw [h4]
      rw [List.getElem?_take_of_lt (by omega), List.getElem?_map, hx, Array.getElem?_toList] at this
      exact this
    refine ⟨Edit.refl _ _ _, cur, hg, by omega, ?_, fun t x _ hx => hc t x hx⟩
    rw [keepL_all hp]
    intro t x hx
    refine hc t x ?_
    have ht := (List.getElem?_eq_some_iff.1 hx).1
    rw [List.length_take] at ht
    rw [List.getElem?_take_of_lt (by omega)] at hx
    exact hx
theorem setCells_row : ∀ (vs : List Value) (w : World) (g o : Nat) (cur : Array Value) (e : TypeId), w.heap[g]? = some (.cells cur e (0, 0)) → ∃ cur', (w.setCells g o vs).heap[g]? = some (.cells cur' e (0, 0)) ∧ cur'.size = cur.size ∧ ∀ t, t < o → cur'[t]? = cur[t]?
  | [], w, g, o, cur, e, h => ⟨cur, h, rfl, fun _ _ => rfl⟩
  | v :: vs, w, g, o, cur, e, h => by
    obtain ⟨cur', h1, h2, h3⟩ := setCells_row vs (w.setCell ⟨g, o, none⟩ v) g (o + 1) (cur.setIfInBounds o v) e (heap_setCell_same _ _ _ _ _ _ h)
    refine ⟨cur', h1, by simpa using h2, fun t ht => ?_⟩
    rw [h3 t (by omega), Array.getElem?_setIfInBounds, if_neg (by omega)]
theorem setCells_edit : ∀ (vs : List Value) (a w : World) (g o : Nat), Edit g (g + 1) a w → Edit g (g + 1) a (w.setCells g o vs)
  | [], _, _, _, _, h => h
  | v :: vs, a, w, g, o, h => setCells_edit vs a (w.setCell ⟨g, o, none⟩ v) g (o + 1) (h.set _ _ _ (Nat.le_refl _) (Nat.lt_succ_self _))
/-- All have been looked at, and what is left behind has been cleared. -/
theorem DelS.fin {p : Int → Bool} {l : List Int} {g cap base : Nat} {w wr : World} (h : DelS p l g cap w wr l.length) (hc : l.length ≤ cap) (hm : cap ≤ maxLen) (hb : base ≤ g) (vs : List Value) :
    (wr.setCells g (keepL p l).length vs).ownsRow base 3 1 (.slice (some ⟨g, 0, none⟩) (keepL p l).length cap) (keepL p l).length ((keepL p l).map iv) ∧ Edit g (g + 1) w (wr.setCells g (keepL p l).length vs) := by
  obtain ⟨cur, h1, h2, h3, -⟩ := h.c
  rw [List.take_length] at h3
  obtain ⟨cur', g1, g2, g3⟩ := setCells_row vs wr g (keepL p l).length cur 3 h1
  have hk := keepL_len p l
  refine ⟨⟨by rw [List.length_map]; omega, .inr ⟨g, cap, cur', rfl, hb, g1, by omega, hm, by omega, ?_⟩⟩, setCells_edit vs w wr g _ h.e⟩
  apply List.ext_getElem?
  intro t
  by_cases ht : t < (keepL p l).length
  · rw [List.getElem?_take_of_lt (by omega), Array.getElem?_toList, g3 t ht, List.getElem?_map, List.getElem?_eq_getElem ht]
    exact h3 t _ (List.getElem?_eq_getElem ht)
  · rw [List.getElem?_eq_none (by rw [List.length_take]; omega), List.getElem?_eq_none (by rw [List.length_map]; omega)]

end Go.Proofs.Ytclnnboaehpolaa
