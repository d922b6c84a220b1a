/- Layers: data, and a list of lists that grow. A list of lists that grow, in memory. -/
import Derived.Test.YtmflbibogkebmaaQi
import Derived.Maps.AppendAt
import Derived.Deep.RegionLaw
import Derived.Deep.Slices
namespace Go.Proofs.Ytmflbibogkebmaa
open Go.RowKit
open Rd Fl

/-- how many layers the places below j have -/
def nlay (l : List EvD) (j : Nat) : Nat := topF (fun _ => true) (lyr l) j
theorem nlay_succ (l : List EvD) (j : Nat) : nlay l (j + 1) = max (nlay l j) (lyr l j + 1) := by
  unfold nlay
  conv => lhs; unfold topF
  rw [if_pos rfl]
theorem lyr_le (l : List EvD) (j : Nat) : lyr l j ≤ nlay l j := by
  cases h : lyr l j with
  | zero => omega
  | succ k =>
    have h2 : topF (fun i => rgt l i j) (lyr l) j = k + 1 := by rw [← h]; unfold lyr; exact (lay_eq (rgt l) j).symm
    obtain ⟨i, hi, -, he⟩ := topF_one h2
    have := topF_ge (p := fun _ => true) (f := lyr l) hi rfl
    unfold nlay
    omega
theorem lyr_j (l : List EvD) : ∀ j, lyr l j ≤ j := by
  intro j
  induction j using Nat.strongRecOn with
  | ind j ih =>
    unfold lyr
    rw [lay_eq]
    refine topF_le fun i hi _ => ?_
    have := ih i hi
    unfold lyr at this
    omega
theorem nlay_j (l : List EvD) (j : Nat) : nlay l j ≤ j := by
  unfold nlay
  refine topF_le fun i hi _ => ?_
  have := lyr_j l i
  omega
/-- the places below j that are of layer k -/
def layT (l : List EvD) (j k : Nat) : List Int := ((List.range j).filter fun i => decide (lyr l i = k)).map fun (i : Nat) => (i : Int)
def laysTo (l : List EvD) (j : Nat) : List (List Int) := (List.range (nlay l j)).map (layT l j)
theorem laysTo_len (l : List EvD) (j : Nat) : (laysTo l j).length = nlay l j := by unfold laysTo; simp
theorem laysTo_get (l : List EvD) (j k : Nat) (h : k < nlay l j) : (laysTo l j)[k]? = some (layT l j k) := by
  unfold laysTo
  rw [List.getElem?_map, List.getElem?_range h]; rfl
theorem layT_succ (l : List EvD) (j k : Nat) : layT l (j + 1) k = if lyr l j = k then layT l j k ++ [(j : Int)] else layT l j k := by
  unfold layT
  rw [List.range_succ, List.filter_append, List.map_append]
  by_cases h : lyr l j = k
  · rw [if_pos h]; simp [h]
  · rw [if_neg h]; simp [h]
theorem layT_new (l : List EvD) (j k : Nat) (h : nlay l j ≤ k) : layT l j k = [] := by
  unfold layT
  have : ((List.range j).filter fun i => decide (lyr l i = k)) = [] := by
    rw [List.filter_eq_nil_iff]
    intro i hi
    have hij := List.mem_range.1 hi
    have := topF_ge (p := fun _ => true) (f := lyr l) hij rfl
    unfold nlay at h
    simp
    omega
  rw [this]; rfl
theorem layT_len (l : List EvD) (j k : Nat) : (layT l j k).length ≤ j := by
  unfold layT
  rw [List.length_map]
  have := List.length_filter_le (fun i => decide (lyr l i = k)) (List.range j)
  rwa [List.length_range] at this
/-- a place is put into its layer, be it a new one or not -/
theorem laysTo_old {l : List EvD} {j : Nat} (h : lyr l j < nlay l j) : laysTo l (j + 1) = (laysTo l j).set (lyr l j) (layT l j (lyr l j) ++ [(j : Int)]) := by
  have hn : nlay l (j + 1) = nlay l j := by rw [nlay_succ]; omega
  apply List.ext_getElem?
  intro k
  rw [List.getElem?_set, laysTo_len]
  by_cases hk : k < nlay l j
  · rw [laysTo_get l (j + 1) k (by omega), layT_succ]
    by_cases e : lyr l j = k
    · rw [if_pos e, if_pos e, if_pos h, e]
    · rw [if_neg e, if_neg e, laysTo_get l j k hk]
  · rw [List.getElem?_eq_none (by rw [laysTo_len]; omega), if_neg (by omega), List.getElem?_eq_none (by rw [laysTo_len]; omega)]
theorem laysTo_new {l : List EvD} {j : Nat} (h : lyr l j = nlay l j) : laysTo l (j + 1) = (laysTo l j ++ [[]]).set (lyr l j) (([] : List Int) ++ [(j : Int)]) := by
  have hn : nlay l (j + 1) = nlay l j + 1 := by rw [nlay_succ]; omega
  apply List.ext_getElem?
  intro k
  rw [List.getElem?_set, List.length_append, laysTo_len]
  by_cases hk : k < nlay l j + 1
  · rw [laysTo_get l (j + 1) k (by omega), layT_succ]
    by_cases e : lyr l j = k
    · rw [if_pos e, if_pos e, if_pos (by simp; omega), layT_new l j k (by omega)]
    · rw [if_neg e, if_neg e, List.getElem?_append_left (by rw [laysTo_len]; omega), laysTo_get l j k (by omega)]
  · rw [List.getElem?_eq_none (by rw [laysTo_len]; omega), if_neg (by omega), List.getElem?_eq_none (by simp [laysTo_len]; omega)]

/-- append onto a row of a function's own, as one step of a region that draws -/
theorem step_append_own {P : Program} {ops : Array Oper} {o : Oper} {a : Act} {w : World} {K : Act → World → Prop} {Q : Exit → Act → World → Prop} {E : Prop}
    (hg : o.guard = none) (s x : Operand) (t : TypeId) (hop : o.op = Op.call { callee := Callee.builtin Builtin.append, args := #[s, x], argTypes := #[t, t] })
    (base : Nat) (e : TypeId) (i : TypeInfo) (z : Value) (size bytes : Nat) (h1 : P.underlying t = some (.slice e)) (h2 : P.info? e = some i) (h3 : i.zero = some z) (h4 : i.size = size) (h5 : i.bytes = bytes) (h6 : z.cells.size = size) (h7 : 0 < size)
    (v : Value) (n : Nat) (xs : List Value) (hs : a.eval s = v) (hown : w.ownsRow base e size v n xs)
    (ad : Addr) (m c : Nat) (news : List Value) (hx : a.eval x = .slice (some ad) m c) (hn : news.length = m * size) (hc : ∀ j u, news[j]? = some u → w.cell? (ad.add j) = some u) (h1c : ∀ u ∈ news, u.oneCell' = true)
    (b1 : n + m ≤ maxLen) (b2 : (n + m) * bytes ≤ 140737488355328) (hb : base ≤ w.heap.size)
    (hK : ∀ v' w', w'.ownsRow base e size v' (n + m) (xs ++ news) → w.grownBy w' v.ownBlock → (v'.ownBlock = v.ownBlock ∨ v'.ownBlock = some w.heap.size) → K (a.put o.dst v') w') :
    if Region.wanted o (yielded ops a.tmps) = true then Oper.wp P o a w K Q else E := by
  have hw : Region.wanted o (yielded ops a.tmps) = true := by simp [Region.wanted, hg]
  rw [if_pos hw]
  obtain ⟨v', w', hrun, r1, r2, -, r4⟩ := run_append_own_at (P := P) w base t o.type e i z size bytes h1 h2 h3 h4 h5 h6 h7 v n xs hown ad m c news hn hc h1c b1 b2 hb
  unfold Oper.wp
  simp [execOp, hop, resolve, invoke, builtin, hs, hx, hrun, Result.andThen]
  exact hK v' w' r1 r2 r4
end Go.Proofs.Ytmflbibogkebmaa
namespace Go.Proofs.Ytmflbibogkebmaa
open Go.RowKit
open Rd Fl

theorem row_put2 {w : World} {base : Nat} {e : TypeId} {size : Nat} {v : Value} {n : Nat} {xs : List Value} (h : w.ownsRow base e size v n xs) {g : Nat} (hg : v.ownBlock = some g) (j : Nat) (u : Value) : (w.setCell ⟨g, j, none⟩ u).ownsRow base e size v n (xs.set j u) := by
  refine ⟨by rw [List.length_set]; exact h.1, ?_⟩
  rcases h.2 with ⟨rfl, _⟩ | ⟨g', cap, cur, rfl, hb, hgg, h1, h2, h3, h4⟩
  · cases hg
  · cases hg
    refine .inr ⟨g', cap, cur.setIfInBounds j u, rfl, hb, heap_setCell_same w g' j cur e u hgg, h1, h2, by simpa using h3, ?_⟩
    rw [Array.toList_setIfInBounds, List.take_set, h4]
theorem own_blk {w : World} {base : Nat} {e : TypeId} {size : Nat} {v : Value} {n : Nat} {xs : List Value} (h : w.ownsRow base e size v n xs) {g : Nat} (hg : v.ownBlock = some g) : g < w.heap.size ∧ base ≤ g ∧ ∃ cur, w.heap[g]? = some (.cells cur e (0, 0)) := by
  rcases h.2 with ⟨rfl, _⟩ | ⟨g', cap, cur, rfl, hb, hgg, _⟩
  · cases hg
  · cases hg; exact ⟨(Array.getElem?_eq_some_iff.1 hgg).1, hb, cur, hgg⟩
theorem own_blk_ne {w : World} {b b' : Nat} {e e' : TypeId} {s s' : Nat} {v v' : Value} {n n' : Nat} {xs xs' : List Value} (h : w.ownsRow b e s v n xs) (h' : w.ownsRow b' e' s' v' n' xs') (hne : e ≠ e') {g : Nat} (hg : v.ownBlock = some g) (hg' : v'.ownBlock = some g) : False := by
  obtain ⟨-, -, c, h1⟩ := own_blk h hg
  obtain ⟨-, -, c', h2⟩ := own_blk h' hg'
  rw [h1] at h2
  cases h2
  exact hne rfl
theorem own_blk_eq {w w' : World} {base : Nat} {e : TypeId} {size : Nat} {v : Value} {n : Nat} {xs : List Value} (h : w.ownsRow base e size v n xs) (he : ∀ g, v.ownBlock = some g → w'.heap[g]? = w.heap[g]?) : w'.ownsRow base e size v n xs := by
  refine ⟨h.1, ?_⟩
  rcases h.2 with hn | ⟨g, cap, cur, rfl, hb, hgg, r⟩
  · exact .inl hn
  · exact .inr ⟨g, cap, cur, rfl, hb, (he g rfl).trans hgg, r⟩
theorem t3n : (24 : TypeId) ≠ 3 := by decide

/-- The lists ls are what v tells; its cells hold rvs, each a row of its own. -/
structure LayM (w : World) (lo : Nat) (v : Value) (rvs : List Value) (ls : List (List Int)) : Prop where
  n : rvs.length = ls.length
  top : w.ownsRow lo 24 1 v ls.length rvs
  row : ∀ (k : Nat) (u : Value) (x : List Int), rvs[k]? = some u → ls[k]? = some x → w.ownsRow lo 3 1 u x.length (x.map iv)
  d : ∀ (i j : Nat) (u u' : Value) (b : Nat), i < j → rvs[i]? = some u → rvs[j]? = some u' → u.ownBlock = some b → u'.ownBlock = some b → False
theorem laym_nil (w : World) (lo : Nat) : LayM w lo (.slice none 0 0) [] [] := ⟨rfl, World.ownsRow_nil _ _ _ _, (fun k u x h => by cases h), (fun i j u u' b _ h => by cases h)⟩
theorem LayM.eq {w w' : World} {lo : Nat} {v : Value} {rvs : List Value} {ls : List (List Int)} (h : LayM w lo v rvs ls) (he : ∀ g, lo ≤ g → g < w.heap.size → w'.heap[g]? = w.heap[g]?) : LayM w' lo v rvs ls :=
  ⟨h.n, own_blk_eq h.top fun g hg => he g (own_blk h.top hg).2.1 (own_blk h.top hg).1, fun k u x hu hx => own_blk_eq (h.row k u x hu hx) fun g hg => he g (own_blk (h.row k u x hu hx) hg).2.1 (own_blk (h.row k u x hu hx) hg).1, h.d⟩
theorem LayM.keep {w w' : World} {lo : Nat} {v : Value} {rvs : List Value} {ls : List (List Int)} (h : LayM w lo v rvs ls) (hb : Below w.heap.size w w') : LayM w' lo v rvs ls := h.eq fun g _ hg => hb.block g hg
theorem LayM.low {w : World} {lo : Nat} {v : Value} {rvs : List Value} {ls : List (List Int)} (h : LayM w lo v rvs ls) (N o : Nat) (u : Value) (hN : N < lo) : LayM (w.setCell ⟨N, o, none⟩ u) lo v rvs ls := h.eq fun g hg _ => Below.heap_setCell _ _ _ _ (by show g ≠ N; omega)
/-- A row's value is there where its list is. -/
theorem LayM.at {w : World} {lo : Nat} {v : Value} {rvs : List Value} {ls : List (List Int)} (h : LayM w lo v rvs ls) {k : Nat} {x : List Int} (hx : ls[k]? = some x) : ∃ u, rvs[k]? = some u := by
  have := (List.getElem?_eq_some_iff.1 hx).1
  exact ⟨_, List.getElem?_eq_getElem (by rw [h.n]; exact this)⟩
/-- An empty list more. -/
theorem LayM.more {w w2 w3 : World} {lo : Nat} {v v' : Value} {rvs : List Value} {ls : List (List Int)} (h : LayM w lo v rvs ls) (hb : Below w.heap.size w w2) (hown : w3.ownsRow lo 24 1 v' (ls.length + 1) (rvs ++ [.slice none 0 0])) (hg : w2.grownBy w3 v.ownBlock) : LayM w3 lo v' (rvs ++ [.slice none 0 0]) (ls ++ [[]]) := by
  have h2 := h.keep hb
  refine ⟨by simp [h.n], by rw [List.length_append]; exact hown, fun k u x hu hx => ?_, fun i j u u' b hij hu hu' hb1 hb2 => ?_⟩
  · rcases getElem?_snoc hu with ⟨hi, hu⟩ | ⟨hi, rfl⟩
    · rcases getElem?_snoc hx with ⟨-, hx⟩ | ⟨hj, -⟩
      · have hr := h2.row k u x hu hx
        exact own_blk_eq hr fun g hgg => hg.block g (own_blk hr hgg).1 fun e => own_blk_ne h2.top hr t3n e.symm hgg
      · have := h.n; omega
    · rcases getElem?_snoc hx with ⟨hj, -⟩ | ⟨-, rfl⟩
      · have := h.n; omega
      · exact World.ownsRow_nil _ _ _ _
  · rcases getElem?_snoc hu' with ⟨hj, hu'⟩ | ⟨hj, rfl⟩
    · rcases getElem?_snoc hu with ⟨-, hu⟩ | ⟨hi, -⟩
      · exact h.d i j u u' b hij hu hu' hb1 hb2
      · omega
    · cases hb2
/-- One list has grown by one number, and its new row has been put. -/
theorem LayM.push {w w3 : World} {lo : Nat} {v u u' : Value} {rvs : List Value} {ls : List (List Int)} (h : LayM w lo v rvs ls) {k : Nat} {x : List Int} (a : Int) (hu : rvs[k]? = some u) (hx : ls[k]? = some x) (hown : w3.ownsRow lo 3 1 u' (x.length + 1) (x.map iv ++ [iv a])) (hg : w.grownBy w3 u.ownBlock)
    (hblk : u'.ownBlock = u.ownBlock ∨ u'.ownBlock = some w.heap.size) {g : Nat} (hv : v.ownBlock = some g) : LayM (w3.setCell ⟨g, k, none⟩ u') lo v (rvs.set k u') (ls.set k (x ++ [a])) := by
  have hr := h.row k u x hu hx
  have htop : w3.ownsRow lo 24 1 v ls.length rvs := own_blk_eq h.top fun b hb => hg.block b (own_blk h.top hb).1 fun e => own_blk_ne h.top hr t3n hb e.symm
  have hkl := (List.getElem?_eq_some_iff.1 hx).1
  refine ⟨by simp [h.n], by rw [List.length_set]; exact row_put2 htop hv k u', fun j t y ht hy => ?_, fun i j t t' b hij ht ht' hb1 hb2 => ?_⟩
  · rw [List.getElem?_set] at ht hy
    by_cases e : k = j
    · rw [if_pos e, if_pos (by rw [h.n]; exact hkl)] at ht
      rw [if_pos e, if_pos hkl] at hy
      cases ht; cases hy
      rw [List.length_append, List.map_append]
      exact own_blk_eq hown fun b hb => Below.heap_setCell _ _ _ _ (by
        show b ≠ g
        rintro rfl
        exact own_blk_ne htop hown t3n hv hb)
    · rw [if_neg e] at ht hy
      have hrj := h.row j t y ht hy
      have h3 : w3.ownsRow lo 3 1 t y.length (y.map iv) := own_blk_eq hrj fun b hb => hg.block b (own_blk hrj hb).1 fun e2 => by
        rcases Nat.lt_or_ge j k with hjk | hjk
        · exact h.d j k t u b hjk ht hu hb e2.symm
        · exact h.d k j u t b (by omega) hu ht e2.symm hb
      exact own_blk_eq h3 fun b hb => Below.heap_setCell _ _ _ _ (by
        show b ≠ g
        rintro rfl
        exact own_blk_ne htop h3 t3n hv hb)
  · have hnew : ∀ j t b, j ≠ k → rvs[j]? = some t → t.ownBlock = some b → u'.ownBlock = some b → False := by
      intro j t b hjk ht hb hb'
      obtain ⟨y, hy⟩ : ∃ y, ls[j]? = some y := ⟨_, List.getElem?_eq_getElem (by rw [← h.n]; exact (List.getElem?_eq_some_iff.1 ht).1)⟩
      rcases hblk with e | e
      · rw [e] at hb'
        rcases Nat.lt_or_ge j k with hlt | hge
        · exact h.d j k t u b hlt ht hu hb hb'
        · exact h.d k j u t b (by omega) hu ht hb' hb
      · rw [e] at hb'
        have := (own_blk (h.row j t y ht hy) hb).1
        have : w.heap.size = b := Option.some.inj hb'
        omega
    rw [List.getElem?_set] at ht ht'
    by_cases e1 : k = i
    · rw [if_pos e1, if_pos (by rw [h.n]; exact hkl)] at ht
      rw [if_neg (by omega)] at ht'
      cases ht
      exact hnew j t' b (by omega) ht' hb2 hb1
    · rw [if_neg e1] at ht
      by_cases e2 : k = j
      · rw [if_pos e2, if_pos (by rw [h.n]; exact hkl)] at ht'
        cases ht'
        exact hnew i t b (by omega) ht hb1 hb2
      · rw [if_neg e2] at ht'
        exact h.d i j t t' b hij ht ht' hb1 hb2

/-- The face of it. -/
theorem LayM.res {w : World} {lo : Nat} {v : Value} {rvs : List Value} {ls : List (List Int)} (h : LayM w lo v rvs ls) (hn : ls.length ≤ 40000) (hm : ∀ l ∈ ls, l.length ≤ 1000) (hne : ∀ l ∈ ls, l ≠ []) : ResQ ls w lo w.heap.size v := by
  refine ⟨?_, hn, hm⟩
  rcases h.top.2 with ⟨rfl, h0⟩ | ⟨g, cap, cur, rfl, hb2, hgg, q1, q2, q3, q4⟩
  · have : ls = [] := List.length_eq_zero_iff.1 h0
    subst this
    exact ⟨none, 0, 0, fun _ => 0, fun _ => 0, fun _ => 0, rfl, (fun h => absurd rfl h), (fun i h => absurd h (by simp)), (fun i j _ h => absurd h (by simp))⟩
  · have hrow : ∀ i (hi : i < ls.length), ∃ M C, rvs[i]? = some (.slice (some ⟨M, 0, none⟩) ls[i].length C) ∧ lo ≤ M ∧ M < w.heap.size ∧ M ≠ g ∧ w.there M 0 ls[i].length ∧ ∀ t x, ls[i][t]? = some x → w.cell? ⟨M, t, none⟩ = some (iv x) := by
      intro i hi
      have hi' : i < rvs.length := by rw [h.n]; exact hi
      have hr := h.row i rvs[i] ls[i] (List.getElem?_eq_getElem hi') (List.getElem?_eq_getElem hi)
      rcases hr.2 with ⟨-, h0⟩ | ⟨M, C, cur', he, hb', hgg', -⟩
      · exact absurd (List.length_eq_zero_iff.1 h0) (hne _ (List.getElem_mem hi))
      · rw [he] at hr
        have hc : ∀ t x, ls[i][t]? = some x → w.cell? ⟨M, t, none⟩ = some (iv x) := by
          intro t x ht
          have htl := (List.getElem?_eq_some_iff.1 ht).1
          have hk := hr.cellAt t (by omega)
          rw [hk, List.getElem?_map, ht]; rfl
        refine ⟨M, C, by rw [List.getElem?_eq_getElem hi', he], hb', (Array.getElem?_eq_some_iff.1 hgg').1, fun e => ?_, fun j hj => ⟨?_, hr.frozenAt _⟩, hc⟩
        · subst e
          rw [hgg] at hgg'
          cases hgg'
        · rw [Nat.zero_add, hc j ls[i][j] (List.getElem?_eq_getElem hj)]; rfl
    have : Inhabited (Nat × Nat) := ⟨(0, 0)⟩
    obtain ⟨f, hf⟩ := Go.Deep.choose_lt (n := ls.length) (p := fun i (q : Nat × Nat) => ∀ hi : i < ls.length, rvs[i]? = some (.slice (some ⟨q.1, 0, none⟩) ls[i].length q.2) ∧ lo ≤ q.1 ∧ q.1 < w.heap.size ∧ q.1 ≠ g ∧ w.there q.1 0 ls[i].length ∧ ∀ t x, ls[i][t]? = some x → w.cell? ⟨q.1, t, none⟩ = some (iv x)) (fun i hi => by obtain ⟨M, C, hh⟩ := hrow i hi; exact ⟨(M, C), fun _ => hh⟩)
    refine ⟨some ⟨g, 0, none⟩, g, cap, fun i => (f i).1, fun _ => 0, fun i => (f i).2, rfl, fun _ => ⟨rfl, hb2, (Array.getElem?_eq_some_iff.1 hgg).1⟩, fun i hi => ?_, fun i j hij hj => ?_⟩
    · obtain ⟨c1, c2, c3, c4, c5, c6⟩ := hf i hi hi
      have hk := h.top.cellAt i (by omega)
      rw [c1] at hk
      exact ⟨hk, c5, c4, c2, c3, fun t x ht => by rw [Nat.zero_add]; exact c6 t x ht⟩
    · obtain ⟨c1, -⟩ := hf i (by omega) (by omega)
      obtain ⟨d1, -⟩ := hf j hj hj
      exact .inl fun e => h.d i j _ _ (f i).1 hij c1 d1 rfl (congrArg some e.symm)
end Go.Proofs.Ytmflbibogkebmaa
