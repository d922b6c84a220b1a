/- Layers: data, and a list of lists that grow. -/
import Derived.Test.YtgfnejojjjlloaaQi
import Derived.Maps.AppendAt
import Derived.Deep.RegionLaw
namespace Go.Proofs.Ytgfnejojjjlloaa
open Go.RowKit
open Rd Fl

/-- how many layers the places below j have -/
def nlay (l : List EvD) (j : Nat) : Nat := topF (fun _ => true) (lyr l) j
theorem nlay_succ (l : List EvD) (j : Nat) : nlay l (j + 1) = max (nlay l j) (lyr l j + 1) := by
  unfold nlay
  conv => lhs; unfold topF
  rw [if_pos rfl]
theorem lyr_le (l : List EvD) (j : Nat) : lyr l j ≤ nlay l j := by
  cases h : lyr l j with
  | zero => omega
  | succ k =>
    have h2 : topF (fun i => rgt l i j) (lyr l) j = k + 1 := by rw [← h]; unfold lyr; exact (lay_eq (rgt l) j).symm
    obtain ⟨i, hi, -, he⟩ := topF_one h2
    have := topF_ge (p := fun _ => true) (f := lyr l) hi rfl
    unfold nlay
    omega
theorem lyr_j (l : List EvD) : ∀ j, lyr l j ≤ j := by
  intro j
  induction j using Nat.strongRecOn with
  | ind j ih =>
    unfold lyr
    rw [lay_eq]
    refine topF_le fun i hi _ => ?_
    have := ih i hi
    unfold lyr at this
    omega
theorem nlay_j (l : List EvD) (j : Nat) : nlay l j ≤ j := by
  unfold nlay
  refine topF_le fun i hi _ => ?_
  have := lyr_j l i
  omega
/-- the places below j that are of layer k -/
def layT (l : List EvD) (j k : Nat) : List Int := ((List.range j).filter fun i => decide (lyr l i = k)).map fun (i : Nat) => (i : Int)
def laysTo (l : List EvD) (j : Nat) : List (List Int) := (List.range (nlay l j)).map (layT l j)
theorem laysTo_len (l : List EvD) (j : Nat) : (laysTo l j).length = nlay l j := by unfold laysTo; simp
theorem laysTo_get (l : List EvD) (j k : Nat) (h : k < nlay l j) : (laysTo l j)[k]? = some (layT l j k) := by
  unfold laysTo
  rw [List.getElem?_map, List.getElem?_range h]; rfl
theorem layT_succ (l : List EvD) (j k : Nat) : layT l (j + 1) k = if lyr l j = k then layT l j k ++ [(j : Int)] else layT l j k := by
  unfold layT
  rw [List.range_succ, List.filter_append, List.map_append]
  by_cases h : lyr l j = k
  · rw [if_pos h]; simp [h]
  · rw [if_neg h]; simp [h]
theorem layT_new (l : List EvD) (j k : Nat) (h : nlay l j ≤ k) : layT l j k = [] := by
  unfold layT
  have : ((List.range j).filter fun i => decide (lyr l i = k)) = [] := by
    rw [List.filter_eq_nil_iff]
    intro i hi
    have hij := List.mem_range.1 hi
    have := topF_ge (p := fun _ => true) (f := lyr l) hij rfl
    unfold nlay at h
    simp
    omega
  rw [this]; rfl
theorem layT_len (l : List EvD) (j k : Nat) : (layT l j k).length ≤ j := by
  unfold layT
  rw [List.length_map]
  have := List.length_filter_le (fun i => decide (lyr l i = k)) (List.range j)
  rwa [List.length_range] at this
/-- a place is put into its layer, be it a new one or not -/
theorem laysTo_old {l : List EvD} {j : Nat} (h : lyr l j < nlay l j) : laysTo l (j + 1) = (laysTo l j).set (lyr l j) (layT l j (lyr l j) ++ [(j : Int)]) := by
  have hn : nlay l (j + 1) = nlay l j := by rw [nlay_succ]; omega
  apply List.ext_getElem?
  intro k
  rw [List.getElem?_set, laysTo_len]
  by_cases hk : k < nlay l j
  · rw [laysTo_get l (j + 1) k (by omega), layT_succ]
    by_cases e : lyr l j = k
    · rw [if_pos e, if_pos e, if_pos h, e]
    · rw [if_neg e, if_neg e, laysTo_get l j k hk]
  · rw [List.getElem?_eq_none (by rw [laysTo_len]; omega), if_neg (by omega), List.getElem?_eq_none (by rw [laysTo_len]; omega)]
theorem laysTo_new {l : List EvD} {j : Nat} (h : lyr l j = nlay l j) : laysTo l (j + 1) = (laysTo l j ++ [[]]).set (lyr l j) (([] : List Int) ++ [(j : Int)]) := by
  have hn : nlay l (j + 1) = nlay l j + 1 := by rw [nlay_succ]; omega
  apply List.ext_getElem?
  intro k
  rw [List.getElem?_set, List.length_append, laysTo_len]
  by_cases hk : k < nlay l j + 1
  · rw [laysTo_get l (j + 1) k (by omega), layT_succ]
    by_cases e : lyr l j = k
    · rw [if_pos e, if_pos e, if_pos (by simp; omega), layT_new l j k (by omega)]
    · rw [if_neg e, if_neg e, List.getElem?_append_left (by rw [laysTo_len]; omega), laysTo_get l j k (by omega)]
  · rw [List.getElem?_eq_none (by rw [laysTo_len]; omega), if_neg (by omega), List.getElem?_eq_none (by simp [laysTo_len]; omega)]

/-- append onto a row of a function's own, as one step of a region that draws -/
theorem step_append_own {P : Program} {ops : Array Oper} {o : Oper} {a : Act} {w : World} {K : Act → World → Prop} {Q : Exit → Act → World → Prop} {E : Prop}
    (hg : o.guard = none) (s x : Operand) (t : TypeId) (hop : o.op = Op.call { callee := Callee.builtin Builtin.append, args := #[s, x], argTypes := #[t, t] })
    (base : Nat) (e : TypeId) (i : TypeInfo) (z : Value) (size bytes : Nat) (h1 : P.underlying t = some (.slice e)) (h2 : P.info? e = some i) (h3 : i.zero = some z) (h4 : i.size = size) (h5 : i.bytes = bytes) (h6 : z.cells.size = size) (h7 : 0 < size)
    (v : Value) (n : Nat) (xs : List Value) (hs : a.eval s = v) (hown : w.ownsRow base e size v n xs)
    (ad : Addr) (m c : Nat) (news : List Value) (hx : a.eval x = .slice (some ad) m c) (hn : news.length = m * size) (hc : ∀ j u, news[j]? = some u → w.cell? (ad.add j) = some u) (h1c : ∀ u ∈ news, u.oneCell' = true)
    (b1 : n + m ≤ maxLen) (b2 : (n + m) * bytes ≤ 140737488355328) (hb : base ≤ w.heap.size)
    (hK : ∀ v' w', w'.ownsRow base e size v' (n + m) (xs ++ news) → w.grownBy w' v.ownBlock → (v'.ownBlock = v.ownBlock ∨ v'.ownBlock = some w.heap.size) → K (a.put o.dst v') w') :
    if Region.wanted o (yielded ops a.tmps) = true then Oper.wp P o a w K Q else E := by
  have hw : Region.wanted o (yielded ops a.tmps) = true := by simp [Region.wanted, hg]
  rw [if_pos hw]
  obtain ⟨v', w', hrun, r1, r2, -, r4⟩ := run_append_own_at (P := P) w base t o.type e i z size bytes h1 h2 h3 h4 h5 h6 h7 v n xs hown ad m c news hn hc h1c b1 b2 hb
  unfold Oper.wp
  simp [execOp, hop, resolve, invoke, builtin, hs, hx, hrun, Result.andThen]
  exact hK v' w' r1 r2 r4
end Go.Proofs.Ytgfnejojjjlloaa
