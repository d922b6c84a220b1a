/- Pairs of places, rising: data, one more of them, and what goes through them. impl.pairsWhere, with each of its two closures. NextAfter: both sides. -/
import Derived.Test.YtmflbibogkebmaaQh
import Derived.Deep.DeepCutAuto
import Derived.Test.YtmflbibogkebmaaQe
namespace Go.Proofs.Ytmflbibogkebmaa
open Go.RowKit
open Rd Fl

/-- the pairs of i and of those between it and j that p names -/
def prTo (p : Nat → Nat → Bool) (i : Nat) : Nat → List (List Int)
  | 0 => []
  | j + 1 => prTo p i j ++ (if i < j ∧ p i j = true then [[(i : Int), (j : Int)]] else [])
/-- the pairs whose first is less than k -/
def prAll (p : Nat → Nat → Bool) (n : Nat) : Nat → List (List Int)
  | 0 => []
  | k + 1 => prAll p n k ++ prTo p k n
theorem prTo_low (p : Nat → Nat → Bool) (i : Nat) : ∀ j, j ≤ i + 1 → prTo p i j = []
  | 0, _ => rfl
  | j + 1, h => by
    unfold prTo
    rw [prTo_low p i j (by omega), if_neg (by omega)]; rfl
theorem prTo_yes {p : Nat → Nat → Bool} {i j : Nat} (h : i < j) (hp : p i j = true) : prTo p i (j + 1) = prTo p i j ++ [[(i : Int), (j : Int)]] := by
  conv => lhs; unfold prTo
  rw [if_pos ⟨h, hp⟩]
theorem prTo_no {p : Nat → Nat → Bool} {i j : Nat} (hp : p i j = false) : prTo p i (j + 1) = prTo p i j := by
  conv => lhs; unfold prTo
  rw [if_neg (by rintro ⟨-, h⟩; rw [hp] at h; cases h), List.append_nil]
theorem prTo_len (p : Nat → Nat → Bool) (i : Nat) : ∀ j, (prTo p i j).length ≤ j
  | 0 => Nat.le_refl _
  | j + 1 => by
    unfold prTo
    have := prTo_len p i j
    rw [List.length_append]
    split <;> simp <;> omega
theorem prAll_len (p : Nat → Nat → Bool) (n : Nat) : ∀ k, (prAll p n k).length ≤ k * n
  | 0 => by simp [prAll]
  | k + 1 => by
    unfold prAll
    have h1 := prAll_len p n k
    have h2 := prTo_len p k n
    rw [List.length_append, Nat.succ_mul]
    omega
theorem prTo_two (p : Nat → Nat → Bool) (i : Nat) : ∀ j, ∀ l ∈ prTo p i j, l.length ≤ 1000
  | 0, l, h => by cases h
  | j + 1, l, h => by
    unfold prTo at h
    rw [List.mem_append] at h
    rcases h with h | h
    · exact prTo_two p i j l h
    · split at h
      · rw [List.mem_singleton] at h; subst h; simp
      · cases h
theorem prAll_two (p : Nat → Nat → Bool) (n : Nat) : ∀ k, ∀ l ∈ prAll p n k, l.length ≤ 1000
  | 0, l, h => by cases h
  | k + 1, l, h => by
    unfold prAll at h
    rw [List.mem_append] at h
    rcases h with h | h
    · exact prAll_two p n k l h
    · exact prTo_two p k n l h
theorem prAll_cong {p q : Nat → Nat → Bool} (n : Nat) (h : ∀ i j, i < j → j < n → p i j = q i j) : ∀ k, prAll p n k = prAll q n k
  | 0 => rfl
  | k + 1 => by
    unfold prAll
    rw [prAll_cong n h k]
    congr 1
    have : ∀ j, j ≤ n → prTo p k j = prTo q k j := by
      intro j
      induction j with
      | zero => intro _; rfl
      | succ j ih =>
        intro hj
        unfold prTo
        rw [ih (by omega)]
        by_cases hk : k < j
        · rw [h k j hk (by omega)]
        · rw [if_neg (by omega), if_neg (by omega)]
    exact this n (Nat.le_refl _)

/-- The pairs ls are what v tells, and of what was there nothing has turned. -/
structure PrR (w wr : World) (ls : List (List Int)) (v : Value) (Ms : List Nat) : Prop where
  b : Below w.heap.size w wr
  r : RowSS ls wr w.heap.size v Ms
theorem PrR.keep {w wr wy : World} {ls : List (List Int)} {v : Value} {Ms : List Nat} (h : PrR w wr ls v Ms) (hb : Below wr.heap.size wr wy) : PrR w wy ls v Ms := ⟨h.b.trans (hb.mono h.b.size), h.r.keep hb⟩
theorem PrR.snoc {w w2 w3 : World} {ls : List (List Int)} {v v' : Value} {Ms : List Nat} (h : PrR w w2 ls v Ms) (a b : Int)
    (hown : w3.ownsRow w.heap.size 24 1 v' (ls.length + 1) (List.zipWith slV Ms ls ++ [slV w2.heap.size [a, b]])) (hg : ((w2.alloc (.cells #[.int .i64 a, .int .i64 b] 3)).alloc (.cells #[.slice (some ⟨w2.heap.size, 0, none⟩) 2 2] 24)).grownBy w3 v.ownBlock)
    (hblk : v'.ownBlock = v.ownBlock ∨ v'.ownBlock = some (w2.heap.size + 1 + 1)) : PrR w w3 (ls ++ [[a, b]]) v' (Ms ++ [w2.heap.size]) := by
  have hz := h.b.size
  refine ⟨h.b.trans (Below.grown (((Below.refl w.heap.size w2).alloc hz _).alloc (by simp; omega) _) hg (by simp; omega) (own_base' h.r.o)), h.r.snoc a b hz hown hg hblk⟩
end Go.Proofs.Ytmflbibogkebmaa
namespace Go.Proofs.Ytmflbibogkebmaa
open Go.RowKit
open Rd Fl

end Go.Proofs.Ytmflbibogkebmaa
namespace Go.Proofs.Ytmflbibogkebmaa
open Go.RowKit
open Rd Fl

theorem good_len {l : List EvD} (h : goodTr l = true) : l.length ≤ 200 := by
  unfold goodTr at h; rw [Bool.and_eq_true] at h; exact of_decide_eq_true h.1
theorem good_ev {l : List EvD} (h : goodTr l = true) {i : Nat} (hi : i < l.length) : goodEv l[i] = true := by
  unfold goodTr at h; rw [Bool.and_eq_true] at h; exact List.all_eq_true.1 h.2 _ (List.getElem_mem hi)
theorem evA_get {l : List EvD} {i : Nat} (hi : i < l.length) : evA l i = l[i] := by
  unfold evA; rw [List.getD_eq_getElem?_getD, List.getElem?_eq_getElem hi]; rfl
theorem rgt_get {l : List EvD} {i j : Nat} (hi : i < l.length) (hj : j < l.length) : rgt l i j = rightB l[i] l[j] := by
  unfold rgt; rw [evA_get hi, evA_get hj]

/-- pairs of places, one right ahead of the other -/
def nextN (l : List EvD) : List (List Int) := if goodTr l = true then prAll (rgt l) l.length l.length else []
theorem nextN_len (l : List EvD) : (nextN l).length ≤ 40000 := by
  unfold nextN
  split
  · rename_i h
    have h1 := prAll_len (rgt l) l.length l.length
    have h2 := Nat.mul_le_mul (good_len h) (good_len h)
    omega
  · simp
theorem nextN_two (l : List EvD) : ∀ x ∈ nextN l, x.length ≤ 1000 := by
  unfold nextN
  split
  · exact prAll_two _ _ _
  · intro x h; cases h

end Go.Proofs.Ytmflbibogkebmaa
