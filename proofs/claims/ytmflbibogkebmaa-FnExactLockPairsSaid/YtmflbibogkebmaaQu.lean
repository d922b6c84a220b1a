/- The specification's clocks. -/
import Derived.Test.YtmflbibogkebmaaQm
import Derived.Test.YtmflbibogkebmaaQs
import Derived.Test.YtmflbibogkebmaaQe
namespace Go.Proofs.Ytmflbibogkebmaa
open Go.RowKit
open Rd Fl

def clksTo (l : List EvD) (j : Nat) : List (List Int) := (List.range j).map (clock l)
theorem clksTo_succ (l : List EvD) (j : Nat) : clksTo l (j + 1) = clksTo l j ++ [clock l j] := by
  unfold clksTo; rw [List.range_succ, List.map_append]; rfl
theorem clksTo_len (l : List EvD) (j : Nat) : (clksTo l j).length = j := by unfold clksTo; simp
/-- what a clock counts, the first i places looked at -/
def ckS (l : List EvD) (j i : Nat) (t : Int) : Nat := (if (evA l j).th = t then 1 else 0) + cnt l t (fun x => ahB l x j) i
theorem ckS_zero (l : List EvD) (j : Nat) (t : Int) : ckS l j 0 t = if (evA l j).th = t then 1 else 0 := by
  unfold ckS; simp [cnt]
theorem ckS_no {l : List EvD} {j i : Nat} (h : ahB l i j = false) (t : Int) : ckS l j (i + 1) t = ckS l j i t := by
  unfold ckS
  rw [cnt_succ, if_neg (fun k : (evA l i).th = t ∧ ahB l i j = true => by rw [h] at k; cases k.2)]
  rfl
theorem ckS_yes {l : List EvD} {j i : Nat} (h : ahB l i j = true) (t : Int) : ckS l j (i + 1) t = ckS l j i t + (if (evA l i).th = t then 1 else 0) := by
  unfold ckS; rw [cnt_succ, ← Nat.add_assoc]
  congr 1
  simp [h]
theorem ckS_full {l : List EvD} {j n : Nat} (h : j ≤ n) (t : Int) : ckS l j n t = clk l j t := by
  unfold ckS
  rw [clk_eq, Nat.add_comm]
  congr 1
  unfold clk0
  refine cnt_more l t _ j n h fun i h1 _ _ => ?_
  rw [Bool.eq_false_iff]; intro h3
  have := ahB_lt l i j h3
  omega
theorem ckS_le (l : List EvD) (j i : Nat) (t : Int) : ckS l j i t ≤ i + 1 := by
  unfold ckS
  have := cnt_le_n l t (fun x => ahB l x j) i
  split <;> omega

theorem RowSS.edit {ls : List (List Int)} {w w' : World} {lo : Nat} {v : Value} {Ms : List Nat} (h : RowSS ls w lo v Ms) {a b : Nat} (he : Edit a b w w') (hm : ∀ M ∈ Ms, M < a) (hv : ∀ k, v.ownBlock = some k → k < a) : RowSS ls w' lo v Ms := by
  refine ⟨h.n, own_edit h.o hv he (.inr (Nat.le_refl _)), fun i M x hM hx => ?_, h.d, h.b⟩
  obtain ⟨g1, g2, g3⟩ := h.c i M x hM hx
  exact ⟨g1, Nat.lt_of_lt_of_le g2 he.b.size, lown_block g3 (he.b.block M (hm M (List.mem_of_getElem? hM)))⟩
/-- A list more, that lies in the block M. -/
theorem RowSS.push {ls : List (List Int)} {w2 w3 : World} {lo : Nat} {v v' : Value} {Ms : List Nat} (h : RowSS ls w2 lo v Ms) (M : Nat) (x : List Int) (hM : ∀ M' ∈ Ms, M' < M) (hv : ∀ k, v.ownBlock = some k → k < M) (hlo : lo ≤ M) (hz : M < w2.heap.size) (hx : LOwn iv w2 M x)
    (hown : w3.ownsRow lo 24 1 v' (ls.length + 1) (List.zipWith slV Ms ls ++ [slV M x])) (hg : (w2.alloc (.cells #[slV M x] 24)).grownBy w3 v.ownBlock)
    (hblk : v'.ownBlock = v.ownBlock ∨ v'.ownBlock = some (w2.heap.size + 1)) : RowSS (ls ++ [x]) w3 lo v' (Ms ++ [M]) := by
  have hz2 : (w2.alloc (.cells #[slV M x] 24)).heap.size = w2.heap.size + 1 := by simp
  have hsz := hg.size
  rw [hz2] at hsz
  have hbw := (Below.refl _ w2).up (.cells #[slV M x] 24)
  refine ⟨by simp [h.n], by rw [zip_snoc _ _ _ _ h.n, List.length_append]; exact hown, fun i N y hN hy => ?_, fun i j N N' hij hN hN' => ?_, fun N hN => ?_⟩
  · rcases getElem?_snoc hN with ⟨hi, hN⟩ | ⟨hi, rfl⟩
    · rcases getElem?_snoc hy with ⟨-, hy⟩ | ⟨hj, -⟩
      · obtain ⟨h1, h2, h3⟩ := h.c i N y hN hy
        refine ⟨h1, by omega, lown_block h3 ((hg.block N (by rw [hz2]; omega) (fun e => h.b N (List.mem_of_getElem? hN) e.symm)).trans (hbw.block N h2))⟩
      · have := h.n; omega
    · rcases getElem?_snoc hy with ⟨hj, -⟩ | ⟨-, rfl⟩
      · have := h.n; omega
      · exact ⟨hlo, by omega, lown_block hx ((hg.block N (by rw [hz2]; omega) (fun e => by have := hv _ e.symm; omega)).trans (hbw.block N hz))⟩
  · rcases getElem?_snoc hN' with ⟨hj, hN'⟩ | ⟨hj, rfl⟩
    · rcases getElem?_snoc hN with ⟨-, hN⟩ | ⟨hi, -⟩
      · exact h.d i j N N' hij hN hN'
      · omega
    · rcases getElem?_snoc hN with ⟨-, hN⟩ | ⟨hi, -⟩
      · exact hM N (List.mem_of_getElem? hN)
      · omega
  · rw [List.mem_append, List.mem_singleton] at hN
    rcases hblk with e | e <;> rw [e]
    · rcases hN with hN | rfl
      · exact h.b N hN
      · intro e2; have := hv _ e2; omega
    · intro e2
      have e3 : w2.heap.size + 1 = N := Option.some.inj e2
      rcases hN with hN | rfl
      · have := hM N hN; omega
      · omega

/-- ahead of a round -/
structure CkO (w wr : World) (l : List EvD) (g hi : Nat) (v : Value) (Ms : List Nat) (j : Nat) : Prop where
  b : Below w.heap.size w wr
  r2 : Rows2 l g l.length wr l.length hi
  g : g < hi
  z : hi ≤ wr.heap.size
  w : w.heap.size ≤ hi
  r : RowSS (clksTo l j) wr hi v Ms
theorem CkO.keep {w wr wy : World} {l : List EvD} {g hi : Nat} {v : Value} {Ms : List Nat} {j : Nat} (h : CkO w wr l g hi v Ms j) (hb : Below wr.heap.size wr wy) : CkO w wy l g hi v Ms j :=
  ⟨h.b.trans (hb.mono h.b.size), h.r2.keep hb, h.g, Nat.le_trans h.z hb.size, h.w, h.r.keep hb⟩
/-- within a round: K is the clock in the making -/
structure CkR (w wr : World) (l : List EvD) (g hi : Nat) (v : Value) (Ms : List Nat) (j K : Nat) (f : Nat → Nat) : Prop where
  o : CkO w wr l g hi v Ms j
  k1 : hi ≤ K
  m : ∀ M ∈ Ms, M < K
  u : ∀ k, v.ownBlock = some k → k < K
  z : K < wr.heap.size
  th : wr.there K 0 5
  f : ∀ t, t < 5 → wr.cell? ⟨K, t, none⟩ = some (.int .i64 (f t))
theorem CkR.keep {w wr wy : World} {l : List EvD} {g hi : Nat} {v : Value} {Ms : List Nat} {j K : Nat} {f : Nat → Nat} (h : CkR w wr l g hi v Ms j K f) (hb : Below wr.heap.size wr wy) : CkR w wy l g hi v Ms j K f :=
  ⟨h.o.keep hb, h.k1, h.m, h.u, Nat.lt_of_lt_of_le h.z hb.size, there_keep hb h.th, fun t ht => keep_cell hb (h.f t ht)⟩
theorem Rows2.edit {l : List EvD} {g n : Nat} {w w' : World} {j hi a b : Nat} (h : Rows2 l g n w j hi) (he : Edit a b w w') (ha : hi ≤ a) : Rows2 l g n w' j hi := by
  intro j' hj
  obtain ⟨R, h1, h2, h3, h4⟩ := h j' hj
  exact ⟨R, h1, h2, he.cell h3 (by omega), fun i hi => he.cell (h4 i hi) (by omega)⟩
theorem CkR.edit {w wr wy : World} {l : List EvD} {g hi : Nat} {v : Value} {Ms : List Nat} {j K : Nat} {f f' : Nat → Nat} (h : CkR w wr l g hi v Ms j K f) (he : Edit K (K + 1) wr wy) (hf : ∀ t, t < 5 → wy.cell? ⟨K, t, none⟩ = some (.int .i64 (f' t))) : CkR w wy l g hi v Ms j K f' :=
  ⟨⟨h.o.b.trans (he.b.mono (Nat.le_trans h.o.w h.k1)), h.o.r2.edit he h.k1, h.o.g, Nat.le_trans h.o.z he.b.size, h.o.w, h.o.r.edit he h.m h.u⟩, h.k1, h.m, h.u, Nat.lt_of_lt_of_le h.z he.b.size, he.th _ _ _ h.th, hf⟩
theorem CkR.own {w wr : World} {l : List EvD} {g hi : Nat} {v : Value} {Ms : List Nat} {j K : Nat} {f : Nat → Nat} (h : CkR w wr l g hi v Ms j K f) (hf : ∀ t, t < 5 → f t = clk l j (t : Int)) : LOwn iv wr K (clock l j) := by
  refine ⟨by rw [clock_len]; exact h.th, fun t x hx => ?_⟩
  have ht : t < 5 := by have := (List.getElem?_eq_some_iff.1 hx).1; rw [clock_len] at this; exact this
  rw [clock_get l j t ht] at hx
  cases hx
  rw [h.f t ht, hf t ht]; rfl
theorem CkR.push {w w2 w3 : World} {l : List EvD} {g hi : Nat} {v v' : Value} {Ms : List Nat} {j K : Nat} {f : Nat → Nat} (h : CkR w w2 l g hi v Ms j K f) (hf : ∀ t, t < 5 → f t = clk l j (t : Int))
    (hown : w3.ownsRow hi 24 1 v' ((clksTo l j).length + 1) (List.zipWith slV Ms (clksTo l j) ++ [slV K (clock l j)])) (hg : (w2.alloc (.cells #[slV K (clock l j)] 24)).grownBy w3 v.ownBlock)
    (hblk : v'.ownBlock = v.ownBlock ∨ v'.ownBlock = some (w2.heap.size + 1)) : ∃ Ns, CkO w w3 l g hi v' Ns (j + 1) := by
  have hz := h.o.z
  have hw := h.o.w
  have hsz := hg.size
  have hz2 : (w2.alloc (.cells #[slV K (clock l j)] 24)).heap.size = w2.heap.size + 1 := by simp
  rw [hz2] at hsz
  have hb : Below hi w2 w3 := Below.grown ((Below.refl hi w2).alloc hz _) hg (by simp; omega) (own_base' h.o.r.o)
  refine ⟨Ms ++ [K], h.o.b.trans (hb.mono hw), fun j' hj => ?_, h.o.g, by omega, hw, by rw [clksTo_succ]; exact h.o.r.push K (clock l j) h.m h.u h.k1 h.z (h.own hf) hown hg hblk⟩
  obtain ⟨R, h1, h2, h3, h4⟩ := h.o.r2 j' hj
  have hg2 := h.o.g
  exact ⟨R, h1, h2, cellB hb hg2 h3, fun i hi => cellB hb h2 (h4 i hi)⟩
end Go.Proofs.Ytmflbibogkebmaa
