/- Clocks: data, cleared and copied cells, newClocks and joinClock. impl.newClocks. -/
import Derived.Test.YtmflbibogkebmaaQi
import Derived.Lib.SliceRun
import Derived.Laws.IdiomCopy
import Derived.Test.YtmflbibogkebmaaQm
namespace Go.Proofs.Ytmflbibogkebmaa
open Go.RowKit
open Rd Fl

/-- the greatest of f's numbers below n that p names; 0 where there is none -/
def maxF (p : Nat → Bool) (f : Nat → Nat) : Nat → Nat
  | 0 => 0
  | n + 1 => if p n = true then max (maxF p f n) (f n) else maxF p f n
theorem maxF_ge {p : Nat → Bool} {f : Nat → Nat} : ∀ {n i : Nat}, i < n → p i = true → f i ≤ maxF p f n
  | 0, i, h, _ => by omega
  | n + 1, i, h, hp => by
    unfold maxF
    by_cases e : i = n
    · subst e
      rw [if_pos hp]; exact Nat.le_max_right _ _
    · have := maxF_ge (f := f) (n := n) (i := i) (by omega) hp
      split
      · exact Nat.le_trans this (Nat.le_max_left _ _)
      · exact this
theorem maxF_le {p : Nat → Bool} {f : Nat → Nat} {b : Nat} : ∀ {n : Nat}, (∀ i, i < n → p i = true → f i ≤ b) → maxF p f n ≤ b
  | 0, _ => Nat.zero_le _
  | n + 1, h => by
    unfold maxF
    have := maxF_le (p := p) (f := f) (b := b) (n := n) (fun i hi => h i (by omega))
    split
    · rename_i hp
      exact Nat.max_le.2 ⟨this, h n (by omega) hp⟩
    · exact this
/-- what the clocks right ahead of j, below i, come to -/
def mxC (l : List EvD) (j i : Nat) (t : Int) : Nat := maxF (fun m => rgt l m j) (fun m => clk l m t) i
theorem mxC_full (l : List EvD) (j : Nat) (t : Int) : mxC l j j t = clk0 l j t := by
  unfold mxC
  apply Nat.le_antisymm
  · exact maxF_le fun i hi hp => clk0_ge t hi hp
  · rcases Nat.eq_zero_or_pos (clk0 l j t) with h | h
    · omega
    · obtain ⟨m, hm, hr, he⟩ := clk0_max h
      rw [← he]
      exact maxF_ge (p := fun m => rgt l m j) (f := fun m => clk l m t) hm hr
theorem mxC_no {l : List EvD} {j i : Nat} (h : rgt l i j = false) (t : Int) : mxC l j (i + 1) t = mxC l j i t := by
  unfold mxC
  conv => lhs; unfold maxF
  rw [if_neg (by simp [h])]
theorem mxC_yes {l : List EvD} {j i : Nat} (h : rgt l i j = true) (t : Int) : mxC l j (i + 1) t = max (mxC l j i t) (clk l i t) := by
  unfold mxC
  conv => lhs; unfold maxF
  rw [if_pos h]
theorem clk_le (l : List EvD) (j : Nat) (t : Int) : clk l j t ≤ j + 1 := cnt_le_n _ _ _ _
theorem mxC_le (l : List EvD) (j i : Nat) (t : Int) : mxC l j i t ≤ i := by
  unfold mxC
  refine maxF_le fun m hm _ => ?_
  have := clk_le l m t
  omega

/-- clear, at a list of a function's own -/
theorem wpList_clear {P : Program} {w : World} {ops : Array Oper} {rest : List Oper} {o : Oper} {a : Act} {Q : Exit → Act → World → Prop} (hgd : o.guard = none) (s : Operand) (t e : TypeId) (z : Value)
    (ho : o.op = .call { callee := .builtin .clear, args := #[s], argTypes := #[t] }) (ht : P.underlying t = some (.slice e)) (hv : ∀ w, (zeroValue e).run P w = .ok z w) (hz : z.cells = #[z]) (h1 : z.oneCell' = true) (b off n c : Nat) (hs : a.eval s = .slice (some ⟨b, off, none⟩) n c) (hn : 0 < n)
    (hth : w.there b off n)
    (h : wpList P ops Q rest (a.put o.dst (.tuple #[])) (w.setCells b off (List.replicate n z))) : wpList P ops Q (o :: rest) a w := by
  refine wpList_plain hgd fun K hK => ?_
  have hrun := Go.Lib.run_clear_slice (P := P) w t e o.type z ht hv hz h1 b off n c hn (fun j hj => (hth j hj).1) (fun j hj => (hth j hj).2)
  unfold Oper.wp
  simp [execOp, ho, resolve, invoke, builtin, hs, hrun, Result.andThen]
  exact hK _ _ h
/-- copy, into cells that can be written -/
theorem wpList_copyc {P : Program} {w : World} {ops : Array Oper} {rest : List Oper} {o : Oper} {a : Act} {Q : Exit → Act → World → Prop} (hgd : o.guard = none) (d s : Operand) (t e : TypeId)
    (ho : o.op = .call { callee := .builtin .copy, args := #[d, s], argTypes := #[t, t] }) (ht : P.underlying t = some (.slice e)) (hsz : (P.info? e).map (·.size) = some 1)
    (b off n c : Nat) (ad : Addr) (c2 : Nat) (hd : a.eval d = .slice (some ⟨b, off, none⟩) n c) (hs : a.eval s = .slice (some ad) n c2) (cs : List Value) (hn : cs.length = n)
    (hsrc : ∀ j v, cs[j]? = some v → w.cell? (ad.add j) = some v) (hth : w.there b off n) (h1 : ∀ v ∈ cs, v.oneCell' = true)
    (h : wpList P ops Q rest (a.put o.dst (goInt n)) (w.setCells b off cs)) : wpList P ops Q (o :: rest) a w := by
  refine wpList_plain hgd fun K hK => ?_
  have hrun := run_copy_cells (P := P) w t t o.type e b off n c ad n c2 cs ht hsz (by rw [hn]; exact (Nat.min_self n).symm) hsrc (fun j hj => (hth j (by omega)).1) (fun j hj => (hth j (by omega)).2) h1
  rw [hn] at hrun
  unfold Oper.wp
  simp [execOp, ho, resolve, invoke, builtin, hd, hs, hrun, Result.andThen]
  exact hK _ _ h

theorem zeroI : ∀ w, (zeroValue 3).run Try.prog w = .ok (.int .i64 0) w := by
  intro w
  obtain ⟨i, hi, h3, -, -⟩ := inInfo
  simp [zeroValue, typeInfo, hi, h3]

end Go.Proofs.Ytmflbibogkebmaa
namespace Go.Proofs.Ytmflbibogkebmaa
open Go.RowKit
open Rd Fl

theorem make_intss (n : Nat) (hn : n ≤ 1048576) (w : World) : (Instr.makeSlice 34 (.int .i64 (n : Int)) (.int .i64 (n : Int))).run Try.prog w = .ok (.slice (some ⟨w.heap.size, 0, none⟩) n n) (w.alloc (.cells (madeCells #[.slice none 0 0] n) 24)) := by
  obtain ⟨i, hi, h3, h1, h2⟩ := intsInfo
  have := run_make (P := Try.prog) w 34 24 i _ Try.underlying34 hi h3 .i64 .i64 n n (by omega) (Int.le_refl _) (by rw [h2]; omega) (by omega)
  rw [h1] at this
  simpa [Value.cells] using this
/-- n clocks, cut out of the block M, their heads in the block g -/
structure ClkM (w wr : World) (n M g : Nat) (j : Nat) : Prop where
  b : Below w.heap.size w wr
  m : w.heap.size ≤ M
  mg : M < g
  z : g < wr.heap.size
  tm : wr.there M 0 (n * 5)
  tg : wr.there g 0 n
  c : ∀ k, k < j → wr.cell? ⟨g, k, none⟩ = some (.slice (some ⟨M, k * 5, none⟩) 5 5)
theorem ClkM.keep {w wr wy : World} {n M g j : Nat} (h : ClkM w wr n M g j) (hb : Below wr.heap.size wr wy) : ClkM w wy n M g j :=
  ⟨h.b.trans (hb.mono h.b.size), h.m, h.mg, Nat.lt_of_lt_of_le h.z hb.size, there_keep hb h.tm, there_keep hb h.tg, fun k hk => keep_cell hb (h.c k hk)⟩

end Go.Proofs.Ytmflbibogkebmaa
