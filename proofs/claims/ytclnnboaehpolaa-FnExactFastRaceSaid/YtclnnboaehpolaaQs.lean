/- Clocks: data, cleared and copied cells, newClocks and joinClock. impl.newClocks. -/
import Derived.Test.YtclnnboaehpolaaQi
import Derived.Lib.SliceRun
import Derived.Laws.IdiomCopy
import Derived.Test.YtclnnboaehpolaaQm
namespace Go.Proofs.Ytclnnboaehpolaa
open Go.RowKit
open Rd Fl

/-- the greatest of f's numbers below n that p names; 0 where there is none -/
def maxF (p : Nat → Bool) (f : Nat → Nat) : Nat → Nat
  | 0 => 0
  | n + 1 => if p n = true then max (maxF p f n) (f n) else maxF p f n
theorem maxF_ge {p : Nat → Bool} {f : Nat → Nat} : ∀ {n i : Nat}, i < n → p i = true → f i ≤ maxF p f n
  | 0, i, h, _ => by omega
  | n + 1, i, h, hp => by
    unfold maxF
    by_cases e : i = n
    · subst e
      rw [if_pos hp]; exact Nat.le_max_right _ _
    · have := maxF_ge (f := f) (n := n) (i := i) (by omega) hp
      split
      · exact Nat.le_trans this (Nat.le_max_left _ _)
      · exact this
theorem maxF_le {p : Nat → Bool} {f : Nat → Nat} {b : Nat} : ∀ {n : Nat}, (∀ i, i < n → p i = true → f i ≤ b) → maxF p f n ≤ b
  | 0, _ => Nat.zero_le _
  | n + 1, h => by
    unfold maxF
    have := maxF_le (p := p) (f := f) (b := b) (n := n) (fun i hi => h i (by omega))
    split
    · rename_i hp
      exact Nat.max_le.2 ⟨this, h n (by omega) hp⟩
    · exact this
/-- what the clocks right ahead of j, below i, come to -/
def mxC (l : List EvD) (j i : Nat) (t : Int) : Nat := maxF (fun m => rgt l m j) (fun m => clk l m t) i
theorem mxC_full (l : List EvD) (j : Nat) (t : Int) : mxC l j j t = clk0 l j t := by
  unfold mxC
  apply Nat.le_antisymm
  · exact maxF_le fun i hi hp => clk0_ge t hi hp
  · rcases Nat.eq_zero_or_pos (clk0 l j t) with h | h
    · omega
    · obtain ⟨m, hm, hr, he⟩ := clk0_max h
      rw [← he]
      exact maxF_ge (p := fun m => rgt l m j) (f := fun m => clk l m t) hm hr
theorem mxC_no {l : List EvD} {j i : Nat} (h : rgt l i j = false) (t : Int) : mxC l j (i + 1) t = mxC l j i t := by
  unfold mxC
  conv => lhs; unfold maxF
  rw [if_neg (by simp [h])]
theorem mxC_yes {l : List EvD} {j i : Nat} (h : rgt l i j = true) (t : Int) : mxC l j (i + 1) t = max (mxC l j i t) (clk l i t) := by
  unfold mxC
  conv => lhs; unfold maxF
  rw [if_pos h]
theorem clk_le (l : List EvD) (j : Nat) (t : Int) : clk l j t ≤ j + 1 := cnt_le_n _ _ _ _
theorem mxC_le (l : List EvD) (j i : Nat) (t : Int) : mxC l j i t ≤ i := by
  unfold mxC
  refine maxF_le fun m hm _ => ?_
  have := clk_le l m t
  omega

/-- clear, at a list of a function's own -/
theorem wpList_clear {P : Program} {w : World} {ops : Array Oper} {rest : List Oper} {o : Oper} {a : Act} {Q : Exit → Act → World → Prop} (hgd : o.guard = none) (s : Operand) (t e : TypeId) (z : Value)
    (ho : o.op = .call { callee := .builtin .clear, args := #[s], argTypes := #[t] }) (ht : P.underlying t = some (.slice e)) (hv : ∀ w, (zeroValue e).run P w = .ok z w) (hz : z.cells = #[z]) (h1 : z.oneCell' = true) (b off n c : Nat) (hs : a.eval s = .slice (some ⟨b, off, none⟩) n c) (hn : 0 < n)
    (hth : w.there b off n)
    (h : wpList P ops Q rest (a.put o.dst (.tuple #[])) (w.setCells b off (List.replicate n z))) : wpList P ops Q (o :: rest) a w := by
  refine wpList_plain hgd fun K hK => ?_
  have hrun := Go.Lib.run_clear_slice (P := P) w t e o.type z ht hv hz h1 b off n c hn (fun j hj => (hth j hj).1) (fun j hj => (hth j hj).2)
  unfold Oper.wp
  simp [execOp, ho, resolve, invoke, builtin, hs, hrun, Result.andThen]
  exact hK _ _ h
/-- copy, into cells that can be written -/
theorem wpList_copyc {P : Program} {w : World} {ops : Array Oper} {rest : List Oper} {o : Oper} {a : Act} {Q : Exit → Act → World → Prop} (hgd : o.guard = none) (d s : Operand) (t e : TypeId)
    (ho : o.op = .call { callee := .builtin .copy, args := #[d, s], argTypes := #[t, t] }) (ht : P.underlying t = some (.slice e)) (hsz : (P.info? e).map (·.size) = some 1)
    (b off n c : Nat) (ad : Addr) (c2 : Nat) (hd : a.eval d = .slice (some ⟨b, off, none⟩) n c) (hs : a.eval s = .slice (some ad) n c2) (cs : List Value) (hn : cs.length = n)
    (hsrc : ∀ j v, cs[j]? = some v → w.cell? (ad.add j) = some v) (hth : w.there b off n) (h1 : ∀ v ∈ cs, v.oneCell' = true)
    (h : wpList P ops Q rest (a.put o.dst (goInt n)) (w.setCells b off cs)) : wpList P ops Q (o :: rest) a w := by
  refine wpList_plain hgd fun K hK => ?_
  have hrun := run_copy_cells (P := P) w t t o.type e b off n c ad n c2 cs ht hsz (by rw [hn]; exact (Nat.min_self n).symm) hsrc (fun j hj => (hth j (by omega)).1) (fun j hj => (hth j (by omega)).2) h1
  rw [hn] at hrun
  unfold Oper.wp
  simp [execOp, ho, resolve, invoke, builtin, hd, hs, hrun, Result.andThen]
  exact hK _ _ h

theorem zeroI : ∀ w, (zeroValue 3).run Try.prog w = .ok (.int .i64 0) w := by
  intro w
  obtain ⟨i, hi, h3, -, -⟩ := inInfo
  simp [zeroValue, typeInfo, hi, h3]

set_option maxRecDepth 20000 in
set_option maxHeartbeats 2000000 in
theorem joincl_any (N M o : Nat) (f h : Nat → Nat) (hNM : N ≠ M) (hf : ∀ t, f t ≤ 1000) (hh : ∀ t, h t ≤ 1000) (w : World) (hth : w.there N 0 5) (hN : ∀ t, t < 5 → w.cell? ⟨N, t, none⟩ = some (.int .i64 (f t))) (hM : ∀ t, t < 5 → w.cell? ⟨M, o + t, none⟩ = some (.int .i64 (h t))) :
    Calls Try.prog 24 #[.slice (some ⟨N, 0, none⟩) 5 5, .slice (some ⟨M, o, none⟩) 5 5] w fun e w' => e = .returned (.tuple #[]) ∧ (∀ t, t < 5 → w'.cell? ⟨N, t, none⟩ = some (.int .i64 ((max (f t) (h t) : Nat) : Int))) ∧ Edit N (N + 1) w w' := by
  have HF := hide' hf
  have HH := hide' hh
  have HT := hide' hth
  have HN := hide' hN
  have HM := hide' hM
  have hNM' := hide' hNM
  clear hf hh hth hN hM hNM
  go_enter Try.func24, Try.ntmps24
  go_wp2
  go_loopw [8] (fun i wr => ∃ (k : Nat), k ≤ 5 ∧ i = .int .i64 k ∧ Hid (∀ t, t < 5 → wr.cell? ⟨N, t, none⟩ = some (.int .i64 ((if t < k then max (f t) (h t) else f t : Nat) : Int))) ∧ Hid (Edit N (N + 1) w wr)) (fun i _ => 5 - (intOf i).toNat)
  case atStart => exact ⟨0, by omega, rfl, (fun t ht => by rw [if_neg (by omega)]; exact HN.out t ht), Edit.refl _ _ _⟩
  case round =>
    obtain ⟨k, hk, rfl, hc, he⟩ := hrel
    by_cases hlt : k < 5
    · have hk2 : (k : Int) < 5 := by omega
      have c0 := hc.out k hlt
      rw [if_neg (by omega)] at c0
      have c1 := (he.out.th _ _ _ HT.out k hlt).2
      rw [Nat.zero_add] at c1
      have d0 := he.out.cell (HM.out k hlt) (by have := hNM'.out; omega)
      have HC0 := hide' c0
      have HNX := hide' (fun v (hv : v = max (f k) (h k)) => (show ∀ t, t < 5 → (wr.setCell ⟨N, k, none⟩ (.int .i64 (v : Nat))).cell? ⟨N, t, none⟩ = some (.int .i64 ((if t < k + 1 then max (f t) (h t) else f t : Nat) : Int)) from fun t ht => by
        by_cases e : t = k
        · subst e
          rw [World.cell?_setCell_same _ _ _ c0, if_pos (by omega), hv]
        · rw [World.cell?_setCell_other _ _ _ _ (by simp <;> omega), hc.out t ht]
          by_cases e2 : t < k
          · rw [if_pos e2, if_pos (by omega)]
          · rw [if_neg e2, if_neg (by omega)]))
      have HE := hide' (fun v => he.out.set N k v (Nat.le_refl _) (Nat.lt_succ_self _))
      have hx := HF.out k
      have hy := HH.out k
      generalize f k = x at c0 hx HNX
      generalize h k = y at d0 hy HNX
      by_cases hxy : (x : Int) < y
      · have HN2 := hide' (HNX.out y (by omega))
        clear HNX HC0
        go_wp2
        go_roundw
        case rel => exact ⟨k + 1, by omega, by go_num, HN2.out, HE.out _⟩
        case measure => simp [intOf]; omega
      · have HN2 := hide' (HNX.out x (by omega))
        clear HNX HC0
        go_wp2
        go_roundw
        case rel => exact ⟨k + 1, by omega, by go_num, HN2.out, HE.out _⟩
        case measure => simp [intOf]; omega
    · have hke : k = 5 := by omega
      have HK := hide' (show ∀ t, t < 5 → wr.cell? ⟨N, t, none⟩ = some (.int .i64 ((max (f t) (h t) : Nat) : Int)) from fun t ht => by have := hc.out t ht; rw [if_pos (by omega)] at this; exact this)
      have hk3 : ¬ (k : Int) < 5 := by omega
      go_wp2_with fail
      first | go_end0 | go_ret
      exact ⟨rfl, HK.out, he.out⟩
end Go.Proofs.Ytclnnboaehpolaa
namespace Go.Proofs.Ytclnnboaehpolaa
open Go.RowKit
open Rd Fl

theorem make_intss (n : Nat) (hn : n ≤ 1048576) (w : World) : (Instr.makeSlice 31 (.int .i64 (n : Int)) (.int .i64 (n : Int))).run Try.prog w = .ok (.slice (some ⟨w.heap.size, 0, none⟩) n n) (w.alloc (.cells (madeCells #[.slice none 0 0] n) 38)) := by
  obtain ⟨i, hi, h3, h1, h2⟩ := intsInfo
  have := run_make (P := Try.prog) w 31 38 i _ Try.underlying31 hi h3 .i64 .i64 n n (by omega) (Int.le_refl _) (by rw [h2]; omega) (by omega)
  rw [h1] at this
  simpa [Value.cells] using this
/-- n clocks, cut out of the block M, their heads in the block g -/
structure ClkM (w wr : World) (n M g : Nat) (j : Nat) : Prop where
  b : Below w.heap.size w wr
  m : w.heap.size ≤ M
  mg : M < g
  z : g < wr.heap.size
  tm : wr.there M 0 (n * 5)
  tg : wr.there g 0 n
  c : ∀ k, k < j → wr.cell? ⟨g, k, none⟩ = some (.slice (some ⟨M, k * 5, none⟩) 5 5)
theorem ClkM.keep {w wr wy : World} {n M g j : Nat} (h : ClkM w wr n M g j) (hb : Below wr.heap.size wr wy) : ClkM w wy n M g j :=
  ⟨h.b.trans (hb.mono h.b.size), h.m, h.mg, Nat.lt_of_lt_of_le h.z hb.size, there_keep hb h.tm, there_keep hb h.tg, fun k hk => keep_cell hb (h.c k hk)⟩

set_option maxRecDepth 20000 in
set_option maxHeartbeats 2000000 in
theorem newcl_any (n : Nat) (hn : n ≤ 200) (w : World) :
    Calls Try.prog 22 #[.int .i64 (n : Int)] w fun e w' => e = .returned (.slice (some ⟨w.heap.size + 1, 0, none⟩) n n) ∧ ClkM w w' n w.heap.size (w.heap.size + 1) n := by
  have hn' : (n : Int) ≤ 200 := by omega
  have h1 := make_ints (n * 5) (by omega)
  rw [Int.natCast_mul] at h1
  have hmk : ∀ w, (Instr.makeSlice 38 (.int .i64 ((n : Int) * 5)) (.int .i64 ((n : Int) * 5))).run Try.prog w = .ok (.slice (some ⟨w.heap.size, 0, none⟩) (n * 5) (n * 5)) (w.alloc (.cells (madeCells #[.int .i64 0] (n * 5)) 3)) := h1
  have hmk2 := make_intss n (by omega)
  clear h1
  have HM0 := hide' (show ClkM w ((w.alloc (.cells (madeCells #[.int .i64 0] (n * 5)) 3)).alloc (.cells (madeCells #[.slice none 0 0] n) 38)) n w.heap.size (w.heap.size + 1) 0 from
    ⟨below2 w _ _, Nat.le_refl _, Nat.lt_succ_self _, by simp, there_keep ((Below.refl _ _).up _) (made_there w _ _ _), by
      have := made_there (w.alloc (.cells (madeCells #[.int .i64 0] (n * 5)) 3)) #[.slice none 0 0] n 38
      rw [show (w.alloc (.cells (madeCells #[.int .i64 0] (n * 5)) 3)).heap.size = w.heap.size + 1 by simp] at this
      exact this, fun k hk => by omega⟩)
  go_enter Try.func22, Try.ntmps22
  go_wp2
  go_loopw [15] (fun i wr => ∃ (k : Nat), k ≤ n ∧ i = .int .i64 k ∧ Hid (ClkM w wr n w.heap.size (w.heap.size + 1) k)) (fun i _ => n - (intOf i).toNat)
  case atStart => exact ⟨0, Nat.zero_le _, rfl, HM0.out⟩
  case round =>
    clear HM0
    obtain ⟨k, hk, rfl, hw⟩ := hrel
    by_cases hlt : k < n
    · have hk2 : (k : Int) < n := by omega
      obtain ⟨x0, y0⟩ := hw.out.tg k hlt
      rw [Nat.zero_add] at x0 y0
      obtain ⟨x1, y1⟩ := Option.isSome_iff_exists.1 x0
      have HNX := hide' (show ClkM w (wr.setCell ⟨w.heap.size + 1, k, none⟩ (.slice (some ⟨w.heap.size, k * 5, none⟩) ((k + 1) * 5 - k * 5) ((k + 1) * 5 - k * 5))) n w.heap.size (w.heap.size + 1) (k + 1) from by
        have h := hw.out
        rw [show (k + 1) * 5 - k * 5 = 5 by omega]
        refine ⟨h.b.setCell (p := ⟨w.heap.size + 1, k, none⟩) (by show w.heap.size ≤ w.heap.size + 1; omega) _, h.m, h.mg, by rw [World.size_setCell]; exact h.z, there_set h.tm _ _ _, there_set h.tg _ _ _, fun j hj => ?_⟩
        by_cases e : j = k
        · subst e
          rw [World.cell?_setCell_same _ _ _ y1]
        · rw [World.cell?_setCell_other _ _ _ _ (by simp <;> omega)]
          exact h.c j (by omega))
      go_wp2
      go_roundw
      case rel => exact ⟨k + 1, by omega, by go_num, HNX.out⟩
      case measure => simp [intOf]; omega
    · have hke : k = n := by omega
      subst hke
      go_wp2
      go_ret
      exact ⟨rfl, hw.out⟩
end Go.Proofs.Ytclnnboaehpolaa
