/- slices.Concat over lists of ops. -/
import Derived.Test.YtddapifljinjeaaDoorPrgE
import Derived.Test.YtddapifljinjeaaDoorRg
import Derived.Maps.AppendAt
import Derived.Lib.AppendZeros
import Derived.Deep.AppendSrc
namespace Go.Proofs.YtddapifljinjeaaDoor
open Go.RowKit
open Rd Fl

theorem opInfo : ∃ i, Tryd.prog.info? 43 = some i ∧ i.zero = some (.agg #[.int .i64 0, .int .i64 0, .int .i64 0, .float .f64 0]) ∧ i.size = 4 ∧ i.bytes = 32 := by
  cases hi : Tryd.prog.info? 43 with
  | none => have := opSize; rw [hi] at this; cases this
  | some i =>
    exact ⟨i, rfl, by have := opZero; rw [hi] at this; simpa using this, by have := opSize; rw [hi] at this; simpa using this, by have := opBytes; rw [hi] at this; simpa using this⟩

/-- A nil slice appended to a row: nothing happens. -/
theorem wpList_append_none {P : Program} {w : World} {ops : Array Oper} {rest : List Oper} {o : Oper} {a : Act} {Q : Exit → Act → World → Prop} (hgd : o.guard = none) (s x : Operand) (t : TypeId)
    (ho : o.op = .call { callee := .builtin .append, args := #[s, x], argTypes := #[t, t] }) (e : TypeId) (i : TypeInfo) (ht : P.underlying t = some (.slice e)) (hi : P.info? e = some i) (base size : Nat) (v : Value) (n c : Nat) (xs : List Value)
    (hs : a.eval s = v) (hown : w.ownsRow base e size v n xs) (hx : a.eval x = .slice none 0 c) (h : ∀ v', v' = v → wpList P ops Q rest (a.put o.dst v') w) : wpList P ops Q (o :: rest) a w := by
  refine wpList_plain hgd fun K hK => ?_
  have hr : (Builtin.append_ #[t, t] o.type #[v, .slice none 0 c]).run P w = .ok v w := by
    rcases hown.2 with ⟨rfl, -⟩ | ⟨g, cap, cur, rfl, -, -, hn, -⟩
    · simp [Builtin.append_, run_underlying ht, sizeOf, typeInfo, hi, Builtin.lenOf, run_firstCells_none w i.size 0 0 c]
    · exact run_append_room_src (P := P) w t t o.type e i ht hi g 0 n cap (.slice none 0 c) 0 [] (Src.ofNil w ht c) (by omega) (fun j hj => by cases hj) (fun j hj => by cases hj)
  unfold Oper.wp execOp
  simp only [ho, resolve, invoke, builtin, Sem.run_bind, Sem.run_pure, Result.andThen_ok, List.map_toArray, List.map_cons, List.map_nil, hs, hx, hr]
  exact hK _ _ (h _ rfl)

/-- the cells of ops -/
def opsC (l : List OpD) : List Value := l.flatMap OpD.cells
theorem opsC_nil : opsC [] = [] := rfl
theorem opsC_append (l m : List OpD) : opsC (l ++ m) = opsC l ++ opsC m := by simp [opsC]
theorem opsC_len (l : List OpD) : (opsC l).length = l.length * 4 := by
  induction l with
  | nil => rfl
  | cons o t ih => show (o.cells ++ opsC t).length = _; rw [List.length_append, ih]; simp [OpD.cells]; omega
theorem opsC_get (l : List OpD) : ∀ (i j : Nat) (o : OpD), l[i]? = some o → j < 4 → (opsC l)[i * 4 + j]? = o.cells[j]? := by
  induction l with
  | nil => intro i j o h; cases h
  | cons x t ih =>
    intro i j o h hj
    have hx : x.cells.length = 4 := rfl
    show (x.cells ++ opsC t)[i * 4 + j]? = _
    match i, h with
    | 0, h =>
      have : x = o := by simpa using h
      subst this
      rw [List.getElem?_append_left (by omega)]
      congr 1; omega
    | i + 1, h =>
      rw [List.getElem?_append_right (by omega), hx, show (i + 1) * 4 + j - 4 = i * 4 + j by omega]
      exact ih i j o (by simpa using h) hj
theorem opsC_one (l : List OpD) : ∀ u ∈ opsC l, u.oneCell' = true := by
  intro u hu
  obtain ⟨o, -, hu⟩ := List.mem_flatMap.1 hu
  simp only [OpD.cells, List.mem_cons, List.not_mem_nil, or_false] at hu
  rcases hu with rfl | rfl | rfl | rfl <;> rfl
theorem opsC_news {w : World} {b off : Nat} {l : List OpD} (h : ∀ i o, l[i]? = some o → w.rangeAt b (off + i * 4) o.cells) : ∀ j u, (opsC l)[j]? = some u → w.cell? ((⟨b, off, none⟩ : Addr).add j) = some u := by
  intro j u hu
  have hj := (List.getElem?_eq_some_iff.1 hu).1
  rw [opsC_len] at hj
  have hi : j / 4 < l.length := by omega
  have h1 := opsC_get l (j / 4) (j % 4) l[j / 4] (List.getElem?_eq_getElem hi) (by omega)
  rw [show j / 4 * 4 + j % 4 = j by omega, hu] at h1
  have h2 := h (j / 4) l[j / 4] (List.getElem?_eq_getElem hi) (j % 4) u h1.symm
  rw [Addr.add_lit]
  rw [show off + j / 4 * 4 + j % 4 = off + j by omega] at h2
  exact h2
theorem opsC_at {w : World} {base n : Nat} {v : Value} {l : List OpD} (h : w.ownsRow base 43 4 v n (opsC l)) (hn : n = l.length) : ∃ A cap, v = .slice A l.length cap ∧ OpsAt w A l := by
  subst hn
  rcases h.2 with ⟨rfl, h0⟩ | ⟨g, cap, cur, rfl, hb, hg, hrest⟩
  · exact ⟨none, 0, by rw [h0], 0, 0, (fun hne => absurd (List.length_eq_zero_iff.1 h0) hne), fun i o hi => by rw [List.length_eq_zero_iff.1 h0] at hi; cases hi⟩
  · refine ⟨some ⟨g, 0, none⟩, cap, rfl, g, 0, fun _ => rfl, fun i o hi j u hu => ?_⟩
    have hil := (List.getElem?_eq_some_iff.1 hi).1
    have hj : j < 4 := (List.getElem?_eq_some_iff.1 hu).1
    have := h.cellAt (i * 4 + j) (by omega)
    rw [opsC_get l i j o hi hj, hu] at this
    rw [show 0 + i * 4 + j = i * 4 + j by omega]
    exact this

set_option maxRecDepth 20000 in
set_option maxHeartbeats 2000000 in
theorem growop_any (n : Nat) (hn : n ≤ 4000) (w : World) : Calls Tryd.prog 28 #[.slice none 0 0, .int .i64 n] w fun e w' => (∃ v, e = .returned v ∧ w'.ownsRow w.heap.size 43 4 v 0 []) ∧ Below w.heap.size w w' := by
  obtain ⟨i0, hi, hz0, hz1, hz2⟩ := opInfo
  have hn' : (n : Int) ≤ 4000 := by omega
  by_cases h0 : n = 0
  · subst h0
    go_enter Tryd.func28, Tryd.ntmps28
    go_wp2_with fail
    go_ret
    exact ⟨⟨_, rfl, World.ownsRow_nil _ _ _ _⟩, Below.refl _ _⟩
  · have h0' : (0 : Int) < n := by omega
    have HR := hide' (fun ty => Lib.run_append_nil_zeros w 40 3 ty 43 i0 _ .i64 .i64 Tryd.underlying40 Tryd.underlying3 hi hz0 n (by omega) (by omega) (by omega) (by rw [hz2]; omega))
    have HG := hide' (grownCap_ge w n 0 43)
    have HM := hide' (grownCap_le_maxLen w n 0 43 (by unfold maxLen; omega))
    generalize grownCap w n 0 43 = G at HR HG HM
    go_enter Tryd.func28, Tryd.ntmps28
    go_wp2_with (at_builtin; refine Lib.wpList_append_run _ rfl _ _ _ _ rfl _ _ rfl rfl _ _ (HR.out _) ?_)
    go_ret
    refine ⟨⟨_, rfl, ?_⟩, ?_⟩
    · exact ⟨by simp, .inr ⟨w.heap.size, G, _, rfl, Nat.le_refl _, heap_alloc_new _ _, Nat.zero_le _, HM.out, by have := HG.out; simp [size_zeroCells]; omega, by simp⟩⟩
    · exact (Below.refl _ w).drew.up _
end Go.Proofs.YtddapifljinjeaaDoor
