/- Maps of a function's own, keyed by ints, told by what they hold. -/
import Derived.Test.YtmflbibogkebmaaMl
import Derived.Maps.RangeWalk
import Derived.Maps.Ext
namespace Go.Proofs.Ytmflbibogkebmaa
open Go.RowKit Go.Maps
open Rd Fl

/-- An element is told by itself. -/
def VR : Value → Option (DataW Value × List MemPlace) := fun v => some (.held v, [])
theorem intKey : Keyed Try.prog 3 := int_keyed (q := .i64) (by kernel_rfl)
def wfI (x : Int) : Prop := (Lit.int .i64 x).wf = true
/-- f, but v at x -/
def putF (f : Int → Option Value) (x : Int) (v : Value) : Int → Option Value := fun y => if y = x then some v else f y
/-- f, but nothing at x -/
def delF (f : Int → Option Value) (x : Int) : Int → Option Value := fun y => if y = x then none else f y
/-- D holds what f tells. -/
def TellsF (D : DataW Value) (f : Int → Option Value) : Prop :=
  IsMap D ∧ ∀ x, wfI x → Maps.has D (.int .i64 x) = (f x).isSome ∧ ∀ z, D.atKey (.int .i64 x) z = match f x with | some v => .held v | none => z
/-- Block b is a map of at most n entries that holds what f tells. -/
def MapV (w : World) (b n : Nat) (f : Int → Option Value) : Prop := ∃ D, w.ownsMap Try.prog 3 VR b n D ∧ TellsF D f
theorem MapV.lt {w : World} {b n : Nat} {f : Int → Option Value} (h : MapV w b n f) : b < w.heap.size := by obtain ⟨D, h, -⟩ := h; exact h.lt
theorem own_block {w w' : World} {b n : Nat} {D : DataW Value} (h : w.ownsMap Try.prog 3 VR b n D) (e : w'.heap[b]? = w.heap[b]?) : w'.ownsMap Try.prog 3 VR b n D := by
  obtain ⟨es, clock, hb, r⟩ := h
  exact ⟨es, clock, by rw [e]; exact hb, r⟩
theorem MapV.keep {w w' : World} {b n : Nat} {f : Int → Option Value} (h : MapV w b n f) (hb : Below w.heap.size w w') : MapV w' b n f := by
  have hlt := h.lt
  obtain ⟨D, h1, h2⟩ := h
  exact ⟨D, own_block h1 (hb.block b hlt), h2⟩
theorem MapV.edit {w w' : World} {b n : Nat} {f : Int → Option Value} (h : MapV w b n f) {lo hi : Nat} (he : Edit lo hi w w') (hp : b < lo ∨ hi ≤ b) : MapV w' b n f := by
  have hlt := h.lt
  obtain ⟨D, h1, h2⟩ := h
  refine ⟨D, own_block h1 ?_, h2⟩
  rcases hp with hp | hp
  · exact he.b.block b hp
  · exact he.up b hp hlt
theorem MapV.row {w w' : World} {b n : Nat} {f : Int → Option Value} (h : MapV w b n f) {row : Option Nat} (hg : w.grownBy w' row) (hne : some b ≠ row) : MapV w' b n f := by
  obtain ⟨D, h1, h2⟩ := h
  exact ⟨D, h1.kept hg hne, h2⟩
theorem MapV.set {w : World} {b n : Nat} {f : Int → Option Value} (h : MapV w b n f) (a : Addr) (ha : b ≠ a.block) (u : Value) : MapV (w.setCell a u) b n f := by
  obtain ⟨D, h1, h2⟩ := h
  exact ⟨D, h1.setCell ha u, h2⟩
theorem MapV.cong {w : World} {b n : Nat} {f g : Int → Option Value} (h : MapV w b n f) (e : ∀ x, f x = g x) : MapV w b n g := by
  have : f = g := funext e
  subst this; exact h
theorem MapV.more {w : World} {b n m : Nat} {f : Int → Option Value} (h : MapV w b n f) (e : n ≤ m) : MapV w b m f := by
  obtain ⟨D, h1, h2⟩ := h
  exact ⟨D, h1.mono e, h2⟩
theorem tells_made : TellsF (.map [] : DataW Value) fun _ => none := ⟨isMap_empty, fun _ _ => ⟨rfl, fun _ => rfl⟩⟩
theorem mapv_made (w : World) : MapV (w.alloc (.map #[] 0)) w.heap.size 0 fun _ => none := ⟨_, World.ownsMap_made w Try.prog 3 VR, tells_made⟩
theorem isKey_int {x : Int} (h : wfI x) : WideAt.IsKeyLit (.int .i64 x) := intKey.key (keyOf_int_mk (q := .i64) (by kernel_rfl) h)
theorem lit_ne {x y : Int} (h : y ≠ x) : (Lit.int .i64 y) ≠ .int .i64 x := by intro e; cases e; exact h rfl
theorem tells_put {D : DataW Value} {f : Int → Option Value} (h : TellsF D f) {x : Int} (hx : wfI x) (v : Value) : TellsF (D.put (.int .i64 x) (.held v)) (putF f x v) := by
  refine ⟨h.1.put _ _, fun y hy => ?_⟩
  unfold putF
  by_cases e : y = x
  · subst e
    rw [if_pos rfl]
    exact ⟨by rw [has_put_same h.1 (isKey_int hy)]; rfl, fun z => by rw [atKey_put_same h.1 (isKey_int hy)]⟩
  · rw [if_neg e]
    exact ⟨by rw [has_put_other (lit_ne e)]; exact (h.2 y hy).1, fun z => by rw [atKey_put_other (lit_ne e)]; exact (h.2 y hy).2 z⟩
theorem tells_del {D : DataW Value} {f : Int → Option Value} (h : TellsF D f) {x : Int} : TellsF (D.del (.int .i64 x)) (delF f x) := by
  refine ⟨h.1.del _, fun y hy => ?_⟩
  unfold delF
  by_cases e : y = x
  · subst e
    rw [if_pos rfl]
    exact ⟨by rw [has_del_same]; rfl, fun z => by rw [atKey_del_same]⟩
  · rw [if_neg e]
    exact ⟨by rw [has_del_other (lit_ne e)]; exact (h.2 y hy).1, fun z => by rw [atKey_del_other (lit_ne e)]; exact (h.2 y hy).2 z⟩
theorem key_int {x : Int} (h : wfI x) : keyOf Try.prog 3 (.int .i64 x) = some (.int .i64 x) := keyOf_int_mk (q := .i64) (by kernel_rfl) h
theorem wfI_of {x : Int} (h : -9223372036854775808 ≤ x) (h' : x ≤ 9223372036854775807) : wfI x := WalkArith.wf_i64 ⟨h, h'⟩

section
variable {P : Program} (w : World) {ops : Array Oper} {rest : List Oper} {o : Oper} {a : Act} {Q : Exit → Act → World → Prop}

/-- 'm[x]' -/
theorem mv_look (hg : o.guard = none) (m x : Operand) (t : TypeId) (hop : o.op = Op.lookup t m x false) (e : TypeId) (ht : Try.prog.underlying t = some (.map 3 e)) (z : Value) (hz : (zeroValue e).run Try.prog w = .ok z w)
    (b n : Nat) (f : Int → Option Value) (hm : a.eval m = .map (some b)) (hown : MapV w b n f) (k : Int) (hk : wfI k) (hx : a.eval x = .int .i64 k) (v : Value) (hv : (f k).getD z = v)
    (hK : wpList Try.prog ops Q rest (a.put o.dst v) w) : wpList Try.prog ops Q (o :: rest) a w := by
  refine wpList_plain hg fun K' hK' => ?_
  obtain ⟨D, hD, hf⟩ := hown
  obtain ⟨u, ps, hrun, hu⟩ := hD.lookup intKey ht hz (zd := .held z) (zp := []) rfl (key_int hk)
  rw [(hf.2 k hk).2] at hu
  have e1 : u = v := by
    unfold VR at hu
    cases hfk : f k with
    | none => rw [hfk] at hu hv; simp at hu hv; rw [hu.1, hv]
    | some y => rw [hfk] at hu hv; simp at hu hv; rw [hu.1, hv]
  subst e1
  unfold Oper.wp
  simp [execOp, hop, hm, hx, hrun, Result.andThen]
  exact hK' _ _ hK

/-- 'v, ok := m[x]' -/
theorem mv_look_ok (hg : o.guard = none) (m x : Operand) (t : TypeId) (hop : o.op = Op.lookup t m x true) (e : TypeId) (ht : Try.prog.underlying t = some (.map 3 e)) (z : Value) (hz : (zeroValue e).run Try.prog w = .ok z w)
    (b n : Nat) (f : Int → Option Value) (hm : a.eval m = .map (some b)) (hown : MapV w b n f) (k : Int) (hk : wfI k) (hx : a.eval x = .int .i64 k) (v : Value) (c : Bool) (hv : (f k).getD z = v) (hc : (f k).isSome = c)
    (hK : wpList Try.prog ops Q rest (a.put o.dst (.tuple #[v, .bool c])) w) : wpList Try.prog ops Q (o :: rest) a w := by
  refine wpList_plain hg fun K' hK' => ?_
  obtain ⟨D, hD, hf⟩ := hown
  obtain ⟨u, ps, hrun, hu⟩ := hD.look_ok intKey ht hz (zd := .held z) (zp := []) rfl (key_int hk)
  rw [(hf.2 k hk).2] at hu
  rw [(hf.2 k hk).1, hc] at hrun
  have e1 : u = v := by
    unfold VR at hu
    cases hfk : f k with
    | none => rw [hfk] at hu hv; simp at hu hv; rw [hu.1, hv]
    | some y => rw [hfk] at hu hv; simp at hu hv; rw [hu.1, hv]
  subst e1
  unfold Oper.wp
  simp [execOp, hop, hm, hx, hrun, Result.andThen]
  exact hK' _ _ hK

/-- 'm[x] = v' -/
theorem mv_put (hg : o.guard = none) (m x v : Operand) (t : TypeId) (hop : o.op = Op.mapUpdate t m x v) (e : TypeId) (ht : Try.prog.underlying t = some (.map 3 e))
    (b n : Nat) (f : Int → Option Value) (hm : a.eval m = .map (some b)) (hown : MapV w b n f) (hn : n ≤ 1048576) (k : Int) (hk : wfI k) (u : Value) (hx : a.eval x = .int .i64 k) (hu : a.eval v = u)
    (hK : ∀ w', MapV w' b (n + 1) (putF f k u) → w.grownBy w' (some b) → wpList Try.prog ops Q rest (a.put o.dst undef) w') : wpList Try.prog ops Q (o :: rest) a w := by
  obtain ⟨D, hD, hf⟩ := hown
  exact wpList_mapUpdate_own w hg m x v t hop 3 e intKey ht VR b n D hm hD (by unfold maxLen; omega) _ u _ hx hu (key_int hk) (.held u) [] rfl (fun w' h1 h2 => hK w' ⟨_, h1, tells_put hf hk u⟩ h2)

/-- 'delete(m, x)' -/
theorem mv_del (hg : o.guard = none) (m x : Operand) (t : TypeId) (hop : o.op = Op.call { callee := Callee.builtin Builtin.delete, args := #[m, x], argTypes := #[t, 3] }) (e : TypeId) (ht : Try.prog.underlying t = some (.map 3 e))
    (b n : Nat) (f : Int → Option Value) (hm : a.eval m = .map (some b)) (hown : MapV w b n f) (k : Int) (hk : wfI k) (hx : a.eval x = .int .i64 k)
    (hK : ∀ w', MapV w' b n (delF f k) → w.grownBy w' (some b) → wpList Try.prog ops Q rest (a.put o.dst (.tuple #[])) w') : wpList Try.prog ops Q (o :: rest) a w := by
  obtain ⟨D, hD, hf⟩ := hown
  exact wpList_delete_own w hg m x t 3 hop e intKey ht VR b n D hm hD _ _ hx (key_int hk) (fun w' h1 h2 => hK w' ⟨_, h1, tells_del hf⟩ h2.grown)
end

/-- the keys met so far, while a map is gone through -/
structure Coll (D : DataW Value) (left : Lit → Bool) (ks : List Int) : Prop where
  n : ks.Nodup
  w : ∀ x ∈ ks, wfI x
  h : ∀ x, wfI x → (x ∈ ks ↔ Maps.has D (.int .i64 x) = true ∧ left (.int .i64 x) = false)
theorem Coll.start (D : DataW Value) : Coll D (Maps.has D) [] := ⟨List.nodup_nil, (fun x h => by cases h), fun x _ => ⟨(fun h => by cases h), fun h => by rw [h.1] at h; cases h.2⟩⟩
theorem Coll.step {D : DataW Value} {left : Lit → Bool} {ks : List Int} (h : Coll D left ks) {x : Int} (hx : wfI x) (hl : left (.int .i64 x) = true) {y : DataW Value} (ha : ∀ z, D.atKey (.int .i64 x) z = y) : Coll D (fun z => left z && !z.sameKey (.int .i64 x)) (ks ++ [x]) := by
  have hn : x ∉ ks := fun hm => by have := ((h.h x hx).1 hm).2; rw [hl] at this; cases this
  refine ⟨?_, ?_, fun z hz => ?_⟩
  · rw [List.nodup_append]
    refine ⟨h.n, by simp, fun a ha' b hb => ?_⟩
    rw [List.mem_singleton] at hb
    intro e
    rw [e, hb] at ha'
    exact hn ha'
  · intro z hz
    rw [List.mem_append, List.mem_singleton] at hz
    rcases hz with hz | rfl
    · exact h.w z hz
    · exact hx
  · rw [List.mem_append, List.mem_singleton, h.h z hz]
    by_cases e : z = x
    · subst e
      have h1 := has_true_of_atKey ha
      have h2 := WideAt.sameKey_self (isKey_int hz)
      rw [h1, hl, h2]
      simp
    · have h3 : (Lit.int .i64 z).sameKey (.int .i64 x) = false := sameKey_ne (lit_ne e)
      rw [h3]
      simp [e]
theorem Coll.all {D : DataW Value} {left : Lit → Bool} {ks : List Int} (h : Coll D left ks) (hl : ∀ k, left k = false) {f : Int → Option Value} (hf : TellsF D f) {x : Int} (hx : wfI x) : x ∈ ks ↔ (f x).isSome = true := by
  rw [h.h x hx, hl, (hf.2 x hx).1]
  simp
end Go.Proofs.Ytmflbibogkebmaa
