/- Keys that are pairs of ints. Maps of a function's own, keyed by pairs of ints, told by what they hold. -/
import Derived.Test.YtmflbibogkebmaaVm
import Derived.DeepKeys4
namespace Go.Proofs.Ytmflbibogkebmaa
open Go.RowKit Go.Maps
open Rd Fl

/-- a pair as the map's key, and as it is told -/
def kv (p : Int × Int) : Value := .agg #[.int .i64 p.1, .int .i64 p.2]
def kl (p : Int × Int) : Lit := .string (keyBytes [.int .i64 p.1, .int .i64 p.2])
def wfP (p : Int × Int) : Prop := wfI p.1 ∧ wfI p.2
theorem underA : Try.prog.underlying 78 = some (.array 2 3) := by kernel_rfl
theorem keyTA : Try.prog.keyType 78 = true := by kernel_rfl
theorem keyTA2 : Try.prog.keyTypeAt 2 78 = true := by kernel_rfl
theorem tiledA : Try.prog.tiled 2 78 = true := by kernel_rfl
theorem cellsA : Try.prog.cellsOf 78 = 2 := by kernel_rfl
theorem cells3 : Try.prog.cellsOf 3 = 1 := by kernel_rfl
theorem lawA : WideMaps.KeyLaw Try.prog 78 := deep_law (m := 2) (by omega) keyTA2 tiledA (by rw [underA])
theorem keyedA : Keyed Try.prog 78 := Keyed.of_law lawA
theorem under3' : Try.prog.underlying 3 = some (.int .i64) := by kernel_rfl
theorem wfI_iff {x : Int} : wfI x ↔ (Lit.int .i64 x).wf = true := Iff.rfl
theorem lits3 {d : Nat} {x : Int} (h : wfI x) : Try.prog.keyLits (d + 1) 3 [.int .i64 x] = some [.int .i64 x] := by
  unfold Program.keyLits
  rw [under3']
  simp only [true_and]
  rw [if_pos (show (Lit.int .i64 x).wf = true from h)]
theorem litsA {d : Nat} {p : Int × Int} (h : wfP p) : Try.prog.keyLits (d + 2) 78 [.int .i64 p.1, .int .i64 p.2] = some [.int .i64 p.1, .int .i64 p.2] := by
  unfold Program.keyLits
  rw [underA]
  simp only [cellsA, cells3, List.length_cons, List.length_nil, if_true, List.range_succ, List.range_zero]
  have h1 := lits3 (d := d) h.1
  have h2 := lits3 (d := d) h.2
  simp [h1, h2]
theorem sizeA1 : 1 ≤ Try.prog.types.size := by decide +kernel
theorem sizeA : ∃ d, Try.prog.types.size + 1 = d + 2 := by
  have := sizeA1
  exact ⟨Try.prog.types.size - 1, by omega⟩
theorem formedA (p : Int × Int) : (kv p).formed Try.prog 78 = true := by simp [kv, Value.formed, cellsA]
theorem key_p {p : Int × Int} (h : wfP p) : keyOf Try.prog 78 (kv p) = some (kl p) := by
  obtain ⟨d, hd⟩ := sizeA
  unfold keyOf
  rw [underA]
  simp only [keyTA, formedA, Bool.and_self, if_true]
  rw [hd]
  show (Try.prog.keyLits (d + 2) 78 [.int .i64 p.1, .int .i64 p.2]).map _ = _
  rw [litsA h]
  rfl
theorem kl_inj {p q : Int × Int} (hp : wfP p) (hq : wfP q) (h : kl p = kl q) : p = q := by
  have h1 := key_p hp
  rw [h] at h1
  have h2 := keyedA.inj h1 (key_p hq)
  unfold kv at h2
  simp at h2
  exact Prod.ext h2.1 h2.2
theorem kl_ne {p q : Int × Int} (hp : wfP p) (hq : wfP q) (h : q ≠ p) : kl q ≠ kl p := fun e => h (kl_inj hq hp e)
theorem isKey_p {p : Int × Int} (h : wfP p) : WideAt.IsKeyLit (kl p) := keyedA.key (key_p h)
set_option maxRecDepth 20000 in
/-- whatever is a key is a pair -/
theorem key_inv {v : Value} {l : Lit} (h : keyOf Try.prog 78 v = some l) : ∃ p, v = kv p ∧ l = kl p ∧ wfP p := by
  have hh := h
  obtain ⟨d, hd⟩ := sizeA
  unfold keyOf at h
  rw [underA] at h
  simp only [keyTA, Bool.true_and] at h
  split at h
  · rename_i hf
    rw [hd] at h
    cases hl : Try.prog.keyLits (d + 2) 78 v.cells.toList with
    | none => rw [hl] at h; cases h
    | some ls =>
      rw [hl] at h
      have hv : ∃ cs, v = .agg cs ∧ cs.size = 2 := by
        cases v <;> simp [Value.formed, cellsA] at hf
        exact ⟨_, rfl, hf⟩
      obtain ⟨cs, rfl, hcs⟩ := hv
      obtain ⟨a, b, rfl⟩ : ∃ a b, cs = #[a, b] := by
        obtain ⟨l⟩ := cs
        match l, hcs with
        | [a, b], _ => exact ⟨a, b, rfl⟩
      unfold Program.keyLits at hl
      rw [underA] at hl
      simp only [Value.cells, cellsA, cells3, List.length_cons, List.length_nil, if_true, List.range_succ, List.range_zero] at hl
      cases ha : Try.prog.keyLits (d + 1) 3 [a] with
      | none => exfalso; simp [ha] at hl
      | some la =>
        cases hb : Try.prog.keyLits (d + 1) 3 [b] with
        | none => exfalso; simp [ha, hb] at hl
        | some lb =>
          obtain ⟨x, ea, rfl⟩ := keyLits_int' under3' ha
          obtain ⟨y, eb, rfl⟩ := keyLits_int' under3' hb
          simp at ea eb
          subst ea; subst eb
          have hx : wfI x := by
            unfold Program.keyLits at ha
            rw [under3'] at ha
            simp at ha
            exact ha
          have hy : wfI y := by
            unfold Program.keyLits at hb
            rw [under3'] at hb
            simp at hb
            exact hb
          have e := key_p (p := (x, y)) ⟨hx, hy⟩
          unfold kv at e
          rw [e] at hh
          exact ⟨(x, y), rfl, (Option.some.inj hh).symm, hx, hy⟩
  · cases h
end Go.Proofs.Ytmflbibogkebmaa
namespace Go.Proofs.Ytmflbibogkebmaa
open Go.RowKit Go.Maps
open Rd Fl

/-- f, but v at x -/
def putG (f : Int × Int → Option Value) (x : Int × Int) (v : Value) : Int × Int → Option Value := fun y => if y = x then some v else f y
/-- D holds what f tells. -/
def TellsG (D : DataW Value) (f : Int × Int → Option Value) : Prop :=
  IsMap D ∧ ∀ x, wfP x → Maps.has D (kl x) = (f x).isSome ∧ ∀ z, D.atKey (kl x) z = match f x with | some v => .held v | none => z
/-- Block b is a map of at most n entries that holds what f tells. -/
def MapP (w : World) (b n : Nat) (f : Int × Int → Option Value) : Prop := ∃ D, w.ownsMap Try.prog 78 VR b n D ∧ TellsG D f
theorem MapP.lt {w : World} {b n : Nat} {f : Int × Int → Option Value} (h : MapP w b n f) : b < w.heap.size := by obtain ⟨D, h, -⟩ := h; exact h.lt
theorem own_block_p {w w' : World} {b n : Nat} {D : DataW Value} (h : w.ownsMap Try.prog 78 VR b n D) (e : w'.heap[b]? = w.heap[b]?) : w'.ownsMap Try.prog 78 VR b n D := by
  obtain ⟨es, clock, hb, r⟩ := h
  exact ⟨es, clock, by rw [e]; exact hb, r⟩
theorem MapP.keep {w w' : World} {b n : Nat} {f : Int × Int → Option Value} (h : MapP w b n f) (hb : Below w.heap.size w w') : MapP w' b n f := by
  have hlt := h.lt
  obtain ⟨D, h1, h2⟩ := h
  exact ⟨D, own_block_p h1 (hb.block b hlt), h2⟩
theorem MapP.edit {w w' : World} {b n : Nat} {f : Int × Int → Option Value} (h : MapP w b n f) {lo hi : Nat} (he : Edit lo hi w w') (hp : b < lo ∨ hi ≤ b) : MapP w' b n f := by
  have hlt := h.lt
  obtain ⟨D, h1, h2⟩ := h
  refine ⟨D, own_block_p h1 ?_, h2⟩
  rcases hp with hp | hp
  · exact he.b.block b hp
  · exact he.up b hp hlt
theorem MapP.row {w w' : World} {b n : Nat} {f : Int × Int → Option Value} (h : MapP w b n f) {row : Option Nat} (hg : w.grownBy w' row) (hne : some b ≠ row) : MapP w' b n f := by
  obtain ⟨D, h1, h2⟩ := h
  exact ⟨D, h1.kept hg hne, h2⟩
theorem MapP.set {w : World} {b n : Nat} {f : Int × Int → Option Value} (h : MapP w b n f) (a : Addr) (ha : b ≠ a.block) (u : Value) : MapP (w.setCell a u) b n f := by
  obtain ⟨D, h1, h2⟩ := h
  exact ⟨D, h1.setCell ha u, h2⟩
theorem MapP.cong {w : World} {b n : Nat} {f g : Int × Int → Option Value} (h : MapP w b n f) (e : ∀ x, f x = g x) : MapP w b n g := by
  have : f = g := funext e
  subst this; exact h
theorem MapP.more {w : World} {b n m : Nat} {f : Int × Int → Option Value} (h : MapP w b n f) (e : n ≤ m) : MapP w b m f := by
  obtain ⟨D, h1, h2⟩ := h
  exact ⟨D, h1.mono e, h2⟩
theorem tellsg_made : TellsG (.map [] : DataW Value) fun _ => none := ⟨isMap_empty, fun _ _ => ⟨rfl, fun _ => rfl⟩⟩
theorem mapp_made (w : World) : MapP (w.alloc (.map #[] 0)) w.heap.size 0 fun _ => none := ⟨_, World.ownsMap_made w Try.prog 78 VR, tellsg_made⟩
theorem tellsg_put {D : DataW Value} {f : Int × Int → Option Value} (h : TellsG D f) {x : Int × Int} (hx : wfP x) (v : Value) : TellsG (D.put (kl x) (.held v)) (putG f x v) := by
  refine ⟨h.1.put _ _, fun y hy => ?_⟩
  unfold putG
  by_cases e : y = x
  · subst e
    rw [if_pos rfl]
    exact ⟨by rw [has_put_same h.1 (isKey_p hy)]; rfl, fun z => by rw [atKey_put_same h.1 (isKey_p hy)]⟩
  · rw [if_neg e]
    exact ⟨by rw [has_put_other (kl_ne hx hy e)]; exact (h.2 y hy).1, fun z => by rw [atKey_put_other (kl_ne hx hy e)]; exact (h.2 y hy).2 z⟩
section
variable {P : Program} (w : World) {ops : Array Oper} {rest : List Oper} {o : Oper} {a : Act} {Q : Exit → Act → World → Prop}

/-- 'm[x]' -/
theorem mp_look (hg : o.guard = none) (m x : Operand) (t : TypeId) (hop : o.op = Op.lookup t m x false) (e : TypeId) (ht : Try.prog.underlying t = some (.map 78 e)) (z : Value) (hz : (zeroValue e).run Try.prog w = .ok z w)
    (b n : Nat) (f : Int × Int → Option Value) (hm : a.eval m = .map (some b)) (hown : MapP w b n f) (k : Int × Int) (hk : wfP k) (hx : a.eval x = kv k) (v : Value) (hv : (f k).getD z = v)
    (hK : wpList Try.prog ops Q rest (a.put o.dst v) w) : wpList Try.prog ops Q (o :: rest) a w := by
  refine wpList_plain hg fun K' hK' => ?_
  obtain ⟨D, hD, hf⟩ := hown
  obtain ⟨u, ps, hrun, hu⟩ := hD.lookup keyedA ht hz (zd := .held z) (zp := []) rfl (key_p hk)
  rw [(hf.2 k hk).2] at hu
  have e1 : u = v := by
    unfold VR at hu
    cases hfk : f k with
    | none => rw [hfk] at hu hv; simp at hu hv; rw [hu.1, hv]
    | some y => rw [hfk] at hu hv; simp at hu hv; rw [hu.1, hv]
  subst e1
  unfold Oper.wp
  simp [execOp, hop, hm, hx, hrun, Result.andThen]
  exact hK' _ _ hK

/-- 'v, ok := m[x]' -/
theorem mp_look_ok (hg : o.guard = none) (m x : Operand) (t : TypeId) (hop : o.op = Op.lookup t m x true) (e : TypeId) (ht : Try.prog.underlying t = some (.map 78 e)) (z : Value) (hz : (zeroValue e).run Try.prog w = .ok z w)
    (b n : Nat) (f : Int × Int → Option Value) (hm : a.eval m = .map (some b)) (hown : MapP w b n f) (k : Int × Int) (hk : wfP k) (hx : a.eval x = kv k) (v : Value) (c : Bool) (hv : (f k).getD z = v) (hc : (f k).isSome = c)
    (hK : wpList Try.prog ops Q rest (a.put o.dst (.tuple #[v, .bool c])) w) : wpList Try.prog ops Q (o :: rest) a w := by
  refine wpList_plain hg fun K' hK' => ?_
  obtain ⟨D, hD, hf⟩ := hown
  obtain ⟨u, ps, hrun, hu⟩ := hD.look_ok keyedA ht hz (zd := .held z) (zp := []) rfl (key_p hk)
  rw [(hf.2 k hk).2] at hu
  rw [(hf.2 k hk).1, hc] at hrun
  have e1 : u = v := by
    unfold VR at hu
    cases hfk : f k with
    | none => rw [hfk] at hu hv; simp at hu hv; rw [hu.1, hv]
    | some y => rw [hfk] at hu hv; simp at hu hv; rw [hu.1, hv]
  subst e1
  unfold Oper.wp
  simp [execOp, hop, hm, hx, hrun, Result.andThen]
  exact hK' _ _ hK

/-- 'm[x] = v' -/
theorem mp_put (hg : o.guard = none) (m x v : Operand) (t : TypeId) (hop : o.op = Op.mapUpdate t m x v) (e : TypeId) (ht : Try.prog.underlying t = some (.map 78 e))
    (b n : Nat) (f : Int × Int → Option Value) (hm : a.eval m = .map (some b)) (hown : MapP w b n f) (hn : n ≤ 1048576) (k : Int × Int) (hk : wfP k) (u : Value) (hx : a.eval x = kv k) (hu : a.eval v = u)
    (hK : ∀ w', MapP w' b (n + 1) (putG f k u) → w.grownBy w' (some b) → wpList Try.prog ops Q rest (a.put o.dst undef) w') : wpList Try.prog ops Q (o :: rest) a w := by
  obtain ⟨D, hD, hf⟩ := hown
  exact wpList_mapUpdate_own w hg m x v t hop 78 e keyedA ht VR b n D hm hD (by unfold maxLen; omega) _ u _ hx hu (key_p hk) (.held u) [] rfl (fun w' h1 h2 => hK w' ⟨_, h1, tellsg_put hf hk u⟩ h2)

end

/-- the keys met so far, while a map is gone through -/
structure CollP (D : DataW Value) (left : Lit → Bool) (ks : List (Int × Int)) : Prop where
  n : ks.Nodup
  w : ∀ x ∈ ks, wfP x
  h : ∀ x, wfP x → (x ∈ ks ↔ Maps.has D (kl x) = true ∧ left (kl x) = false)
theorem CollP.start (D : DataW Value) : CollP D (Maps.has D) [] := ⟨List.nodup_nil, (fun x h => by cases h), fun x _ => ⟨(fun h => by cases h), fun h => by rw [h.1] at h; cases h.2⟩⟩
theorem CollP.step {D : DataW Value} {left : Lit → Bool} {ks : List (Int × Int)} (h : CollP D left ks) {x : Int × Int} (hx : wfP x) (hl : left (kl x) = true) {y : DataW Value} (ha : ∀ z, D.atKey (kl x) z = y) : CollP D (fun z => left z && !z.sameKey (kl x)) (ks ++ [x]) := by
  have hn : x ∉ ks := fun hm => by have := ((h.h x hx).1 hm).2; rw [hl] at this; cases this
  refine ⟨?_, ?_, fun z hz => ?_⟩
  · rw [List.nodup_append]
    refine ⟨h.n, by simp, fun a ha' b hb => ?_⟩
    rw [List.mem_singleton] at hb
    intro e
    rw [e, hb] at ha'
    exact hn ha'
  · intro z hz
    rw [List.mem_append, List.mem_singleton] at hz
    rcases hz with hz | rfl
    · exact h.w z hz
    · exact hx
  · rw [List.mem_append, List.mem_singleton, h.h z hz]
    by_cases e : z = x
    · subst e
      have h1 := has_true_of_atKey ha
      have h2 := WideAt.sameKey_self (isKey_p hz)
      rw [h1, hl, h2]
      simp
    · have h3 : (kl z).sameKey (kl x) = false := sameKey_ne (kl_ne hx hz e)
      rw [h3]
      simp [e]
theorem CollP.all {D : DataW Value} {left : Lit → Bool} {ks : List (Int × Int)} (h : CollP D left ks) (hl : ∀ k, left k = false) {f : Int × Int → Option Value} (hf : TellsG D f) {x : Int × Int} (hx : wfP x) : x ∈ ks ↔ (f x).isSome = true := by
  rw [h.h x hx, hl, (hf.2 x hx).1]
  simp
section
variable {o : Oper} {a : Act} {w : World} {K : Act → World → Prop} {Q : Exit → Act → World → Prop}
/-- 'm[x]', at the operation alone -/
theorem step_look_p (hg : o.guard = none) (m x : Operand) (t : TypeId) (hop : o.op = Op.lookup t m x false) (e : TypeId) (ht : Try.prog.underlying t = some (.map 78 e)) (z : Value) (hz : (zeroValue e).run Try.prog w = .ok z w)
    (b n : Nat) (f : Int × Int → Option Value) (hm : a.eval m = .map (some b)) (hown : MapP w b n f) (k : Int × Int) (hk : wfP k) (hx : a.eval x = kv k) (v : Value) (hv : (f k).getD z = v)
    (hK : K (a.put o.dst v) w) : Oper.wp Try.prog o a w K Q := by
  have _ := hg
  obtain ⟨D, hD, hf⟩ := hown
  obtain ⟨u, ps, hrun, hu⟩ := hD.lookup keyedA ht hz (zd := .held z) (zp := []) rfl (key_p hk)
  rw [(hf.2 k hk).2] at hu
  have e1 : u = v := by
    unfold VR at hu
    cases hfk : f k with
    | none => rw [hfk] at hu hv; simp at hu hv; rw [hu.1, hv]
    | some y => rw [hfk] at hu hv; simp at hu hv; rw [hu.1, hv]
  subst e1
  unfold Oper.wp
  simp [execOp, hop, hm, hx, hrun, Result.andThen]
  exact hK
/-- 'm[x] = v', at the operation alone -/
theorem step_put_p (hg : o.guard = none) (m x v : Operand) (t : TypeId) (hop : o.op = Op.mapUpdate t m x v) (e : TypeId) (ht : Try.prog.underlying t = some (.map 78 e))
    (b n : Nat) (f : Int × Int → Option Value) (hm : a.eval m = .map (some b)) (hown : MapP w b n f) (hn : n ≤ 1048576) (k : Int × Int) (hk : wfP k) (u : Value) (hx : a.eval x = kv k) (hu : a.eval v = u)
    (hK : ∀ w', MapP w' b (n + 1) (putG f k u) → w.grownBy w' (some b) → K (a.put o.dst undef) w') : Oper.wp Try.prog o a w K Q := by
  have _ := hg
  obtain ⟨D, hD, hf⟩ := hown
  obtain ⟨w', hrun, r1, r2⟩ := hD.update keyedA ht (by unfold maxLen; omega) (key_p hk) (show VR u = some (.held u, []) from rfl)
  unfold Oper.wp
  simp [execOp, hop, hm, hx, hu, hrun, Result.andThen]
  exact hK w' ⟨_, r1, tellsg_put hf hk u⟩ r2
end
end Go.Proofs.Ytmflbibogkebmaa
