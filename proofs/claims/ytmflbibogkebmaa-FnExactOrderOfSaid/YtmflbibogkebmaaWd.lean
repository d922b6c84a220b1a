/- A graph of records, keyed by their two ends: data and memory. impl.graphOf, impl.lockGraph. -/
import Derived.Test.YtmflbibogkebmaaWb
import Derived.Test.YtmflbibogkebmaaUd
import Derived.Test.YtmflbibogkebmaaRbb
import Derived.Deep.RegionHeld3
import Derived.Deep.QuietTactic
import Derived.BigQuiet
namespace Go.Proofs.Ytmflbibogkebmaa
open Go.RowKit Go.Maps
open Rd Fl

def ends (u : UnD) : Int × Int := (u.hd, u.tkn)
/-- the records with these ends, in their order -/
def grp (us : List UnD) (p : Int × Int) : List UnD := us.filter fun u => decide (ends u = p)
theorem grp_snoc (us : List UnD) (u : UnD) (p : Int × Int) : grp (us ++ [u]) p = if ends u = p then grp us p ++ [u] else grp us p := by
  unfold grp
  rw [List.filter_append]
  by_cases h : ends u = p
  · rw [if_pos h]; simp [h]
  · rw [if_neg h]; simp [h]
theorem grp_len (us : List UnD) (p : Int × Int) : (grp us p).length ≤ us.length := List.length_filter_le _ _
/-- Block M is a map of at most n entries whose rows are the groups of us; they lie from lo on, each its own. -/
structure GrM (w : World) (lo M n : Nat) (rows : Int × Int → Option Value) (us : List UnD) : Prop where
  m : MapP w M n rows
  lt : M < lo
  row : ∀ p, w.ownsRow lo 64 4 ((rows p).getD (.slice none 0 0)) (grp us p).length (unC (grp us p))
  has : ∀ p, (rows p).isSome = true ↔ grp us p ≠ []
  dis : ∀ p q, p ≠ q → ∀ v u b, rows p = some v → rows q = some u → v.ownBlock = some b → u.ownBlock ≠ some b
theorem GrM.keep {w w' : World} {lo M n : Nat} {rows : Int × Int → Option Value} {us : List UnD} (h : GrM w lo M n rows us) (hb : Below w.heap.size w w') : GrM w' lo M n rows us :=
  ⟨h.m.keep hb, h.lt, fun p => own_keep (h.row p) hb, h.has, h.dis⟩
theorem grm_made (w : World) : GrM (w.alloc (.map #[] 0)) (w.heap.size + 1) w.heap.size 0 (fun _ => none) [] :=
  ⟨mapp_made w, Nat.lt_succ_self _, fun p => World.ownsRow_nil _ _ _ _, fun p => by simp [grp], fun p q _ v u b h => by cases h⟩
/-- the map is no row's block -/
theorem GrM.off {w : World} {lo M n : Nat} {rows : Int × Int → Option Value} {us : List UnD} (h : GrM w lo M n rows us) (p : Int × Int) : some M ≠ ((rows p).getD (.slice none 0 0)).ownBlock := by
  intro e
  have := own_base' (h.row p) M e.symm
  have := h.lt
  omega
/-- One record more: its row grown, and put back. -/
theorem GrM.snoc {w w5 w6 : World} {lo M n : Nat} {rows : Int × Int → Option Value} {us : List UnD} (h : GrM w lo M n rows us) (u : UnD) {v' : Value}
    (hown : w5.ownsRow lo 64 4 v' ((grp us (ends u)).length + 1) (unC (grp us (ends u)) ++ u.cells)) (hg5 : w.grownBy w5 ((rows (ends u)).getD (.slice none 0 0)).ownBlock)
    (hblk : v'.ownBlock = ((rows (ends u)).getD (.slice none 0 0)).ownBlock ∨ v'.ownBlock = some w.heap.size)
    (hm : MapP w6 M (n + 1) (putG rows (ends u) v')) (hg6 : w5.grownBy w6 (some M)) : GrM w6 lo M (n + 1) (putG rows (ends u) v') (us ++ [u]) := by
  have hput : ∀ p, putG rows (ends u) v' p = if p = ends u then some v' else rows p := fun p => rfl
  have hMlt := h.m.lt
  have hoff : ∀ q, some M ≠ ((rows q).getD (.slice none 0 0)).ownBlock := fun q => h.off q
  have hv'M : v'.ownBlock ≠ some M := by
    intro e
    rcases hblk with e2 | e2
    · exact hoff (ends u) (e.symm.trans e2)
    · rw [e] at e2; have := Option.some.inj e2; omega
  have hother : ∀ p, p ≠ ends u → ((rows p).getD (.slice none 0 0)).ownBlock = none ∨ ((rows p).getD (.slice none 0 0)).ownBlock ≠ ((rows (ends u)).getD (.slice none 0 0)).ownBlock := by
    intro p hp
    cases hrp : rows p with
    | none => left; rfl
    | some x =>
      cases hru : rows (ends u) with
      | none =>
        cases hx : (Option.getD (some x) (.slice none 0 0)).ownBlock with
        | none => left; rfl
        | some b => right; simp [Value.ownBlock]
      | some y =>
        cases hx : (Option.getD (some x) (.slice none 0 0)).ownBlock with
        | none => left; rfl
        | some b => right; intro e; exact h.dis p (ends u) hp x y b hrp hru hx e.symm
  refine ⟨hm, h.lt, fun p => ?_, fun p => ?_, ?_⟩
  · rw [hput p, grp_snoc]
    by_cases e : p = ends u
    · subst e
      rw [if_pos rfl, if_pos rfl, List.length_append, unC_append]
      have h6 := hown.kept hg6 (.inr hv'M)
      simpa [unC] using h6
    · rw [if_neg e, if_neg (fun e2 => e e2.symm)]
      refine ((h.row p).kept hg5 (hother p e)).kept hg6 ?_
      cases hb : ((rows p).getD (.slice none 0 0)).ownBlock with
      | none => left; rfl
      | some b => right; intro e2; exact hoff p (by rw [hb, e2])
  · rw [hput p, grp_snoc]
    by_cases e : p = ends u
    · subst e; simp
    · rw [if_neg e, if_neg (fun e2 => e e2.symm)]; exact h.has p
  · have hnew : ∀ q x b, q ≠ ends u → rows q = some x → x.ownBlock = some b → v'.ownBlock ≠ some b := by
      intro q x b hq hx hb e
      have hlt := (h.row q).lt b (by rw [hx]; exact hb)
      rcases hblk with e2 | e2
      · rw [e2] at e
        rcases hother q hq with e3 | e3
        · rw [hx] at e3; simp only [Option.getD_some] at e3; rw [hb] at e3; cases e3
        · rw [hx] at e3; simp only [Option.getD_some] at e3; exact e3 (hb.trans e.symm)
      · rw [e2] at e; have := Option.some.inj e; omega
    intro p q hpq x y b hx hy hb
    rw [hput] at hx hy
    by_cases e : p = ends u
    · rw [if_pos e] at hx
      rw [if_neg (fun e2 => hpq (e.trans e2.symm))] at hy
      cases hx
      intro e2
      exact hnew q y b (fun e3 => hpq (e.trans e3.symm)) hy e2 hb
    · rw [if_neg e] at hx
      by_cases e2 : q = ends u
      · rw [if_pos e2] at hy; cases hy; exact hnew p x b e hx hb
      · rw [if_neg e2] at hy; exact h.dis p q hpq x y b hx hy hb

theorem res_cell_p {fn : Func} {p : Tmp} {ty : TypeId} (h : fn.results = #[.cell p ty]) (tmps : Array Value) (P : Program) (w : World) (b : Nat) (v : Value) (hp : tmps.getD p undef = .pointer (some ⟨b, 0, none⟩)) (hl : (loadVar ty ⟨b, 0, none⟩).run P w = .ok v w) : (results fn tmps).run P w = .ok v w := by
  have h1 : (asAddr (.pointer (some ⟨b, 0, none⟩))).run P w = .ok ⟨b, 0, none⟩ w := rfl
  have hp' : tmps[p]?.getD undef = .pointer (some ⟨b, 0, none⟩) := by rw [← hp]; simp
  simp only [results, h]
  simp [Sem.run_bind, hp', h1, hl]
theorem size2A : (Try.prog.info? 78).map (·.size) = some 2 := by kernel_rfl
set_option maxRecDepth 20000 in
set_option maxHeartbeats 1000000 in
theorem lockends_any (r0 r1 r2 r3 : Int) (w : World) :
    Calls Try.prog 75 #[.agg #[.int .i64 r0, .int .i64 r1, .int .i64 r2, .int .i64 r3]] w fun e w' => e = .returned (.agg #[.int .i64 r0, .int .i64 r1]) ∧ Below w.heap.size w w' := by
  go_enter Try.func75, Try.ntmps75
  go_wp2
  have HLD := hide' (run_loadVar_mid (P := Try.prog) ((w.alloc (Obj.cells #[.int .i64 r0, .int .i64 r1, .int .i64 r2, .int .i64 r3] 64)).alloc (Obj.cells #[.int .i64 r0, .int .i64 r1] 78)) (w.heap.size + 1) 0 78 [.int .i64 r0, .int .i64 r1] _ (by
    intro j u hu
    match j, hu with
    | 0, hu => simp at hu; subst hu; simp
    | 1, hu => simp at hu; subst hu; simp) underA rfl size2A)
  exact bodyPost_ret (v := .agg #[.int .i64 r0, .int .i64 r1]) (res_cell_p Try.results75 _ _ _ (w.heap.size + 1) _ rfl HLD.out) rfl ⟨rfl, (((Below.refl _ _).up _).trans ((Below.refl _ _).up _ |>.mono (by simp)))⟩
end Go.Proofs.Ytmflbibogkebmaa
namespace Go.Proofs.Ytmflbibogkebmaa
open Go.RowKit Go.Maps
open Rd Fl

/-- what two boxes hold: a record, and its ends -/
def SBx (N7 N8 : Nat) (r0 r1 r2 r3 : Int) (w' : World) : Prop := w'.cell? ⟨N7, 0, none⟩ = some (.int .i64 r0) ∧ w'.cell? ⟨N7, 1, none⟩ = some (.int .i64 r1) ∧ w'.cell? ⟨N7, 2, none⟩ = some (.int .i64 r2) ∧ w'.cell? ⟨N7, 3, none⟩ = some (.int .i64 r3) ∧ w'.cell? ⟨N8, 0, none⟩ = some (.int .i64 r0) ∧ w'.cell? ⟨N8, 1, none⟩ = some (.int .i64 r1)
theorem SBx.keep {N7 N8 : Nat} {r0 r1 r2 r3 : Int} {x y : World} (h : SBx N7 N8 r0 r1 r2 r3 x) (hb : Below x.heap.size x y) : SBx N7 N8 r0 r1 r2 r3 y :=
  ⟨keep_cell hb h.1, keep_cell hb h.2.1, keep_cell hb h.2.2.1, keep_cell hb h.2.2.2.1, keep_cell hb h.2.2.2.2.1, keep_cell hb h.2.2.2.2.2⟩
theorem SBx.grown {N7 N8 : Nat} {r0 r1 r2 r3 : Int} {x y : World} {row : Option Nat} (h : SBx N7 N8 r0 r1 r2 r3 x) (hg : x.grownBy y row) (h8 : N8 < x.heap.size) (h7 : N7 < x.heap.size) (n7 : row ≠ some N7) (n8 : row ≠ some N8) : SBx N7 N8 r0 r1 r2 r3 y := by
  have e7 := hg.block N7 h7 (fun e => n7 e.symm)
  have e8 := hg.block N8 h8 (fun e => n8 e.symm)
  have k7 : ∀ o, y.cell? ⟨N7, o, none⟩ = x.cell? ⟨N7, o, none⟩ := fun o => by unfold World.cell?; simp only; rw [e7]
  have k8 : ∀ o, y.cell? ⟨N8, o, none⟩ = x.cell? ⟨N8, o, none⟩ := fun o => by unfold World.cell?; simp only; rw [e8]
  obtain ⟨a, b, c, d, e, f⟩ := h
  exact ⟨(k7 0).trans a, (k7 1).trans b, (k7 2).trans c, (k7 3).trans d, (k8 0).trans e, (k8 1).trans f⟩
theorem wp_append_own {P : Program} {o : Oper} {a : Act} {w : World} {K : Act → World → Prop} {Q : Exit → Act → World → Prop}
    (hg : o.guard = none) (s x : Operand) (t : TypeId) (hop : o.op = Op.call { callee := Callee.builtin Builtin.append, args := #[s, x], argTypes := #[t, t] })
    (base : Nat) (e : TypeId) (i : TypeInfo) (z : Value) (size bytes : Nat) (h1 : P.underlying t = some (.slice e)) (h2 : P.info? e = some i) (h3 : i.zero = some z) (h4 : i.size = size) (h5 : i.bytes = bytes) (h6 : z.cells.size = size) (h7 : 0 < size)
    (v : Value) (n : Nat) (xs : List Value) (hs : a.eval s = v) (hown : w.ownsRow base e size v n xs)
    (ad : Addr) (m c : Nat) (news : List Value) (hx : a.eval x = .slice (some ad) m c) (hn : news.length = m * size) (hc : ∀ j u, news[j]? = some u → w.cell? (ad.add j) = some u) (h1c : ∀ u ∈ news, u.oneCell' = true)
    (b1 : n + m ≤ maxLen) (b2 : (n + m) * bytes ≤ 140737488355328) (hb : base ≤ w.heap.size)
    (hK : ∀ v' w', w'.ownsRow base e size v' (n + m) (xs ++ news) → w.grownBy w' v.ownBlock → (v'.ownBlock = v.ownBlock ∨ v'.ownBlock = some w.heap.size) → K (a.put o.dst v') w') :
    Oper.wp P o a w K Q := by
  have h := step_append_own (P := P) (ops := #[]) (a := a) (w := w) (K := K) (Q := Q) (E := True) hg s x t hop base e i z size bytes h1 h2 h3 h4 h5 h6 h7 v n xs hs hown ad m c news hx hn hc h1c b1 b2 hb hK
  rwa [if_pos (by simp [Region.wanted, hg])] at h
theorem zeroUnds (w : World) : (zeroValue 40).run Try.prog w = .ok (.slice none 0 0) w := by kernel_rfl

set_option maxRecDepth 20000 in
set_option maxHeartbeats 8000000 in
theorem graphof_any (A : Option Addr) (us : List UnD) (cap : Nat) (hl : us.length ≤ 50000) (hw : ∀ u ∈ us, wfP (ends u)) (w : World) (hA : UnsAt w A us) :
    Calls Try.prog 74 #[.slice A us.length cap, .func (.func 75) #[] #[]] w fun e w' => (∃ n rows, e = .returned (.map (some w.heap.size)) ∧ n ≤ us.length ∧ GrM w' (w.heap.size + 1) w.heap.size n rows us) ∧ Below w.heap.size w w' := by
  have hmm := @run_makeMap Try.prog
  obtain ⟨i0, hi0, hz0, hz1, hz2⟩ := undInfo
  have hn' : (us.length : Int) ≤ 50000 := by omega
  have HL1 := hide' (fun r0 r1 r2 r3 w => lockends_any r0 r1 r2 r3 w)
  have HA := hide' hA
  have HW := hide' hw
  clear hA hw
  go_enter Try.func74, Try.ntmps74
  go_wp2_with fail
  have G0 := hide' (grm_made w)
  have B0 := hide' ((Below.refl w.heap.size w).up (.map #[] 0))
  have Z0 := hide' (show w.heap.size < (w.alloc (.map #[] 0)).heap.size by simp)
  go_loopw [12] (fun x wr => ∃ k : Nat, k ≤ us.length ∧ x = .int .i64 k ∧ ∃ n rows, n ≤ k ∧ Hid (GrM wr (w.heap.size + 1) w.heap.size n rows (us.take k)) ∧ Hid (Below w.heap.size w wr) ∧ Hid (w.heap.size < wr.heap.size)) (fun x _ => us.length - (intOf x).toNat)
  case atStart => exact ⟨0, Nat.zero_le _, rfl, 0, _, Nat.le_refl _, G0.out, B0.out, Z0.out⟩
  case round =>
    clear G0 B0 Z0
    obtain ⟨k, hk, rfl, n, rows, hn, hg, hb, hz⟩ := hrel
    by_cases hlt : k < us.length
    · have hk2 : (k : Int) < us.length := by omega
      have HWK := hide' (HW.out us[k] (List.getElem_mem hlt))
      have HTK := hide' (show us.take (k + 1) = us.take k ++ [us[k]] from List.take_succ_eq_append_getElem hlt)
      have HGL := hide' (show (grp (us.take k) (ends us[k])).length ≤ 50000 by have := grp_len (us.take k) (ends us[k]); have := List.length_take_le k us; omega)
      obtain ⟨b, off, hA1, hc⟩ := HA.out.keep hb.out
      have hA2 := hA1 (by intro h; rw [h] at hlt; simp at hlt)
      subst hA2
      obtain ⟨c0, c1, c2, c3⟩ := un_range (hc k us[k] (List.getElem?_eq_getElem hlt))
      clear hc hA1
      generalize us[k] = u at *
      obtain ⟨r0, r1, r2, r3⟩ := u
      simp only at c0 c1 c2 c3
      have hz2' := hz.out
      have HL2 := hide' (HL1.out r0 r1 r2 r3)
      have E0 := hide' (four_new wr r0 r1 r2 r3 64)
      have G1 := hide' (hg.out.keep ((Below.refl wr.heap.size wr).up (.cells #[.int .i64 r0, .int .i64 r1, .int .i64 r2, .int .i64 r3] 64)))
      have B1 := hide' (hb.out.up (.cells #[.int .i64 r0, .int .i64 r1, .int .i64 r2, .int .i64 r3] 64))
      have HG0 := hg
      clear hg hb
      go_upto_region 6 with (go_at_call 75; refine (HL2.out _).mono ?_; rintro e w2 ⟨rfl, hb2⟩; have G2 := hide' (G1.out.keep hb2); have B2 := hide' (B1.out.trans (hb2.mono B1.out.size)); have Z2 := hide' hb2.size; have f0 := keep_cell hb2 (E0.out 0 _ rfl); have f1 := keep_cell hb2 (E0.out 1 _ rfl); have f2 := keep_cell hb2 (E0.out 2 _ rfl); have f3 := keep_cell hb2 (E0.out 3 _ rfl))
      simp only [Addr.add, Nat.zero_add] at f0 f1 f2 f3
      have ZM := hide' (show w.heap.size < wr.heap.size from hz.out)
      have OFF := hide' (show ∀ b, ((rows (r0, r1)).getD (.slice none 0 0)).ownBlock = some b → b < wr.heap.size from fun b hb => (HG0.out.row (r0, r1)).lt b hb |>.2)
      have Z8 := hide' (show wr.heap.size < w2.heap.size by have := Z2.out; simp at this; omega)
      have f0 := keep_cell ((Below.refl w2.heap.size w2).up (.cells #[.int .i64 r0, .int .i64 r1] 78)) f0
      have f1 := keep_cell ((Below.refl w2.heap.size w2).up (.cells #[.int .i64 r0, .int .i64 r1] 78)) f1
      have f2 := keep_cell ((Below.refl w2.heap.size w2).up (.cells #[.int .i64 r0, .int .i64 r1] 78)) f2
      have f3 := keep_cell ((Below.refl w2.heap.size w2).up (.cells #[.int .i64 r0, .int .i64 r1] 78)) f3
      have f4 : (w2.alloc (.cells #[.int .i64 r0, .int .i64 r1] 78)).cell? ⟨w2.heap.size, 0, none⟩ = some (.int .i64 r0) := by simp
      have f5 : (w2.alloc (.cells #[.int .i64 r0, .int .i64 r1] 78)).cell? ⟨w2.heap.size, 1, none⟩ = some (.int .i64 r1) := by simp
      have G3 := hide' (G2.out.keep ((Below.refl w2.heap.size w2).up (.cells #[.int .i64 r0, .int .i64 r1] 78)))
      have B3 := hide' (B2.out.up (.cells #[.int .i64 r0, .int .i64 r1] 78))
      have Z3 := hide' (show (w2.alloc (.cells #[.int .i64 r0, .int .i64 r1] 78)).heap.size = w2.heap.size + 1 by simp)
      generalize w2.alloc (.cells #[.int .i64 r0, .int .i64 r1] 78) = W at *
      generalize w2.heap.size = N8 at *
      generalize wr.heap.size = N7 at *
      clear hb2 G2 B2 Z2 G1 B1 E0 c0 c1 c2 c3 HL2 HG0 hz hz2'
      refine wp_region_held_drew (S := SBx N7 N8 r0 r1 r2 r3) (by kernel_rfl) ⟨f0, f1, f2, f3, f4, f5⟩ (fun hS0 => ?_)
      have hS := hide' hS0
      clear hS0
      refine wpAnyH_take (i := 0) (v := ?_) rfl (by kernel_rfl) (by kernel_rfl) (by kernel_rfl) (fun _ _ _ h => h) (Or.inl ⟨by rfl, ?_⟩) hS.out ?_
      rotate_left 1
      · intro wq hSq; obtain ⟨s0, s1, s2, s3, s4, s5⟩ := hSq; go_simp; try with_reducible rfl
      try dsimp only [List.getElem_toArray, List.getElem_cons_zero, List.getElem_cons_succ]
      try simp only [Act.put, List.setIfInBounds_toArray, List.set_cons_zero, List.set_cons_succ]
      refine wpAnyH_take (i := 2) (v := ?_) rfl (by kernel_rfl) (by kernel_rfl) (by kernel_rfl) (fun _ _ _ h => h) (Or.inl ⟨by rfl, ?_⟩) hS.out ?_
      rotate_left 1
      · intro wq hSq; obtain ⟨s0, s1, s2, s3, s4, s5⟩ := hSq; go_simp; try with_reducible rfl
      try dsimp only [List.getElem_toArray, List.getElem_cons_zero, List.getElem_cons_succ]
      try simp only [Act.put, List.setIfInBounds_toArray, List.set_cons_zero, List.set_cons_succ]
      refine wpAnyH_take (i := 1) (v := ?_) rfl (by kernel_rfl) (by kernel_rfl) (by kernel_rfl) (fun _ _ _ h => h) (Or.inl ⟨by rfl, ?_⟩) hS.out ?_
      rotate_left 1
      · intro wq hSq; obtain ⟨s0, s1, s2, s3, s4, s5⟩ := hSq; go_simp; try with_reducible rfl
      try dsimp only [List.getElem_toArray, List.getElem_cons_zero, List.getElem_cons_succ]
      try simp only [Act.put, List.setIfInBounds_toArray, List.set_cons_zero, List.set_cons_succ]
      refine wpAnyH_take (i := 3) (v := ?_) rfl (by kernel_rfl) (by kernel_rfl) (by kernel_rfl) (fun _ _ _ h => h) (Or.inl ⟨by rfl, ?_⟩) hS.out ?_
      rotate_left 1
      · intro wq hSq; obtain ⟨s0, s1, s2, s3, s4, s5⟩ := hSq; go_simp; try with_reducible rfl
      try dsimp only [List.getElem_toArray, List.getElem_cons_zero, List.getElem_cons_succ]
      try simp only [Act.put, List.setIfInBounds_toArray, List.set_cons_zero, List.set_cons_succ]
      refine wpAnyH_take (i := 5) (v := ?_) rfl (by kernel_rfl) (by kernel_rfl) (by kernel_rfl) (fun _ _ _ h => h) (Or.inl ⟨by rfl, ?_⟩) hS.out ?_
      rotate_left 1
      · intro wq hSq; obtain ⟨s0, s1, s2, s3, s4, s5⟩ := hSq; go_simp; try with_reducible rfl
      try dsimp only [List.getElem_toArray, List.getElem_cons_zero, List.getElem_cons_succ]
      try simp only [Act.put, List.setIfInBounds_toArray, List.set_cons_zero, List.set_cons_succ]
      have HG5 := hide' (show GrM (W.alloc (.cells #[.int .i64 r0, .int .i64 r1, .int .i64 r2, .int .i64 r3] 64)).drew (w.heap.size + 1) w.heap.size n rows (us.take k) from (G3.out.keep ((Below.refl W.heap.size W).up (.cells #[.int .i64 r0, .int .i64 r1, .int .i64 r2, .int .i64 r3] 64))).keep (Below.refl _ _).drew)
      have HG4 := hide' (G3.out.keep (Below.refl _ W).drew)
      have HF5 := hide' (show ∀ j u, [Value.int .i64 r0, .int .i64 r1, .int .i64 r2, .int .i64 r3][j]? = some u → (W.alloc (.cells #[.int .i64 r0, .int .i64 r1, .int .i64 r2, .int .i64 r3] 64)).drew.cell? ((⟨W.heap.size, 0, none⟩ : Addr).add j) = some u from fun j u hu => keep_cell (Below.refl _ _).drew (four_new W r0 r1 r2 r3 64 j u hu))
      have HGL2 := hide' (show (grp (us.take k) (r0, r1)).length ≤ 50000 from HGL.out)
      have HOFF := hide' (G3.out.off (r0, r1))
      generalize hv0 : (rows (r0, r1)).getD (.slice none 0 0) = v0 at HOFF OFF
      have HV0 := hide' hv0
      have HR5 := hide' (show (W.alloc (.cells #[.int .i64 r0, .int .i64 r1, .int .i64 r2, .int .i64 r3] 64)).drew.ownsRow (w.heap.size + 1) 64 4 v0 (grp (us.take k) (r0, r1)).length (unC (grp (us.take k) (r0, r1))) from by have h := HG5.out.row (r0, r1); rwa [hv0] at h)
      have HS5 := hide' (show SBx N7 N8 r0 r1 r2 r3 (W.alloc (.cells #[.int .i64 r0, .int .i64 r1, .int .i64 r2, .int .i64 r3] 64)).drew from SBx.keep (SBx.keep (x := W) ⟨f0, f1, f2, f3, f4, f5⟩ ((Below.refl W.heap.size W).up _)) (Below.refl _ _).drew)
      have HS6 := hide' (show ∀ w5, (W.alloc (.cells #[.int .i64 r0, .int .i64 r1, .int .i64 r2, .int .i64 r3] 64)).drew.grownBy w5 v0.ownBlock → SBx N7 N8 r0 r1 r2 r3 w5 from fun w5 hg => SBx.grown HS5.out hg (by have := Z3.out; simp; omega) (by have := Z8.out; have := Z3.out; simp; omega) (fun e => by have := OFF.out _ e; omega) (fun e => by have := OFF.out _ e; have := Z8.out; omega))
      have HS7 := hide' (show ∀ w5 w6, (W.alloc (.cells #[.int .i64 r0, .int .i64 r1, .int .i64 r2, .int .i64 r3] 64)).drew.grownBy w5 v0.ownBlock → w5.grownBy w6 (some w.heap.size) → SBx N7 N8 r0 r1 r2 r3 w6 from fun w5 w6 hg hg2 => SBx.grown (HS6.out w5 hg) hg2 (by have := Z3.out; have := hg.size; simp at this; omega) (by have := Z8.out; have := Z3.out; have := hg.size; simp at this; omega) (fun e => by have := Option.some.inj e; have := ZM.out; omega) (fun e => by have := Option.some.inj e; have := ZM.out; have := Z8.out; omega))
      refine wpAnyH_ready (rs := [4, 6]) (by kernel_rfl) (by simp) ?_
      refine AllReadyH.cons rfl (fun K' hK => ?_) (AllReadyH.cons rfl (fun K' hK => ?_) AllReadyH.nil)
      · dsimp only [List.getElem_toArray, List.getElem_cons_zero, List.getElem_cons_succ]
        refine Eq.mpr (if_pos rfl) ?_
        refine step_look_p rfl (.tmp 21) (.tmp 22) 68 rfl 40 Try.underlying68 _ (zeroUnds _) w.heap.size n rows (by simp [Act.eval]) (HG4.out.m) (r0, r1) HWK.out (by simp [Act.eval, kv]) v0 HV0.out ?_
        refine hK.out _ _ hS.out (fun _ => ?_)
        clear hK
        try dsimp only [List.getElem_toArray, List.getElem_cons_zero, List.getElem_cons_succ]
        try simp only [Act.put, List.setIfInBounds_toArray, List.set_cons_zero, List.set_cons_succ]
        refine wpAnyH_ready (rs := [6]) (by kernel_rfl) (by simp) ?_
        refine AllReadyH.cons rfl (fun K' hK => ?_) AllReadyH.nil
        dsimp only [List.getElem_toArray, List.getElem_cons_zero, List.getElem_cons_succ]
        refine Eq.mpr (if_pos rfl) ?_
        go_simp
        refine hK.out _ _ HS5.out (fun _ => ?_)
        clear hK
        try dsimp only [List.getElem_toArray, List.getElem_cons_zero, List.getElem_cons_succ]
        try simp only [Act.put, List.setIfInBounds_toArray, List.set_cons_zero, List.set_cons_succ]
        refine wpAnyH_ready (rs := [7]) (by kernel_rfl) (by simp) ?_
        refine AllReadyH.cons rfl (fun K' hK => ?_) AllReadyH.nil
        dsimp only [List.getElem_toArray, List.getElem_cons_zero, List.getElem_cons_succ]
        refine Eq.mpr (if_pos rfl) ?_
        refine wp_append_own rfl (.tmp 23) (.tmp 25) 40 rfl (w.heap.size + 1) 64 i0 _ 4 32 Try.underlying40 hi0 hz0 hz1 hz2 rfl (by decide) v0 (grp (us.take k) (r0, r1)).length (unC (grp (us.take k) (r0, r1))) (by simp [Act.eval]) HR5.out ⟨W.heap.size, 0, none⟩ 1 1 [.int .i64 r0, .int .i64 r1, .int .i64 r2, .int .i64 r3] (by simp [Act.eval]) rfl HF5.out (four_one _ _ _ _) (by have := HGL2.out; unfold maxLen; omega) (by have := HGL2.out; omega) (by have := ZM.out; have := Z8.out; have := Z3.out; simp; omega) ?_
        intro v' w5 hown5 hg5 hblk5
        refine hK.out _ _ (HS6.out w5 hg5) (fun _ => ?_)
        clear hK
        try dsimp only [List.getElem_toArray, List.getElem_cons_zero, List.getElem_cons_succ]
        try simp only [Act.put, List.setIfInBounds_toArray, List.set_cons_zero, List.set_cons_succ]
        refine wpAnyH_ready (rs := [8]) (by kernel_rfl) (by simp) ?_
        refine AllReadyH.cons rfl (fun K' hK => ?_) AllReadyH.nil
        dsimp only [List.getElem_toArray, List.getElem_cons_zero, List.getElem_cons_succ]
        refine Eq.mpr (if_pos rfl) ?_
        refine step_put_p rfl (.tmp 19) (.tmp 20) (.tmp 26) 68 rfl 40 Try.underlying68 w.heap.size n rows (by simp [Act.eval]) (HG5.out.m.row hg5 HOFF.out) (by omega) (r0, r1) HWK.out v' (by simp [Act.eval, kv]) (by simp [Act.eval]) ?_
        intro w6 hm6 hg6
        refine hK.out _ _ (HS7.out w5 w6 hg5 hg6) (fun _ => ?_)
        clear hK
        try dsimp only [List.getElem_toArray, List.getElem_cons_zero, List.getElem_cons_succ]
        try simp only [Act.put]
        refine wpAnyH_done (by kernel_rfl) ?_ _
        have G6 := hide' (HG5.out.snoc ⟨r0, r1, r2, r3⟩ hown5 (show World.grownBy _ _ ((rows (r0, r1)).getD (.slice none 0 0)).ownBlock by rw [HV0.out]; exact hg5) (show _ = ((rows (r0, r1)).getD (.slice none 0 0)).ownBlock ∨ _ by rw [HV0.out]; exact hblk5) hm6 hg6)
        have B6 := hide' (((((B3.out.drew).alloc (by have := ZM.out; have := Z8.out; have := Z3.out; simp; omega) _).grown hg5 (by have := ZM.out; have := Z8.out; have := Z3.out; simp; omega) (fun j hj => by have := own_base' HR5.out j hj; omega)).grown hg6 (by have := ZM.out; have := Z8.out; have := Z3.out; have := hg5.size; simp at this; omega) (fun j hj => by cases hj; exact Nat.le_refl _)))
        have Z6 := hide' (show w.heap.size < w6.heap.size by have := ZM.out; have := Z8.out; have := Z3.out; have := hg5.size; have := hg6.size; simp at *; omega)
        rw [← HTK.out] at G6
        go_wp2_with fail
        go_roundw
        case rel => exact ⟨k + 1, by omega, by go_num, n + 1, _, by omega, G6.out, B6.out, Z6.out⟩
        case measure => simp [intOf]; omega
      · dsimp only [List.getElem_toArray, List.getElem_cons_zero, List.getElem_cons_succ]
        refine Eq.mpr (if_pos rfl) ?_
        go_simp
        refine hK.out _ _ HS5.out (fun _ => ?_)
        clear hK
        try dsimp only [List.getElem_toArray, List.getElem_cons_zero, List.getElem_cons_succ]
        try simp only [Act.put, List.setIfInBounds_toArray, List.set_cons_zero, List.set_cons_succ]
        refine wpAnyH_ready (rs := [4]) (by kernel_rfl) (by simp) ?_
        refine AllReadyH.cons rfl (fun K' hK => ?_) AllReadyH.nil
        dsimp only [List.getElem_toArray, List.getElem_cons_zero, List.getElem_cons_succ]
        refine Eq.mpr (if_pos rfl) ?_
        refine step_look_p rfl (.tmp 21) (.tmp 22) 68 rfl 40 Try.underlying68 _ (zeroUnds _) w.heap.size n rows (by simp [Act.eval]) (HG5.out.m) (r0, r1) HWK.out (by simp [Act.eval, kv]) v0 HV0.out ?_
        refine hK.out _ _ HS5.out (fun _ => ?_)
        clear hK
        try dsimp only [List.getElem_toArray, List.getElem_cons_zero, List.getElem_cons_succ]
        try simp only [Act.put, List.setIfInBounds_toArray, List.set_cons_zero, List.set_cons_succ]
        refine wpAnyH_ready (rs := [7]) (by kernel_rfl) (by simp) ?_
        refine AllReadyH.cons rfl (fun K' hK => ?_) AllReadyH.nil
        dsimp only [List.getElem_toArray, List.getElem_cons_zero, List.getElem_cons_succ]
        refine Eq.mpr (if_pos rfl) ?_
        refine wp_append_own rfl (.tmp 23) (.tmp 25) 40 rfl (w.heap.size + 1) 64 i0 _ 4 32 Try.underlying40 hi0 hz0 hz1 hz2 rfl (by decide) v0 (grp (us.take k) (r0, r1)).length (unC (grp (us.take k) (r0, r1))) (by simp [Act.eval]) HR5.out ⟨W.heap.size, 0, none⟩ 1 1 [.int .i64 r0, .int .i64 r1, .int .i64 r2, .int .i64 r3] (by simp [Act.eval]) rfl HF5.out (four_one _ _ _ _) (by have := HGL2.out; unfold maxLen; omega) (by have := HGL2.out; omega) (by have := ZM.out; have := Z8.out; have := Z3.out; simp; omega) ?_
        intro v' w5 hown5 hg5 hblk5
        refine hK.out _ _ (HS6.out w5 hg5) (fun _ => ?_)
        clear hK
        try dsimp only [List.getElem_toArray, List.getElem_cons_zero, List.getElem_cons_succ]
        try simp only [Act.put, List.setIfInBounds_toArray, List.set_cons_zero, List.set_cons_succ]
        refine wpAnyH_ready (rs := [8]) (by kernel_rfl) (by simp) ?_
        refine AllReadyH.cons rfl (fun K' hK => ?_) AllReadyH.nil
        dsimp only [List.getElem_toArray, List.getElem_cons_zero, List.getElem_cons_succ]
        refine Eq.mpr (if_pos rfl) ?_
        refine step_put_p rfl (.tmp 19) (.tmp 20) (.tmp 26) 68 rfl 40 Try.underlying68 w.heap.size n rows (by simp [Act.eval]) (HG5.out.m.row hg5 HOFF.out) (by omega) (r0, r1) HWK.out v' (by simp [Act.eval, kv]) (by simp [Act.eval]) ?_
        intro w6 hm6 hg6
        refine hK.out _ _ (HS7.out w5 w6 hg5 hg6) (fun _ => ?_)
        clear hK
        try dsimp only [List.getElem_toArray, List.getElem_cons_zero, List.getElem_cons_succ]
        try simp only [Act.put]
        refine wpAnyH_done (by kernel_rfl) ?_ _
        have G6 := hide' (HG5.out.snoc ⟨r0, r1, r2, r3⟩ hown5 (show World.grownBy _ _ ((rows (r0, r1)).getD (.slice none 0 0)).ownBlock by rw [HV0.out]; exact hg5) (show _ = ((rows (r0, r1)).getD (.slice none 0 0)).ownBlock ∨ _ by rw [HV0.out]; exact hblk5) hm6 hg6)
        have B6 := hide' (((((B3.out.drew).alloc (by have := ZM.out; have := Z8.out; have := Z3.out; simp; omega) _).grown hg5 (by have := ZM.out; have := Z8.out; have := Z3.out; simp; omega) (fun j hj => by have := own_base' HR5.out j hj; omega)).grown hg6 (by have := ZM.out; have := Z8.out; have := Z3.out; have := hg5.size; simp at this; omega) (fun j hj => by cases hj; exact Nat.le_refl _)))
        have Z6 := hide' (show w.heap.size < w6.heap.size by have := ZM.out; have := Z8.out; have := Z3.out; have := hg5.size; have := hg6.size; simp at *; omega)
        rw [← HTK.out] at G6
        go_wp2_with fail
        go_roundw
        case rel => exact ⟨k + 1, by omega, by go_num, n + 1, _, by omega, G6.out, B6.out, Z6.out⟩
        case measure => simp [intOf]; omega
    · have hke : k = us.length := by omega
      subst hke
      have HG := hide' (show GrM wr (w.heap.size + 1) w.heap.size n rows us by have := hg.out; rwa [List.take_length] at this)
      go_wp2_with fail
      go_ret
      exact ⟨⟨n, rows, rfl, hn, HG.out⟩, hb.out⟩
end Go.Proofs.Ytmflbibogkebmaa
