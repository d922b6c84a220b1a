/- Cycles: the specification's search. Cycles: the specification's search, walked. CycleIn: the specification's side. -/
import Derived.Test.YtmflbibogkebmaaCf
import Derived.Deep.DeepCutAuto
import Derived.Deep.QuietTactic
import Derived.BigQuiet
import Derived.Test.YtmflbibogkebmaaPv
namespace Go.Proofs.Ytmflbibogkebmaa
open Go.RowKit
open Rd Fl

def okP (e : List Int) : Bool := decide (e.length = 2) && e.all (fun x => decide (0 ≤ x ∧ x ≤ 99))
theorem goodE_def (es : List (List Int)) : goodE es = (es.all okP && decide (es.length ≤ 100)) := rfl

theorem types_ne {w : World} {b b' e e' s s' n n' : Nat} {v v' : Value} {xs xs' : List Value} (h : w.ownsRow b e s v n xs) (h' : w.ownsRow b' e' s' v' n' xs') (hne : e ≠ e') : v.ownBlock = none ∨ v.ownBlock ≠ v'.ownBlock := by
  rcases h.2 with ⟨rfl, -⟩ | ⟨g, cap, cur, rfl, -, hg, -⟩
  · exact .inl rfl
  · right
    rcases h'.2 with ⟨rfl, -⟩ | ⟨g', cap', cur', rfl, -, hg', -⟩
    · simp [Value.ownBlock]
    · intro hh
      have : g = g' := by simpa [Value.ownBlock] using hh
      subst this
      rw [hg] at hg'
      cases hg'
      exact hne rfl
/-- blocks apart -/
def Apart (x y : Value) : Prop := ∀ g, x.ownBlock = some g → y.ownBlock ≠ some g
theorem Apart.or {x y : Value} (h : Apart x y) : x.ownBlock = none ∨ x.ownBlock ≠ y.ownBlock := by
  cases hx : x.ownBlock with
  | none => exact .inl rfl
  | some g => exact .inr (fun e => h g hx e.symm)
theorem apart_grown {w : World} {b e s n : Nat} {x y y' : Value} {xs : List Value} (hx : w.ownsRow b e s x n xs) (h : Apart x y) (hat : y'.ownBlock = y.ownBlock ∨ ∃ m, w.heap.size ≤ m ∧ y'.ownBlock = some m) : Apart x y' := by
  intro g hg
  rcases hat with hat | ⟨m, hm, hat⟩
  · rw [hat]; exact h g hg
  · rw [hat]; intro e
    have := (hx.lt g hg).2
    cases e
    omega
/-- The ways, and the numbers that were seen, in memory. -/
structure Wst (w : World) (wv : Value) (vs : List Value) (sv : Value) (ways : List (List Int)) (seen : List Int) (wr : World) : Prop where
  b : Below w.heap.size w wr
  o : wr.ownsRow w.heap.size 24 1 wv ways.length vs
  f : ∀ (i : Nat) (l : List Int), ways[i]? = some l → ∃ x, vs[i]? = some x ∧ wr.ownsRow w.heap.size 3 1 x l.length (l.map iv) ∧ Apart x sv
  s : wr.ownsRow w.heap.size 3 1 sv seen.length (seen.map iv)
theorem Wst.keep {w : World} {wv : Value} {vs : List Value} {sv : Value} {ways : List (List Int)} {seen : List Int} {wr wx : World} (h : Wst w wv vs sv ways seen wr) (hb : Below wr.heap.size wr wx) : Wst w wv vs sv ways seen wx :=
  ⟨h.b.trans (hb.mono h.b.size), own_keep h.o hb, fun i l hl => by
    obtain ⟨x, h1, h2, h3⟩ := h.f i l hl
    exact ⟨x, h1, own_keep h2 hb, h3⟩, own_keep h.s hb⟩
theorem tints_ne : (24 : Nat) ≠ 3 := by decide
theorem Wst.seenUp {w : World} {wv : Value} {vs : List Value} {sv sv' : Value} {ways : List (List Int)} {seen : List Int} {wr w3 : World} {n : Int} (h : Wst w wv vs sv ways seen wr) (hown : w3.ownsRow w.heap.size 3 1 sv' (seen.length + 1) (seen.map iv ++ [iv n])) (hg : wr.grownBy w3 sv.ownBlock) (hat : sv'.ownBlock = sv.ownBlock ∨ sv'.ownBlock = some wr.heap.size) : Wst w wv vs sv' ways (seen ++ [n]) w3 :=
  ⟨Below.grown h.b hg h.b.size (own_base' h.s), h.o.kept hg (types_ne h.o h.s tints_ne), fun i l hl => by
    obtain ⟨x, h1, h2, h3⟩ := h.f i l hl
    exact ⟨x, h1, h2.kept hg h3.or, apart_grown h2 h3 (hat.imp id fun e => ⟨_, Nat.le_refl _, e⟩)⟩, by rw [List.length_append, List.map_append]; exact hown⟩
theorem Wst.wayUp {w : World} {wv wv' : Value} {vs : List Value} {sv x : Value} {ways : List (List Int)} {seen : List Int} {wr w3 : World} {l : List Int} (h : Wst w wv vs sv ways seen wr) (hx : wr.ownsRow w.heap.size 3 1 x l.length (l.map iv)) (ha : Apart x sv) (hown : w3.ownsRow w.heap.size 24 1 wv' (ways.length + 1) (vs ++ [x])) (hg : wr.grownBy w3 wv.ownBlock) : Wst w wv' (vs ++ [x]) sv (ways ++ [l]) seen w3 := by
  have hvl : vs.length = ways.length := by have := h.o.1; omega
  refine ⟨Below.grown h.b hg h.b.size (own_base' h.o), by rw [List.length_append]; exact hown, fun i u hu => ?_, h.s.kept hg (types_ne h.s h.o (Ne.symm tints_ne))⟩
  by_cases hi : i < ways.length
  · rw [List.getElem?_append_left hi] at hu
    obtain ⟨y, h1, h2, h3⟩ := h.f i u hu
    exact ⟨y, by rw [List.getElem?_append_left (by omega)]; exact h1, h2.kept hg (types_ne h2 h.o (Ne.symm tints_ne)), h3⟩
  · have hi2 := (List.getElem?_eq_some_iff.1 hu).1
    have hi3 : i = ways.length := by simp at hi2; omega
    subst hi3
    simp at hu
    subst hu
    exact ⟨x, by rw [← hvl]; simp, hx.kept hg (types_ne hx h.o (Ne.symm tints_ne)), ha⟩

/-- the numbers that pairs lead to from x -/
def succs (E : List (Int × Int)) (x : Int) : List Int := (E.filter (fun p => p.1 == x)).map Prod.snd
theorem succs_mem (E : List (Int × Int)) (x n : Int) : n ∈ succs E x ↔ (x, n) ∈ E := by
  unfold succs
  rw [List.mem_map]
  constructor
  · rintro ⟨⟨a, b⟩, h1, rfl⟩
    rw [List.mem_filter] at h1
    have : a = x := by simpa using h1.2
    subst this
    exact h1.1
  · intro h
    exact ⟨(x, n), List.mem_filter.2 ⟨h, by simp⟩, rfl⟩
theorem succs_yes (E : List (Int × Int)) (x : Int) (p : Int × Int) (h : p.1 = x) : putAll (succs (E ++ [p]) x) = putR (putAll (succs E x)) p.2 := by
  unfold succs; rw [List.filter_append]; simp [h, putAll]
theorem succs_no (E : List (Int × Int)) (x : Int) (p : Int × Int) (h : ¬ p.1 = x) : succs (E ++ [p]) x = succs E x := by
  unfold succs; rw [List.filter_append]; simp [h]
theorem succs_len (E : List (Int × Int)) (x : Int) : (putAll (succs E x)).length ≤ E.length := by
  refine Nat.le_trans (putAll_len _) ?_
  unfold succs; rw [List.length_map]; exact List.length_filter_le _ _
end Go.Proofs.Ytmflbibogkebmaa
namespace Go.Proofs.Ytmflbibogkebmaa
open Go.RowKit
open Rd Fl

/-- The pairs E lie from R on. -/
def PrsAt (w : World) (R : Option Addr) (E : List (Int × Int)) : Prop :=
  ∃ b off, (E ≠ [] → R = some ⟨b, off, none⟩) ∧ ∀ (i : Nat) (h : i < E.length), ∃ b2 off2 cap, w.cell? ⟨b, off + i, none⟩ = some (.slice (some ⟨b2, off2, none⟩) 2 cap) ∧ w.cell? ⟨b2, off2, none⟩ = some (.int .i64 E[i].1) ∧ w.cell? ⟨b2, off2 + 1, none⟩ = some (.int .i64 E[i].2)
theorem prs_at {w : World} {R : Option Addr} {E : List (Int × Int)} (h : IssAt w R (E.map pairL)) : PrsAt w R E := by
  obtain ⟨b, off, h1, h2⟩ := h
  refine ⟨b, off, fun hne => h1 (by simpa using hne), fun i hi => ?_⟩
  obtain ⟨A, cap, h3, b2, off2, h4, h5⟩ := h2 i (pairL E[i]) (by rw [List.getElem?_map, List.getElem?_eq_getElem hi]; rfl)
  have hA := h4 (by simp [pairL])
  subst hA
  exact ⟨b2, off2, cap, h3, by have := h5 0 E[i].1 rfl; simpa [iv] using this, h5 1 E[i].2 rfl⟩
theorem PrsAt.keep {w w' : World} {R : Option Addr} {E : List (Int × Int)} (h : PrsAt w R E) (hb : Below w.heap.size w w') : PrsAt w' R E := by
  obtain ⟨b, off, h1, h2⟩ := h
  refine ⟨b, off, h1, fun i hi => ?_⟩
  obtain ⟨b2, off2, cap, h3, h4, h5⟩ := h2 i hi
  exact ⟨b2, off2, cap, keep_cell hb h3, keep_cell hb h4, keep_cell hb h5⟩
theorem own_one (w : World) (x : Value) (t : TypeId) (B : Nat) (hB : B ≤ w.heap.size) : (w.alloc (.cells #[x] t)).ownsRow B t 1 (.slice (some ⟨w.heap.size, 0, none⟩) 1 1) 1 [x] :=
  ⟨rfl, .inr ⟨w.heap.size, 1, #[x], rfl, hB, heap_alloc_new w _, Nat.le_refl _, by unfold maxLen; omega, rfl, rfl⟩⟩
theorem lst_at {l : List Int} (h : l ≠ []) : l[l.length - 1]? = some (lst l) := by
  rw [← List.getLast?_eq_getElem?]
  unfold lst
  cases l with
  | nil => exact absurd rfl h
  | cons a t => simp [List.getLast?_cons]
theorem tintsInfo : ∃ i, Try.prog.info? 24 = some i ∧ i.zero = some (.slice none 0 0) ∧ i.size = 1 ∧ i.bytes = 24 := by
  cases hi : Try.prog.info? 24 with
  | none => have := issInfo.1; rw [hi] at this; cases this
  | some i =>
    exact ⟨i, rfl, by have := issInfo.2.2; rw [hi] at this; simpa using this, by have := issInfo.1; rw [hi] at this; simpa using this, by have := issInfo.2.1; rw [hi] at this; simpa using this⟩

/-- What the rounds of the search's inner loop keep: the state, the way that is looked at (x, the list l), the numbers behind it (nv, ns). -/
structure Wsi (w : World) (wv : Value) (vs : List Value) (sv : Value) (ways : List (List Int)) (seen : List Int) (x : Value) (l : List Int) (nv : Value) (ns : List Int) (wr : World) : Prop where
  t : Wst w wv vs sv ways seen wr
  ox : wr.ownsRow w.heap.size 3 1 x l.length (l.map iv)
  xa : Apart x sv
  n : wr.ownsRow w.heap.size 3 1 nv ns.length (ns.map iv)
  na : Apart nv sv
theorem Wsi.keep {w : World} {wv : Value} {vs : List Value} {sv : Value} {ways : List (List Int)} {seen : List Int} {x : Value} {l : List Int} {nv : Value} {ns : List Int} {wr wx : World} (h : Wsi w wv vs sv ways seen x l nv ns wr) (hb : Below wr.heap.size wr wx) : Wsi w wv vs sv ways seen x l nv ns wx := ⟨h.t.keep hb, own_keep h.ox hb, h.xa, own_keep h.n hb, h.na⟩

/-- what l3Way answers -/
def WayAns (E : List (Int × Int)) (s : Int) (l : List Int) : Prop := (l = [] ∧ ¬ ∃ u, Clo E s u) ∨ (l ≠ [] ∧ Best E s l)
theorem Bfs.short {E : List (Int × Int)} {s : Int} {ways : List (List Int)} {i : Nat} {dn seen : List Int} (h : Bfs E s ways i dn seen) : ∀ (m k : Nat), k < m → ∀ l, ways[k]? = some l → l.length ≤ k + 1
  | 0, k, hk, _, _ => by omega
  | m + 1, k, hk, l, hl => by
    rcases h.w4 l (List.mem_of_getElem? hl) with rfl | ⟨j, u, n, hj, rfl, -⟩
    · simp
    · obtain ⟨hk1, hk2⟩ := List.getElem?_eq_some_iff.1 hl
      obtain ⟨hj1, hj2⟩ := List.getElem?_eq_some_iff.1 hj
      have hjk : j < k := by
        rcases Nat.lt_trichotomy j k with h5 | h5 | h5
        · exact h5
        · subst h5
          rw [hj] at hl
          have e := congrArg List.length (Option.some.inj hl)
          simp at e
        · have h6 := List.pairwise_iff_getElem.1 h.w2 k j hk1 hj1 h5
          rw [hk2, hj2] at h6
          exact absurd (slt_self u n) (slt_asy h6)
      have := Bfs.short h m j (by omega) u hj
      simp
      omega

theorem succs_short {E : List (Int × Int)} (hE : ∀ p ∈ E, (0 ≤ p.1 ∧ p.1 < 100) ∧ (0 ≤ p.2 ∧ p.2 < 100)) (x : Int) : (putAll (succs E x)).length ≤ 100 :=
  nodup_le 100 _ (List.nodup_iff_pairwise_ne.2 ((putAll_rises _).imp fun h => by omega)) fun n hn => by
    rw [putAll_mem, succs_mem] at hn
    exact (hE _ hn).2
set_option maxRecDepth 20000 in
set_option maxHeartbeats 8000000 in
theorem l3way_any (R : Option Addr) (E : List (Int × Int)) (cap : Nat) (hl : E.length ≤ 10000) (hE : ∀ p ∈ E, (0 ≤ p.1 ∧ p.1 < 100) ∧ (0 ≤ p.2 ∧ p.2 < 100)) (s : Int) (w : World) (hR : PrsAt w R E) :
    Calls Try.prog 78 #[.slice R E.length cap, .int .i64 s, .int .i64 s] w fun e w' => (∃ v l, e = .returned v ∧ WayAns E s l ∧ ResI l w' w.heap.size w'.heap.size v) ∧ Below w.heap.size w w' := by
  obtain ⟨i0, hi, hz0, hz1, hz2⟩ := inInfo
  obtain ⟨i1, hi1, hy0, hy1, hy2⟩ := tintsInfo
  have hl' : (E.length : Int) ≤ 10000 := by omega
  obtain ⟨b, off, hA1, hc⟩ := hR
  have HA := hide' hA1
  have HC := hide' hc
  have HEB := hide' hE
  have HTS := hide' (fun k (h : k < E.length) => List.take_succ_eq_append_getElem h)
  clear hc hA1 hE hl
  have W1 := hide' (below2 w (.cells #[.int .i64 s] 3) (.cells #[.slice (some ⟨w.heap.size, 0, none⟩) 1 1] 24))
  have W0 := hide' (show Wst w (.slice (some ⟨w.heap.size + 1, 0, none⟩) 1 1) [.slice (some ⟨w.heap.size, 0, none⟩) 1 1] (.slice none 0 0) [[s]] [] ((w.alloc (.cells #[.int .i64 s] 3)).alloc (.cells #[.slice (some ⟨w.heap.size, 0, none⟩) 1 1] 24)) from ⟨W1.out, by have := own_one (w.alloc (.cells #[.int .i64 s] 3)) (.slice (some ⟨w.heap.size, 0, none⟩) 1 1) 24 w.heap.size (by simp); simpa using this, fun i l hl => by
    match i, hl with
    | 0, hl =>
      have e : l = [s] := by simpa using hl.symm
      subst e
      exact ⟨_, rfl, (own_one w (.int .i64 s) 3 w.heap.size (Nat.le_refl _)).alloc _, fun g _ => by simp [Value.ownBlock]⟩, World.ownsRow_nil _ _ _ _⟩)
  clear W1
  go_enter Try.func78, Try.ntmps78
  go_wp2
  go_loopw [7, 8, 9] (fun wv sv i wr => ∃ (k : Nat) (ways : List (List Int)) (seen : List Int) (vs : List Value), k ≤ 101 ∧ i = .int .i64 k ∧ k ≤ ways.length ∧ Hid (Bfs E s ways k [] seen) ∧ Hid (Wst w wv vs sv ways seen wr)) (fun _ _ i _ => 102 - (intOf i).toNat)
  case atStart => exact ⟨0, [[s]], [], _, by omega, rfl, by omega, bfs_start E s, W0.out⟩
  case round =>
    obtain ⟨k, ways, seen, vs, hk, rfl, hkw, hbf, hst⟩ := hrel
    obtain ⟨wo, rfl⟩ : ∃ wo, wo = wr := ⟨_, rfl⟩
    have hwl : (ways.length : Int) ≤ 101 := by have := hbf.out.len; omega
    obtain ⟨gw, cw, ew⟩ : ∃ gw cw, u7 = .slice (some ⟨gw, 0, none⟩) ways.length cw := by
      rcases hst.out.o.2 with ⟨-, h0⟩ | ⟨g, c, cur, h1, -⟩
      · have := (List.getElem?_eq_some_iff.1 hbf.out.w0).1; omega
      · exact ⟨g, c, h1⟩
    subst ew
    by_cases hlt : k < ways.length
    · have HK := hide' (List.getElem?_eq_getElem hlt)
      have HM := hide' (hbf.out.w1 ways[k] (List.getElem_mem hlt))
      generalize ways[k] = l at HK HM
      obtain ⟨x, hx1, hx2, hx3⟩ := hst.out.f k l HK.out
      have hlne : l ≠ [] := by obtain ⟨⟨t, ht⟩, -⟩ := HM.out; rw [ht]; simp
      have hl0 : l.length ≠ 0 := fun h => hlne (List.length_eq_zero_iff.1 h)
      obtain ⟨g, cp, ex⟩ := own_slice hx2 hl0
      subst ex
      have cx : wo.cell? ⟨gw, k, none⟩ = some (.slice (some ⟨g, 0, none⟩) l.length cp) := by
        have := hst.out.o.cellAt k (by omega)
        rw [this]; exact hx1
      have hll : (l.length : Int) ≤ 1000 := by have := hbf.out.short (k + 1) k (by omega) l HK.out; omega
      have cl : wo.cell? ⟨g, l.length - 1, none⟩ = some (.int .i64 (lst l)) := by
        have h1 := own_cells hx2 (l.length - 1) (by omega)
        have h2 := lst_at hlne
        rw [List.getElem?_eq_getElem (by omega)] at h2
        rw [h1]; simpa using h2
      have CX := hide' cx
      have CL := hide' cl
      have HX := hide' hx2
      have HXA := hide' hx3
      have N0 := hide' (show Rsp wo (.slice none 0 0) (putAll (succs (E.take 0) (lst l))) wo from ⟨Below.refl _ _, World.ownsRow_nil _ _ _ _⟩)
      have hl1 : ((l.length : Int) - 1) = ((l.length - 1 : Nat) : Int) := by omega
      clear hx1 hx2 hx3 cl hlne
      go_wp2_with fail
      go_loopw [11, 31] (fun nv i wx => ∃ j : Nat, j ≤ E.length ∧ i = .int .i64 j ∧ Hid (Rsp wo nv (putAll (succs (E.take j) (lst l))) wx)) (fun _ i _ => E.length - (intOf i).toNat)
      case atStart => exact ⟨0, Nat.zero_le _, rfl, N0.out⟩
      case round =>
        obtain ⟨j, hj, rfl, hr⟩ := hrel
        by_cases hjl : j < E.length
        · have hA2 := HA.out (fun e => by rw [e] at hjl; simp at hjl)
          subst hA2
          obtain ⟨b2, off2, cap2, d0, d1, d2⟩ := HC.out j hjl
          have HB := hide' (hst.out.b.trans (hr.out.b.mono hst.out.b.size))
          have c0 := keep_cell HB.out d0
          have c1 := keep_cell HB.out d1
          have c2 := keep_cell HB.out d2
          have c3 := keep_cell hr.out.b CL.out
          have HT := hide' (HTS.out j hjl)
          have HLN := hide' (show (putAll (succs (E.take j) (lst l))).length ≤ 1000 by have := succs_short (E := E.take j) (fun p hp => HEB.out p (List.mem_of_mem_take hp)) (lst l); omega)
          generalize E[j] = p at c0 c1 c2 HT
          obtain ⟨pa, pb⟩ := p
          simp only at c0 c1 c2
          clear d0 d1 d2
          by_cases hpa : pa = lst l
          · have HY := hide' (succs_yes (E.take j) (lst l) (pa, pb) hpa)
            rw [← HT.out] at HY
            rw [← hpa] at c3
            go_wp2_with fail
            go_quiet (fail)
            go_wp2_with (go_at_call 42; refine (l1put_any _ pb _ HLN.out wo _ (hr.out.keep (below_draws (Below.refl _ _) _))).mono ?_; rintro e w3 ⟨⟨v3, rfl, hr3⟩, hb3⟩)
            go_roundw
            case rel => exact ⟨j + 1, by omega, by go_num, show Rsp wo _ _ _ by rw [HY.out]; exact hr3⟩
            case measure => simp [intOf]; omega
          · have HY := hide' (succs_no (E.take j) (lst l) (pa, pb) hpa)
            rw [← HT.out] at HY
            have hpa' : (pa == lst l) = false := by simp [hpa]
            go_wp2_with fail
            go_quiet (fail)
            go_wp2_with fail
            go_roundw
            case rel => exact ⟨j + 1, by omega, by go_num, show Rsp wo _ _ _ by rw [HY.out]; exact hr.out.keep (below_draws (Below.refl _ _) _)⟩
            case measure => simp [intOf]; omega
        · have hje : j = E.length := by omega
          subst hje
          have R2 := hide' (show Rsp wo u11 (putAll (succs E (lst l))) wr by have := hr.out; rw [List.take_length] at this; exact this)
          clear hr
          obtain ⟨wn, rfl⟩ : ∃ wn, wn = wr := ⟨_, rfl⟩
          have HNS := hide' (fun n => (putAll_mem (succs E (lst l)) n).trans (succs_mem E (lst l) n))
          have HNP := hide' (putAll_rises (succs E (lst l)))
          have HNL := hide' (succs_len E (lst l))
          generalize putAll (succs E (lst l)) = ns at R2 HNS HNP HNL
          have hnl : (ns.length : Int) ≤ 10000 := by have := HNL.out; omega
          obtain ⟨An, cn, en, hAn⟩ := own_at R2.out.o
          have APN := hide' (show Apart u11 u8 by
            intro g hg e
            have h1 := own_base' R2.out.o g hg
            have h2 := (hst.out.s.lt g e).2
            omega)
          subst en
          have I3 := hide' (show Wsi w (.slice (some ⟨gw, 0, none⟩) ways.length cw) vs u8 ways seen (.slice (some ⟨g, 0, none⟩) l.length cp) l (.slice An ns.length cn) ns wn from ⟨hst.out.keep R2.out.b, own_keep HX.out R2.out.b, HXA.out, own_less R2.out.o hst.out.b.size, APN.out⟩)
          clear hAn CL CX cx
          go_wp2_with fail
          go_loopw [7, 8, 53] (fun wv sv i wx => ∃ (m : Nat) (ways' : List (List Int)) (seen' : List Int) (vs' : List Value), m ≤ ns.length ∧ i = .int .i64 m ∧ Hid (ways'[k]? = some l) ∧ Hid (Bfs E s ways' k (ns.take m) seen') ∧ Hid (Wsi w wv vs' sv ways' seen' (.slice (some ⟨g, 0, none⟩) l.length cp) l (.slice An ns.length cn) ns wx)) (fun _ _ i _ => ns.length - (intOf i).toNat)
          case atStart => exact ⟨0, ways, seen, vs, Nat.zero_le _, rfl, HK.out, hbf.out, I3.out⟩
          case round =>
            obtain ⟨m, ways', seen', vs', hm, rfl, hk', hbf', hsi⟩ := hrel
            by_cases hml : m < ns.length
            · obtain ⟨An', cn', en', hAn'⟩ := own_at hsi.out.n
              cases en'
              obtain ⟨bn, on, hn1, hn2⟩ := hAn'
              have hn3 := hn1 (fun e => by rw [e] at hml; simp at hml)
              subst hn3
              have c0 : _ = some (Value.int .i64 ns[m]) := hn2 m ns[m] (List.getElem?_eq_getElem hml)
              have HTM := hide' (List.take_succ_eq_append_getElem hml)
              have HNE := hide' ((HNS.out ns[m]).1 (List.getElem_mem hml))
              have HLT := hide' (show ∀ x ∈ ns.take m, x < ns[m] by
                intro x hx
                obtain ⟨q, hq, rfl⟩ := List.mem_iff_getElem.1 hx
                have hq2 : q < m := by simp at hq; omega
                rw [List.getElem_take]
                exact List.pairwise_iff_getElem.1 HNP.out q m (by omega) hml hq2)
              clear hn1 hn2
              generalize ns[m] = n at c0 HTM HNE HLT
              by_cases hns : n = s
              · subst hns
                have HBEST := hide' (hbf'.out.found hk'.out HNE.out)
                go_wp2_with fail
                go_ret
                exact ⟨⟨_, l, rfl, .inr ⟨fun e => hl0 (by rw [e]; rfl), HBEST.out⟩, resi_of hsi.out.ox (by omega)⟩, hsi.out.t.b⟩
              · have hsl : seen'.length ≤ 1000 := by have := hbf'.out.len; omega
                obtain ⟨As, cs, es, hAs⟩ := own_at hsi.out.t.s
                subst es
                have HHAS := hide' (l1has_any As seen' cs n (by omega) wr hAs)
                clear hAs
                by_cases hin : n ∈ seen'
                · have HZ := hide' (hbf'.out.skip hk'.out HLT.out hns hin)
                  rw [← HTM.out] at HZ
                  rw [decide_eq_true hin] at HHAS
                  clear hin
                  go_wp2_with (go_at_call 43; refine HHAS.out.mono ?_; rintro e w4 ⟨rfl, rfl⟩)
                  go_roundw
                  case rel => exact ⟨m + 1, ways', seen', vs', by omega, by go_num, hk'.out, HZ.out, hsi.out⟩
                  case measure => simp [intOf]; omega
                · have HZ := hide' (hbf'.out.add hk'.out HLT.out hns hin HNE.out (HEB.out _ HNE.out).2)
                  rw [← HTM.out] at HZ
                  rw [decide_eq_false hin] at HHAS
                  clear hin
                  have SL := hide' (show seen'.length ≤ 1000 from hsl)
                  have WL := hide' hbf'.out.len.1
                  have C1 := hide' (one_new wr n)
                  have S1 := hide' (hsi.out.keep ((Below.refl _ wr).up (.cells #[.int .i64 n] 3)))
                  have HK2 := hide' (show (ways' ++ [l ++ [n]])[k]? = some l by rw [List.getElem?_append_left (List.getElem?_eq_some_iff.1 hk'.out).1]; exact hk'.out)
                  have ZB := hide' (show w.heap.size ≤ wr.heap.size from hsi.out.t.b.size)
                  go_wp2_with (first | (go_at_call 43; refine HHAS.out.mono ?_; rintro e w4 ⟨rfl, h4⟩; subst w4) | (at_builtin; refine wpList_append_own_at _ rfl _ _ 24 rfl w.heap.size 3 i0 (.int .i64 0) 1 8 Try.underlying24 hi hz0 hz1 hz2 rfl (by decide) _ _ _ rfl S1.out.t.s ⟨wr.heap.size, 0, none⟩ 1 1 [iv n] rfl rfl C1.out (one_iv n) (by have := SL.out; unfold maxLen; omega) (by have := SL.out; omega) (by have := ZB.out; simp; omega) ?_))
                  intro sv5 w5 hown5 hg5 _ hat5
                  have hat5' : sv5.ownBlock = (Value.slice As seen'.length cs).ownBlock ∨ sv5.ownBlock = some (wr.alloc (.cells #[.int .i64 n] 3)).heap.size := by simpa using hat5
                  have S5 := hide' (show Wsi w _ vs' sv5 ways' (seen' ++ [n]) (.slice (some ⟨g, 0, none⟩) l.length cp) l (.slice (some ⟨bn, on, none⟩) ns.length cn) ns w5 from ⟨S1.out.t.seenUp hown5 hg5 hat5', S1.out.ox.kept hg5 S1.out.xa.or, apart_grown S1.out.ox S1.out.xa (hat5'.imp id fun e => ⟨_, Nat.le_refl _, e⟩), S1.out.n.kept hg5 S1.out.na.or, apart_grown S1.out.n S1.out.na (hat5'.imp id fun e => ⟨_, Nat.le_refl _, e⟩)⟩)
                  clear hown5 hg5 hat5 hat5' S1 C1 hsi HHAS
                  have hl1000 : l.length ≤ 1000 := by omega
                  go_wp2_with (first | (go_at_call 94; refine (l1own_any l g cp w.heap.size hl1000 w5 S5.out.ox).mono ?_; rintro e w6 ⟨⟨v6, rfl, ho6⟩, hb6⟩; have O6 := hide' ho6; have B6 := hide' hb6; have C6 := hide' (one_new w6 n); have Z6 := hide' hb6.size; clear ho6 hb6) | (at_builtin; refine wpList_append_own _ rfl _ _ 24 rfl w5.heap.size 3 i0 (.int .i64 0) 1 8 Try.underlying24 hi hz0 hz1 hz2 rfl (by decide) _ _ _ rfl (O6.out.alloc _) ⟨w6.heap.size, 0, none⟩ 1 1 [iv n] rfl rfl C6.out (one_iv n) (by unfold maxLen; omega) (by omega) (by have := Z6.out; simp; omega) ?_))
                  intro v7 w7 hown7 hg7 _
                  obtain ⟨g7, c7, e7⟩ := own_slice hown7 (by omega)
                  subst e7
                  have B7 := hide' (Below.grown (B6.out.up (.cells #[.int .i64 n] 3)) hg7 (by have := Z6.out; simp; omega) (own_base' O6.out))
                  have O7 := hide' (show w7.ownsRow w5.heap.size 3 1 (.slice (some ⟨g7, 0, none⟩) (l.length + 1) c7) (l ++ [n]).length ((l ++ [n]).map iv) by rw [List.length_append, List.map_append]; exact hown7)
                  have S7 := hide' ((S5.out.keep B7.out).keep ((Below.refl _ w7).up (.cells #[(.slice (some ⟨g7, 0, none⟩) (l.length + 1) c7)] 24)))
                  have A7 := hide' (show Apart (.slice (some ⟨g7, 0, none⟩) (l.length + 1) c7) sv5 by
                    intro q hq e
                    have h1 := own_base' O7.out q hq
                    have h2 := (S5.out.t.s.lt q e).2
                    omega)
                  have X7 := hide' ((own_less O7.out S5.out.t.b.size).alloc (.cells #[(.slice (some ⟨g7, 0, none⟩) (l.length + 1) c7)] 24))
                  have C7 := hide' (cell_one_new w7 (.slice (some ⟨g7, 0, none⟩) (l.length + 1) c7) 24)
                  have E7 := hide' (show ∀ u ∈ [Value.slice (some ⟨g7, 0, none⟩) (l.length + 1) c7], u.oneCell' = true by
                    intro u hu
                    rw [List.mem_singleton] at hu
                    subst hu
                    rfl)
                  have Z7 := hide' (show w.heap.size ≤ w7.heap.size from Nat.le_trans S5.out.t.b.size B7.out.size)
                  clear hown7 hg7 S5 O6 B6 C6 Z6
                  go_wp2_with (at_builtin; refine wpList_append_own _ rfl _ _ 34 rfl w.heap.size 24 i1 (.slice none 0 0) 1 24 Try.underlying34 hi1 hy0 hy1 hy2 rfl (by decide) _ _ _ rfl S7.out.t.o ⟨w7.heap.size, 0, none⟩ 1 1 [(.slice (some ⟨g7, 0, none⟩) (l.length + 1) c7)] rfl rfl C7.out E7.out (by have := WL.out; unfold maxLen; omega) (by have := WL.out; omega) (by have := Z7.out; simp; omega) ?_)
                  intro wv8 w8 hown8 hg8 _
                  have S8 := hide' (show Wsi w wv8 (vs' ++ [(.slice (some ⟨g7, 0, none⟩) (l.length + 1) c7)]) sv5 (ways' ++ [l ++ [n]]) (seen' ++ [n]) (.slice (some ⟨g, 0, none⟩) l.length cp) l (.slice (some ⟨bn, on, none⟩) ns.length cn) ns w8 from ⟨S7.out.t.wayUp X7.out A7.out hown8 hg8, S7.out.ox.kept hg8 (types_ne S7.out.ox S7.out.t.o (Ne.symm tints_ne)), S7.out.xa, S7.out.n.kept hg8 (types_ne S7.out.n S7.out.t.o (Ne.symm tints_ne)), S7.out.na⟩)
                  clear hown8 hg8
                  go_wp2_with fail
                  go_roundw
                  case rel => exact ⟨m + 1, ways' ++ [l ++ [n]], seen' ++ [n], _, by omega, by go_num, HK2.out, HZ.out, S8.out⟩
                  case measure => simp [intOf]; omega
            · have hme : m = ns.length := by omega
              subst hme
              have HZ := hide' (hbf'.out.next hk'.out (fun n hn => by rw [List.take_length]; exact (HNS.out n).2 hn))
              have hkk : k + 1 ≤ ways'.length := by have := (List.getElem?_eq_some_iff.1 hk'.out).1; omega
              have hk101 : ways'.length ≤ 101 := hbf'.out.len.1
              go_wp2_with fail
              go_roundw
              case rel => exact ⟨k + 1, ways', seen', vs', by omega, by go_num, hkk, HZ.out, hsi.out.t⟩
              case measure => simp [intOf]; omega
    · have hke : k = ways.length := by omega
      subst hke
      have HNONE := hide' hbf.out.none
      go_wp2_with fail
      go_ret
      exact ⟨⟨_, [], rfl, .inl ⟨rfl, HNONE.out⟩, resi_of (World.ownsRow_nil _ _ _ _) (by simp)⟩, hst.out.b⟩
end Go.Proofs.Ytmflbibogkebmaa
namespace Go.Proofs.Ytmflbibogkebmaa
open Go.RowKit
open Rd Fl

/-- what both sides tell of good pairs -/
def CycAns (E : List (Int × Int)) (l : List Int) : Prop :=
  (l = [] ∧ ∀ n : Int, 0 ≤ n → n < 100 → ¬ ∃ u, Clo E n u) ∨ (l ≠ [] ∧ ∃ n : Int, 0 ≤ n ∧ n < 100 ∧ (∀ m : Int, 0 ≤ m → m < n → ¬ ∃ u, Clo E m u) ∧ Best E n l)
theorem cyc_one {E : List (Int × Int)} {l m : List Int} (h : CycAns E l) (k : CycAns E m) : l = m := by
  rcases h with ⟨rfl, h⟩ | ⟨-, n, h0, h1, h2, h3⟩
  · rcases k with ⟨rfl, -⟩ | ⟨-, n, k0, k1, -, k3⟩
    · rfl
    · exact absurd ⟨m, k3.1⟩ (h n k0 k1)
  · rcases k with ⟨rfl, k⟩ | ⟨-, n', k0, k1, k2, k3⟩
    · exact absurd ⟨l, h3.1⟩ (k n h0 h1)
    · rcases Int.lt_trichotomy n n' with e | rfl | e
      · exact absurd ⟨l, h3.1⟩ (k2 n h0 e)
      · exact best_one h3 k3
      · exact absurd ⟨m, k3.1⟩ (h2 n' k0 e)
def CiAns (es : List (List Int)) (l : List Int) : Prop := (goodE es = false ∧ l = []) ∨ (goodE es = true ∧ ∀ E : List (Int × Int), es = E.map pairL → CycAns E l)
theorem ci_one {es : List (List Int)} {l m : List Int} (h : CiAns es l) (k : CiAns es m) : l = m := by
  rcases h with ⟨h, rfl⟩ | ⟨h, h'⟩
  · rcases k with ⟨-, rfl⟩ | ⟨k, -⟩
    · rfl
    · rw [h] at k; cases k
  · rcases k with ⟨k, -⟩ | ⟨-, k'⟩
    · rw [h] at k; cases k
    · obtain ⟨E, hE, -⟩ := goodE_pairs h
      exact cyc_one (h' E hE) (k' E hE)
theorem pairL_inj {E F : List (Int × Int)} (h : E.map pairL = F.map pairL) : E = F := by
  induction E generalizing F with
  | nil => cases F with
    | nil => rfl
    | cons a t => cases h
  | cons a t ih =>
    cases F with
    | nil => cases h
    | cons b r =>
      rw [List.map_cons, List.map_cons, List.cons.injEq] at h
      rw [ih h.2]
      obtain ⟨a1, a2⟩ := a
      obtain ⟨b1, b2⟩ := b
      have := h.1
      simp [pairL] at this
      rw [this.1, this.2]

set_option maxRecDepth 20000 in
set_option maxHeartbeats 2000000 in
theorem l3cycle_any (R : Option Addr) (E : List (Int × Int)) (cap : Nat) (hl : E.length ≤ 10000) (hE : ∀ p ∈ E, (0 ≤ p.1 ∧ p.1 < 100) ∧ (0 ≤ p.2 ∧ p.2 < 100)) (w : World) (hR : PrsAt w R E) :
    Calls Try.prog 56 #[.slice R E.length cap] w fun e w' => (∃ v l, e = .returned v ∧ CycAns E l ∧ ResI l w' w.heap.size w'.heap.size v) ∧ Below w.heap.size w w' := by
  have HW := hide' (fun s w h => l3way_any R E cap hl hE s w h)
  have HR := hide' hR
  clear hl hE hR
  go_enter Try.func56, Try.ntmps56
  go_wp2
  go_loopw [3] (fun i wr => ∃ k : Nat, k ≤ 100 ∧ i = .int .i64 k ∧ Hid (∀ m : Int, 0 ≤ m → m < k → ¬ ∃ u, Clo E m u) ∧ Hid (Below w.heap.size w wr)) (fun i _ => 100 - (intOf i).toNat)
  case atStart => exact ⟨0, by omega, rfl, (fun m h1 h2 => by omega), Below.refl _ _⟩
  case round =>
    obtain ⟨k, hk, rfl, hno, hb⟩ := hrel
    by_cases hlt : k < 100
    · have hlt' : (k : Int) < 100 := by omega
      go_wp2_with (go_at_call 78; refine (HW.out k _ (HR.out.keep hb.out)).mono ?_; rintro e w1 ⟨⟨v, l, rfl, hans, hres⟩, hb1⟩; have HV := hide' hres; have HAN := hide' hans; have B1 := hide' (hb.out.trans (hb1.mono hb.out.size)); have Z1 := hide' hb.out.size; clear hres hans hb1; obtain ⟨A, M, cv, ev, -, -, -, -⟩ := resi_open HV.out; subst ev)
      · go_ret
        have hne : l ≠ [] := fun e => by subst e; simp at *
        rcases HAN.out with ⟨h1, -⟩ | ⟨-, h2⟩
        · exact absurd h1 hne
        · exact ⟨⟨_, l, rfl, .inr ⟨hne, k, by omega, hlt', hno.out, h2⟩, resi_less HV.out Z1.out⟩, B1.out⟩
      · have he : l = [] := List.length_eq_zero_iff.1 (by simp at *; omega)
        rcases HAN.out with ⟨-, h2⟩ | ⟨h1, -⟩
        · go_roundw
          case rel => exact ⟨k + 1, by omega, by go_num, (fun m m1 m2 => by
            by_cases e : m = k
            · subst e; exact h2
            · exact hno.out m m1 (by omega)), B1.out⟩
          case measure => simp [intOf]; omega
        · exact absurd he h1
    · have hke : k = 100 := by omega
      subst hke
      go_wp2_with fail
      go_ret
      exact ⟨⟨_, [], rfl, .inl ⟨rfl, fun n h1 h2 => hno.out n h1 (by simpa using h2)⟩, resi_of (World.ownsRow_nil _ _ _ _) (by simp)⟩, hb.out⟩

end Go.Proofs.Ytmflbibogkebmaa
