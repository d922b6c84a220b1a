/- Cycles: the specification's search. -/
import Derived.Test.YtddapifljinjeaaCf
import Derived.Deep.DeepCutAuto
import Derived.Deep.QuietTactic
import Derived.BigQuiet
namespace Go.Proofs.Ytddapifljinjeaa
open Go.RowKit
open Rd Fl

def okP (e : List Int) : Bool := decide (e.length = 2) && e.all (fun x => decide (0 ≤ x ∧ x ≤ 99))
theorem goodE_def (es : List (List Int)) : goodE es = (es.all okP && decide (es.length ≤ 100)) := rfl

set_option maxRecDepth 20000 in
set_option maxHeartbeats 1000000 in
theorem l3pairs_any (R : Option Addr) (es : List (List Int)) (cap : Nat) (hl : es.length ≤ 1048576) (hls : ∀ l ∈ es, l.length ≤ 1048576) (w : World) (hR : IssAt w R es) :
    Calls Try.prog 30 #[.slice R es.length cap] w fun e w' => e = .returned (.bool (goodE es)) ∧ w' = w := by
  have hl' : (es.length : Int) ≤ 1048576 := by omega
  obtain ⟨b, off, hA1, hc⟩ := hR
  have HA := hide' hA1
  have HC := hide' (fun i (hi : i < es.length) => hc i es[i] (List.getElem?_eq_getElem hi))
  have HLS := hide' (fun i (hi : i < es.length) => hls es[i] (List.getElem_mem hi))
  have HGD := hide' (goodE_def es)
  have HTS := hide' (fun k (h : k < es.length) (h1 : ∀ x ∈ es.take k, okP x = true) (h2 : okP es[k] = true) => allC_succ (p := okP) h h1 h2)
  have HNO := hide' (fun k (h : k < es.length) (h2 : okP es[k] = false) => allC_no (p := okP) h h2)
  have HAL := hide' (fun (h1 : ∀ x ∈ es.take es.length, okP x = true) => allC_all (p := okP) h1)
  clear hc hA1 hls hl
  go_enter Try.func30, Try.ntmps30
  go_wp2
  go_loop [7] (fun i => ∃ k : Nat, k ≤ es.length ∧ i = .int .i64 k ∧ Hid (∀ x ∈ es.take k, okP x = true)) (fun i => es.length - (intOf i).toNat)
  case atStart => exact ⟨0, Nat.zero_le _, rfl, fun x hx => by cases hx⟩
  case round =>
    obtain ⟨k, hk, rfl, hlow⟩ := hrel
    by_cases hlt : k < es.length
    · have hA2 := HA.out (fun e => by rw [e] at hlt; simp at hlt)
      subst hA2
      obtain ⟨A, cp, c0, hat⟩ := HC.out k hlt
      have HL := hide' (HLS.out k hlt)
      have HT := hide' (HTS.out k hlt hlow.out)
      have HN := hide' (HNO.out k hlt)
      have HAT := hide' hat
      clear hat
      generalize es[k] = l at c0 HL HT HN HAT
      have hll : (l.length : Int) ≤ 1048576 := by have := HL.out; omega
      by_cases h2 : l.length = 2
      · have hall := l1allc_any A l cp 0 99 HL.out w HAT.out
        have e2 : okP l = l.all (inC 0 99) := by unfold okP; rw [decide_eq_true h2, Bool.true_and]; rfl
        have h2' : ((l.length : Int)) = 2 := by omega
        cases hb : l.all (inC 0 99)
        · rw [hb] at hall e2
          have HZ := hide' (HN.out e2)
          have HALL := hide' hall
          clear hall hb e2 HT HN h2
          rw [← h2'] at *
          go_wp2_with (go_at_call 44; refine HALL.out.mono ?_; rintro e w1 ⟨rfl, rfl⟩)
          go_ret
          exact ⟨by rw [HGD.out, HZ.out]; rfl, rfl⟩
        · rw [hb] at hall e2
          have HZ := hide' (HT.out e2)
          have HALL := hide' hall
          clear hall hb e2 HT HN h2
          rw [← h2'] at *
          go_wp2_with (go_at_call 44; refine HALL.out.mono ?_; rintro e w1 ⟨rfl, rfl⟩)
          go_round
          case rel => exact ⟨k + 1, by omega, by go_num, HZ.out⟩
          case measure => simp [intOf]; omega
      · have e2 : okP l = false := by unfold okP; rw [decide_eq_false h2, Bool.false_and]
        have h2' : ¬ ((l.length : Int)) = 2 := by omega
        have HZ := hide' (HN.out e2)
        clear e2 HT HN h2 HAT
        go_wp2_with fail
        go_ret
        exact ⟨by rw [HGD.out, HZ.out]; rfl, rfl⟩
    · have hke : k = es.length := by omega
      subst hke
      have HZ := hide' (HAL.out hlow.out)
      by_cases h100 : es.length ≤ 100
      · have h' : (es.length : Int) ≤ 100 := by omega
        have HD := hide' (decide_eq_true h100)
        go_wp2_with fail
        go_ret
        exact ⟨by rw [HGD.out, HZ.out, HD.out]; rfl, rfl⟩
      · have h' : ¬ (es.length : Int) ≤ 100 := by omega
        have HD := hide' (decide_eq_false h100)
        go_wp2_with fail
        go_ret
        exact ⟨by rw [HGD.out, HZ.out, HD.out]; rfl, rfl⟩

theorem types_ne {w : World} {b b' e e' s s' n n' : Nat} {v v' : Value} {xs xs' : List Value} (h : w.ownsRow b e s v n xs) (h' : w.ownsRow b' e' s' v' n' xs') (hne : e ≠ e') : v.ownBlock = none ∨ v.ownBlock ≠ v'.ownBlock := by
  rcases h.2 with ⟨rfl, -⟩ | ⟨g, cap, cur, rfl, -, hg, -⟩
  · exact .inl rfl
  · right
    rcases h'.2 with ⟨rfl, -⟩ | ⟨g', cap', cur', rfl, -, hg', -⟩
    · simp [Value.ownBlock]
    · intro hh
      have : g = g' := by simpa [Value.ownBlock] using hh
      subst this
      rw [hg] at hg'
      cases hg'
      exact hne rfl
/-- blocks apart -/
def Apart (x y : Value) : Prop := ∀ g, x.ownBlock = some g → y.ownBlock ≠ some g
theorem Apart.or {x y : Value} (h : Apart x y) : x.ownBlock = none ∨ x.ownBlock ≠ y.ownBlock := by
  cases hx : x.ownBlock with
  | none => exact .inl rfl
  | some g => exact .inr (fun e => h g hx e.symm)
theorem apart_grown {w : World} {b e s n : Nat} {x y y' : Value} {xs : List Value} (hx : w.ownsRow b e s x n xs) (h : Apart x y) (hat : y'.ownBlock = y.ownBlock ∨ ∃ m, w.heap.size ≤ m ∧ y'.ownBlock = some m) : Apart x y' := by
  intro g hg
  rcases hat with hat | ⟨m, hm, hat⟩
  · rw [hat]; exact h g hg
  · rw [hat]; intro e
    have := (hx.lt g hg).2
    cases e
    omega
/-- The ways, and the numbers that were seen, in memory. -/
structure Wst (w : World) (wv : Value) (vs : List Value) (sv : Value) (ways : List (List Int)) (seen : List Int) (wr : World) : Prop where
  b : Below w.heap.size w wr
  o : wr.ownsRow w.heap.size 23 1 wv ways.length vs
  f : ∀ (i : Nat) (l : List Int), ways[i]? = some l → ∃ x, vs[i]? = some x ∧ wr.ownsRow w.heap.size 3 1 x l.length (l.map iv) ∧ Apart x sv
  s : wr.ownsRow w.heap.size 3 1 sv seen.length (seen.map iv)
theorem Wst.keep {w : World} {wv : Value} {vs : List Value} {sv : Value} {ways : List (List Int)} {seen : List Int} {wr wx : World} (h : Wst w wv vs sv ways seen wr) (hb : Below wr.heap.size wr wx) : Wst w wv vs sv ways seen wx :=
  ⟨h.b.trans (hb.mono h.b.size), own_keep h.o hb, fun i l hl => by
    obtain ⟨x, h1, h2, h3⟩ := h.f i l hl
    exact ⟨x, h1, own_keep h2 hb, h3⟩, own_keep h.s hb⟩
theorem tints_ne : (23 : Nat) ≠ 3 := by decide
theorem Wst.seenUp {w : World} {wv : Value} {vs : List Value} {sv sv' : Value} {ways : List (List Int)} {seen : List Int} {wr w3 : World} {n : Int} (h : Wst w wv vs sv ways seen wr) (hown : w3.ownsRow w.heap.size 3 1 sv' (seen.length + 1) (seen.map iv ++ [iv n])) (hg : wr.grownBy w3 sv.ownBlock) (hat : sv'.ownBlock = sv.ownBlock ∨ sv'.ownBlock = some wr.heap.size) : Wst w wv vs sv' ways (seen ++ [n]) w3 :=
  ⟨Below.grown h.b hg h.b.size (own_base' h.s), h.o.kept hg (types_ne h.o h.s tints_ne), fun i l hl => by
    obtain ⟨x, h1, h2, h3⟩ := h.f i l hl
    exact ⟨x, h1, h2.kept hg h3.or, apart_grown h2 h3 (hat.imp id fun e => ⟨_, Nat.le_refl _, e⟩)⟩, by rw [List.length_append, List.map_append]; exact hown⟩
theorem Wst.wayUp {w : World} {wv wv' : Value} {vs : List Value} {sv x : Value} {ways : List (List Int)} {seen : List Int} {wr w3 : World} {l : List Int} (h : Wst w wv vs sv ways seen wr) (hx : wr.ownsRow w.heap.size 3 1 x l.length (l.map iv)) (ha : Apart x sv) (hown : w3.ownsRow w.heap.size 23 1 wv' (ways.length + 1) (vs ++ [x])) (hg : wr.grownBy w3 wv.ownBlock) : Wst w wv' (vs ++ [x]) sv (ways ++ [l]) seen w3 := by
  have hvl : vs.length = ways.length := by have := h.o.1; omega
  refine ⟨Below.grown h.b hg h.b.size (own_base' h.o), by rw [List.length_append]; exact hown, fun i u hu => ?_, h.s.kept hg (types_ne h.s h.o (Ne.symm tints_ne))⟩
  by_cases hi : i < ways.length
  · rw [List.getElem?_append_left hi] at hu
    obtain ⟨y, h1, h2, h3⟩ := h.f i u hu
    exact ⟨y, by rw [List.getElem?_append_left (by omega)]; exact h1, h2.kept hg (types_ne h2 h.o (Ne.symm tints_ne)), h3⟩
  · have hi2 := (List.getElem?_eq_some_iff.1 hu).1
    have hi3 : i = ways.length := by simp at hi2; omega
    subst hi3
    simp at hu
    subst hu
    exact ⟨x, by rw [← hvl]; simp, hx.kept hg (types_ne hx h.o (Ne.symm tints_ne)), ha⟩

/-- the numbers that pairs lead to from x -/
def succs (E : List (Int × Int)) (x : Int) : List Int := (E.filter (fun p => p.1 == x)).map Prod.snd
theorem succs_mem (E : List (Int × Int)) (x n : Int) : n ∈ succs E x ↔ (x, n) ∈ E := by
  unfold succs
  rw [List.mem_map]
  constructor
  · rintro ⟨⟨a, b⟩, h1, rfl⟩
    rw [List.mem_filter] at h1
    have : a = x := by simpa using h1.2
    subst this
    exact h1.1
  · intro h
    exact ⟨(x, n), List.mem_filter.2 ⟨h, by simp⟩, rfl⟩
theorem succs_yes (E : List (Int × Int)) (x : Int) (p : Int × Int) (h : p.1 = x) : putAll (succs (E ++ [p]) x) = putR (putAll (succs E x)) p.2 := by
  unfold succs; rw [List.filter_append]; simp [h, putAll]
theorem succs_no (E : List (Int × Int)) (x : Int) (p : Int × Int) (h : ¬ p.1 = x) : succs (E ++ [p]) x = succs E x := by
  unfold succs; rw [List.filter_append]; simp [h]
theorem succs_len (E : List (Int × Int)) (x : Int) : (putAll (succs E x)).length ≤ E.length := by
  refine Nat.le_trans (putAll_len _) ?_
  unfold succs; rw [List.length_map]; exact List.length_filter_le _ _
end Go.Proofs.Ytddapifljinjeaa
