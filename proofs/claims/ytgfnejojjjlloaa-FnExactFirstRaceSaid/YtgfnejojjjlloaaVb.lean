/- Races in memory: the face of an answer that is a list of races; compared, marked, held. -/
import Derived.Test.YtgfnejojjjlloaaQw
import Derived.Test.YtgfnejojjjlloaaRnB
namespace Go.Proofs.Ytgfnejojjjlloaa
open Go.RowKit
open Rd Fl

def rcC (l : List RcD) : List Value := l.flatMap RcD.cells
theorem rcC_append (l m : List RcD) : rcC (l ++ m) = rcC l ++ rcC m := by simp [rcC]
theorem rcC_len (l : List RcD) : (rcC l).length = l.length * 3 := by
  induction l with
  | nil => rfl
  | cons o t ih => show (o.cells ++ rcC t).length = _; rw [List.length_append, ih]; simp [RcD.cells]; omega
theorem rcC_get (l : List RcD) : ∀ (i j : Nat) (o : RcD), l[i]? = some o → j < 3 → (rcC l)[i * 3 + j]? = o.cells[j]? := by
  induction l with
  | nil => intro i j o h; cases h
  | cons x t ih =>
    intro i j o h hj
    show (x.cells ++ rcC t)[i * 3 + j]? = _
    have hx : x.cells.length = 3 := rfl
    match i, h with
    | 0, h =>
      have : x = o := by simpa using h
      subst this
      rw [List.getElem?_append_left (by omega)]
      congr 1; omega
    | i + 1, h =>
      rw [List.getElem?_append_right (by omega), hx, show (i + 1) * 3 + j - 3 = i * 3 + j by omega]
      exact ih i j o (by simpa using h) hj
/-- The races l lie from A on. -/
def RcsAt (w : World) (A : Option Addr) (l : List RcD) : Prop :=
  ∃ b off, (l ≠ [] → A = some ⟨b, off, none⟩) ∧ ∀ i o, l[i]? = some o → w.rangeAt b (off + i * 3) o.cells
theorem RcsAt.keep {w w' : World} {A : Option Addr} {l : List RcD} (h : RcsAt w A l) (hb : Below w.heap.size w w') : RcsAt w' A l := by
  obtain ⟨b, off, h1, h2⟩ := h
  exact ⟨b, off, h1, fun i o hi => range_keep hb (h2 i o hi)⟩
theorem rc_range {w : World} {b o : Nat} {x : RcD} (h : w.rangeAt b o x.cells) : w.cell? ⟨b, o, none⟩ = some (.int .i64 x.cl) ∧ w.cell? ⟨b, o + 1, none⟩ = some (.int .i64 x.fs) ∧ w.cell? ⟨b, o + 2, none⟩ = some (.int .i64 x.sc) :=
  ⟨h 0 _ rfl, h 1 _ rfl, h 2 _ rfl⟩
theorem three_there {w : World} {N j : Nat} (h : w.there N j 3) : ∃ x0 x1 x2, (w.cell? ⟨N, j, none⟩ = some x0 ∧ w.cell? ⟨N, j + 1, none⟩ = some x1 ∧ w.cell? ⟨N, j + 2, none⟩ = some x2) ∧ w.frozen? ⟨N, j, none⟩ = false ∧ w.frozen? ⟨N, j + 1, none⟩ = false ∧ w.frozen? ⟨N, j + 2, none⟩ = false := by
  have h0 := h 0 (by omega)
  have h1 := h 1 (by omega)
  have h2 := h 2 (by omega)
  obtain ⟨x0, e0⟩ := Option.isSome_iff_exists.1 h0.1
  obtain ⟨x1, e1⟩ := Option.isSome_iff_exists.1 h1.1
  obtain ⟨x2, e2⟩ := Option.isSome_iff_exists.1 h2.1
  exact ⟨x0, x1, x2, ⟨e0, e1, e2⟩, h0.2, h1.2, h2.2⟩

set_option maxRecDepth 20000 in
set_option maxHeartbeats 1000000 in
theorem eqrace_any (r0 r1 r2 : Int) (w : World) :
    Calls Try.prog 20 #[.agg #[.int .i64 r0, .int .i64 r1, .int .i64 r2], .agg #[.int .i64 r0, .int .i64 r1, .int .i64 r2]] w fun e w' => e = .returned (.bool true) ∧ Below w.heap.size w w' := by
  go_enter Try.func20, Try.ntmps20
  go_wp2
  go_ret
  exact ⟨rfl, below2 w _ _⟩

set_option maxRecDepth 20000 in
set_option maxHeartbeats 1000000 in
theorem eqraces_any (A B : Option Addr) (l : List RcD) (ca cb : Nat) (hl : l.length ≤ 1048576) (w : World) (hA : RcsAt w A l) (hB : RcsAt w B l) :
    Calls Try.prog 13 #[.slice A l.length ca, .slice B l.length cb] w fun e w' => e = .returned (.bool true) ∧ Below w.heap.size w w' := by
  have hl' : (l.length : Int) ≤ 1048576 := by omega
  obtain ⟨b, off, hA1, hc⟩ := hA
  obtain ⟨b', off', hB1, hc'⟩ := hB
  by_cases he : l = []
  · subst he
    clear hc hA1 hc' hB1
    go_enter Try.func13, Try.ntmps13
    go_wp2
    go_loop [5] (fun i => i = .int .i64 0) (fun _ => 0)
    case atStart => rfl
    case round =>
      subst hrel
      go_wp2
      go_ret
      exact ⟨rfl, Below.refl _ _⟩
  · have hA2 := hA1 he
    have hB2 := hB1 he
    subst hA2 hB2
    have HC := hide' (fun i (hi : i < l.length) => hc i l[i] (List.getElem?_eq_getElem hi))
    have HD := hide' (fun i (hi : i < l.length) => hc' i l[i] (List.getElem?_eq_getElem hi))
    clear hc hA1 he hc' hB1
    go_enter Try.func13, Try.ntmps13
    go_wp2
    go_loopw [5] (fun i wr => ∃ k : Nat, k ≤ l.length ∧ i = .int .i64 k ∧ Hid (Below w.heap.size w wr)) (fun i _ => l.length - (intOf i).toNat)
    case atStart => exact ⟨0, Nat.zero_le _, rfl, Below.refl _ _⟩
    case round =>
      obtain ⟨k, hk, rfl, hbw⟩ := hrel
      by_cases hlt : k < l.length
      · obtain ⟨c0, c1, c2⟩ := rc_range (range_keep hbw.out (HC.out k hlt))
        obtain ⟨d0, d1, d2⟩ := rc_range (range_keep hbw.out (HD.out k hlt))
        generalize l[k] = o at c0 c1 c2 d0 d1 d2
        obtain ⟨r0, r1, r2⟩ := o
        go_wp2_with fail
        go_region_with (go_at_call 20; refine (eqrace_any r0 r1 r2 _).mono ?_; rintro e w1 ⟨rfl, hb1⟩)
        all_goals
          have HB := hide' (first_below2 hbw.out hb1)
          go_wp2_with fail
          go_roundw
          case rel => exact ⟨k + 1, by omega, by go_num, HB.out⟩
          case measure => simp [intOf]; omega
      · go_wp2
        go_ret
        exact ⟨rfl, hbw.out⟩

/-- a race's marks from y on -/
def rcK (y : Int) : List Value := [.int .i64 y, .int .i64 (y + 1), .int .i64 (y + 1 + 1)]

set_option maxRecDepth 20000 in
set_option maxHeartbeats 1000000 in
theorem markrcs_any (A : Option Addr) (n cap M : Nat) (k : Int) (h0 : 0 ≤ k) (hk : k ≤ 4611686018427387904) (hn : n ≤ 1048576) (hA : n ≠ 0 → A = some ⟨M, 0, none⟩) (w : World) (hth : w.there M 0 (n * 3)) :
    Calls Try.prog 16 #[.slice A n cap, .int .i64 k] w fun e w' => e = .returned (.int .i64 (k + 3 * n)) ∧ (∀ j : Nat, j < n → w'.rangeAt M (j * 3) (rcK (k + 3 * j))) ∧ (∀ lo hi, (n ≠ 0 → lo ≤ M ∧ M < hi) → Edit lo hi w w') := by
  have hn' : (n : Int) ≤ 1048576 := by omega
  by_cases he : n = 0
  · subst he
    clear hA
    go_enter Try.func16, Try.ntmps16
    go_wp2
    go_loop [1, 5] (fun x i => x = .int .i64 k ∧ i = .int .i64 0) (fun _ _ => 0)
    case atStart => exact ⟨rfl, rfl⟩
    case round =>
      obtain ⟨rfl, rfl⟩ := hrel
      go_wp2
      go_ret
      exact ⟨by simp, fun _ _ => Edit.refl _ _ _⟩
  · have hA2 := hA he
    subst hA2
    have HTH := hide' hth
    have HNE := hide' he
    clear hA he hth
    go_enter Try.func16, Try.ntmps16
    go_wp2
    go_loopw [1, 5] (fun x i wr => ∃ (j : Nat) (y : Int), j ≤ n ∧ i = .int .i64 j ∧ x = .int .i64 y ∧ y = k + 3 * j ∧ Hid (∀ j' : Nat, j' < j → wr.rangeAt M (j' * 3) (rcK (k + 3 * j'))) ∧ Hid (Edit M (M + 1) w wr)) (fun _ i _ => n - (intOf i).toNat)
    case atStart => exact ⟨0, k, Nat.zero_le _, rfl, rfl, by omega, (fun j hj => by omega), Edit.refl _ _ _⟩
    case round =>
      obtain ⟨j, y, hj, rfl, rfl, hy, hdo, hed⟩ := hrel
      by_cases hlt : j < n
      · have hy0 : 0 ≤ y := by omega
        have hy1 : y ≤ 4611686018441000000 := by omega
        have HY := hide' hy
        clear hy
        have HT5 := hide' (there_part (hed.out.th _ _ _ HTH.out) (j * 3) 3 (by omega))
        obtain ⟨x0, x1, x2, ⟨d0, d1, d2⟩, z0, z1, z2⟩ := three_there HT5.out
        have HNX := hide' (show ∀ j' : Nat, j' < j + 1 → (wr.setCells M (j * 3) (rcK y)).rangeAt M (j' * 3) (rcK (k + 3 * j')) from fun j' hj' => by
          by_cases e : j' = j
          · subst e
            rw [← HY.out]
            exact World.rangeAt_setCells_same wr _ _ _ HT5.out
          · exact World.rangeAt_setCells_apart (hdo.out j' (by omega)) _ _ _ (.inr (.inl (by show j' * 3 + 3 ≤ _; omega))))
        clear HT5
        go_wp2
        go_roundw
        case rel => exact ⟨j + 1, y + 3, by omega, by go_num, by go_num, by have := HY.out; omega, HNX.out, ((hed.out.set _ _ _ (Nat.le_refl _) (Nat.lt_succ_self _)).set _ _ _ (Nat.le_refl _) (Nat.lt_succ_self _)).set _ _ _ (Nat.le_refl _) (Nat.lt_succ_self _)⟩
        case measure => simp [intOf]; omega
      · have hke : j = n := by omega
        have HY := hide' hy
        clear hy
        go_wp2
        go_ret
        exact ⟨by rw [HY.out, hke]; rfl, (by rw [← hke]; exact hdo.out), fun lo hi h => hed.out.mono (h HNE.out).1 (h HNE.out).2⟩

set_option maxRecDepth 20000 in
set_option maxHeartbeats 1000000 in
theorem heldrcs_any (A : Option Addr) (n cap M : Nat) (k : Int) (h0 : 0 ≤ k) (hk : k ≤ 4611686018427387904) (hn : n ≤ 1048576) (hA : n ≠ 0 → A = some ⟨M, 0, none⟩) (w : World) (hc : ∀ j : Nat, j < n → w.rangeAt M (j * 3) (rcK (k + 3 * j))) :
    Calls Try.prog 17 #[.slice A n cap, .int .i64 k] w fun e w' => e = .returned (.int .i64 (k + 3 * n)) ∧ w' = w := by
  have hn' : (n : Int) ≤ 1048576 := by omega
  by_cases he : n = 0
  · subst he
    clear hA
    go_enter Try.func17, Try.ntmps17
    go_wp2
    go_loop [1, 5] (fun x i => x = .int .i64 k ∧ i = .int .i64 0) (fun _ _ => 0)
    case atStart => exact ⟨rfl, rfl⟩
    case round =>
      obtain ⟨rfl, rfl⟩ := hrel
      go_wp2
      go_ret
      exact ⟨by simp, rfl⟩
  · have hA2 := hA he
    subst hA2
    have HC := hide' hc
    clear hA he hc
    go_enter Try.func17, Try.ntmps17
    go_wp2
    go_loop [1, 5] (fun x i => ∃ (j : Nat) (y : Int), j ≤ n ∧ i = .int .i64 j ∧ x = .int .i64 y ∧ y = k + 3 * j) (fun _ i => n - (intOf i).toNat)
    case atStart => exact ⟨0, k, Nat.zero_le _, rfl, rfl, by omega⟩
    case round =>
      obtain ⟨j, y, hj, rfl, rfl, hy⟩ := hrel
      by_cases hlt : j < n
      · have hy0 : 0 ≤ y := by omega
        have hy1 : y ≤ 4611686018441000000 := by omega
        have hrg := HC.out j hlt
        rw [← hy] at hrg
        have d0 : _ = some (Value.int .i64 y) := hrg 0 _ rfl
        have d1 : _ = some (Value.int .i64 (y + 1)) := hrg 1 _ rfl
        have d2 : _ = some (Value.int .i64 (y + 1 + 1)) := hrg 2 _ rfl
        rw [Nat.add_zero] at d0
        have HY := hide' hy
        clear hy hrg
        go_wp2
        go_round
        case rel => exact ⟨j + 1, y + 3, by omega, by go_num, by go_num, by have := HY.out; omega⟩
        case measure => simp [intOf]; omega
      · have hke : j = n := by omega
        have HY := hide' hy
        clear hy
        go_wp2
        go_ret
        exact ⟨by rw [HY.out, hke]; rfl, rfl⟩

/-- The races l are what v tells, in a block from lo on and below hi. -/
structure ResC (l : List RcD) (w : World) (lo hi : Nat) (v : Value) : Prop where
  o : w.ownsRow lo 35 3 v l.length (rcC l)
  u : ∀ k, v.ownBlock = some k → k < hi
  n : l.length ≤ 50000
theorem resc_of {l : List RcD} {w : World} {lo : Nat} {v : Value} (h : w.ownsRow lo 35 3 v l.length (rcC l)) (hn : l.length ≤ 50000) : ResC l w lo w.heap.size v := ⟨h, fun k hk => (h.lt k hk).2, hn⟩
theorem resc_keep {l : List RcD} {w w' : World} {lo hi : Nat} {v : Value} (h : ResC l w lo hi v) (hb : Below w.heap.size w w') : ResC l w' lo hi v := ⟨own_keep h.o hb, h.u, h.n⟩
theorem resc_less {l : List RcD} {w : World} {lo lo' hi : Nat} {v : Value} (h : ResC l w lo hi v) (hb : lo' ≤ lo) : ResC l w lo' hi v := ⟨own_less h.o hb, h.u, h.n⟩
theorem resc_more {l : List RcD} {w : World} {lo hi hi' : Nat} {v : Value} (h : ResC l w lo hi v) (hb : hi ≤ hi') : ResC l w lo hi' v := ⟨h.o, fun k hk => Nat.lt_of_lt_of_le (h.u k hk) hb, h.n⟩
theorem resc_edit {l : List RcD} {w w' : World} {lo hi : Nat} {v : Value} (h : ResC l w lo hi v) {a b : Nat} (he : Edit a b w w') (hp : b ≤ lo ∨ hi ≤ a) : ResC l w' lo hi v := ⟨own_edit h.o h.u he hp, h.u, h.n⟩
theorem resc_open {l : List RcD} {w : World} {lo hi : Nat} {v : Value} (h : ResC l w lo hi v) : ∃ A M cap, v = .slice A l.length cap ∧ (l.length ≠ 0 → A = some ⟨M, 0, none⟩ ∧ lo ≤ M ∧ M < hi) ∧ (l.length = 0 → M = lo) ∧ w.there M 0 (l.length * 3) ∧ RcsAt w A l := by
  rcases h.o.2 with ⟨rfl, hn⟩ | ⟨g, cap, cur, rfl, hb2, hgg, h1, h2, h3, h4⟩
  · have : l = [] := List.length_eq_zero_iff.1 hn
    subst this
    exact ⟨none, lo, 0, rfl, (fun h => absurd rfl h), (fun _ => rfl), (fun j hj => absurd hj (by simp)), ⟨0, 0, fun h => absurd rfl h, fun i x hx => by cases hx⟩⟩
  · have hu := h.u g rfl
    have hcell : ∀ i o, l[i]? = some o → w.rangeAt g (i * 3) o.cells := by
      intro i o hx j u hu
      have hi := (List.getElem?_eq_some_iff.1 hx).1
      have hj : j < 3 := (List.getElem?_eq_some_iff.1 hu).1
      have hk := h.o.cellAt (i * 3 + j) (by omega)
      rw [rcC_get l i j o hx hj, hu] at hk
      exact hk
    have hth : w.there g 0 (l.length * 3) := by
      intro j hj
      refine ⟨?_, h.o.frozenAt _⟩
      have hi : j / 3 < l.length := by omega
      have h5 := hcell (j / 3) l[j / 3] (List.getElem?_eq_getElem hi) (j % 3) (l[j / 3].cells[j % 3]'(by show j % 3 < 3; omega)) (List.getElem?_eq_getElem _)
      rw [show j / 3 * 3 + j % 3 = 0 + j by omega] at h5
      rw [h5]; rfl
    by_cases he : l.length = 0
    · have : l = [] := List.length_eq_zero_iff.1 he
      subst this
      exact ⟨some ⟨g, 0, none⟩, lo, cap, rfl, (fun h => absurd rfl h), (fun _ => rfl), (fun j hj => absurd hj (by simp)), ⟨0, 0, fun h => absurd rfl h, fun i x hx => by cases hx⟩⟩
    · exact ⟨some ⟨g, 0, none⟩, g, cap, rfl, (fun _ => ⟨rfl, hb2, hu⟩), (fun h => absurd h he), hth, ⟨g, 0, fun _ => rfl, fun i x hx => by rw [Nat.zero_add]; exact hcell i x hx⟩⟩

theorem resc_eq {l : List RcD} {w : World} {lo hi lo' hi' : Nat} {v u : Value} (h : ResC l w lo hi v) (h' : ResC l w lo' hi' u) : Calls Try.prog 13 #[v, u] w fun e w' => e = .returned (.bool true) ∧ Below w.heap.size w w' := by
  obtain ⟨A, -, ca, rfl, -, -, -, hA⟩ := resc_open h
  obtain ⟨B, -, cb, rfl, -, -, -, hB⟩ := resc_open h'
  exact eqraces_any A B l ca cb (by have := h.n; omega) w hA hB

/-- v's numbers are 1, 2 and so on up to y. -/
structure MkdC (l : List RcD) (w : World) (lo hi : Nat) (v : Value) (y : Int) : Prop where
  n : l.length ≤ 50000
  y : y = 1 + 3 * l.length
  c : ∃ A M cap, v = .slice A l.length cap ∧ (l.length ≠ 0 → A = some ⟨M, 0, none⟩ ∧ lo ≤ M ∧ M < hi) ∧ ∀ j : Nat, j < l.length → w.rangeAt M (j * 3) (rcK (1 + 3 * j))
theorem mkdc_keep {l : List RcD} {w w' : World} {lo hi : Nat} {v : Value} {y : Int} (h : MkdC l w lo hi v y) (hb : Below w.heap.size w w') : MkdC l w' lo hi v y := by
  obtain ⟨A, M, cap, h1, h2, h3⟩ := h.c
  exact ⟨h.n, h.y, A, M, cap, h1, h2, fun j hj => range_keep hb (h3 j hj)⟩
theorem resc_mark {l : List RcD} {w : World} {lo hi : Nat} {v : Value} (h : ResC l w lo hi v) : Calls Try.prog 16 #[v, .int .i64 1] w fun e w' => (∃ y : Int, e = .returned (.int .i64 y) ∧ 0 ≤ y ∧ MkdC l w' lo hi v y) ∧ Edit lo hi w w' := by
  obtain ⟨A, M, cap, rfl, h1, h2, h3, -⟩ := resc_open h
  have hn := h.n
  refine (markrcs_any A l.length cap M 1 (by omega) (by omega) (by omega) (fun hne => (h1 hne).1) w h3).mono ?_
  rintro e w' ⟨rfl, hc, he⟩
  exact ⟨⟨_, rfl, by omega, hn, rfl, A, M, cap, rfl, h1, hc⟩, he _ _ (fun hne => (h1 hne).2)⟩
theorem mkdc_held {l : List RcD} {w : World} {lo hi : Nat} {v : Value} {y : Int} (h : MkdC l w lo hi v y) : Calls Try.prog 17 #[v, .int .i64 1] w fun e w' => e = .returned (.int .i64 y) ∧ Below w.heap.size w w' := by
  obtain ⟨A, M, cap, rfl, h1, h3⟩ := h.c
  have hn := h.n
  refine (heldrcs_any A l.length cap M 1 (by omega) (by omega) (by omega) (fun hne => (h1 hne).1) w h3).mono ?_
  rintro e w' ⟨rfl, rfl⟩
  exact ⟨by rw [h.y], Below.refl _ _⟩
end Go.Proofs.Ytgfnejojjjlloaa
