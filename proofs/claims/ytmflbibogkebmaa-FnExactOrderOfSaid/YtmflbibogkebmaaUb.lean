/- Records of 4 ints in memory (UnD): the face of an answer that is a list of them; compared, marked, held. Locks had ahead of a place; what is taken while which are had: data. -/
import Derived.Test.YtmflbibogkebmaaRnB
import Derived.Test.YtmflbibogkebmaaVn
namespace Go.Proofs.Ytmflbibogkebmaa
open Go.RowKit
open Rd Fl

structure UnD where
  hd : Int
  tkn : Int
  thr : Int
  atp : Int
def UnD.cells (e : UnD) : List Value := [.int .i64 e.hd, .int .i64 e.tkn, .int .i64 e.thr, .int .i64 e.atp]
def unC (l : List UnD) : List Value := l.flatMap UnD.cells
theorem unC_append (l m : List UnD) : unC (l ++ m) = unC l ++ unC m := by simp [unC]
theorem unC_len (l : List UnD) : (unC l).length = l.length * 4 := by
  induction l with
  | nil => rfl
  | cons o t ih => show (o.cells ++ unC t).length = _; rw [List.length_append, ih]; simp [UnD.cells]; omega
theorem unC_get (l : List UnD) : ∀ (i j : Nat) (o : UnD), l[i]? = some o → j < 4 → (unC l)[i * 4 + j]? = o.cells[j]? := by
  induction l with
  | nil => intro i j o h; cases h
  | cons x t ih =>
    intro i j o h hj
    show (x.cells ++ unC t)[i * 4 + j]? = _
    have hx : x.cells.length = 4 := rfl
    match i, h with
    | 0, h =>
      have : x = o := by simpa using h
      subst this
      rw [List.getElem?_append_left (by omega)]
      congr 1; omega
    | i + 1, h =>
      rw [List.getElem?_append_right (by omega), hx, show (i + 1) * 4 + j - 4 = i * 4 + j by omega]
      exact ih i j o (by simpa using h) hj
/-- The records l lie from A on. -/
def UnsAt (w : World) (A : Option Addr) (l : List UnD) : Prop :=
  ∃ b off, (l ≠ [] → A = some ⟨b, off, none⟩) ∧ ∀ i o, l[i]? = some o → w.rangeAt b (off + i * 4) o.cells
theorem UnsAt.keep {w w' : World} {A : Option Addr} {l : List UnD} (h : UnsAt w A l) (hb : Below w.heap.size w w') : UnsAt w' A l := by
  obtain ⟨b, off, h1, h2⟩ := h
  exact ⟨b, off, h1, fun i o hi => range_keep hb (h2 i o hi)⟩
theorem un_range {w : World} {b o : Nat} {x : UnD} (h : w.rangeAt b o x.cells) : w.cell? ⟨b, o, none⟩ = some (.int .i64 x.hd) ∧ w.cell? ⟨b, o + 1, none⟩ = some (.int .i64 x.tkn) ∧ w.cell? ⟨b, o + 2, none⟩ = some (.int .i64 x.thr) ∧ w.cell? ⟨b, o + 3, none⟩ = some (.int .i64 x.atp) :=
  ⟨h 0 _ rfl, h 1 _ rfl, h 2 _ rfl, h 3 _ rfl⟩
theorem un_there {w : World} {N j : Nat} (h : w.there N j 4) : ∃ x0 x1 x2 x3, (w.cell? ⟨N, j, none⟩ = some x0 ∧ w.cell? ⟨N, j + 1, none⟩ = some x1 ∧ w.cell? ⟨N, j + 2, none⟩ = some x2 ∧ w.cell? ⟨N, j + 3, none⟩ = some x3) ∧ w.frozen? ⟨N, j, none⟩ = false ∧ w.frozen? ⟨N, j + 1, none⟩ = false ∧ w.frozen? ⟨N, j + 2, none⟩ = false ∧ w.frozen? ⟨N, j + 3, none⟩ = false := by
  have h0 := h 0 (by omega)
  have h1 := h 1 (by omega)
  have h2 := h 2 (by omega)
  have h3 := h 3 (by omega)
  obtain ⟨x0, e0⟩ := Option.isSome_iff_exists.1 h0.1
  obtain ⟨x1, e1⟩ := Option.isSome_iff_exists.1 h1.1
  obtain ⟨x2, e2⟩ := Option.isSome_iff_exists.1 h2.1
  obtain ⟨x3, e3⟩ := Option.isSome_iff_exists.1 h3.1
  exact ⟨x0, x1, x2, x3, ⟨e0, e1, e2, e3⟩, h0.2, h1.2, h2.2, h3.2⟩

set_option maxRecDepth 20000 in
set_option maxHeartbeats 1000000 in
theorem equn_any (r0 r1 r2 r3 : Int) (w : World) :
    Calls Try.prog 52 #[.agg #[.int .i64 r0, .int .i64 r1, .int .i64 r2, .int .i64 r3], .agg #[.int .i64 r0, .int .i64 r1, .int .i64 r2, .int .i64 r3]] w fun e w' => e = .returned (.bool true) ∧ Below w.heap.size w w' := by
  go_enter Try.func52, Try.ntmps52
  go_wp2
  go_ret
  exact ⟨rfl, below2 w _ _⟩

set_option maxRecDepth 20000 in
set_option maxHeartbeats 1000000 in
theorem equns_any (A B : Option Addr) (l : List UnD) (ca cb : Nat) (hl : l.length ≤ 1048576) (w : World) (hA : UnsAt w A l) (hB : UnsAt w B l) :
    Calls Try.prog 25 #[.slice A l.length ca, .slice B l.length cb] w fun e w' => e = .returned (.bool true) ∧ Below w.heap.size w w' := by
  have hl' : (l.length : Int) ≤ 1048576 := by omega
  obtain ⟨b, off, hA1, hc⟩ := hA
  obtain ⟨b', off', hB1, hc'⟩ := hB
  by_cases he : l = []
  · subst he
    clear hc hA1 hc' hB1
    go_enter Try.func25, Try.ntmps25
    go_wp2
    go_loop [5] (fun i => i = .int .i64 0) (fun _ => 0)
    case atStart => rfl
    case round =>
      subst hrel
      go_wp2
      go_ret
      exact ⟨rfl, Below.refl _ _⟩
  · have hA2 := hA1 he
    have hB2 := hB1 he
    subst hA2 hB2
    have HC := hide' (fun i (hi : i < l.length) => hc i l[i] (List.getElem?_eq_getElem hi))
    have HD := hide' (fun i (hi : i < l.length) => hc' i l[i] (List.getElem?_eq_getElem hi))
    clear hc hA1 he hc' hB1
    go_enter Try.func25, Try.ntmps25
    go_wp2
    go_loopw [5] (fun i wr => ∃ k : Nat, k ≤ l.length ∧ i = .int .i64 k ∧ Hid (Below w.heap.size w wr)) (fun i _ => l.length - (intOf i).toNat)
    case atStart => exact ⟨0, Nat.zero_le _, rfl, Below.refl _ _⟩
    case round =>
      obtain ⟨k, hk, rfl, hbw⟩ := hrel
      by_cases hlt : k < l.length
      · obtain ⟨c0, c1, c2, c3⟩ := un_range (range_keep hbw.out (HC.out k hlt))
        obtain ⟨d0, d1, d2, d3⟩ := un_range (range_keep hbw.out (HD.out k hlt))
        generalize l[k] = o at c0 c1 c2 c3 d0 d1 d2 d3
        obtain ⟨r0, r1, r2, r3⟩ := o
        go_wp2_with fail
        go_region_with (go_at_call 52; refine (equn_any r0 r1 r2 r3 _).mono ?_; rintro e w1 ⟨rfl, hb1⟩)
        all_goals
          have HB := hide' (first_below2 hbw.out hb1)
          go_wp2_with fail
          go_roundw
          case rel => exact ⟨k + 1, by omega, by go_num, HB.out⟩
          case measure => simp [intOf]; omega
      · go_wp2
        go_ret
        exact ⟨rfl, hbw.out⟩

/-- a record's marks from y on -/
def unK (y : Int) : List Value := [.int .i64 y, .int .i64 (y + 1), .int .i64 (y + 1 + 1), .int .i64 (y + 1 + 1 + 1)]

set_option maxRecDepth 20000 in
set_option maxHeartbeats 1000000 in
theorem markuns_any (A : Option Addr) (n cap M : Nat) (k : Int) (h0 : 0 ≤ k) (hk : k ≤ 4611686018427387904) (hn : n ≤ 1048576) (hA : n ≠ 0 → A = some ⟨M, 0, none⟩) (w : World) (hth : w.there M 0 (n * 4)) :
    Calls Try.prog 26 #[.slice A n cap, .int .i64 k] w fun e w' => e = .returned (.int .i64 (k + 4 * n)) ∧ (∀ j : Nat, j < n → w'.rangeAt M (j * 4) (unK (k + 4 * j))) ∧ (∀ lo hi, (n ≠ 0 → lo ≤ M ∧ M < hi) → Edit lo hi w w') := by
  have hn' : (n : Int) ≤ 1048576 := by omega
  by_cases he : n = 0
  · subst he
    clear hA
    go_enter Try.func26, Try.ntmps26
    go_wp2
    go_loop [1, 5] (fun x i => x = .int .i64 k ∧ i = .int .i64 0) (fun _ _ => 0)
    case atStart => exact ⟨rfl, rfl⟩
    case round =>
      obtain ⟨rfl, rfl⟩ := hrel
      go_wp2
      go_ret
      exact ⟨by simp, fun _ _ => Edit.refl _ _ _⟩
  · have hA2 := hA he
    subst hA2
    have HTH := hide' hth
    have HNE := hide' he
    clear hA he hth
    go_enter Try.func26, Try.ntmps26
    go_wp2
    go_loopw [1, 5] (fun x i wr => ∃ (j : Nat) (y : Int), j ≤ n ∧ i = .int .i64 j ∧ x = .int .i64 y ∧ y = k + 4 * j ∧ Hid (∀ j' : Nat, j' < j → wr.rangeAt M (j' * 4) (unK (k + 4 * j'))) ∧ Hid (Edit M (M + 1) w wr)) (fun _ i _ => n - (intOf i).toNat)
    case atStart => exact ⟨0, k, Nat.zero_le _, rfl, rfl, by omega, (fun j hj => by omega), Edit.refl _ _ _⟩
    case round =>
      obtain ⟨j, y, hj, rfl, rfl, hy, hdo, hed⟩ := hrel
      by_cases hlt : j < n
      · have hy0 : 0 ≤ y := by omega
        have hy1 : y ≤ 4611686018441000000 := by omega
        have HY := hide' hy
        clear hy
        have HT5 := hide' (there_part (hed.out.th _ _ _ HTH.out) (j * 4) 4 (by omega))
        obtain ⟨x0, x1, x2, x3, ⟨d0, d1, d2, d3⟩, z0, z1, z2, z3⟩ := un_there HT5.out
        have HNX := hide' (show ∀ j' : Nat, j' < j + 1 → (wr.setCells M (j * 4) (unK y)).rangeAt M (j' * 4) (unK (k + 4 * j')) from fun j' hj' => by
          by_cases e : j' = j
          · subst e
            rw [← HY.out]
            exact World.rangeAt_setCells_same wr _ _ _ HT5.out
          · exact World.rangeAt_setCells_apart (hdo.out j' (by omega)) _ _ _ (.inr (.inl (by show j' * 4 + 4 ≤ _; omega))))
        clear HT5
        go_wp2
        go_roundw
        case rel => exact ⟨j + 1, y + 4, by omega, by go_num, by go_num, by have := HY.out; omega, HNX.out, (((hed.out.set _ _ _ (Nat.le_refl _) (Nat.lt_succ_self _)).set _ _ _ (Nat.le_refl _) (Nat.lt_succ_self _)).set _ _ _ (Nat.le_refl _) (Nat.lt_succ_self _)).set _ _ _ (Nat.le_refl _) (Nat.lt_succ_self _)⟩
        case measure => simp [intOf]; omega
      · have hke : j = n := by omega
        have HY := hide' hy
        clear hy
        go_wp2
        go_ret
        exact ⟨by rw [HY.out, hke]; rfl, (by rw [← hke]; exact hdo.out), fun lo hi h => hed.out.mono (h HNE.out).1 (h HNE.out).2⟩

set_option maxRecDepth 20000 in
set_option maxHeartbeats 1000000 in
theorem helduns_any (A : Option Addr) (n cap M : Nat) (k : Int) (h0 : 0 ≤ k) (hk : k ≤ 4611686018427387904) (hn : n ≤ 1048576) (hA : n ≠ 0 → A = some ⟨M, 0, none⟩) (w : World) (hc : ∀ j : Nat, j < n → w.rangeAt M (j * 4) (unK (k + 4 * j))) :
    Calls Try.prog 27 #[.slice A n cap, .int .i64 k] w fun e w' => e = .returned (.int .i64 (k + 4 * n)) ∧ w' = w := by
  have hn' : (n : Int) ≤ 1048576 := by omega
  by_cases he : n = 0
  · subst he
    clear hA
    go_enter Try.func27, Try.ntmps27
    go_wp2
    go_loop [1, 5] (fun x i => x = .int .i64 k ∧ i = .int .i64 0) (fun _ _ => 0)
    case atStart => exact ⟨rfl, rfl⟩
    case round =>
      obtain ⟨rfl, rfl⟩ := hrel
      go_wp2
      go_ret
      exact ⟨by simp, rfl⟩
  · have hA2 := hA he
    subst hA2
    have HC := hide' hc
    clear hA he hc
    go_enter Try.func27, Try.ntmps27
    go_wp2
    go_loop [1, 5] (fun x i => ∃ (j : Nat) (y : Int), j ≤ n ∧ i = .int .i64 j ∧ x = .int .i64 y ∧ y = k + 4 * j) (fun _ i => n - (intOf i).toNat)
    case atStart => exact ⟨0, k, Nat.zero_le _, rfl, rfl, by omega⟩
    case round =>
      obtain ⟨j, y, hj, rfl, rfl, hy⟩ := hrel
      by_cases hlt : j < n
      · have hy0 : 0 ≤ y := by omega
        have hy1 : y ≤ 4611686018441000000 := by omega
        have hrg := HC.out j hlt
        rw [← hy] at hrg
        have d0 : _ = some (Value.int .i64 y) := hrg 0 _ rfl
        have d1 : _ = some (Value.int .i64 (y + 1)) := hrg 1 _ rfl
        have d2 : _ = some (Value.int .i64 (y + 1 + 1)) := hrg 2 _ rfl
        have d3 : _ = some (Value.int .i64 (y + 1 + 1 + 1)) := hrg 3 _ rfl
        rw [Nat.add_zero] at d0
        have HY := hide' hy
        clear hy hrg
        go_wp2
        go_round
        case rel => exact ⟨j + 1, y + 4, by omega, by go_num, by go_num, by have := HY.out; omega⟩
        case measure => simp [intOf]; omega
      · have hke : j = n := by omega
        have HY := hide' hy
        clear hy
        go_wp2
        go_ret
        exact ⟨by rw [HY.out, hke]; rfl, rfl⟩

/-- The records l are what v tells, in a block from lo on and below hi. -/
structure ResU (l : List UnD) (w : World) (lo hi : Nat) (v : Value) : Prop where
  o : w.ownsRow lo 64 4 v l.length (unC l)
  u : ∀ k, v.ownBlock = some k → k < hi
  n : l.length ≤ 50000
theorem resu_of {l : List UnD} {w : World} {lo : Nat} {v : Value} (h : w.ownsRow lo 64 4 v l.length (unC l)) (hn : l.length ≤ 50000) : ResU l w lo w.heap.size v := ⟨h, fun k hk => (h.lt k hk).2, hn⟩
theorem resu_keep {l : List UnD} {w w' : World} {lo hi : Nat} {v : Value} (h : ResU l w lo hi v) (hb : Below w.heap.size w w') : ResU l w' lo hi v := ⟨own_keep h.o hb, h.u, h.n⟩
theorem resu_less {l : List UnD} {w : World} {lo lo' hi : Nat} {v : Value} (h : ResU l w lo hi v) (hb : lo' ≤ lo) : ResU l w lo' hi v := ⟨own_less h.o hb, h.u, h.n⟩
theorem resu_more {l : List UnD} {w : World} {lo hi hi' : Nat} {v : Value} (h : ResU l w lo hi v) (hb : hi ≤ hi') : ResU l w lo hi' v := ⟨h.o, fun k hk => Nat.lt_of_lt_of_le (h.u k hk) hb, h.n⟩
theorem resu_edit {l : List UnD} {w w' : World} {lo hi : Nat} {v : Value} (h : ResU l w lo hi v) {a b : Nat} (he : Edit a b w w') (hp : b ≤ lo ∨ hi ≤ a) : ResU l w' lo hi v := ⟨own_edit h.o h.u he hp, h.u, h.n⟩
theorem resu_open {l : List UnD} {w : World} {lo hi : Nat} {v : Value} (h : ResU l w lo hi v) : ∃ A M cap, v = .slice A l.length cap ∧ (l.length ≠ 0 → A = some ⟨M, 0, none⟩ ∧ lo ≤ M ∧ M < hi) ∧ (l.length = 0 → M = lo) ∧ w.there M 0 (l.length * 4) ∧ UnsAt w A l := by
  rcases h.o.2 with ⟨rfl, hn⟩ | ⟨g, cap, cur, rfl, hb2, hgg, h1, h2, h3, h4⟩
  · have : l = [] := List.length_eq_zero_iff.1 hn
    subst this
    exact ⟨none, lo, 0, rfl, (fun h => absurd rfl h), (fun _ => rfl), (fun j hj => absurd hj (by simp)), ⟨0, 0, fun h => absurd rfl h, fun i x hx => by cases hx⟩⟩
  · have hu := h.u g rfl
    have hcell : ∀ i o, l[i]? = some o → w.rangeAt g (i * 4) o.cells := by
      intro i o hx j u hu
      have hi := (List.getElem?_eq_some_iff.1 hx).1
      have hj : j < 4 := (List.getElem?_eq_some_iff.1 hu).1
      have hk := h.o.cellAt (i * 4 + j) (by omega)
      rw [unC_get l i j o hx hj, hu] at hk
      exact hk
    have hth : w.there g 0 (l.length * 4) := by
      intro j hj
      refine ⟨?_, h.o.frozenAt _⟩
      have hi : j / 4 < l.length := by omega
      have h5 := hcell (j / 4) l[j / 4] (List.getElem?_eq_getElem hi) (j % 4) (l[j / 4].cells[j % 4]'(by show j % 4 < 4; omega)) (List.getElem?_eq_getElem _)
      rw [show j / 4 * 4 + j % 4 = 0 + j by omega] at h5
      rw [h5]; rfl
    by_cases he : l.length = 0
    · have : l = [] := List.length_eq_zero_iff.1 he
      subst this
      exact ⟨some ⟨g, 0, none⟩, lo, cap, rfl, (fun h => absurd rfl h), (fun _ => rfl), (fun j hj => absurd hj (by simp)), ⟨0, 0, fun h => absurd rfl h, fun i x hx => by cases hx⟩⟩
    · exact ⟨some ⟨g, 0, none⟩, g, cap, rfl, (fun _ => ⟨rfl, hb2, hu⟩), (fun h => absurd h he), hth, ⟨g, 0, fun _ => rfl, fun i x hx => by rw [Nat.zero_add]; exact hcell i x hx⟩⟩

theorem resu_eq {l : List UnD} {w : World} {lo hi lo' hi' : Nat} {v u : Value} (h : ResU l w lo hi v) (h' : ResU l w lo' hi' u) : Calls Try.prog 25 #[v, u] w fun e w' => e = .returned (.bool true) ∧ Below w.heap.size w w' := by
  obtain ⟨A, -, ca, rfl, -, -, -, hA⟩ := resu_open h
  obtain ⟨B, -, cb, rfl, -, -, -, hB⟩ := resu_open h'
  exact equns_any A B l ca cb (by have := h.n; omega) w hA hB

/-- v's numbers are 1, 2 and so on up to y. -/
structure MkdU (l : List UnD) (w : World) (lo hi : Nat) (v : Value) (y : Int) : Prop where
  n : l.length ≤ 50000
  y : y = 1 + 4 * l.length
  c : ∃ A M cap, v = .slice A l.length cap ∧ (l.length ≠ 0 → A = some ⟨M, 0, none⟩ ∧ lo ≤ M ∧ M < hi) ∧ ∀ j : Nat, j < l.length → w.rangeAt M (j * 4) (unK (1 + 4 * j))
theorem mkdu_keep {l : List UnD} {w w' : World} {lo hi : Nat} {v : Value} {y : Int} (h : MkdU l w lo hi v y) (hb : Below w.heap.size w w') : MkdU l w' lo hi v y := by
  obtain ⟨A, M, cap, h1, h2, h3⟩ := h.c
  exact ⟨h.n, h.y, A, M, cap, h1, h2, fun j hj => range_keep hb (h3 j hj)⟩
theorem resu_mark {l : List UnD} {w : World} {lo hi : Nat} {v : Value} (h : ResU l w lo hi v) : Calls Try.prog 26 #[v, .int .i64 1] w fun e w' => (∃ y : Int, e = .returned (.int .i64 y) ∧ 0 ≤ y ∧ MkdU l w' lo hi v y) ∧ Edit lo hi w w' := by
  obtain ⟨A, M, cap, rfl, h1, h2, h3, -⟩ := resu_open h
  have hn := h.n
  refine (markuns_any A l.length cap M 1 (by omega) (by omega) (by omega) (fun hne => (h1 hne).1) w h3).mono ?_
  rintro e w' ⟨rfl, hc, he⟩
  exact ⟨⟨_, rfl, by omega, hn, rfl, A, M, cap, rfl, h1, hc⟩, he _ _ (fun hne => (h1 hne).2)⟩
theorem mkdu_held {l : List UnD} {w : World} {lo hi : Nat} {v : Value} {y : Int} (h : MkdU l w lo hi v y) : Calls Try.prog 27 #[v, .int .i64 1] w fun e w' => e = .returned (.int .i64 y) ∧ Below w.heap.size w w' := by
  obtain ⟨A, M, cap, rfl, h1, h3⟩ := h.c
  have hn := h.n
  refine (helduns_any A l.length cap M 1 (by omega) (by omega) (by omega) (fun hne => (h1 hne).1) w h3).mono ?_
  rintro e w' ⟨rfl, rfl⟩
  exact ⟨by rw [h.y], Below.refl _ _⟩
end Go.Proofs.Ytmflbibogkebmaa
namespace Go.Proofs.Ytmflbibogkebmaa
open Go.RowKit
open Rd Fl

/-- the locks that the thread of place i has ahead of it -/
def befN (t : List EvD) (i : Nat) : List Int := heldTo t (evA t i).th i
theorem tk_gv {e : EvD} (h : 0 ≤ tkE e) : gvE e = -2 := by
  unfold tkE tk at h
  unfold gvE gv
  by_cases a : e.kd = 4
  · rw [if_neg (by omega), if_neg (by omega)]
  · by_cases b : e.kd = 9
    · rw [if_neg (by omega), if_neg (by omega)]
    · rw [if_neg a, if_neg b] at h; omega
theorem heldN_take {t : List EvD} {i : Nat} (h : 0 ≤ tkE (evA t i)) : heldN t i = putR (befN t i) (tkE (evA t i)) := by
  unfold heldN befN
  rw [heldTo_yes rfl]
  unfold heldS heldA
  rw [tk_gv h, if_neg (by omega), if_pos h]
theorem putR_has {l : List Int} (hl : l.Pairwise (· < ·)) {n : Int} (h : n ∈ l) : putR l n = l := by
  have h1 := putR_rises n l hl
  have : ∀ x, x ∈ putR l n ↔ x ∈ l := fun x => by rw [putR_mem]; exact ⟨fun a => a.elim (fun e => e ▸ h) id, .inr⟩
  exact List.Perm.eq_of_pairwise (le := (· < ·)) (fun a b _ _ h1 h2 => by omega) h1 hl ((List.perm_ext_iff_of_nodup (h1.imp (fun h => by omega)) (hl.imp (fun h => by omega))).2 this)
theorem drop_putR {l : List Int} (hl : l.Pairwise (· < ·)) {n : Int} (h : n ∉ l) : dropL (putR l n) n = l := by
  have h1 : (dropL (putR l n) n).Pairwise (· < ·) := by unfold dropL; exact (putR_rises n l hl).filter _
  have : ∀ x, x ∈ dropL (putR l n) n ↔ x ∈ l := fun x => by
    rw [dropL_mem, putR_mem]
    exact ⟨fun a => a.1.elim (fun e => absurd e a.2) id, fun a => ⟨.inr a, fun e => h (e ▸ a)⟩⟩
  exact List.Perm.eq_of_pairwise (le := (· < ·)) (fun a b _ _ h1 h2 => by omega) h1 hl ((List.perm_ext_iff_of_nodup (h1.imp (fun h => by omega)) (hl.imp (fun h => by omega))).2 this)
theorem bef_has {t : List EvD} {i : Nat} (ht : 0 ≤ tkE (evA t i)) (h : tkE (evA t i) ∈ heldTo t (evA t i).th i) : heldN t i = befN t i := by
  rw [heldN_take ht]; exact putR_has (heldTo_rises _ _ _) h
theorem bef_not {t : List EvD} {i : Nat} (ht : 0 ≤ tkE (evA t i)) (h : tkE (evA t i) ∉ heldTo t (evA t i).th i) : dropL (heldN t i) (tkE (evA t i)) = befN t i := by
  rw [heldN_take ht]; exact drop_putR (heldTo_rises _ _ _) h
theorem was_no {t : List EvD} {th k : Int} {j : Nat} (h : ¬ (evA t j).th = th) : decide (k ∈ heldTo t th (j + 1)) = decide (k ∈ heldTo t th j) := by rw [heldTo_no h]
theorem was_yes {t : List EvD} {th k : Int} {j : Nat} (h : (evA t j).th = th) (hk : 0 ≤ k) : decide (k ∈ heldTo t th (j + 1)) = if gvE (evA t j) = k then false else if tkE (evA t j) = k then true else decide (k ∈ heldTo t th j) := by
  rw [heldTo_yes h]
  have hm := heldS_mem (l := heldTo t th j) (e := evA t j) (x := k)
  by_cases a : gvE (evA t j) = k
  · rw [if_pos a, decide_eq_false_iff_not, hm]
    exact fun b => b.2 ⟨by omega, a.symm⟩
  · rw [if_neg a]
    by_cases b : tkE (evA t j) = k
    · rw [if_pos b, decide_eq_true_iff, hm]
      exact ⟨.inl ⟨by omega, b.symm⟩, fun c => a c.2.symm⟩
    · rw [if_neg b]
      congr 1
      rw [hm]
      exact propext ⟨fun c => c.1.elim (fun d => absurd d.2.symm b) id, fun c => ⟨.inr c, fun d => a d.2.symm⟩⟩
theorem heldN_short2 {l : List EvD} (hg : goodTr l = true) {i : Nat} (hi : i < l.length) : (heldN l i).length ≤ 1000 := by
  have h1 : (heldN l i).length ≤ i + 1 := heldTo_len _ _ _
  have := good_len hg
  omega
/-- what is told of place i -/
def undsAt (t : List EvD) (i : Nat) : List UnD := if 0 ≤ tkE (evA t i) then (befN t i).map (fun h => ⟨h, tkE (evA t i), (evA t i).th, i⟩) else []
def undTo (t : List EvD) (n : Nat) : List UnD := (List.range n).flatMap (undsAt t)
theorem undTo_succ (t : List EvD) (n : Nat) : undTo t (n + 1) = undTo t n ++ undsAt t n := by unfold undTo; rw [List.range_succ, List.flatMap_append]; simp
theorem undsAt_yes {t : List EvD} {i : Nat} (h : 0 ≤ tkE (evA t i)) : undsAt t i = (befN t i).map (fun h => ⟨h, tkE (evA t i), (evA t i).th, i⟩) := if_pos h
theorem undsAt_no {t : List EvD} {i : Nat} (h : ¬ 0 ≤ tkE (evA t i)) : undsAt t i = [] := if_neg h
theorem undTo_no {t : List EvD} {n : Nat} (h : ¬ 0 ≤ tkE (evA t n)) : undTo t (n + 1) = undTo t n := by rw [undTo_succ, undsAt_no h, List.append_nil]
theorem befN_len (t : List EvD) (i : Nat) : (befN t i).length ≤ i := heldTo_len _ _ _
theorem undsAt_len (t : List EvD) (i : Nat) : (undsAt t i).length ≤ i := by
  unfold undsAt
  split
  · rw [List.length_map]; exact befN_len t i
  · exact Nat.zero_le _
theorem undTo_len {t : List EvD} : ∀ {n : Nat}, n ≤ 200 → (undTo t n).length ≤ n * 200
  | 0, _ => by simp [undTo]
  | n + 1, h => by
    have ih := undTo_len (t := t) (n := n) (by omega)
    have := undsAt_len t n
    rw [undTo_succ, List.length_append]
    omega
/-- in the midst of a place: of the locks had the first m are told -/
def undMid (t : List EvD) (i m : Nat) : List UnD := undTo t i ++ ((befN t i).take m).map (fun h => ⟨h, tkE (evA t i), (evA t i).th, i⟩)
theorem undMid_zero (t : List EvD) (i : Nat) : undMid t i 0 = undTo t i := by simp [undMid]
theorem undMid_step {t : List EvD} {i m : Nat} (h : m < (befN t i).length) : undMid t i (m + 1) = undMid t i m ++ [⟨(befN t i)[m], tkE (evA t i), (evA t i).th, i⟩] := by
  unfold undMid
  rw [List.take_succ_eq_append_getElem h, List.map_append, List.append_assoc]
  rfl
theorem undMid_end {t : List EvD} {i : Nat} (h : 0 ≤ tkE (evA t i)) : undMid t i (befN t i).length = undTo t (i + 1) := by
  unfold undMid
  rw [List.take_length, undTo_succ, undsAt_yes h]
theorem undMid_len {t : List EvD} {i m : Nat} (hi : i < 200) : (undMid t i m).length ≤ 40000 := by
  have h1 := undTo_len (t := t) (n := i) (by omega)
  have h2 := befN_len t i
  unfold undMid
  rw [List.length_append, List.length_map, List.length_take]
  omega
/-- all of them: of a trace that is not good there are none -/
def undersN (l : List EvD) : List UnD := if goodTr l = true then undTo l l.length else []
theorem undersN_len (l : List EvD) : (undersN l).length ≤ 40000 := by
  unfold undersN
  split
  · rename_i h
    have h2 := good_len h
    have := undTo_len (t := l) (n := l.length) h2
    omega
  · simp
end Go.Proofs.Ytmflbibogkebmaa
