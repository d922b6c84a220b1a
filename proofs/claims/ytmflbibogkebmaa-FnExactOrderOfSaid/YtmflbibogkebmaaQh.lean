/- Answers that are lists of lists of ints, each list anywhere: kept, compared, marked, held. -/
import Derived.Test.YtmflbibogkebmaaRp
namespace Go.Proofs.Ytmflbibogkebmaa
open Go.RowKit
open Rd Fl

set_option maxRecDepth 20000 in
set_option maxHeartbeats 1000000 in
theorem markints_off (n cap M o : Nat) (k : Int) (h0 : 0 ≤ k) (hk : k ≤ 4611686018427387904) (hn : n ≤ 1000) (w : World) (hth : w.there M o n) :
    Calls Try.prog 16 #[.slice (some ⟨M, o, none⟩) n cap, .int .i64 k] w fun e w' => e = .returned (.int .i64 (k + n)) ∧ (∀ j : Nat, j < n → w'.cell? ⟨M, o + j, none⟩ = some (.int .i64 (k + j))) ∧ (∀ p, p < o ∨ o + n ≤ p → w'.cell? ⟨M, p, none⟩ = w.cell? ⟨M, p, none⟩) ∧ Edit M (M + 1) w w' := by
  have hn' : (n : Int) ≤ 1000 := by omega
  have HTH := hide' hth
  clear hth
  go_enter Try.func16, Try.ntmps16
  go_wp2
  go_loopw [1, 5] (fun x i wr => ∃ (j : Nat) (y : Int), j ≤ n ∧ i = .int .i64 j ∧ x = .int .i64 y ∧ y = k + j ∧ Hid (∀ j' : Nat, j' < j → wr.cell? ⟨M, o + j', none⟩ = some (.int .i64 (k + j'))) ∧ Hid (∀ p, p < o ∨ o + n ≤ p → wr.cell? ⟨M, p, none⟩ = w.cell? ⟨M, p, none⟩) ∧ Hid (Edit M (M + 1) w wr)) (fun _ i _ => n - (intOf i).toNat)
  case atStart => exact ⟨0, k, Nat.zero_le _, rfl, rfl, by omega, (fun j hj => by omega), (fun _ _ => rfl), Edit.refl _ _ _⟩
  case round =>
    obtain ⟨j, y, hj, rfl, rfl, hy, hdo, hou, hed⟩ := hrel
    by_cases hlt : j < n
    · have hy0 : 0 ≤ y := by omega
      have hy1 : y ≤ 4611686018431582208 := by omega
      have HY := hide' hy
      clear hy
      have ht := hed.out.th _ _ _ HTH.out j hlt
      obtain ⟨x0, d0⟩ := Option.isSome_iff_exists.1 ht.1
      have z0 := ht.2
      have HD := hide' d0
      go_wp2
      go_roundw
      case rel =>
        refine ⟨j + 1, y + 1, by omega, by go_num, by go_num, by have := HY.out; omega, ?_, ?_, hed.out.set _ _ _ (Nat.le_refl _) (Nat.lt_succ_self _)⟩
        · intro j' hj'
          by_cases e : j' = j
          · subst e
            rw [World.cell?_setCell_same _ _ _ HD.out, HY.out]
          · rw [World.cell?_setCell_other _ _ _ _ (by simp <;> omega)]
            exact hdo.out j' (by omega)
        · intro p hp
          rw [World.cell?_setCell_other _ _ _ _ (by simp <;> omega)]
          exact hou.out p hp
      case measure => simp [intOf]; omega
    · have hke : j = n := by omega
      have HY := hide' hy
      clear hy
      go_wp2
      go_ret
      exact ⟨by rw [HY.out, hke]; rfl, (by rw [← hke]; exact hdo.out), hou.out, hed.out⟩

set_option maxRecDepth 20000 in
set_option maxHeartbeats 1000000 in
theorem heldints_off (n cap M o : Nat) (k : Int) (h0 : 0 ≤ k) (hk : k ≤ 4611686018427387904) (hn : n ≤ 1000) (w : World) (hc : ∀ j : Nat, j < n → w.cell? ⟨M, o + j, none⟩ = some (.int .i64 (k + j))) :
    Calls Try.prog 17 #[.slice (some ⟨M, o, none⟩) n cap, .int .i64 k] w fun e w' => e = .returned (.int .i64 (k + n)) ∧ w' = w := by
  have hn' : (n : Int) ≤ 1000 := by omega
  have HC := hide' hc
  clear hc
  go_enter Try.func17, Try.ntmps17
  go_wp2
  go_loop [1, 5] (fun x i => ∃ (j : Nat) (y : Int), j ≤ n ∧ i = .int .i64 j ∧ x = .int .i64 y ∧ y = k + j) (fun _ i => n - (intOf i).toNat)
  case atStart => exact ⟨0, k, Nat.zero_le _, rfl, rfl, by omega⟩
  case round =>
    obtain ⟨j, y, hj, rfl, rfl, hy⟩ := hrel
    by_cases hlt : j < n
    · have hy0 : 0 ≤ y := by omega
      have hy1 : y ≤ 4611686018431582208 := by omega
      have d0 := HC.out j hlt
      rw [← hy] at d0
      have HY := hide' hy
      clear hy
      go_wp2
      go_round
      case rel => exact ⟨j + 1, y + 1, by omega, by go_num, by go_num, by have := HY.out; omega⟩
      case measure => simp [intOf]; omega
    · have hke : j = n := by omega
      have HY := hide' hy
      clear hy
      go_wp2
      go_ret
      exact ⟨by rw [HY.out, hke]; rfl, rfl⟩

set_option maxRecDepth 20000 in
set_option maxHeartbeats 2000000 in
theorem markqss_any (A : Option Addr) (ls : List (List Int)) (cap g lo hi : Nat) (M O C : Nat → Nat) (hl : ls.length ≤ 40000) (hls : ∀ l ∈ ls, l.length ≤ 1000) (hA : ls.length ≠ 0 → A = some ⟨g, 0, none⟩) (w : World)
    (hc : ∀ i (h : i < ls.length), w.cell? ⟨g, i, none⟩ = some (.slice (some ⟨M i, O i, none⟩) ls[i].length (C i)) ∧ w.there (M i) (O i) ls[i].length ∧ M i ≠ g ∧ lo ≤ M i ∧ M i < hi)
    (hd : ∀ i j (_ : i < j) (h : j < ls.length), M i ≠ M j ∨ O i + ls[i].length ≤ O j) :
    Calls Try.prog 21 #[.slice A ls.length cap, .int .i64 1] w fun e w' => e = .returned (.int .i64 (1 + offs ls ls.length)) ∧ (∀ i (h : i < ls.length), w'.cell? ⟨g, i, none⟩ = some (.slice (some ⟨M i, O i, none⟩) ls[i].length (C i)) ∧ ∀ t : Nat, t < ls[i].length → w'.cell? ⟨M i, O i + t, none⟩ = some (.int .i64 (1 + offs ls i + t))) ∧ Edit lo hi w w' := by
  have hn' : (ls.length : Int) ≤ 40000 := by omega
  by_cases he : ls.length = 0
  · have : ls = [] := List.length_eq_zero_iff.1 he
    subst this
    clear hA hc hd
    go_enter Try.func21, Try.ntmps21
    go_wp2
    go_loop [1, 5] (fun x i => x = .int .i64 1 ∧ i = .int .i64 0) (fun _ _ => 0)
    case atStart => exact ⟨rfl, rfl⟩
    case round =>
      obtain ⟨rfl, rfl⟩ := hrel
      go_wp2
      go_ret
      exact ⟨rfl, Edit.refl _ _ _⟩
  · have hA2 := hA he
    subst hA2
    have HC := hide' hc
    have HD := hide' hd
    have HLS := hide' hls
    have HOS := hide' (fun i h => offs_succ ls i h)
    have HOL := hide' (fun i => offs_le ls hls i)
    have HO0 : offs ls 0 = 0 := rfl
    clear hA he hc hd hls
    go_enter Try.func21, Try.ntmps21
    go_wp2
    go_loopw [1, 5] (fun x i wr => ∃ (j : Nat) (y : Int), j ≤ ls.length ∧ i = .int .i64 j ∧ x = .int .i64 y ∧ y = 1 + offs ls j ∧ Hid (∀ i (h : i < ls.length), wr.cell? ⟨g, i, none⟩ = some (.slice (some ⟨M i, O i, none⟩) ls[i].length (C i)) ∧ (i < j → ∀ t : Nat, t < ls[i].length → wr.cell? ⟨M i, O i + t, none⟩ = some (.int .i64 (1 + offs ls i + t)))) ∧ Hid (Edit lo hi w wr)) (fun _ i _ => ls.length - (intOf i).toNat)
    case atStart => exact ⟨0, 1, Nat.zero_le _, rfl, rfl, by rw [HO0]; rfl, (fun i h => ⟨(HC.out i h).1, fun h => by omega⟩), Edit.refl _ _ _⟩
    case round =>
      obtain ⟨j, y, hj, rfl, rfl, hy, hdo, hed⟩ := hrel
      by_cases hlt : j < ls.length
      · have HOLj := hide' (HOL.out j)
        have hcell := (hdo.out j hlt).1
        obtain ⟨-, g1, g2, g3, g4⟩ := HC.out j hlt
        have HT := hide' (hed.out.th _ _ _ g1)
        have HM := hide' (HLS.out ls[j] (List.getElem_mem hlt))
        have HOSj := hide' (HOS.out j hlt)
        have HNX := hide' (fun (wx : World) (hx : ∀ t : Nat, t < ls[j].length → wx.cell? ⟨M j, O j + t, none⟩ = some (.int .i64 (y + t))) (ho : ∀ p, p < O j ∨ O j + ls[j].length ≤ p → wx.cell? ⟨M j, p, none⟩ = wr.cell? ⟨M j, p, none⟩) (he : Edit (M j) (M j + 1) wr wx) => (show (∀ i (h : i < ls.length), wx.cell? ⟨g, i, none⟩ = some (.slice (some ⟨M i, O i, none⟩) ls[i].length (C i)) ∧ (i < j + 1 → ∀ t : Nat, t < ls[i].length → wx.cell? ⟨M i, O i + t, none⟩ = some (.int .i64 (1 + offs ls i + t)))) from fun i h => by
          refine ⟨he.cell (hdo.out i h).1 (by omega), fun hij t ht => ?_⟩
          by_cases e : i = j
          · subst e
            rw [hx t ht, hy]
          · have hold := (hdo.out i h).2 (by omega) t ht
            by_cases em : M i = M j
            · rcases HD.out i j (by omega) hlt with h1 | h1
              · exact absurd em h1
              · rw [em] at hold ⊢
                rw [ho _ (.inl (by omega))]
                exact hold
            · exact he.cell hold (by omega)))
        have HE := hide' (fun (wx : World) (he : Edit (M j) (M j + 1) wr wx) => hed.out.trans (he.mono g3 (by omega)))
        have HY := hide' hy
        have hy0 : 0 ≤ y := by omega
        have hy1 : y ≤ 4611686018427387904 := by have := HOLj.out; omega
        clear g1 g2 g3 g4 hy
        generalize ls[j] = x at hcell HT HM HNX HOSj
        generalize M j = Mj at hcell HT HNX HE
        generalize O j = Oj at hcell HT HNX
        generalize C j = Cj at hcell
        go_wp2_with (go_at_call 16; refine (markints_off x.length _ Mj Oj y hy0 hy1 HM.out _ HT.out).mono ?_; rintro e w' ⟨rfl, hx1, ho1, he1⟩)
        go_roundw
        case rel => exact ⟨j + 1, y + x.length, by omega, by go_num, rfl, by rw [HOSj.out, HY.out]; omega, HNX.out _ hx1 ho1 he1, HE.out _ he1⟩
        case measure => simp [intOf]; omega
      · have hke : j = ls.length := by omega
        have HY := hide' hy
        clear hy
        go_wp2
        go_ret
        exact ⟨by rw [HY.out, hke]; rfl, (fun i h => ⟨(hdo.out i h).1, (hdo.out i h).2 (by omega)⟩), hed.out⟩

set_option maxRecDepth 20000 in
set_option maxHeartbeats 2000000 in
theorem heldqss_any (A : Option Addr) (ls : List (List Int)) (cap g : Nat) (M O C : Nat → Nat) (hl : ls.length ≤ 40000) (hls : ∀ l ∈ ls, l.length ≤ 1000) (hA : ls.length ≠ 0 → A = some ⟨g, 0, none⟩) (w : World)
    (hc : ∀ i (h : i < ls.length), w.cell? ⟨g, i, none⟩ = some (.slice (some ⟨M i, O i, none⟩) ls[i].length (C i)) ∧ ∀ t : Nat, t < ls[i].length → w.cell? ⟨M i, O i + t, none⟩ = some (.int .i64 (1 + offs ls i + t))) :
    Calls Try.prog 22 #[.slice A ls.length cap, .int .i64 1] w fun e w' => e = .returned (.int .i64 (1 + offs ls ls.length)) ∧ w' = w := by
  have hn' : (ls.length : Int) ≤ 40000 := by omega
  by_cases he : ls.length = 0
  · have : ls = [] := List.length_eq_zero_iff.1 he
    subst this
    clear hA hc
    go_enter Try.func22, Try.ntmps22
    go_wp2
    go_loop [1, 5] (fun x i => x = .int .i64 1 ∧ i = .int .i64 0) (fun _ _ => 0)
    case atStart => exact ⟨rfl, rfl⟩
    case round =>
      obtain ⟨rfl, rfl⟩ := hrel
      go_wp2
      go_ret
      exact ⟨rfl, rfl⟩
  · have hA2 := hA he
    subst hA2
    have HC := hide' hc
    have HLS := hide' hls
    have HOS := hide' (fun i h => offs_succ ls i h)
    have HOL := hide' (fun i => offs_le ls hls i)
    have HO0 : offs ls 0 = 0 := rfl
    clear hA he hc hls
    go_enter Try.func22, Try.ntmps22
    go_wp2
    go_loop [1, 5] (fun x i => ∃ (j : Nat) (y : Int), j ≤ ls.length ∧ i = .int .i64 j ∧ x = .int .i64 y ∧ y = 1 + offs ls j) (fun _ i => ls.length - (intOf i).toNat)
    case atStart => exact ⟨0, 1, Nat.zero_le _, rfl, rfl, by rw [HO0]; rfl⟩
    case round =>
      obtain ⟨j, y, hj, rfl, rfl, hy⟩ := hrel
      by_cases hlt : j < ls.length
      · have HOLj := hide' (HOL.out j)
        obtain ⟨hcell, hx⟩ := HC.out j hlt
        rw [← hy] at hx
        have HX := hide' hx
        have HM := hide' (HLS.out ls[j] (List.getElem_mem hlt))
        have HOSj := hide' (HOS.out j hlt)
        have HY := hide' hy
        have hy0 : 0 ≤ y := by omega
        have hy1 : y ≤ 4611686018427387904 := by have := HOLj.out; omega
        clear hy hx
        generalize ls[j] = x at hcell HX HM HOSj
        generalize M j = Mj at hcell HX
        generalize O j = Oj at hcell HX
        generalize C j = Cj at hcell
        have hyx : ¬ y + x.length < 0 := by omega
        go_wp2_with (go_at_call 17; refine (heldints_off x.length _ Mj Oj y hy0 hy1 HM.out _ HX.out).mono ?_; rintro e w' ⟨rfl, rfl⟩)
        go_round
        case rel => exact ⟨j + 1, y + x.length, by omega, by go_num, rfl, by rw [HOSj.out, HY.out]; omega⟩
        case measure => simp [intOf]; omega
      · have hke : j = ls.length := by omega
        have HY := hide' hy
        clear hy
        go_wp2
        go_ret
        exact ⟨by rw [HY.out, hke]; rfl, rfl⟩

/-- The lists ls are what v tells: the cells of block g lead to the places M i, O i, all in blocks from lo on and below hi, none over another one. -/
structure ResQ (ls : List (List Int)) (w : World) (lo hi : Nat) (v : Value) : Prop where
  c : ∃ (A : Option Addr) (g cap : Nat) (M O C : Nat → Nat), v = .slice A ls.length cap ∧ (ls.length ≠ 0 → A = some ⟨g, 0, none⟩ ∧ lo ≤ g ∧ g < hi) ∧
    (∀ i (h : i < ls.length), w.cell? ⟨g, i, none⟩ = some (.slice (some ⟨M i, O i, none⟩) ls[i].length (C i)) ∧ w.there (M i) (O i) ls[i].length ∧ M i ≠ g ∧ lo ≤ M i ∧ M i < hi ∧ ∀ t x, ls[i][t]? = some x → w.cell? ⟨M i, O i + t, none⟩ = some (iv x)) ∧
    (∀ i j (_ : i < j) (h : j < ls.length), M i ≠ M j ∨ O i + ls[i].length ≤ O j)
  n : ls.length ≤ 40000
  m : ∀ l ∈ ls, l.length ≤ 1000
theorem resq_keep {ls : List (List Int)} {w w' : World} {lo hi : Nat} {v : Value} (h : ResQ ls w lo hi v) (hb : Below w.heap.size w w') : ResQ ls w' lo hi v := by
  obtain ⟨A, g, cap, M, O, C, h1, h2, h3, h4⟩ := h.c
  refine ⟨⟨A, g, cap, M, O, C, h1, h2, fun i hi => ?_, h4⟩, h.n, h.m⟩
  obtain ⟨c1, c2, c3, c4, c5, c6⟩ := h3 i hi
  exact ⟨keep_cell hb c1, there_keep hb c2, c3, c4, c5, fun t x ht => keep_cell hb (c6 t x ht)⟩
theorem resq_less {ls : List (List Int)} {w : World} {lo lo' hi : Nat} {v : Value} (h : ResQ ls w lo hi v) (hb : lo' ≤ lo) : ResQ ls w lo' hi v := by
  obtain ⟨A, g, cap, M, O, C, h1, h2, h3, h4⟩ := h.c
  refine ⟨⟨A, g, cap, M, O, C, h1, fun hne => ⟨(h2 hne).1, Nat.le_trans hb (h2 hne).2.1, (h2 hne).2.2⟩, fun i hi => ?_, h4⟩, h.n, h.m⟩
  obtain ⟨c1, c2, c3, c4, c5, c6⟩ := h3 i hi
  exact ⟨c1, c2, c3, Nat.le_trans hb c4, c5, c6⟩
theorem resq_more {ls : List (List Int)} {w : World} {lo hi hi' : Nat} {v : Value} (h : ResQ ls w lo hi v) (hb : hi ≤ hi') : ResQ ls w lo hi' v := by
  obtain ⟨A, g, cap, M, O, C, h1, h2, h3, h4⟩ := h.c
  refine ⟨⟨A, g, cap, M, O, C, h1, fun hne => ⟨(h2 hne).1, (h2 hne).2.1, Nat.lt_of_lt_of_le (h2 hne).2.2 hb⟩, fun i hi => ?_, h4⟩, h.n, h.m⟩
  obtain ⟨c1, c2, c3, c4, c5, c6⟩ := h3 i hi
  exact ⟨c1, c2, c3, c4, Nat.lt_of_lt_of_le c5 hb, c6⟩
theorem resq_edit {ls : List (List Int)} {w w' : World} {lo hi : Nat} {v : Value} (h : ResQ ls w lo hi v) {a b : Nat} (he : Edit a b w w') (hp : b ≤ lo ∨ hi ≤ a) : ResQ ls w' lo hi v := by
  obtain ⟨A, g, cap, M, O, C, h1, h2, h3, h4⟩ := h.c
  refine ⟨⟨A, g, cap, M, O, C, h1, h2, fun i hi => ?_, h4⟩, h.n, h.m⟩
  obtain ⟨c1, c2, c3, c4, c5, c6⟩ := h3 i hi
  have hg := h2 (by omega)
  exact ⟨he.cell c1 (by omega), he.th _ _ _ c2, c3, c4, c5, fun t x ht => he.cell (c6 t x ht) (by omega)⟩
theorem resq_ll {ls : List (List Int)} {w : World} {lo hi : Nat} {v : Value} (h : ResQ ls w lo hi v) : ∃ A cap, v = .slice A ls.length cap ∧ LLAt w A ls := by
  obtain ⟨A, g, cap, M, O, C, h1, h2, h3, h4⟩ := h.c
  refine ⟨A, cap, h1, g, 0, fun hne => (h2 (fun e => hne (List.length_eq_zero_iff.1 e))).1, fun i l hl => ?_⟩
  obtain ⟨hi, rfl⟩ := List.getElem?_eq_some_iff.1 hl
  obtain ⟨c1, c2, c3, c4, c5, c6⟩ := h3 i hi
  exact ⟨_, _, by rw [Nat.zero_add]; exact c1, M i, O i, fun _ => rfl, fun t x ht => c6 t x ht⟩
theorem resq_eq {ls : List (List Int)} {w : World} {lo hi lo' hi' : Nat} {v u : Value} (h : ResQ ls w lo hi v) (h' : ResQ ls w lo' hi' u) : Calls Try.prog 20 #[v, u] w fun e w' => e = .returned (.bool true) ∧ Below w.heap.size w w' := by
  obtain ⟨A, ca, rfl, hA⟩ := resq_ll h
  obtain ⟨B, cb, rfl, hB⟩ := resq_ll h'
  exact eqintss_any A B ls ca cb (by have := h.n; omega) (fun l hl => by have := h.m l hl; omega) w hA hB

/-- v's numbers are 1, 2 and so on up to y. -/
structure MkdQ (ls : List (List Int)) (w : World) (v : Value) (y : Int) : Prop where
  n : ls.length ≤ 40000
  m : ∀ l ∈ ls, l.length ≤ 1000
  y : y = 1 + offs ls ls.length
  c : ∃ (A : Option Addr) (g cap : Nat) (M O C : Nat → Nat), v = .slice A ls.length cap ∧ (ls.length ≠ 0 → A = some ⟨g, 0, none⟩) ∧ ∀ i (h : i < ls.length), w.cell? ⟨g, i, none⟩ = some (.slice (some ⟨M i, O i, none⟩) ls[i].length (C i)) ∧ ∀ t : Nat, t < ls[i].length → w.cell? ⟨M i, O i + t, none⟩ = some (.int .i64 (1 + offs ls i + t))
theorem mkdq_keep {ls : List (List Int)} {w w' : World} {v : Value} {y : Int} (h : MkdQ ls w v y) (hb : Below w.heap.size w w') : MkdQ ls w' v y := by
  obtain ⟨A, g, cap, M, O, C, h1, h2, h3⟩ := h.c
  exact ⟨h.n, h.m, h.y, A, g, cap, M, O, C, h1, h2, fun i hi => ⟨keep_cell hb (h3 i hi).1, fun t ht => keep_cell hb ((h3 i hi).2 t ht)⟩⟩
theorem resq_mark {ls : List (List Int)} {w : World} {lo hi : Nat} {v : Value} (h : ResQ ls w lo hi v) : Calls Try.prog 21 #[v, .int .i64 1] w fun e w' => (∃ y : Int, e = .returned (.int .i64 y) ∧ 0 ≤ y ∧ MkdQ ls w' v y) ∧ Edit lo hi w w' := by
  obtain ⟨A, g, cap, M, O, C, rfl, h2, h3, h4⟩ := h.c
  refine (markqss_any A ls cap g lo hi M O C h.n h.m (fun hne => (h2 hne).1) w (fun i hi => ?_) h4).mono ?_
  · obtain ⟨c1, c2, c3, c4, c5, c6⟩ := h3 i hi
    exact ⟨c1, c2, c3, c4, c5⟩
  · rintro e w' ⟨rfl, hc, he⟩
    exact ⟨⟨_, rfl, by omega, h.n, h.m, rfl, A, g, cap, M, O, C, rfl, fun hne => (h2 hne).1, hc⟩, he⟩
theorem mkdq_held {ls : List (List Int)} {w : World} {v : Value} {y : Int} (h : MkdQ ls w v y) : Calls Try.prog 22 #[v, .int .i64 1] w fun e w' => e = .returned (.int .i64 y) ∧ Below w.heap.size w w' := by
  obtain ⟨A, g, cap, M, O, C, rfl, h2, h3⟩ := h.c
  refine (heldqss_any A ls cap g M O C h.n h.m h2 w h3).mono ?_
  rintro e w' ⟨rfl, rfl⟩
  exact ⟨by rw [h.y], Below.refl _ _⟩
theorem resq_rowss {ls : List (List Int)} {w : World} {lo : Nat} {v : Value} {Ms : List Nat} (h : RowSS ls w lo v Ms) (hn : ls.length ≤ 40000) (hm : ∀ l ∈ ls, l.length ≤ 1000) : ResQ ls w lo w.heap.size v := by
  refine ⟨?_, hn, hm⟩
  rcases h.o.2 with ⟨rfl, h0⟩ | ⟨g, cap, cur, rfl, hb2, hgg, q1, q2, q3, q4⟩
  · have : ls = [] := List.length_eq_zero_iff.1 h0
    subst this
    exact ⟨none, 0, 0, fun _ => 0, fun _ => 0, fun _ => 0, rfl, (fun h => absurd rfl h), (fun i h => absurd h (by simp)), (fun i j _ h => absurd h (by simp))⟩
  · have hg := (h.o.lt g rfl).2
    refine ⟨some ⟨g, 0, none⟩, g, cap, fun i => Ms.getD i 0, fun _ => 0, fun i => (ls.getD i []).length, rfl, fun _ => ⟨rfl, hb2, hg⟩, fun i hi => ?_, fun i j hij hj => ?_⟩
    · have hi' : i < Ms.length := by rw [h.n]; exact hi
      have e1 : Ms.getD i 0 = Ms[i] := by rw [List.getD_eq_getElem?_getD, List.getElem?_eq_getElem hi']; rfl
      have e2 : ls.getD i [] = ls[i] := by rw [List.getD_eq_getElem?_getD, List.getElem?_eq_getElem hi]; rfl
      simp only [e1, e2]
      obtain ⟨c1, c2, c3⟩ := h.c i Ms[i] ls[i] (List.getElem?_eq_getElem hi') (List.getElem?_eq_getElem hi)
      have hk := h.o.cellAt i (by omega)
      rw [List.getElem?_zipWith, List.getElem?_eq_getElem hi', List.getElem?_eq_getElem hi] at hk
      refine ⟨hk, c3.1, fun e => ?_, c1, c2, fun t x ht => by rw [Nat.zero_add]; exact c3.2 t x ht⟩
      exact h.b Ms[i] (List.getElem_mem hi') (by rw [e]; rfl)
    · have hj' : j < Ms.length := by rw [h.n]; exact hj
      have e1 : Ms.getD i 0 = Ms[i] := by rw [List.getD_eq_getElem?_getD, List.getElem?_eq_getElem (by omega)]; rfl
      have e2 : Ms.getD j 0 = Ms[j] := by rw [List.getD_eq_getElem?_getD, List.getElem?_eq_getElem hj']; rfl
      simp only [e1, e2]
      have := h.d i j _ _ hij (List.getElem?_eq_getElem (by omega)) (List.getElem?_eq_getElem hj')
      exact .inl (by omega)
end Go.Proofs.Ytmflbibogkebmaa
