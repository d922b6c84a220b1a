/- What NumText answers, the specification's and the program's: contracts. -/
import Derived.Test.YtdifamjkbagfcaaDoorNum
import Derived.Test.YtdifamjkbagfcaaDoorOrder
import Derived.Test.YtdifamjkbagfcaaDoorPartsI
import Derived.Test.YtdifamjkbagfcaaDoorShelf
import Derived.Lib.LaidTab
namespace Go.Proofs.YtdifamjkbagfcaaDoor
open Go.RowKit
open Fl

/-- the text of a NaN, an infinity or a zero -/
def edgeT (s : Bool) (r : Nat) : ByteArray :=
  if 9218868437227405312 < r then ⟨#[110, 97, 110]⟩ else if r = 9218868437227405312 then (if s then ⟨#[45, 105, 110, 102]⟩ else ⟨#[105, 110, 102]⟩) else (if s then ⟨#[45, 48]⟩ else ⟨#[48]⟩)

theorem kind_nan (r : Nat) (h : 9218868437227405312 < r) : kindN r = 0 := by unfold kindN; rw [if_pos h]
theorem kind_inf : kindN 9218868437227405312 = 1 := by unfold kindN; rw [if_neg (by omega), if_pos rfl]
theorem kind_zero : kindN 0 = 2 := by unfold kindN; rw [if_neg (by omega), if_neg (by omega), if_pos rfl]

theorem below_draws {B : Nat} {a w : World} (h : Below B a w) (n : Nat) : Below B a (w.drewN n) := h.trans ⟨rfl, rfl, rfl, Nat.le_refl _, fun _ _ => rfl⟩

set_option maxRecDepth 20000 in
set_option maxHeartbeats 400000 in
theorem stext_edge (s : Bool) (r : Nat) (hr : r < 9223372036854775808) (h : r = 0 ∨ 9218868437227405312 ≤ r) (w : World) :
    Calls Tryd.prog 98 #[.float .f64 (wd s r)] w fun e w' => e = .returned (.string (edgeT s r)) ∧ Below w.heap.size w w' := by
  by_cases h1 : 9218868437227405312 < r
  · have hk := kind_nan r h1
    rw [show edgeT s r = ⟨#[110, 97, 110]⟩ by unfold edgeT; rw [if_pos h1]]
    clear h
    go_enter Tryd.func98, Tryd.ntmps98
    go_wp2_with (first | (go_at_call 124; refine (skind_any _ _ hr _).mono ?_; rintro e w' ⟨rfl, n, rfl⟩) | (go_at_call 125; refine (sminus_any _ _ hr _).mono ?_; rintro e w' ⟨rfl, rfl⟩))
    go_ret
    exact ⟨rfl, below_draws (Below.refl _ _) _⟩
  · by_cases h2 : r = 9218868437227405312
    · subst h2
      have hk := kind_inf
      have hm : minusB s 9218868437227405312 = s := by unfold minusB; rw [decide_eq_true (by omega)]; simp
      rw [show edgeT s 9218868437227405312 = (if s then ⟨#[45, 105, 110, 102]⟩ else ⟨#[105, 110, 102]⟩) by unfold edgeT; rw [if_neg h1, if_pos rfl]]
      clear h h1
      cases s
      all_goals
        go_enter Tryd.func98, Tryd.ntmps98
        go_wp2_with (first | (go_at_call 124; refine (skind_any _ _ hr _).mono ?_; rintro e w' ⟨rfl, n, rfl⟩) | (go_at_call 125; refine (sminus_any _ _ hr _).mono ?_; rintro e w' ⟨rfl, rfl⟩))
        go_ret
        exact ⟨rfl, below_draws (Below.refl _ _) _⟩
    · have h0 : r = 0 := by omega
      subst h0
      have hk := kind_zero
      have hm : minusB s 0 = s := by unfold minusB; rw [decide_eq_true (by omega)]; simp
      rw [show edgeT s 0 = (if s then ⟨#[45, 48]⟩ else ⟨#[48]⟩) by unfold edgeT; rw [if_neg h1, if_neg h2]]
      clear h h1 h2
      cases s
      all_goals
        go_enter Tryd.func98, Tryd.ntmps98
        go_wp2_with (first | (go_at_call 124; refine (skind_any _ _ hr _).mono ?_; rintro e w' ⟨rfl, n, rfl⟩) | (go_at_call 125; refine (sminus_any _ _ hr _).mono ?_; rintro e w' ⟨rfl, rfl⟩))
        go_ret
        exact ⟨rfl, below_draws (Below.refl _ _) _⟩

set_option maxRecDepth 20000 in
set_option maxHeartbeats 400000 in
theorem itext_edge (s : Bool) (r : Nat) (hr : r < 9223372036854775808) (h : r = 0 ∨ 9218868437227405312 ≤ r) (w : World) :
    Calls Tryd.prog 78 #[.float .f64 (wd s r)] w fun e w' => e = .returned (.string (edgeT s r)) ∧ Below w.heap.size w w' := by
  by_cases h1 : 9218868437227405312 < r
  · have hk := kind_nan r h1
    rw [show edgeT s r = ⟨#[110, 97, 110]⟩ by unfold edgeT; rw [if_pos h1]]
    clear h
    go_enter Tryd.func78, Tryd.ntmps78
    go_wp2_with (first | (go_at_call 104; refine (ikind_any _ _ hr _).mono ?_; rintro e w' ⟨rfl, rfl⟩) | (go_at_call 105; refine (iminus_any _ _ hr _).mono ?_; rintro e w' ⟨rfl, rfl⟩))
    go_ret
    exact ⟨rfl, Below.refl _ _⟩
  · by_cases h2 : r = 9218868437227405312
    · subst h2
      have hk := kind_inf
      have hm : minusB s 9218868437227405312 = s := by unfold minusB; rw [decide_eq_true (by omega)]; simp
      rw [show edgeT s 9218868437227405312 = (if s then ⟨#[45, 105, 110, 102]⟩ else ⟨#[105, 110, 102]⟩) by unfold edgeT; rw [if_neg h1, if_pos rfl]]
      clear h h1
      cases s
      all_goals
        go_enter Tryd.func78, Tryd.ntmps78
        go_wp2_with (first | (go_at_call 104; refine (ikind_any _ _ hr _).mono ?_; rintro e w' ⟨rfl, rfl⟩) | (go_at_call 105; refine (iminus_any _ _ hr _).mono ?_; rintro e w' ⟨rfl, rfl⟩))
        go_ret
        exact ⟨rfl, Below.refl _ _⟩
    · have h0 : r = 0 := by omega
      subst h0
      have hk := kind_zero
      have hm : minusB s 0 = s := by unfold minusB; rw [decide_eq_true (by omega)]; simp
      rw [show edgeT s 0 = (if s then ⟨#[45, 48]⟩ else ⟨#[48]⟩) by unfold edgeT; rw [if_neg h1, if_neg h2]]
      clear h h1 h2
      cases s
      all_goals
        go_enter Tryd.func78, Tryd.ntmps78
        go_wp2_with (first | (go_at_call 104; refine (ikind_any _ _ hr _).mono ?_; rintro e w' ⟨rfl, rfl⟩) | (go_at_call 105; refine (iminus_any _ _ hr _).mono ?_; rintro e w' ⟨rfl, rfl⟩))
        go_ret
        exact ⟨rfl, Below.refl _ _⟩

/-- the decimal text of an int -/
def tx (n : Int) : ByteArray := ⟨(Lib.itoa n).toArray⟩
theorem tx_size (n : Int) (h0 : -9223372036854775808 ≤ n) (h1 : n ≤ 9223372036854775807) : (tx n).size ≤ 21 := by
  have := Lib.itoa_length_le n h0 h1
  show (Lib.itoa n).toArray.size ≤ 21
  rw [List.size_toArray]; exact this
def numT (m x : Int) : ByteArray := tx m ++ ⟨#[112]⟩ ++ tx x

theorem tx_sizes (s : Bool) (q : Nat) (x : Int) {r : Nat} (h : PR r q x) : -9223372036854775808 < sg s q ∧ sg s q ≤ 9223372036854775807 ∧ -9223372036854775808 < x ∧ x ≤ 9223372036854775807 ∧ (tx (sg s q)).size ≤ 21 ∧ (tx x).size ≤ 21 := by
  have h1 := sg_bd s q h.2.1
  have h2 := h.2.2.1
  have h3 := h.2.2.2.1
  exact ⟨by omega, by omega, by omega, by omega, tx_size _ (by omega) (by omega), tx_size _ (by omega) (by omega)⟩

theorem l1sign_tx (n : Int) (h1 : -9223372036854775808 < n) (h2 : n ≤ 9223372036854775807) (w : World) :
    Calls Tryd.prog 127 #[.int .i64 n] w fun e w' => e = .returned (.string (tx n)) ∧ Below w.heap.size w w' := l1sign_any n h1 h2 w

theorem below_grow (w : World) (q : Nat) (os : Array Obj) : Below w.heap.size w (Go.Sort.grow (w.drewN q) os) :=
  ⟨rfl, rfl, rfl, by show w.heap.size ≤ (w.heap ++ os).size; simp, fun k hk => by show (w.heap ++ os)[k]? = w.heap[k]?; rw [Array.getElem?_append_left hk]⟩

theorem itoa_tx (n : Int) (h1 : -9223372036854775808 ≤ n) (h2 : n ≤ 9223372036854775807) (w : World) (htab : Lib.TabIs Tryd.prog w "internal/strconv.uint64pow10" .u64 Lib.pow10Tab) :
    Calls Tryd.prog 39 #[.int .i64 n] w fun e w' => e = .returned (.string (tx n)) ∧ Below w.heap.size w w' := by
  refine (Tryd.strconv_Itoa n h1 h2 w htab).mono ?_
  rintro e w' ⟨rfl, k, os, rfl⟩
  exact ⟨rfl, below_grow w k os⟩

set_option maxRecDepth 20000 in
set_option maxHeartbeats 800000 in
theorem stext_num (s : Bool) (r : Nat) (h0 : 0 < r) (hr : r < 9218868437227405312) (w : World) :
    Calls Tryd.prog 98 #[.float .f64 (wd s r)] w fun e w' => (∃ q x, e = .returned (.string (numT (sg s q) x)) ∧ PR r q x) ∧ Below w.heap.size w w' := by
  rcases kindN_great r h0 hr with hk | hk
  all_goals
    go_enter Tryd.func98, Tryd.ntmps98
    go_wp2_with (first | (go_at_call 124; refine (skind_any _ _ (by omega) _).mono ?_; rintro e w' ⟨rfl, n, rfl⟩) | (go_at_call 126; refine (parts_any _ _ h0 hr _).mono ?_; rintro e w' ⟨⟨q, x, rfl, hx⟩, rfl⟩; obtain ⟨b1, b2, b3, b4, z1, z2⟩ := tx_sizes s q x hx) | (go_at_call_of 127 (sg s q); refine (l1sign_tx _ b1 b2 _).mono ?_; rintro e w1 ⟨rfl, hb1⟩) | (go_at_call_of 127 x; refine (l1sign_tx _ b3 b4 _).mono ?_; rintro e w2 ⟨rfl, hb2⟩))
    go_ret
    exact ⟨⟨q, x, rfl, hx⟩, ((below_draws (Below.refl _ _) _).trans hb1).trans (hb2.mono hb1.size)⟩

theorem tab_below {n : String} {g : Nat} {k : IntKind} {zs : List Int} {w w' : World} (hg : Tryd.prog.globalNamed n = some g) (h : Lib.TabIs Tryd.prog w n k zs) (hb : Below w.heap.size w w') : Lib.TabIs Tryd.prog w' n k zs := by
  unfold Lib.TabIs World.var? at h ⊢
  rw [hg] at h ⊢
  simp only [Option.bind_some] at h ⊢
  have hlt : g < w.heap.size := by
    rcases Nat.lt_or_ge g w.heap.size with h' | h'
    · exact h'
    · rw [Array.getElem?_eq_none h'] at h; cases h
  rw [hb.block g hlt]
  exact h

theorem gPow : Tryd.prog.globalNamed "internal/strconv.uint64pow10" = some 1 := by kernel_rfl

set_option maxRecDepth 20000 in
set_option maxHeartbeats 800000 in
theorem itext_num (s : Bool) (r : Nat) (h0 : 0 < r) (hr : r < 9218868437227405312) (w : World) (hT : Tab w) (hP : Lib.TabIs Tryd.prog w "internal/strconv.uint64pow10" .u64 Lib.pow10Tab) :
    Calls Tryd.prog 78 #[.float .f64 (wd s r)] w fun e w' => (∃ q x, e = .returned (.string (numT (sg s q) x)) ∧ PR r q x) ∧ Below w.heap.size w w' := by
  have HT := hide hT
  have HP := hide hP
  clear hT hP
  rcases kindN_great r h0 hr with hk | hk
  all_goals
    go_enter Tryd.func78, Tryd.ntmps78
    go_wp2_with (first | (go_at_call 104; refine (ikind_any _ _ (by omega) _).mono ?_; rintro e w' ⟨rfl, rfl⟩) | (go_at_call 106; refine (iparts_yes _ _ h0 hr _ HT.out).mono ?_; rintro e w' ⟨⟨q, x, rfl, hx⟩, rfl⟩; obtain ⟨b1, b2, b3, b4, z1, z2⟩ := tx_sizes s q x hx) | (go_at_call_of 39 (sg s q); refine (itoa_tx _ (by omega) b2 _ HP.out).mono ?_; rintro e w1 ⟨rfl, hb1⟩) | (go_at_call_of 39 x; refine (itoa_tx _ (by omega) b4 _ (tab_below gPow HP.out hb1)).mono ?_; rintro e w2 ⟨rfl, hb2⟩))
    go_ret
    exact ⟨⟨q, x, rfl, hx⟩, hb1.trans (hb2.mono hb1.size)⟩
end Go.Proofs.YtdifamjkbagfcaaDoor
