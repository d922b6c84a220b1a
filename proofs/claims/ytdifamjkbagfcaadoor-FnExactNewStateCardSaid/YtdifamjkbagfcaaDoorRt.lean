/- States: marked with what stands there behind, and held. -/
import Derived.Test.YtdifamjkbagfcaaDoorMl
import Derived.Test.YtdifamjkbagfcaaDoorIndex
import Derived.BigQuiet
namespace Go.Proofs.YtdifamjkbagfcaaDoor
open Go.RowKit
open Rd Fl

def fw (k : Int) : Value := .float .f64 (floatOfInt .f64 k)

set_option maxRecDepth 20000 in
set_option maxHeartbeats 1000000 in
theorem heldfls_any (A : Option Addr) (n cap M : Nat) (k : Int) (h0 : 1 ≤ k) (hk : k + n ≤ 1000) (hA : n ≠ 0 → A = some ⟨M, 0, none⟩) (w : World) (hc : ∀ j : Nat, j < n → w.cell? ⟨M, j, none⟩ = some (.float .f64 (floatOfInt .f64 (k + j)))) :
    Calls Tryd.prog 55 #[.slice A n cap, .int .i64 k] w fun e w' => e = .returned (.int .i64 (k + n)) ∧ w' = w := by
  have hn' : (n : Int) ≤ 1000 := by omega
  by_cases he : n = 0
  · subst he
    clear hA
    go_enter Tryd.func55, Tryd.ntmps55
    go_wp2
    go_loop [1, 5] (fun x i => x = .int .i64 k ∧ i = .int .i64 0) (fun _ _ => 0)
    case atStart => exact ⟨rfl, rfl⟩
    case round =>
      obtain ⟨rfl, rfl⟩ := hrel
      go_wp2
      go_ret
      exact ⟨by simp, rfl⟩
  · have hA2 := hA he
    subst hA2
    have HC := hide' hc
    clear hA he hc
    go_enter Tryd.func55, Tryd.ntmps55
    go_wp2
    go_loop [1, 5] (fun x i => ∃ (j : Nat) (y : Int), j ≤ n ∧ i = .int .i64 j ∧ x = .int .i64 y ∧ y = k + j) (fun _ i => n - (intOf i).toNat)
    case atStart => exact ⟨0, k, Nat.zero_le _, rfl, rfl, by omega⟩
    case round =>
      obtain ⟨j, y, hj, rfl, rfl, hy⟩ := hrel
      by_cases hlt : j < n
      · have hy0 : 1 ≤ y := by omega
        have hy1 : y ≤ 1000 := by omega
        have d0 := HC.out j hlt
        rw [← hy] at d0
        have HY := hide' hy
        clear hy
        obtain ⟨q, hq, -, hf⟩ := ofSmall y hy0 hy1
        have hcmp := cmp_eq false false q q (by omega) (by omega)
        have hcmp2 := cmp_ne false false q q (by omega) (by omega)
        rw [hf] at d0
        go_wp2
        go_round
        case rel => exact ⟨j + 1, y + 1, by omega, by go_num, by go_num, by have := HY.out; omega⟩
        case measure => simp [intOf]; omega
      · have hke : j = n := by omega
        have HY := hide' hy
        clear hy
        go_wp2
        go_ret
        exact ⟨by rw [HY.out, hke]; rfl, rfl⟩

/-- how many numbers stand ahead of the i-th thread -/
def tof (ts : List ThD) (i : Nat) : Nat := ((ts.take i).map (fun t => 5 + t.sk.length)).sum
theorem tof_succ (ts : List ThD) (i : Nat) (h : i < ts.length) : tof ts (i + 1) = tof ts i + (5 + ts[i].sk.length) := by
  unfold tof
  rw [List.take_succ_eq_append_getElem h, List.map_append, List.sum_append]
  simp
theorem tof_le (ts : List ThD) (hls : ∀ t ∈ ts, t.sk.length ≤ 8) (i : Nat) : tof ts i ≤ 13 * i := by
  induction i with
  | zero => simp [tof]
  | succ i ih =>
    by_cases h : i < ts.length
    · rw [tof_succ ts i h]; have := hls ts[i] (List.getElem_mem h); omega
    · have : tof ts (i + 1) = tof ts i := by unfold tof; rw [List.take_of_length_le (by omega), List.take_of_length_le (by omega)]
      omega

/-- The i-th thread's cells at N, its stack at F i. -/
def ThC (w : World) (N lo hi : Nat) (F : Nat → Nat) (i : Nat) (t : ThD) : Prop :=
  ∃ S cap, w.cell? ⟨N, i * 6 + 5, none⟩ = some (.slice S t.sk.length cap) ∧ (t.sk.length ≠ 0 → S = some ⟨F i, 0, none⟩ ∧ F i ≠ N ∧ lo ≤ F i ∧ F i < hi ∧ w.there (F i) 0 t.sk.length) ∧ w.there N (i * 6) 6
/-- The i-th thread has been marked from k on. -/
def ThK (w : World) (N : Nat) (F : Nat → Nat) (i : Nat) (t : ThD) (k : Int) : Prop :=
  ∃ S cap, w.rangeAt N (i * 6) [.int .i64 k, .int .i64 (k + 1), .int .i64 (k + 2), .int .i64 (k + 3), .int .i64 (k + 4), .slice S t.sk.length cap] ∧ (t.sk.length ≠ 0 → S = some ⟨F i, 0, none⟩) ∧ ∀ j : Nat, j < t.sk.length → w.cell? ⟨F i, j, none⟩ = some (fw (k + 5 + j))
theorem ThK.edit {w w' : World} {N : Nat} {F : Nat → Nat} {i : Nat} {t : ThD} {k : Int} (h : ThK w N F i t k) {a b : Nat} (he : Edit a b w w') (h1 : N < a ∨ b ≤ N) (h2 : t.sk.length ≠ 0 → F i < a ∨ b ≤ F i) : ThK w' N F i t k := by
  obtain ⟨S, cap, g1, g2, g3⟩ := h
  exact ⟨S, cap, he.range g1 h1, g2, fun j hj => he.cell (g3 j hj) (h2 (by omega))⟩
theorem ThK.keep {w w' : World} {N : Nat} {F : Nat → Nat} {i : Nat} {t : ThD} {k : Int} (h : ThK w N F i t k) (hb : Below w.heap.size w w') : ThK w' N F i t k := by
  obtain ⟨S, cap, g1, g2, g3⟩ := h
  exact ⟨S, cap, range_keep hb g1, g2, fun j hj => keep_cell hb (g3 j hj)⟩

set_option maxRecDepth 20000 in
set_option maxHeartbeats 2000000 in
theorem heldths_any (A : Option Addr) (ts : List ThD) (cap N : Nat) (F : Nat → Nat) (hl : ts.length ≤ 5) (hls : ∀ t ∈ ts, t.sk.length ≤ 8) (hA : ts.length ≠ 0 → A = some ⟨N, 0, none⟩) (w : World) (hc : ∀ i (h : i < ts.length), ThK w N F i ts[i] (1 + tof ts i)) :
    Calls Tryd.prog 54 #[.slice A ts.length cap, .int .i64 1] w fun e w' => e = .returned (.int .i64 (1 + tof ts ts.length)) ∧ w' = w := by
  have hn' : (ts.length : Int) ≤ 5 := by omega
  by_cases he : ts.length = 0
  · have : ts = [] := List.length_eq_zero_iff.1 he
    subst this
    clear hA hc
    go_enter Tryd.func54, Tryd.ntmps54
    go_wp2
    go_loop [1, 5] (fun x i => x = .int .i64 1 ∧ i = .int .i64 0) (fun _ _ => 0)
    case atStart => exact ⟨rfl, rfl⟩
    case round =>
      obtain ⟨rfl, rfl⟩ := hrel
      go_wp2
      go_ret
      exact ⟨rfl, rfl⟩
  · have hA2 := hA he
    subst hA2
    have HC := hide' hc
    have HLS := hide' hls
    have HOS := hide' (fun i h => tof_succ ts i h)
    have HOL := hide' (fun i => tof_le ts hls i)
    have HO0 : tof ts 0 = 0 := rfl
    clear hA he hc hls
    go_enter Tryd.func54, Tryd.ntmps54
    go_wp2
    go_loop [1, 5] (fun x i => ∃ (j : Nat) (y : Int), j ≤ ts.length ∧ i = .int .i64 j ∧ x = .int .i64 y ∧ y = 1 + tof ts j) (fun _ i => ts.length - (intOf i).toNat)
    case atStart => exact ⟨0, 1, Nat.zero_le _, rfl, rfl, by rw [HO0]; rfl⟩
    case round =>
      obtain ⟨j, y, hj, rfl, rfl, hy⟩ := hrel
      by_cases hlt : j < ts.length
      · have HOLj := hide' (HOL.out j)
        obtain ⟨S, cp, hr, hS, hx⟩ := HC.out j hlt
        rw [← hy] at hr hx
        have d0 : _ = some (Value.int .i64 y) := hr 0 _ rfl
        rw [Nat.add_zero] at d0
        have d1 := hr 1 _ rfl
        have d2 := hr 2 _ rfl
        have d3 := hr 3 _ rfl
        have d4 := hr 4 _ rfl
        have d5 := hr 5 _ rfl
        have HX := hide' hx
        have HSS := hide' (fun h => hS h)
        have HM := hide' (HLS.out ts[j] (List.getElem_mem hlt))
        have HOSj := hide' (HOS.out j hlt)
        have HY := hide' hy
        have hy0 : 1 ≤ y := by omega
        have hy1 : y ≤ 66 := by have := HOLj.out; omega
        clear hy hx hr hS
        generalize ts[j].sk.length = n at d5 HX HM HOSj HSS
        have hyx : ¬ y + 5 + n < 0 := by omega
        have e2 : y + 1 + 1 = y + 2 := by omega
        have e3 : y + 2 + 1 = y + 3 := by omega
        have e4 : y + 3 + 1 = y + 4 := by omega
        have e5 : y + 4 + 1 = y + 5 := by omega
        go_wp2_with (go_at_call 55; refine (heldfls_any _ n _ (F j) (y + 5) (by omega) (by have := HM.out; omega) HSS.out _ HX.out).mono ?_; rintro e w' ⟨rfl, rfl⟩)
        go_round
        case rel => exact ⟨j + 1, y + 5 + n, by omega, by go_num, rfl, by rw [HOSj.out, HY.out]; omega⟩
        case measure => simp [intOf]; omega
      · have hke : j = ts.length := by omega
        have HY := hide' hy
        clear hy
        go_wp2
        go_ret
        exact ⟨by rw [HY.out, hke]; rfl, rfl⟩
end Go.Proofs.YtdifamjkbagfcaaDoor
