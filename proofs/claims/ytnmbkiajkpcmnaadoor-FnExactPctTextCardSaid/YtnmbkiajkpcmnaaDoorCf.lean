/- Cycles: small functions of the specification. -/
import Derived.Test.YtnmbkiajkpcmnaaDoorIx
import Derived.Test.YtnmbkiajkpcmnaaDoorPu
import Derived.Test.YtnmbkiajkpcmnaaDoorCyE
import Derived.Test.YtnmbkiajkpcmnaaDoorIndex
namespace Go.Proofs.YtnmbkiajkpcmnaaDoor
open Go.RowKit
open Rd Fl

def inC (lo hi x : Int) : Bool := decide (lo ≤ x ∧ x ≤ hi)
theorem allC_no {α : Type} {p : α → Bool} {l : List α} {k : Nat} (h : k < l.length) (hp : p l[k] = false) : l.all p = false := by
  rw [Bool.eq_false_iff]
  intro h2
  have := List.all_eq_true.1 h2 _ (List.getElem_mem h)
  rw [hp] at this
  cases this
theorem allC_succ {α : Type} {p : α → Bool} {l : List α} {k : Nat} (h : k < l.length) (h1 : ∀ x ∈ l.take k, p x = true) (h2 : p l[k] = true) : ∀ x ∈ l.take (k + 1), p x = true := by
  intro x hx
  rw [List.take_succ_eq_append_getElem h, List.mem_append] at hx
  rcases hx with hx | hx
  · exact h1 x hx
  · rw [List.mem_singleton] at hx; rw [hx]; exact h2
theorem allC_all {α : Type} {p : α → Bool} {l : List α} (h1 : ∀ x ∈ l.take l.length, p x = true) : l.all p = true := by
  rw [List.take_length] at h1
  exact List.all_eq_true.2 h1


set_option maxRecDepth 20000 in
set_option maxHeartbeats 1000000 in
theorem l1allc_any (A : Option Addr) (l : List Int) (cap : Nat) (lo hi : Int) (hl : l.length ≤ 1048576) (w : World) (hA : LAt iv w A l) :
    Calls Tryd.prog 27 #[.slice A l.length cap, .int .i64 lo, .int .i64 hi] w fun e w' => e = .returned (.bool (l.all (inC lo hi))) ∧ w' = w := by
  have hl' : (l.length : Int) ≤ 1048576 := by omega
  obtain ⟨b, off, hA1, hc⟩ := hA
  by_cases he : l = []
  · subst he
    clear hc hA1
    go_enter Tryd.func27, Tryd.ntmps27
    go_wp2
    go_loop [11] (fun i => i = .int .i64 0) (fun _ => 0)
    case atStart => rfl
    case round =>
      subst hrel
      go_wp2
      go_ret
      exact ⟨rfl, rfl⟩
  · have hA2 := hA1 he
    subst hA2
    have HC := hide' (fun i (hi : i < l.length) => hc i l[i] (List.getElem?_eq_getElem hi))
    clear hc hA1 he
    go_enter Tryd.func27, Tryd.ntmps27
    go_wp2
    go_loop [11] (fun i => ∃ k : Nat, k ≤ l.length ∧ i = .int .i64 k ∧ Hid (∀ x ∈ l.take k, inC lo hi x = true)) (fun i => l.length - (intOf i).toNat)
    case atStart => exact ⟨0, Nat.zero_le _, rfl, fun x hx => by cases hx⟩
    case round =>
      obtain ⟨k, hk, rfl, hdone⟩ := hrel
      by_cases hlt : k < l.length
      · have c0 : _ = some (Value.int .i64 l[k]) := HC.out k hlt
        have HS := hide' (fun h => allC_succ (p := inC lo hi) hlt hdone.out h)
        have HF := hide' (fun h => allC_no (p := inC lo hi) hlt h)
        generalize l[k] = o at c0 HS HF
        cases hd : decide (lo ≤ o ∧ o ≤ hi)
        · have HN := hide' (HF.out (show inC lo hi o = false from hd))
          go_wp2_with (go_at_call 37; refine (l1in_any _ _ _ _).mono ?_; rintro e w' ⟨rfl, rfl⟩)
          go_ret
          exact ⟨by rw [HN.out]; rfl, rfl⟩
        · have HN := hide' (HS.out (show inC lo hi o = true from hd))
          go_wp2_with (go_at_call 37; refine (l1in_any _ _ _ _).mono ?_; rintro e w' ⟨rfl, rfl⟩)
          go_round
          case rel => exact ⟨k + 1, by omega, by go_num, HN.out⟩
          case measure => simp [intOf]; omega
      · have hke : k = l.length := by omega
        subst hke
        have HN := hide' (allC_all hdone.out)
        go_wp2
        go_ret
        exact ⟨by rw [HN.out]; rfl, rfl⟩
theorem own_slice {w : World} {B n : Nat} {x : Value} {xs : List Value} (h : w.ownsRow B 3 1 x n xs) (hn : n ≠ 0) : ∃ g cap, x = .slice (some ⟨g, 0, none⟩) n cap := by
  rcases h.2 with ⟨-, h0⟩ | ⟨g, cap, cur, rfl, -⟩
  · exact absurd h0 hn
  · exact ⟨g, cap, rfl⟩
theorem own_at {w : World} {B : Nat} {x : Value} {l : List Int} (h : w.ownsRow B 3 1 x l.length (l.map iv)) : ∃ A cap, x = .slice A l.length cap ∧ LAt iv w A l := by
  rcases h.2 with ⟨rfl, h0⟩ | ⟨g, cap, cur, rfl, -⟩
  · exact ⟨none, 0, by rw [h0], 0, 0, fun hne => absurd (List.length_eq_zero_iff.1 h0) hne, fun i y hy => by rw [List.length_eq_zero_iff.1 h0] at hy; cases hy⟩
  · refine ⟨some ⟨g, 0, none⟩, cap, rfl, g, 0, fun _ => rfl, fun i y hy => ?_⟩
    obtain ⟨hi, he⟩ := List.getElem?_eq_some_iff.1 hy
    have := own_cells h i hi
    rw [he] at this
    rw [Nat.zero_add]
    exact this

set_option maxRecDepth 20000 in
set_option maxHeartbeats 1000000 in
theorem l1has_any (A : Option Addr) (l : List Int) (cap : Nat) (n : Int) (hl : l.length ≤ 1048576) (w : World) (hA : LAt iv w A l) :
    Calls Tryd.prog 28 #[.slice A l.length cap, .int .i64 n] w fun e w' => e = .returned (.bool (decide (n ∈ l))) ∧ w' = w := by
  have hl' : (l.length : Int) ≤ 1048576 := by omega
  obtain ⟨b, off, hA1, hc⟩ := hA
  have HN := hide' (fun (h : ∀ x ∈ l.take l.length, x ≠ n) => (show decide (n ∈ l) = false from decide_eq_false (fun hm => h n (by rwa [List.take_length]) rfl)))
  have HY := hide' (fun (k : Nat) (h : l[k]? = some n) => (show decide (n ∈ l) = true from decide_eq_true (List.mem_of_getElem? h)))
  have HC := hide' hc
  have HA := hide' hA1
  have HTS := hide' (fun k (h : k < l.length) => List.take_succ_eq_append_getElem h)
  clear hc hA1
  go_enter Tryd.func28, Tryd.ntmps28
  go_wp2
  go_loop [9] (fun i => ∃ k : Nat, k ≤ l.length ∧ i = .int .i64 k ∧ Hid (∀ x ∈ l.take k, x ≠ n)) (fun i => l.length - (intOf i).toNat)
  case atStart => exact ⟨0, Nat.zero_le _, rfl, fun x hx => by cases hx⟩
  case round =>
    obtain ⟨k, hk, rfl, hlow⟩ := hrel
    by_cases hlt : k < l.length
    · have hA2 := HA.out (fun e => by rw [e] at hlt; simp at hlt)
      subst hA2
      have c0 : _ = some (Value.int .i64 l[k]) := HC.out k l[k] (List.getElem?_eq_getElem hlt)
      have HK := hide' (List.getElem?_eq_getElem hlt)
      have HT := hide' (HTS.out k hlt)
      generalize l[k] = o at c0 HK HT
      by_cases ho : o = n
      · subst ho
        go_wp2
        go_ret
        exact ⟨by rw [HY.out k HK.out]; rfl, rfl⟩
      · go_wp2
        go_round
        case rel =>
          refine ⟨k + 1, by omega, by go_num, fun x hx => ?_⟩
          rw [HT.out, List.mem_append] at hx
          rcases hx with hx | hx
          · exact hlow.out x hx
          · rw [List.mem_singleton] at hx; subst hx; exact ho
        case measure => simp [intOf]; omega
    · have hke : k = l.length := by omega
      subst hke
      go_wp2
      go_ret
      exact ⟨by rw [HN.out hlow.out]; rfl, rfl⟩

/-- a list of pairs that is good -/
def goodE (es : List (List Int)) : Bool := es.all (fun e => decide (e.length = 2) && e.all (fun x => decide (0 ≤ x ∧ x ≤ 99))) && decide (es.length ≤ 100)
def pairL (p : Int × Int) : List Int := [p.1, p.2]
theorem goodE_pairs {es : List (List Int)} (h : goodE es = true) : ∃ E : List (Int × Int), es = E.map pairL ∧ E.length ≤ 100 ∧ ∀ p ∈ E, (0 ≤ p.1 ∧ p.1 < 100) ∧ (0 ≤ p.2 ∧ p.2 < 100) := by
  unfold goodE at h
  rw [Bool.and_eq_true, decide_eq_true_eq] at h
  have key : ∀ (es : List (List Int)), es.all (fun e => decide (e.length = 2) && e.all (fun x => decide (0 ≤ x ∧ x ≤ 99))) = true → ∃ E : List (Int × Int), es = E.map pairL ∧ ∀ p ∈ E, (0 ≤ p.1 ∧ p.1 < 100) ∧ (0 ≤ p.2 ∧ p.2 < 100) := by
    intro es
    induction es with
    | nil => intro _; exact ⟨[], rfl, fun p hp => by cases hp⟩
    | cons e t ih =>
      intro h
      rw [List.all_cons, Bool.and_eq_true, Bool.and_eq_true, decide_eq_true_eq] at h
      obtain ⟨E, h1, h2⟩ := ih h.2
      match e, h.1 with
      | [a, b], h3 =>
        have h4 := h3.2
        simp at h4
        refine ⟨(a, b) :: E, by rw [h1]; rfl, fun p hp => ?_⟩
        rcases List.mem_cons.1 hp with rfl | hp
        · exact ⟨⟨by omega, by omega⟩, by omega, by omega⟩
        · exact h2 p hp
      | [], h3 => exact absurd h3.1 (by simp)
      | [_], h3 => exact absurd h3.1 (by simp)
      | _ :: _ :: _ :: _, h3 => exact absurd h3.1 (by simp)
  obtain ⟨E, h1, h2⟩ := key es h.1
  exact ⟨E, h1, by have := h.2; rw [h1, List.length_map] at this; exact this, h2⟩
end Go.Proofs.YtnmbkiajkpcmnaaDoor
