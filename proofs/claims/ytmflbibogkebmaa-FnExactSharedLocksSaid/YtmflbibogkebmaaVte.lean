/- spec.SharedLocks: what its loops reckon. -/
import Derived.Test.YtmflbibogkebmaaVtb
import Derived.Test.YtmflbibogkebmaaVtd
import Derived.Test.YtmflbibogkebmaaVs
import Derived.Test.YtmflbibogkebmaaPv
namespace Go.Proofs.Ytmflbibogkebmaa
open Go.RowKit Go.Maps
open Rd Fl

/-- what the specification has gathered of a cell behind k places -/
def gath (t : List EvD) (k : Nat) (x : Int) : List Int := (shTo t k x).getD []
/-- its flag: nothing yet -/
def firstB (t : List EvD) (k : Nat) (x : Int) : Bool := (shTo t k x).isNone
theorem gath_no {t : List EvD} {k : Nat} {x : Int} (h : ¬ (tchB (evA t k) = true ∧ (evA t k).ob = x)) : gath t (k + 1) x = gath t k x ∧ firstB t (k + 1) x = firstB t k x := by
  unfold gath firstB
  rw [shTo_no h]
  exact ⟨rfl, rfl⟩
theorem gath_new {t : List EvD} {k : Nat} {x : Int} (h : tchB (evA t k) = true ∧ (evA t k).ob = x) (hn : firstB t k x = true) : gath t (k + 1) x = bothL (heldN t k) (heldN t k) ∧ firstB t (k + 1) x = false := by
  have hs : shTo t k x = none := by
    unfold firstB at hn
    cases h : shTo t k x with
    | none => rfl
    | some l => rw [h] at hn; cases hn
  unfold gath firstB
  rw [shTo_new h hs, bothL_self]
  exact ⟨rfl, rfl⟩
theorem gath_old {t : List EvD} {k : Nat} {x : Int} (h : tchB (evA t k) = true ∧ (evA t k).ob = x) (hn : firstB t k x = false) : gath t (k + 1) x = bothL (gath t k x) (heldN t k) ∧ firstB t (k + 1) x = false := by
  unfold firstB at hn
  cases hs : shTo t k x with
  | none => rw [hs] at hn; cases hn
  | some l =>
    unfold gath firstB
    rw [shTo_old h hs, hs]
    exact ⟨by simp only [Option.getD_some]; exact bothL_swap (heldN_rises t k) (shTo_rises t k x l hs), rfl⟩
theorem gath_len {t : List EvD} (k : Nat) (x : Int) : (gath t k x).length ≤ k := by
  unfold gath
  cases hs : shTo t k x with
  | none => simp
  | some l => exact shTo_len k x l hs
theorem bothL_no {l m : List Int} {k : Nat} (hk : k < l.length) (h : decide (l[k] ∈ m) = false) : bothL (l.take (k + 1)) m = bothL (l.take k) m := by
  unfold bothL
  rw [List.take_succ_eq_append_getElem hk, List.filter_append]
  simp at h
  simp [h]
theorem bothL_yes {l m : List Int} {k : Nat} (hk : k < l.length) (h : decide (l[k] ∈ m) = true) : bothL (l.take (k + 1)) m = bothL (l.take k) m ++ [l[k]] := by
  unfold bothL
  rw [List.take_succ_eq_append_getElem hk, List.filter_append]
  simp at h
  simp [h]

set_option maxRecDepth 20000 in
set_option maxHeartbeats 1000000 in
theorem l1has_any (A : Option Addr) (l : List Int) (cap : Nat) (n : Int) (hl : l.length ≤ 1048576) (w : World) (hA : LAt iv w A l) :
    Calls Try.prog 43 #[.slice A l.length cap, .int .i64 n] w fun e w' => e = .returned (.bool (decide (n ∈ l))) ∧ w' = w := by
  have hl' : (l.length : Int) ≤ 1048576 := by omega
  obtain ⟨b, off, hA1, hc⟩ := hA
  have HN := hide' (fun (h : ∀ x ∈ l.take l.length, x ≠ n) => (show decide (n ∈ l) = false from decide_eq_false (fun hm => h n (by rwa [List.take_length]) rfl)))
  have HY := hide' (fun (k : Nat) (h : l[k]? = some n) => (show decide (n ∈ l) = true from decide_eq_true (List.mem_of_getElem? h)))
  have HC := hide' hc
  have HA := hide' hA1
  have HTS := hide' (fun k (h : k < l.length) => List.take_succ_eq_append_getElem h)
  clear hc hA1
  go_enter Try.func43, Try.ntmps43
  go_wp2
  go_loop [9] (fun i => ∃ k : Nat, k ≤ l.length ∧ i = .int .i64 k ∧ Hid (∀ x ∈ l.take k, x ≠ n)) (fun i => l.length - (intOf i).toNat)
  case atStart => exact ⟨0, Nat.zero_le _, rfl, fun x hx => by cases hx⟩
  case round =>
    obtain ⟨k, hk, rfl, hlow⟩ := hrel
    by_cases hlt : k < l.length
    · have hA2 := HA.out (fun e => by rw [e] at hlt; simp at hlt)
      subst hA2
      have c0 : _ = some (Value.int .i64 l[k]) := HC.out k l[k] (List.getElem?_eq_getElem hlt)
      have HK := hide' (List.getElem?_eq_getElem hlt)
      have HT := hide' (HTS.out k hlt)
      generalize l[k] = o at c0 HK HT
      by_cases ho : o = n
      · subst ho
        go_wp2
        go_ret
        exact ⟨by rw [HY.out k HK.out]; rfl, rfl⟩
      · go_wp2
        go_round
        case rel =>
          refine ⟨k + 1, by omega, by go_num, fun x hx => ?_⟩
          rw [HT.out, List.mem_append] at hx
          rcases hx with hx | hx
          · exact hlow.out x hx
          · rw [List.mem_singleton] at hx; subst hx; exact ho
        case measure => simp [intOf]; omega
    · have hke : k = l.length := by omega
      subst hke
      go_wp2
      go_ret
      exact ⟨by rw [HN.out hlow.out]; rfl, rfl⟩

end Go.Proofs.Ytmflbibogkebmaa
