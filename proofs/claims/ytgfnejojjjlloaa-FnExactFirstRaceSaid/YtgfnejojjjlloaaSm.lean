/- Lists held against each other: contracts of both sides. Clocks held against each other: both sides. -/
import Derived.Test.YtgfnejojjjlloaaStF
import Derived.Test.YtgfnejojjjlloaaKind
import Derived.BigQuiet
namespace Go.Proofs.Ytgfnejojjjlloaa
open Go.RowKit
open Rd Fl

def sameL {α : Type} (p : α → α → Bool) : List α → List α → Bool
  | [], [] => true
  | x :: l, y :: m => p x y && sameL p l m
  | _, _ => false
theorem sameL_iff {α : Type} (p : α → α → Bool) : ∀ l m : List α, sameL p l m = true ↔ l.length = m.length ∧ ∀ (i : Nat) x y, l[i]? = some x → m[i]? = some y → p x y = true := by
  intro l
  induction l with
  | nil =>
    intro m
    cases m with
    | nil => simp [sameL]
    | cons y m => simp [sameL]
  | cons x l ih =>
    intro m
    cases m with
    | nil => simp [sameL]
    | cons y m =>
      rw [sameL, Bool.and_eq_true, ih m]
      constructor
      · rintro ⟨h1, h2, h3⟩
        refine ⟨by simp [h2], fun i a b ha hb => ?_⟩
        cases i with
        | zero => simp at ha hb; subst ha hb; exact h1
        | succ i => exact h3 i a b (by simpa using ha) (by simpa using hb)
      · rintro ⟨h1, h2⟩
        exact ⟨h2 0 x y rfl rfl, by simpa using h1, fun i a b ha hb => h2 (i + 1) a b (by simpa using ha) (by simpa using hb)⟩
theorem sameL_len {α : Type} {p : α → α → Bool} {l m : List α} (h : l.length ≠ m.length) : sameL p l m = false := by
  rw [Bool.eq_false_iff]; intro h2; exact h ((sameL_iff p l m).1 h2).1
theorem sameL_no {α : Type} {p : α → α → Bool} {l m : List α} {k : Nat} {x y : α} (hx : l[k]? = some x) (hy : m[k]? = some y) (h : p x y = false) : sameL p l m = false := by
  rw [Bool.eq_false_iff]; intro h2; have := ((sameL_iff p l m).1 h2).2 k x y hx hy; rw [h] at this; cases this
/-- The first k are the same. -/
def SameTo {α : Type} (p : α → α → Bool) (l m : List α) (k : Nat) : Prop := ∀ (i : Nat) x y, i < k → l[i]? = some x → m[i]? = some y → p x y = true
theorem SameTo.zero {α : Type} (p : α → α → Bool) (l m : List α) : SameTo p l m 0 := fun i _ _ h => by omega
theorem SameTo.step {α : Type} {p : α → α → Bool} {l m : List α} {k : Nat} {x y : α} (h : SameTo p l m k) (hx : l[k]? = some x) (hy : m[k]? = some y) (hp : p x y = true) : SameTo p l m (k + 1) := by
  intro i a b hi ha hb
  by_cases e : i = k
  · subst e
    rw [hx] at ha
    rw [hy] at hb
    cases ha
    cases hb
    exact hp
  · exact h i a b (by omega) ha hb
theorem SameTo.all {α : Type} {p : α → α → Bool} {l m : List α} (h : SameTo p l m l.length) (hl : l.length = m.length) : sameL p l m = true :=
  (sameL_iff p l m).2 ⟨hl, fun i x y hx hy => h i x y (List.getElem?_eq_some_iff.1 hx).1 hx hy⟩
def sB (x y : Bool × Nat) : Bool := sameB x.1 x.2 y.1 y.2
def iB (x y : Int) : Bool := decide (x = y)

set_option maxRecDepth 20000 in
set_option maxHeartbeats 1000000 in
theorem equal_l (A B : Option Addr) (l m : List (Int)) (ca cb : Nat) (hl : l.length ≤ 1048576) (hm : m.length ≤ 1048576) (w : World) (hA : LAt iv w A l) (hB : LAt iv w B m) :
    Calls Try.prog 64 #[.slice A l.length ca, .slice B m.length cb] w fun e w' => e = .returned (.bool (sameL iB l m)) ∧ Below w.heap.size w w' := by
  have hl' : (l.length : Int) ≤ 1048576 := by omega
  by_cases hlen : l.length = m.length
  · rw [← hlen]
    obtain ⟨b, off, hA1, hc⟩ := hA
    obtain ⟨b', off', hB1, hc'⟩ := hB
    by_cases he : l = []
    · have hme : m = [] := by rw [he] at hlen; exact List.eq_nil_of_length_eq_zero hlen.symm
      have hz := (SameTo.zero iB l m)
      subst he hme
      have hz2 := hz.all rfl
      rw [hz2]
      clear hc hA1 hc' hB1 hz hz2
      go_enter Try.func64, Try.ntmps64
      go_wp2
      go_loop [13] (fun i => i = .int .i64 0) (fun _ => 0)
      case atStart => rfl
      case round =>
        subst hrel
        go_wp2
        go_ret
        exact ⟨rfl, Below.refl _ _⟩
    · have hA2 := hA1 he
      have hB2 := hB1 (by intro h; rw [h] at hlen; exact he (List.eq_nil_of_length_eq_zero hlen))
      subst hA2 hB2
      have HC := hide' (fun i (hi : i < l.length) => hc i l[i] (List.getElem?_eq_getElem hi))
      have HD := hide' (fun i (hi : i < m.length) => hc' i m[i] (List.getElem?_eq_getElem hi))
      clear hc hA1 he hc' hB1
      have HLN := hide' hlen
      clear hlen
      go_enter Try.func64, Try.ntmps64
      go_wp2
      go_loopw [13] (fun i wr => ∃ k : Nat, k ≤ l.length ∧ i = .int .i64 k ∧ Hid (SameTo iB l m k) ∧ Hid (Below w.heap.size w wr)) (fun i _ => l.length - (intOf i).toNat)
      case atStart => exact ⟨0, Nat.zero_le _, rfl, SameTo.zero _ _ _, Below.refl _ _⟩
      case round =>
        obtain ⟨k, hk, rfl, hto, hbw⟩ := hrel
        by_cases hlt : k < l.length
        · have hltm : k < m.length := HLN.out ▸ hlt
          have c0 : _ = some (Value.int .i64 l[k]) := keep_cell hbw.out (HC.out k hlt)
          have d0 : _ = some (Value.int .i64 m[k]) := keep_cell hbw.out (HD.out k hltm)
          have HX := hide' (List.getElem?_eq_getElem hlt)
          have HY := hide' (List.getElem?_eq_getElem hltm)
          generalize l[k] = x at c0 HX
          generalize m[k] = y at d0 HY
          cases hp : iB x y
          · have HN := hide' (sameL_no HX.out HY.out hp)
            have hpp : x ≠ y := by unfold iB at hp; exact of_decide_eq_false hp
            have hp2 : (x == y) = false := by simpa using hpp
            have hp3 : (x != y) = true := by simpa using hpp
            clear hp
            go_wp2_with fail
            go_quiet (fail)
            go_wp2_with fail
            go_ret
            exact ⟨by rw [HN.out]; rfl, below_draws hbw.out _⟩
          · have HN := hide' (hto.out.step HX.out HY.out hp)
            have hpp : x = y := by unfold iB at hp; exact of_decide_eq_true hp
            subst hpp
            clear hp
            go_wp2_with fail
            go_quiet (fail)
            go_wp2_with fail
            go_roundw
            case rel => exact ⟨k + 1, by omega, by go_num, HN.out, below_draws hbw.out _⟩
            case measure => simp [intOf]; omega
        · have hke : k = l.length := by omega
          subst hke
          have HN := hide' (hto.out.all HLN.out)
          go_wp2
          go_ret
          exact ⟨by rw [HN.out]; rfl, hbw.out⟩
  · rw [sameL_len hlen]
    have hln : ¬ ((l.length : Int) = (m.length : Int)) := by omega
    clear hlen hA hB
    go_enter Try.func64, Try.ntmps64
    go_wp2
    go_ret
    exact ⟨rfl, Below.refl _ _⟩

end Go.Proofs.Ytgfnejojjjlloaa
namespace Go.Proofs.Ytgfnejojjjlloaa
open Go.RowKit
open Rd Fl

def lB (x y : Int) : Bool := decide (x ≤ y)
/-- each of l is at most that of m, and they are not the same -/
def lessC (l m : List Int) : Bool := sameL lB l m && !sameL iB l m
/-- what ClockLess tells -/
def lessT (l m : List Int) : Bool × Bool := if l.length = m.length then (lessC l m, true) else (false, false)

set_option maxRecDepth 20000 in
set_option maxHeartbeats 2000000 in
theorem icless_any (A B : Option Addr) (l m : List (Int)) (ca cb : Nat) (hl : l.length ≤ 1048576) (hm : m.length ≤ 1048576) (w : World) (hA : LAt iv w A l) (hB : LAt iv w B m) :
    Calls Try.prog 40 #[.slice A l.length ca, .slice B m.length cb] w fun e w' => e = .returned (.tuple #[.bool (lessT l m).1, .bool (lessT l m).2]) ∧ Below w.heap.size w w' := by
  have hl' : (l.length : Int) ≤ 1048576 := by omega
  unfold lessT
  by_cases hlen : l.length = m.length
  · rw [if_pos hlen]
    have HSM := hide' (fun w hA hB => equal_l A B l m ca cb hl hm w hA hB)
    have HAA := hide' hA
    have HBB := hide' hB
    rw [← hlen] at HSM ⊢
    obtain ⟨b, off, hA1, hc⟩ := hA
    obtain ⟨b', off', hB1, hc'⟩ := hB
    by_cases he : l = []
    · have hme : m = [] := by rw [he] at hlen; exact List.eq_nil_of_length_eq_zero hlen.symm
      subst he hme
      have hz : sameL iB [] [] = true := rfl
      rw [hz] at HSM
      clear hc hA1 hc' hB1 hz
      go_enter Try.func40, Try.ntmps40
      go_wp2
      go_loop [14] (fun i => i = .int .i64 0) (fun _ => 0)
      case atStart => rfl
      case round =>
        subst hrel
        go_wp2_with fail
        refine (HSM.out _ HAA.out HBB.out).mono ?_
        rintro e w1 ⟨rfl, hb1⟩
        go_wp2_with fail
        go_ret2
        exact ⟨by simp [lessC, sameL], hb1⟩
    · have hA2 := hA1 he
      have hB2 := hB1 (by intro h; rw [h] at hlen; exact he (List.eq_nil_of_length_eq_zero hlen))
      subst hA2 hB2
      have HC := hide' (fun i (hi : i < l.length) => hc i l[i] (List.getElem?_eq_getElem hi))
      have HD := hide' (fun i (hi : i < m.length) => hc' i m[i] (List.getElem?_eq_getElem hi))
      clear hc hA1 he hc' hB1
      have HLN := hide' hlen
      clear hlen
      go_enter Try.func40, Try.ntmps40
      go_wp2
      go_loopw [14] (fun i wr => ∃ k : Nat, k ≤ l.length ∧ i = .int .i64 k ∧ Hid (SameTo lB l m k) ∧ Hid (Below w.heap.size w wr)) (fun i _ => l.length - (intOf i).toNat)
      case atStart => exact ⟨0, Nat.zero_le _, rfl, SameTo.zero _ _ _, Below.refl _ _⟩
      case round =>
        obtain ⟨k, hk, rfl, hto, hbw⟩ := hrel
        by_cases hlt : k < l.length
        · have hltm : k < m.length := HLN.out ▸ hlt
          have c0 : _ = some (Value.int .i64 l[k]) := keep_cell hbw.out (HC.out k hlt)
          have d0 : _ = some (Value.int .i64 m[k]) := keep_cell hbw.out (HD.out k hltm)
          have HX := hide' (List.getElem?_eq_getElem hlt)
          have HY := hide' (List.getElem?_eq_getElem hltm)
          generalize l[k] = x at c0 HX
          generalize m[k] = y at d0 HY
          cases hp : lB x y
          · have HN := hide' (sameL_no HX.out HY.out hp)
            have hp2 : decide (y < x) = true := by unfold lB at hp; have := of_decide_eq_false hp; exact decide_eq_true (by omega)
            clear hp
            go_wp2_with fail
            go_quiet (fail)
            go_wp2_with fail
            go_ret2
            exact ⟨by unfold lessC; rw [HN.out]; rfl, below_draws hbw.out _⟩
          · have HN := hide' (hto.out.step HX.out HY.out hp)
            have hp2 : decide (y < x) = false := by unfold lB at hp; have := of_decide_eq_true hp; exact decide_eq_false (by omega)
            clear hp
            go_wp2_with fail
            go_quiet (fail)
            go_wp2_with fail
            go_roundw
            case rel => exact ⟨k + 1, by omega, by go_num, HN.out, below_draws hbw.out _⟩
            case measure => simp [intOf]; omega
        · have hke : k = l.length := by omega
          subst hke
          have HN := hide' (hto.out.all HLN.out)
          go_wp2_with fail
          refine (HSM.out _ (HAA.out.keep hbw.out) (HBB.out.keep hbw.out)).mono ?_
          rintro e w1 ⟨rfl, hb1⟩
          go_wp2_with fail
          go_ret2
          exact ⟨by unfold lessC; rw [HN.out]; rfl, hbw.out.trans (hb1.mono hbw.out.size)⟩
  · rw [if_neg hlen]
    have hln : ((l.length : Int) != (m.length : Int)) = true := by rw [bne_iff_ne]; omega
    clear hlen hA hB
    go_enter Try.func40, Try.ntmps40
    go_wp2
    go_ret2
    exact ⟨rfl, Below.refl _ _⟩

end Go.Proofs.Ytgfnejojjjlloaa
