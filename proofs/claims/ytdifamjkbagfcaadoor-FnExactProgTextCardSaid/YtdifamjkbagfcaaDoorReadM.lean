/- Decimal texts in their one form: read and written. -/
import Derived.Lib.ItoaNum
import Derived.Lib.ItoaLen
import Derived.Lib.AtoiAll
import Derived.Lib.IndexMore
namespace Go.Proofs.YtdifamjkbagfcaaDoor
namespace Rd

def isD (c : UInt8) : Prop := 48 ≤ c.toNat ∧ c.toNat ≤ 57
def v10 (acc : Nat) : List UInt8 → Nat
  | [] => acc
  | c :: r => v10 (acc * 10 + (c.toNat - 48)) r
def canon (l : List UInt8) : Prop := l ≠ [] ∧ (∀ c ∈ l, isD c) ∧ (l.head? = some 48 → l.length = 1)

theorem v10_snoc (l : List UInt8) (c : UInt8) : ∀ acc, v10 acc (l ++ [c]) = v10 acc l * 10 + (c.toNat - 48) := by
  induction l with
  | nil => intro acc; rfl
  | cons a r ih => intro acc; exact ih _

theorem v10_ge (l : List UInt8) : ∀ acc, acc ≤ v10 acc l := by
  induction l with
  | nil => intro acc; exact Nat.le_refl _
  | cons a r ih => intro acc; exact Nat.le_trans (by omega) (ih _)

theorem v10_pos (l : List UInt8) (h : canon l) (h2 : l.head? ≠ some 48) : 1 ≤ v10 0 l := by
  cases l with
  | nil => exact absurd rfl h.1
  | cons a r =>
    have ha := h.2.1 a (by simp)
    have hn : a.toNat ≠ 48 := fun e => h2 (by
      have : a = 48 := UInt8.toNat_inj.1 e
      simp [this])
    have := v10_ge r (0 * 10 + (a.toNat - 48))
    show 1 ≤ v10 (0 * 10 + (a.toNat - 48)) r
    have h3 := ha.1
    omega

theorem ofNat_digit (c : UInt8) (h : isD c) : UInt8.ofNat (48 + (c.toNat - 48)) = c := by
  rw [show 48 + (c.toNat - 48) = c.toNat by have := h.1; omega]
  exact UInt8.ofNat_toNat

theorem dec_v10 (k : Nat) : ∀ l : List UInt8, l.length = k → canon l → Lib.decDigits (v10 0 l) = l := by
  induction k with
  | zero => intro l hl h; exact absurd (List.length_eq_zero_iff.1 hl) h.1
  | succ k ih =>
    intro l hl h
    have hsp := (List.dropLast_concat_getLast h.1).symm
    have hc := h.2.1 _ (List.getLast_mem h.1)
    have hlen : l.dropLast.length = k := by rw [List.length_dropLast]; omega
    generalize hcc : l.getLast h.1 = c at hsp hc
    generalize l.dropLast = l' at hsp hlen
    subst hsp
    have hd : c.toNat - 48 < 10 := by have := hc.2; omega
    rw [v10_snoc]
    cases l' with
    | nil =>
      rw [Lib.decDigits, dif_pos (by show 0 * 10 + _ < 10; omega)]
      show [UInt8.ofNat (48 + (0 * 10 + (c.toNat - 48)))] = [c]
      rw [Nat.zero_mul, Nat.zero_add, ofNat_digit c hc]
    | cons a r =>
      have hh : (a :: r).head? ≠ some 48 := fun e => by
        have h3 := h.2.2 (by simpa using e)
        simp at h3
      have h' : canon (a :: r) := ⟨by simp, fun x hx => h.2.1 x (by simp at hx ⊢; rcases hx with h | h <;> simp [h]), fun e => absurd e hh⟩
      have h1 := v10_pos _ h' hh
      have h2 := ih (a :: r) hlen h'
      rw [Lib.decDigits, dif_neg (by omega), show (v10 0 (a :: r) * 10 + (c.toNat - 48)) / 10 = v10 0 (a :: r) by omega, show (v10 0 (a :: r) * 10 + (c.toNat - 48)) % 10 = c.toNat - 48 by omega, h2, ofNat_digit c hc]

theorem toNat_digit (k : Nat) (h : k < 10) : (UInt8.ofNat (48 + k)).toNat = 48 + k := by
  rw [UInt8.toNat_ofNat']; omega

theorem v10_dec (n : Nat) : v10 0 (Lib.decDigits n) = n ∧ canon (Lib.decDigits n) ∧ ((Lib.decDigits n).head? = some 48 → n = 0) := by
  induction n using Nat.strongRecOn with
  | _ n ih =>
    rw [Lib.decDigits]
    by_cases h : n < 10
    · rw [dif_pos h]
      have ht := toNat_digit n h
      refine ⟨?_, ⟨by simp, fun c hc => ?_, fun _ => rfl⟩, fun e => ?_⟩
      · show 0 * 10 + ((UInt8.ofNat (48 + n)).toNat - 48) = n
        omega
      · rw [List.mem_singleton] at hc
        subst hc
        exact ⟨by omega, by omega⟩
      · have e2 : UInt8.ofNat (48 + n) = 48 := by simpa using e
        have := congrArg UInt8.toNat e2
        rw [ht] at this
        have e48 : (48 : UInt8).toNat = 48 := rfl
        omega
    · rw [dif_neg h]
      obtain ⟨i1, i2, i3⟩ := ih (n / 10) (by omega)
      have ht := toNat_digit (n % 10) (by omega)
      have hne := i2.1
      have hhead : (Lib.decDigits (n / 10) ++ [UInt8.ofNat (48 + n % 10)]).head? = (Lib.decDigits (n / 10)).head? := by
        cases hd : Lib.decDigits (n / 10) with
        | nil => exact absurd hd hne
        | cons a r => rfl
      refine ⟨?_, ⟨by simp, fun c hc => ?_, fun e => ?_⟩, fun e => ?_⟩
      · rw [v10_snoc, i1, ht]; omega
      · rw [List.mem_append, List.mem_singleton] at hc
        rcases hc with hc | hc
        · exact i2.2.1 c hc
        · subst hc; exact ⟨by omega, by omega⟩
      · rw [hhead] at e
        have := i3 e
        omega
      · rw [hhead] at e
        have := i3 e
        omega

theorem dec_len (k : Nat) : ∀ n, n < 10 ^ (k + 1) → (Lib.decDigits n).length ≤ k + 1 := by
  induction k with
  | zero =>
    intro n h
    rw [Lib.decDigits, dif_pos (by simpa using h)]
    simp
  | succ k ih =>
    intro n h
    rw [Lib.decDigits]
    by_cases h1 : n < 10
    · rw [dif_pos h1]; simp
    · rw [dif_neg h1, List.length_append]
      have := ih (n / 10) (by rw [Nat.pow_succ] at h; omega)
      simp; omega

def canonB (l : List UInt8) : Bool := !l.isEmpty && decide (l.length ≤ 16) && !(l.head? == some 48 && decide (1 < l.length)) && l.all fun c => decide (48 ≤ c.toNat ∧ c.toNat ≤ 57)
/-- what spec.l1Digits answers -/
def dgN (l : List UInt8) : Int := if canonB l = true then ((v10 0 l : Nat) : Int) else -1

theorem canonB_iff (l : List UInt8) : canonB l = true ↔ canon l ∧ l.length ≤ 16 := by
  unfold canonB canon
  cases l with
  | nil => simp
  | cons a r =>
    simp only [List.isEmpty_cons, Bool.not_false, Bool.true_and, Bool.and_eq_true, decide_eq_true_eq, List.all_eq_true, Bool.not_eq_true', Bool.and_eq_false_iff, List.head?_cons, ne_eq, reduceCtorEq, not_false_eq_true, true_and, isD]
    constructor
    · rintro ⟨⟨h1, h2⟩, h3⟩
      refine ⟨⟨h3, fun e => ?_⟩, h1⟩
      rcases h2 with h2 | h2
      · rw [e] at h2; simp at h2
      · simp at h2 ⊢; exact h2
    · rintro ⟨⟨h3, h2⟩, h1⟩
      refine ⟨⟨h1, ?_⟩, h3⟩
      by_cases e : a = 48
      · right
        have := h2 (by rw [e])
        simp at this ⊢; exact this
      · left
        simpa using e

theorem v10_lt (l : List UInt8) (hd : ∀ c ∈ l, isD c) : ∀ acc, v10 acc l < (acc + 1) * 10 ^ l.length := by
  induction l with
  | nil => intro acc; show acc < (acc + 1) * 1; omega
  | cons a r ih =>
    intro acc
    have ha := hd a (by simp)
    have h1 := ih (fun c hc => hd c (by simp [hc])) (acc * 10 + (a.toNat - 48))
    refine Nat.lt_of_lt_of_le h1 ?_
    show _ ≤ (acc + 1) * 10 ^ (r.length + 1)
    rw [Nat.pow_succ, Nat.mul_comm (10 ^ r.length) 10, ← Nat.mul_assoc]
    exact Nat.mul_le_mul_right _ (by have := ha.2; omega)

theorem dgN_le (l : List UInt8) : -1 ≤ dgN l ∧ dgN l < 10000000000000000 := by
  unfold dgN
  by_cases h : canonB l = true
  · rw [if_pos h]
    obtain ⟨h1, h2⟩ := (canonB_iff l).1 h
    have h3 := v10_lt l h1.2.1 0
    have h4 : 10 ^ l.length ≤ 10 ^ 16 := Nat.pow_le_pow_right (by omega) h2
    rw [show (10 : Nat) ^ 16 = 10000000000000000 by simp] at h4
    omega
  · rw [if_neg h]; omega

theorem dgN_dec (n : Nat) (h : n < 10000000000000000) : dgN (Lib.decDigits n) = n := by
  obtain ⟨h1, h2, _⟩ := v10_dec n
  have h3 := dec_len 15 n (by simpa using h)
  unfold dgN
  rw [if_pos ((canonB_iff _).2 ⟨h2, h3⟩), h1]

theorem dec_dgN (l : List UInt8) (h : 0 ≤ dgN l) : Lib.decDigits (dgN l).toNat = l := by
  unfold dgN at h ⊢
  by_cases hc : canonB l = true
  · rw [if_pos hc, Int.toNat_natCast]
    exact dec_v10 _ l rfl ((canonB_iff l).1 hc).1
  · rw [if_neg hc] at h; omega

/-- what spec.l1Signed answers -/
def sgV (l : List UInt8) : Int := if l.head? = some 45 then -(dgN l.tail) else dgN l
def sgB (l : List UInt8) : Bool := if l.head? = some 45 then decide (0 < dgN l.tail) else decide (0 ≤ dgN l)

theorem sg_itoa (l : List UInt8) (h : sgB l = true) : l = Lib.itoa (sgV l) ∧ (sgV l).natAbs < 10000000000000000 := by
  unfold sgB at h
  unfold sgV
  by_cases hs : l.head? = some 45
  · rw [if_pos hs] at h ⊢
    have h1 : 0 < dgN l.tail := by simpa using h
    have h2 := dgN_le l.tail
    refine ⟨?_, by omega⟩
    unfold Lib.itoa
    rw [if_pos (by omega), show (-(dgN l.tail)).natAbs = (dgN l.tail).toNat by omega, dec_dgN _ (by omega)]
    cases l with
    | nil => simp at hs
    | cons a r => simp at hs; rw [hs]; rfl
  · rw [if_neg hs] at h ⊢
    have h1 : 0 ≤ dgN l := by simpa using h
    have h2 := dgN_le l
    refine ⟨?_, by omega⟩
    unfold Lib.itoa
    rw [if_neg (by omega), dec_dgN _ h1]

theorem dec_head (n : Nat) : (Lib.decDigits n).head? ≠ some 45 := by
  obtain ⟨_, h2, _⟩ := v10_dec n
  cases hd : Lib.decDigits n with
  | nil => simp
  | cons a r =>
    intro e
    have : a = 45 := by simpa using e
    have h3 := h2.2.1 a (by rw [hd]; simp)
    rw [this] at h3
    exact absurd h3.1 (by decide)

theorem itoa_sg (n : Int) (h : n.natAbs < 10000000000000000) : sgB (Lib.itoa n) = true ∧ sgV (Lib.itoa n) = n := by
  unfold sgB sgV Lib.itoa
  by_cases hn : n < 0
  · have hh : (45 :: Lib.decDigits n.natAbs).head? = some (45 : UInt8) := rfl
    rw [if_pos hn, if_pos hh, if_pos hh]
    have h1 : dgN (45 :: Lib.decDigits n.natAbs).tail = n.natAbs := dgN_dec _ h
    exact ⟨decide_eq_true (by omega), by omega⟩
  · rw [if_neg hn, if_neg (dec_head _), if_neg (dec_head _)]
    have h1 := dgN_dec n.toNat (by omega)
    exact ⟨decide_eq_true (by omega), by omega⟩

theorem parse_digits (l : List UInt8) (hd : ∀ c ∈ l, isD c) : ∀ acc, v10 acc l < 1000000000000000000 → Lib.parseUint10 acc l = .ok (v10 acc l) := by
  induction l with
  | nil => intro acc _; rfl
  | cons a r ih =>
    intro acc h
    have ha := hd a (by simp)
    have h1 := v10_ge r (acc * 10 + (a.toNat - 48))
    have h2 : v10 acc (a :: r) = v10 (acc * 10 + (a.toNat - 48)) r := rfl
    unfold Lib.parseUint10
    rw [if_pos ⟨ha.1, ha.2⟩, if_neg (by omega), if_neg (by omega)]
    exact ih (fun c hc => hd c (by simp [hc])) _ (by omega)

theorem atoi_itoa (n : Int) (h : n.natAbs < 10000000000000000) : Lib.atoiAll (Lib.itoa n) = .ok n := by
  have key : ∀ m : Nat, m < 10000000000000000 → Lib.parseMag (Lib.decDigits m) = .ok m := by
    intro m hm
    obtain ⟨h1, h2, _⟩ := v10_dec m
    unfold Lib.parseMag
    rw [if_neg h2.1]
    have := parse_digits _ h2.2.1 0 (by rw [h1]; omega)
    rw [this, h1]
  unfold Lib.itoa
  by_cases hn : n < 0
  · rw [if_pos hn]
    have e45 : (45 : UInt8).toNat = 45 := rfl
    simp only [Lib.atoiAll, e45]
    rw [if_pos (.inr trivial), key _ h]
    simp only [not_true_eq_false, false_and, if_false, true_and, if_true]
    rw [if_neg (by omega)]
    congr 1; omega
  · rw [if_neg hn]
    obtain ⟨h1, h2, _⟩ := v10_dec n.toNat
    have hk := key n.toNat (by omega)
    cases hd : Lib.decDigits n.toNat with
    | nil => exact absurd hd h2.1
    | cons a r =>
      have ha := h2.2.1 a (by rw [hd]; simp)
      unfold isD at ha
      rw [hd] at hk
      simp only [Lib.atoiAll]
      rw [if_neg (by omega), hk]
      have hne : ¬ a.toNat = 45 := by omega
      simp only [hne, not_false_eq_true, true_and, false_and, if_false]
      rw [if_neg (by omega)]
      congr 1; omega

theorem index_none (l : List UInt8) (h : (112 : UInt8) ∉ l) : Lib.index l [112] = -1 := by
  induction l with
  | nil => rfl
  | cons a r ih =>
    have ha : (112 : UInt8) ≠ a := fun e => h (by simp [e])
    have hr := ih (fun hm => h (by simp [hm]))
    unfold Lib.index
    rw [if_neg (by simp [List.isPrefixOf, ha]), hr]
    rfl

theorem index_at (A B : List UInt8) (h : (112 : UInt8) ∉ A) : Lib.index (A ++ 112 :: B) [112] = A.length := by
  induction A with
  | nil =>
    show Lib.index (112 :: B) [112] = 0
    unfold Lib.index
    rw [if_pos (by simp [List.isPrefixOf])]
  | cons a r ih =>
    have ha : (112 : UInt8) ≠ a := fun e => h (by simp [e])
    have hr := ih (fun hm => h (by simp [hm]))
    show Lib.index (a :: (r ++ 112 :: B)) [112] = _
    unfold Lib.index
    rw [if_neg (by simp [List.isPrefixOf, ha]), hr]
    have : ((r.length : Int) == -1) = false := by simp
    rw [this]
    simp

theorem cut_none (l : List UInt8) (h : (112 : UInt8) ∉ l) : Lib.cut l [112] = (l, [], false) := by
  unfold Lib.cut; rw [index_none l h]; simp
theorem cut_at (A B : List UInt8) (h : (112 : UInt8) ∉ A) : Lib.cut (A ++ 112 :: B) [112] = (A, B, true) := by
  unfold Lib.cut; rw [index_at A B h]
  rw [if_pos (by omega), Int.toNat_natCast]
  simp

theorem dec_nop (n : Nat) : (112 : UInt8) ∉ Lib.decDigits n := by
  intro h
  have := (v10_dec n).2.1.2.1 _ h
  exact absurd this.2 (by decide)
theorem itoa_nop (n : Int) : (112 : UInt8) ∉ Lib.itoa n := by
  unfold Lib.itoa
  split
  · intro h
    rw [List.mem_cons] at h
    rcases h with h | h
    · exact absurd h (by decide)
    · exact dec_nop _ h
  · exact dec_nop _

/-- Where the first 'p' stands is one place alone. -/
theorem split_unique (A B C D : List UInt8) (hA : (112 : UInt8) ∉ A) (hC : (112 : UInt8) ∉ C) (h : A ++ 112 :: B = C ++ 112 :: D) : A = C ∧ B = D := by
  have h1 := cut_at A B hA
  rw [h, cut_at C D hC] at h1
  simp at h1
  exact ⟨h1.1.symm, h1.2.symm⟩
end Rd
end Go.Proofs.YtdifamjkbagfcaaDoor
