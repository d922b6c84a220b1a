import Derived.Laws.FloatBits
import Derived.Laws.FloatArith
namespace Go.Proofs.Ytmflbibogkebmaa
namespace Fl
open Ieee

/-- 1074: the units of one, as a power of two -/
def E : Nat := 1074
theorem E_eq : E = 1074 := rfl

/-- what a rung stands for, in units of the least subnormal number -/
def val (r : Nat) : Nat := if r < 4503599627370496 then r else (4503599627370496 + r % 4503599627370496) * 2 ^ (r / 4503599627370496 - 1)
/-- the word of a sign and a rung -/
def wd (s : Bool) (r : Nat) : Nat := if s then 9223372036854775808 + r else r
/-- a rung with its sign -/
def sr (s : Bool) (r : Nat) : Int := if s then -(r : Int) else r

theorem word_eq (s : Bool) (r : Nat) : double.word s r = wd s r := by
  cases s <;> simp [Format.word, wd, Format.signWeight, double]

theorem exists_wd (b : Nat) (h : b < 18446744073709551616) : ∃ s r, r < 9223372036854775808 ∧ b = wd s r := by
  by_cases hb : b < 9223372036854775808
  · exact ⟨false, b, hb, rfl⟩
  · exact ⟨true, b - 9223372036854775808, by omega, by simp [wd]; omega⟩

theorem wd_lt (s : Bool) (r : Nat) (h : r < 9223372036854775808) : wd s r < 18446744073709551616 := by
  unfold wd; split <;> omega

theorem read_wd (s : Bool) (r : Nat) (h : r < 9223372036854775808) : double.read (wd s r) =
    if r < 4503599627370496 then .number s r (-1074)
    else if r < 9218868437227405312 then .number s (4503599627370496 + r % 4503599627370496) (-1074 + ((r / 4503599627370496 - 1 : Nat) : Int))
    else if r = 9218868437227405312 then .infinity s else .nan s (r - 9218868437227405312) := by
  have e1 : wd s r / 9223372036854775808 % 2 = s.toNat := by cases s <;> simp [wd] <;> omega
  have e2 : wd s r % 9223372036854775808 = r := by cases s <;> simp [wd] <;> omega
  have e3 : (s.toNat == 1) = s := by cases s <;> rfl
  have hb : double.binade = 4503599627370496 := rfl
  have hs : double.signWeight = 9223372036854775808 := rfl
  have hi : double.infRung = 9218868437227405312 := rfl
  have hl : double.leastPlace = -1074 := rfl
  simp only [Format.read, hb, hs, hi, hl, e1, e2, e3]

theorem val_pos (r : Nat) (h : 0 < r) : 0 < val r := by
  unfold val; split
  · exact h
  · exact Nat.mul_pos (by omega) (Nat.two_pow_pos _)

theorem val_zero : val 0 = 0 := by simp [val]

theorem val_succ (r : Nat) : val r < val (r + 1) := by
  unfold val
  by_cases h : r + 1 < 4503599627370496
  · have : r < 4503599627370496 := by omega
    simp [h, this]
  · by_cases h0 : r < 4503599627370496
    · have e : r + 1 = 4503599627370496 := by omega
      rw [if_pos h0, if_neg h, e]; simp; omega
    · rw [if_neg h0, if_neg h]
      have hp := Nat.two_pow_pos (r / 4503599627370496 - 1)
      by_cases hm : r % 4503599627370496 = 4503599627370495
      · have e1 : (r + 1) % 4503599627370496 = 0 := by omega
        have e2 : (r + 1) / 4503599627370496 - 1 = (r / 4503599627370496 - 1) + 1 := by omega
        rw [e1, e2, hm, Nat.pow_succ]
        omega
      · have e1 : (r + 1) % 4503599627370496 = r % 4503599627370496 + 1 := by omega
        have e2 : (r + 1) / 4503599627370496 = r / 4503599627370496 := by omega
        rw [e1, e2]
        exact Nat.mul_lt_mul_of_pos_right (by omega) hp

theorem val_mono {r q : Nat} (h : r < q) : val r < val q := by
  induction q with
  | zero => omega
  | succ n ih =>
    by_cases e : r = n
    · subst e; exact val_succ r
    · exact Nat.lt_trans (ih (by omega)) (val_succ n)

theorem val_lt_iff {r q : Nat} : val r < val q ↔ r < q := by
  constructor
  · intro h
    by_cases e : r < q
    · exact e
    · by_cases e2 : r = q
      · subst e2; omega
      · have := val_mono (show q < r by omega); omega
  · exact val_mono

theorem val_inj {r q : Nat} (h : val r = val q) : r = q := by
  by_cases e : r < q
  · have := val_mono e; omega
  · by_cases e2 : q < r
    · have := val_mono e2; omega
    · omega

theorem val_le_iff {r q : Nat} : val r ≤ val q ↔ r ≤ q := by
  have := @val_lt_iff q r; omega

/-- the magnitude and the place that a finite rung is read as -/
def mg (r : Nat) : Nat := if r < 4503599627370496 then r else 4503599627370496 + r % 4503599627370496
def up (r : Nat) : Nat := if r < 4503599627370496 then 0 else r / 4503599627370496 - 1

theorem val_eq (r : Nat) : val r = mg r * 2 ^ up r := by
  unfold val mg up; split <;> simp

theorem read_fin (s : Bool) (r : Nat) (h : r < 9218868437227405312) : double.read (wd s r) = .number s (mg r) (-1074 + (up r : Int)) := by
  rw [read_wd s r (by omega)]
  unfold mg up
  split
  · simp
  · rfl
theorem read_inf (s : Bool) : double.read (wd s 9218868437227405312) = .infinity s := by
  rw [read_wd s _ (by omega)]; simp
theorem read_nan (s : Bool) (r : Nat) (h : r < 9223372036854775808) (h2 : 9218868437227405312 < r) : double.read (wd s r) = .nan s (r - 9218868437227405312) := by
  rw [read_wd s _ (by omega), if_neg (by omega), if_neg (by omega), if_neg (by omega)]

theorem mg_lt (r : Nat) : mg r < 9007199254740992 := by unfold mg; split <;> omega
theorem mg_pos (r : Nat) (h : 0 < r) : 0 < mg r := by unfold mg; split <;> omega
theorem mg_of_up (r : Nat) (h : 0 < up r) : 4503599627370496 ≤ mg r := by unfold up at h; unfold mg; split at h <;> split <;> omega
theorem up_lt (r : Nat) (h : r < 9218868437227405312) : up r < 2046 := by unfold up; split <;> omega

theorem up_mg (r : Nat) : up r * 4503599627370496 + mg r = r := by
  unfold up mg
  by_cases h : r < 4503599627370496
  · rw [if_pos h, if_pos h]; omega
  · rw [if_neg h, if_neg h]; omega

/-- the sign on a value -/
def sg (s : Bool) (n : Nat) : Int := if s then -(n : Int) else n

theorem signed_eq (s : Bool) (m k : Nat) : signed s m k = sg s (m * 2 ^ k) := by
  unfold signed sg; cases s <;> simp [Nat.shiftLeft_eq]

theorem sg_lt (s t : Bool) (a b k : Nat) : sg s (a * 2 ^ k) < sg t (b * 2 ^ k) ↔ sg s a < sg t b := by
  have hp := Nat.two_pow_pos k
  have h1 : a * 2 ^ k < b * 2 ^ k ↔ a < b := Nat.mul_lt_mul_right hp
  have h2 : b * 2 ^ k < a * 2 ^ k ↔ b < a := Nat.mul_lt_mul_right hp
  have h3 : a * 2 ^ k = 0 ↔ a = 0 := by simp [Nat.mul_eq_zero]
  have h4 : b * 2 ^ k = 0 ↔ b = 0 := by simp [Nat.mul_eq_zero]
  generalize a * 2 ^ k = A at *
  generalize b * 2 ^ k = B at *
  cases s <;> cases t <;> simp [sg] <;> omega

theorem sg_val_lt (s t : Bool) (r q : Nat) : sg s (val r) < sg t (val q) ↔ sr s r < sr t q := by
  have h1 := @val_lt_iff r q
  have h2 := @val_lt_iff q r
  have h3 := @val_lt_iff 0 q
  have h4 := @val_lt_iff 0 r
  rw [val_zero] at h3 h4
  cases s <;> cases t <;> simp [sg, sr] <;> omega

theorem compare_of_lt {a b c d : Int} (h1 : a < b ↔ c < d) (h2 : b < a ↔ d < c) : compare a b = compare c d := by
  simp only [compare, compareOfLessAndEq]
  by_cases ha : a < b
  · have := h1.1 ha; simp [ha, this]
  · have hc : ¬ c < d := fun h => ha (h1.2 h)
    by_cases hb : a = b
    · have : c = d := by omega
      simp [hb, this]
    · have : ¬ c = d := by omega
      simp [ha, hc, hb, this]

theorem compare_lt {a b : Int} (h : a < b) : compare a b = .lt := by simp [compare, compareOfLessAndEq, h]
theorem compare_gt {a b : Int} (h : b < a) : compare a b = .gt := by
  have h1 : ¬ a < b := by omega
  have h2 : ¬ a = b := by omega
  simp [compare, compareOfLessAndEq, h1, h2]
theorem compare_eq {a b : Int} (h : a = b) : compare a b = .eq := by subst h; simp [compare, compareOfLessAndEq]

theorem order_fin (s t : Bool) (r q : Nat) (hr : r < 9218868437227405312) (hq : q < 9218868437227405312) :
    double.order (wd s r) (wd t q) = some (compare (sr s r) (sr t q)) := by
  unfold Format.order
  rw [read_fin s r hr, read_fin t q hq]
  simp only [Datum.order, signed_eq]
  congr 1
  have key : ∀ (s t : Bool) (r q : Nat), (sg s (mg r * 2 ^ (-1074 + (up r : Int) - min (-1074 + (up r : Int)) (-1074 + (up q : Int))).toNat) <
      sg t (mg q * 2 ^ (-1074 + (up q : Int) - min (-1074 + (up r : Int)) (-1074 + (up q : Int))).toNat) ↔ sr s r < sr t q) := by
    intro s t r q
    rw [← sg_val_lt, val_eq r, val_eq q]
    by_cases h : up r ≤ up q
    · have e1 : (-1074 + (up r : Int) - min (-1074 + (up r : Int)) (-1074 + (up q : Int))).toNat = 0 := by omega
      have e2 : (-1074 + (up q : Int) - min (-1074 + (up r : Int)) (-1074 + (up q : Int))).toNat = up q - up r := by omega
      rw [e1, e2, ← sg_lt s t _ _ (up r), Nat.pow_zero, Nat.mul_one, Nat.mul_assoc, ← Nat.pow_add, show up q - up r + up r = up q by omega]
    · have e1 : (-1074 + (up r : Int) - min (-1074 + (up r : Int)) (-1074 + (up q : Int))).toNat = up r - up q := by omega
      have e2 : (-1074 + (up q : Int) - min (-1074 + (up r : Int)) (-1074 + (up q : Int))).toNat = 0 := by omega
      rw [e1, e2, ← sg_lt s t _ _ (up q), Nat.pow_zero, Nat.mul_one, Nat.mul_assoc, ← Nat.pow_add, show up r - up q + up q = up r by omega]
  refine compare_of_lt (key s t r q) ?_
  have := key t s q r
  rw [Int.min_comm] at this
  exact this

theorem order_wd (s t : Bool) (r q : Nat) (hr : r ≤ 9218868437227405312) (hq : q ≤ 9218868437227405312) :
    double.order (wd s r) (wd t q) = some (compare (sr s r) (sr t q)) := by
  by_cases h1 : r < 9218868437227405312
  · by_cases h2 : q < 9218868437227405312
    · exact order_fin s t r q h1 h2
    · have e : q = 9218868437227405312 := by omega
      subst e
      unfold Format.order
      rw [read_fin s r h1, read_inf]
      simp only [Datum.order]
      congr 1
      cases s <;> cases t <;> first | (rw [compare_lt (by simp [sr]; omega)]; rfl) | (rw [compare_gt (by simp [sr]; omega)]; rfl)
  · have e : r = 9218868437227405312 := by omega
    subst e
    by_cases h2 : q < 9218868437227405312
    · unfold Format.order
      rw [read_fin t q h2, read_inf]
      simp only [Datum.order]
      congr 1
      cases s <;> cases t <;> first | (rw [compare_lt (by simp [sr]; omega)]; rfl) | (rw [compare_gt (by simp [sr]; omega)]; rfl)
    · have e : q = 9218868437227405312 := by omega
      subst e
      unfold Format.order
      rw [read_inf, read_inf]
      simp only [Datum.order]
      cases s <;> cases t <;> simp [sr] <;> decide

theorem order_nan_left (s : Bool) (r y : Nat) (h : r < 9223372036854775808) (h2 : 9218868437227405312 < r) : double.order (wd s r) y = none := by
  unfold Format.order; rw [read_nan s r h h2]; cases double.read y <;> rfl
theorem order_nan_right (s : Bool) (r x : Nat) (h : r < 9223372036854775808) (h2 : 9218868437227405312 < r) : double.order x (wd s r) = none := by
  unfold Format.order; rw [read_nan s r h h2]; cases double.read x <;> rfl

theorem p52 : (2 : Nat) ^ 52 = 4503599627370496 := by simp
theorem p53 : (2 : Nat) ^ 53 = 9007199254740992 := by simp
theorem cut_exact (s : Bool) (q d : Nat) (hq : 0 < q) : Toward.even.cut s (q * 2 ^ d) d = q := by
  unfold Toward.cut
  have hl : d ≤ (q * 2 ^ d).log2 := by
    rw [Nat.le_log2 (by have := Nat.two_pow_pos d; exact Nat.ne_of_gt (Nat.mul_pos hq this))]
    exact Nat.le_mul_of_pos_left _ hq
  have hm : min d ((q * 2 ^ d).log2 + 2) = d := by omega
  have hp := Nat.two_pow_pos d
  simp only [hm, Nat.shiftLeft_eq, Nat.one_mul, Nat.mul_div_cancel _ hp, Nat.mul_mod_left]
  simp

theorem log2_mul_pow (m k : Nat) (h : 0 < m) : (m * 2 ^ k).log2 = m.log2 + k := by
  have hp := Nat.two_pow_pos k
  have h1 := Nat.log2_self_le (n := m) (by omega)
  have h2 : m < 2 ^ (m.log2 + 1) := Nat.lt_log2_self
  refine (Nat.log2_eq_iff (Nat.ne_of_gt (Nat.mul_pos h hp))).2 ⟨?_, ?_⟩
  · rw [Nat.pow_add]; exact Nat.mul_le_mul_right _ h1
  · rw [show m.log2 + k + 1 = (m.log2 + 1) + k by omega, Nat.pow_add]; exact Nat.mul_lt_mul_of_pos_right h2 hp

theorem cut_exact2 (s : Bool) (n q d : Nat) (hq : 0 < q) (h : n = q * 2 ^ d) : Toward.even.cut s n d = q := by subst h; exact cut_exact s q d hq

/-- A number that has a rung is written as it. -/
theorem nearest_exact (s : Bool) (m r a b : Nat) (p : Int) (h0 : 0 < r) (hr : r < 9218868437227405312) (hp : p + 1074 = (a : Int) - (b : Int)) (h : m * 2 ^ a = val r * 2 ^ b) :
    double.nearest s m p = wd s r := by
  have hv := val_pos r h0
  have hm : 0 < m := by
    rcases Nat.eq_zero_or_pos m with e | e
    · subst e; simp at h; have := Nat.two_pow_pos b; have := Nat.mul_pos hv this; omega
    · exact e
  have hL : m.log2 + a = (mg r).log2 + up r + b := by
    have := congrArg Nat.log2 h
    rw [log2_mul_pow _ _ hm, log2_mul_pow _ _ hv, val_eq, log2_mul_pow _ _ (mg_pos r h0)] at this
    exact this
  have hg : (mg r).log2 ≤ 52 := by
    have := (Nat.log2_lt (n := mg r) (k := 53) (by have := mg_pos r h0; omega)).2 (by rw [p53]; exact mg_lt r)
    omega
  have hg2 : 0 < up r → (mg r).log2 = 52 := by
    intro hu
    have := (Nat.le_log2 (n := mg r) (k := 52) (by have := mg_pos r h0; omega)).2 (by rw [p52]; exact mg_of_up r hu)
    omega
  have hlast : max (p + (m.log2 : Int) - 52) (-1074) = -1074 + (up r : Int) := by
    rcases Nat.eq_zero_or_pos (up r) with e | e
    · rw [e] at hL ⊢; omega
    · have := hg2 e; omega
  unfold Format.nearest
  rw [if_neg (by omega)]
  have hb : double.binade = 4503599627370496 := rfl
  have hi : double.infRung = 9218868437227405312 := rfl
  have hl : double.leastPlace = -1074 := rfl
  have hf : ((double.fractionBits : Nat) : Int) = 52 := rfl
  simp only [hb, hi, hl, hf, hlast, word_eq, Nat.shiftLeft_eq]
  have hk : Toward.even.cut s (m * 2 ^ (p - (-1074 + (up r : Int))).toNat) (-1074 + (up r : Int) - p).toNat = mg r := by
    refine cut_exact2 _ _ _ _ (mg_pos r h0) ?_
    rw [val_eq] at h
    by_cases hc : a ≤ b + up r
    · have e1 : (p - (-1074 + (up r : Int))).toNat = 0 := by omega
      have e2 : (-1074 + (up r : Int) - p).toNat = b + up r - a := by omega
      rw [e1, e2, Nat.pow_zero, Nat.mul_one]
      refine Nat.eq_of_mul_eq_mul_right (Nat.two_pow_pos a) ?_
      rw [h, Nat.mul_assoc, ← Nat.pow_add, Nat.mul_assoc, ← Nat.pow_add, show up r + b = b + up r - a + a by omega]
    · have e1 : (p - (-1074 + (up r : Int))).toNat = a - (b + up r) := by omega
      have e2 : (-1074 + (up r : Int) - p).toNat = 0 := by omega
      rw [e1, e2, Nat.pow_zero, Nat.mul_one]
      refine Nat.eq_of_mul_eq_mul_right (Nat.two_pow_pos (b + up r)) ?_
      rw [Nat.mul_assoc, ← Nat.pow_add, show a - (b + up r) + (b + up r) = a by omega, h, Nat.mul_assoc, ← Nat.pow_add, Nat.add_comm (up r) b]
  rw [hk]
  refine congrArg (wd s) ?_
  have e3 : (-1074 + (up r : Int) - -1074).toNat = up r := by omega
  rw [e3]
  rw [up_mg]
  exact Nat.min_eq_left (Nat.le_of_lt hr)

theorem nearest_zero (s : Bool) (p : Int) : double.nearest s 0 p = wd s 0 := by
  simp [Format.nearest, word_eq]

/-- A number that is too great is written as the infinity. -/
theorem nearest_inf (s : Bool) (m : Nat) (p : Int) (hm : 0 < m) (h : 1024 ≤ p + (m.log2 : Int)) : double.nearest s m p = wd s 9218868437227405312 := by
  unfold Format.nearest
  rw [if_neg (by omega)]
  have hb : double.binade = 4503599627370496 := rfl
  have hi : double.infRung = 9218868437227405312 := rfl
  have hl : double.leastPlace = -1074 := rfl
  have hf : ((double.fractionBits : Nat) : Int) = 52 := rfl
  have hlast : max (p + (m.log2 : Int) - 52) (-1074) = p + (m.log2 : Int) - 52 := by omega
  simp only [hb, hi, hl, hf, hlast, word_eq, Nat.shiftLeft_eq]
  refine congrArg (wd s) ?_
  generalize hk : Toward.even.cut s _ _ = k
  have : 4503599627370496 ≤ k := by
    rw [← hk]
    have h2 := Nat.log2_self_le (n := m) (by omega)
    by_cases hc : m.log2 ≤ 52
    · have e1 : (p - (p + (m.log2 : Int) - 52)).toNat = 52 - m.log2 := by omega
      have e2 : (p + (m.log2 : Int) - 52 - p).toNat = 0 := by omega
      rw [e1, e2]
      refine Nat.le_trans ?_ (Nat.le_of_eq (cut_exact2 s _ (m * 2 ^ (52 - m.log2)) 0 (Nat.mul_pos hm (Nat.two_pow_pos _)) (by simp)).symm)
      have := Nat.mul_le_mul_right (2 ^ (52 - m.log2)) h2
      rw [← Nat.pow_add, show m.log2 + (52 - m.log2) = 52 by omega, p52] at this
      exact this
    · have e1 : (p - (p + (m.log2 : Int) - 52)).toNat = 0 := by omega
      have e2 : (p + (m.log2 : Int) - 52 - p).toNat = m.log2 - 52 := by omega
      rw [e1, e2, Nat.pow_zero, Nat.mul_one]
      unfold Toward.cut
      have hmn : min (m.log2 - 52) (m.log2 + 2) = m.log2 - 52 := by omega
      simp only [hmn, Nat.shiftLeft_eq, Nat.one_mul]
      refine Nat.le_trans ?_ (Nat.le_add_right _ _)
      rw [Nat.le_div_iff_mul_le (Nat.two_pow_pos _), ← p52, ← Nat.pow_add, show 52 + (m.log2 - 52) = m.log2 by omega]
      exact h2
  refine Nat.min_eq_right ?_
  generalize hj : (p + (m.log2 : Int) - 52 - -1074).toNat = j
  have h3 : 2046 ≤ j := by omega
  have h4 : 2046 * 4503599627370496 ≤ j * 4503599627370496 := Nat.mul_le_mul_right _ h3
  clear hk hj
  omega

/-- Whatever is not too great is written as a finite number. -/
theorem nearest_fin (s : Bool) (m : Nat) (p : Int) (h : p + (m.log2 : Int) < 1000) : ∃ r, r < 9218868437227405312 ∧ double.nearest s m p = wd s r := by
  unfold Format.nearest
  by_cases h0 : m = 0
  · exact ⟨0, by omega, by rw [if_pos h0, word_eq]⟩
  rw [if_neg h0]
  have hb : double.binade = 4503599627370496 := rfl
  have hi : double.infRung = 9218868437227405312 := rfl
  have hl : double.leastPlace = -1074 := rfl
  have hf : ((double.fractionBits : Nat) : Int) = 52 := rfl
  simp only [hb, hi, hl, hf, word_eq, Nat.shiftLeft_eq]
  refine ⟨_, ?_, rfl⟩
  have hk : Toward.even.cut s (m * 2 ^ (p - max (p + (m.log2 : Int) - 52) (-1074)).toNat) (max (p + (m.log2 : Int) - 52) (-1074) - p).toNat ≤ 9007199254740992 := by
    have hlt : m < 2 ^ (m.log2 + 1) := Nat.lt_log2_self
    generalize hL : max (p + (m.log2 : Int) - 52) (-1074) = last
    by_cases hc : last ≤ p
    · have e2 : (last - p).toNat = 0 := by omega
      rw [e2, cut_exact2 s _ (m * 2 ^ (p - last).toNat) 0 (Nat.mul_pos (by omega) (Nat.two_pow_pos _)) (by simp)]
      have h1 := Nat.mul_le_mul_right (2 ^ (p - last).toNat) (Nat.le_of_lt hlt)
      rw [← Nat.pow_add] at h1
      have h3 : 2 ^ (m.log2 + 1 + (p - last).toNat) ≤ 2 ^ 53 := Nat.pow_le_pow_right (by omega) (by omega)
      rw [p53] at h3
      exact Nat.le_trans h1 h3
    · have e1 : (p - last).toNat = 0 := by omega
      rw [e1, Nat.pow_zero, Nat.mul_one]
      unfold Toward.cut
      simp only [Nat.shiftLeft_eq, Nat.one_mul]
      have h4 : ∀ b : Bool, b.toNat ≤ 1 := by decide
      refine Nat.le_trans (Nat.add_le_add_left (h4 _) _) ?_
      have h5 : m / 2 ^ min (last - p).toNat (m.log2 + 2) < 9007199254740992 := by
        rw [Nat.div_lt_iff_lt_mul (Nat.two_pow_pos _)]
        refine Nat.lt_of_lt_of_le hlt ?_
        rw [← p53, ← Nat.pow_add]
        exact Nat.pow_le_pow_right (by omega) (by omega)
      omega
  generalize Toward.even.cut s _ _ = k at hk ⊢
  have : (max (p + (m.log2 : Int) - 52) (-1074) - -1074).toNat ≤ 2022 := by omega
  generalize (max (p + (m.log2 : Int) - 52) (-1074) - -1074).toNat = j at this ⊢
  have : j * 4503599627370496 ≤ 2022 * 4503599627370496 := Nat.mul_le_mul_right _ this
  omega

/-- the rung above by one binade -/
def dbl (r : Nat) : Nat := if r < 4503599627370496 then 2 * r else r + 4503599627370496

theorem val_dbl (r : Nat) : val (dbl r) = 2 * val r := by
  by_cases h : r < 4503599627370496
  · by_cases h2 : 2 * r < 4503599627370496
    · simp only [dbl, val, if_pos h, if_pos h2]
    · have e1 : 2 * r / 4503599627370496 - 1 = 0 := by omega
      have e2 : 4503599627370496 + 2 * r % 4503599627370496 = 2 * r := by omega
      simp only [dbl, val, if_pos h, if_neg h2]
      rw [e1, e2, Nat.pow_zero, Nat.mul_one]
  · have h2 : ¬ r + 4503599627370496 < 4503599627370496 := by omega
    have e1 : (r + 4503599627370496) / 4503599627370496 - 1 = (r / 4503599627370496 - 1) + 1 := by omega
    have e2 : (r + 4503599627370496) % 4503599627370496 = r % 4503599627370496 := by omega
    simp only [dbl, val, if_neg h, if_neg h2]
    rw [e1, e2, Nat.pow_succ, ← Nat.mul_assoc, Nat.mul_comm _ 2]

theorem dbl_pos (r : Nat) (h : 0 < r) : r < dbl r := by unfold dbl; split <;> omega

theorem write_num (s : Bool) (m : Nat) (p : Int) : double.write (.number s m p) = double.nearest s m p := rfl
theorem write_inf (s : Bool) : double.write (.infinity s) = wd s 9218868437227405312 := by
  show double.word s double.infRung = _
  rw [word_eq]; rfl

theorem mul_fin (s t : Bool) (r q : Nat) (hr : r < 9218868437227405312) (hq : q < 9218868437227405312) :
    double.mul (wd s r) (wd t q) = some (double.nearest (s ^^ t) (mg r * mg q) (-1074 + (up r : Int) + (-1074 + (up q : Int)))) := by
  unfold Format.mul
  rw [read_fin s r hr, read_fin t q hq]; rfl

/-- A product that has a rung. 'hv': the value of 'q' is 2 ^ c units of one. -/
theorem mul_exact (s t : Bool) (r q k a b : Nat) (hr : r < 9218868437227405312) (hq : q < 9218868437227405312) (hk : k < 9218868437227405312) (h0 : 0 < k)
    (h : val r * val q * 2 ^ a = val k * 2 ^ b) (hab : (a : Int) - b = -1074) :
    double.mul (wd s r) (wd t q) = some (wd (s ^^ t) k) := by
  rw [mul_fin s t r q hr hq]
  refine congrArg some (nearest_exact _ _ k (up r + up q + a) b _ h0 hk (by omega) ?_)
  rw [← h, val_eq r, val_eq q, Nat.pow_add, Nat.pow_add]
  simp only [Nat.mul_assoc, Nat.mul_left_comm]

theorem val_two : val 4611686018427387904 = 2 ^ (E + 1) := by
  have e1 : mg 4611686018427387904 = 2 ^ 52 := by rw [p52]; rfl
  have e2 : up 4611686018427387904 = E - 51 := by rw [E_eq]; rfl
  rw [val_eq, e1, e2, ← Nat.pow_add, show 52 + (E - 51) = E + 1 by have := E_eq; omega]

/-- x * 2 -/
theorem mul_two (s : Bool) (r : Nat) (hr : r < 9218868437227405312) : double.mul (wd s r) 4611686018427387904 = some (wd s (min (dbl r) 9218868437227405312)) := by
  have h2 : (4611686018427387904 : Nat) = wd false 4611686018427387904 := rfl
  have hx : (s ^^ false) = s := by simp
  rcases Nat.eq_zero_or_pos r with h0 | h0
  · subst h0
    rw [h2, mul_fin s false 0 _ hr (by omega), hx]
    have : mg 0 = 0 := rfl
    rw [this, Nat.zero_mul, nearest_zero]
    have : min (dbl 0) 9218868437227405312 = 0 := by simp [dbl]
    rw [this]
  · by_cases hd : dbl r < 9218868437227405312
    · rw [Nat.min_eq_left (Nat.le_of_lt hd), h2]
      have := mul_exact s false r 4611686018427387904 (dbl r) 0 E hr (by omega) hd (by have := dbl_pos r h0; omega) (by rw [val_two, val_dbl, Nat.pow_zero, Nat.mul_one, Nat.mul_comm 2, Nat.mul_assoc, ← Nat.pow_succ']) (by have := E_eq; omega)
      rw [this, hx]
    · rw [Nat.min_eq_right (by omega), h2, mul_fin s false r _ hr (by omega), hx]
      refine congrArg some (nearest_inf _ _ _ (Nat.mul_pos (mg_pos r h0) (mg_pos _ (by omega))) ?_)
      have hr2 : ¬ r < 4503599627370496 := by intro h; rw [dbl, if_pos h] at hd; omega
      have hu : 2045 ≤ up r := by
        rw [dbl, if_neg hr2] at hd
        rw [up, if_neg hr2]; omega
      have e1 : mg 4611686018427387904 = 2 ^ 52 := by rw [p52]; rfl
      have e2 : up 4611686018427387904 = 1023 := rfl
      rw [e1, log2_mul_pow _ _ (mg_pos r h0), e2]
      have hg := (Nat.le_log2 (n := mg r) (k := 52) (by have := mg_pos r h0; omega)).2 (by rw [p52]; exact mg_of_up r (by omega))
      omega

theorem mul_two_inf (s : Bool) : double.mul (wd s 9218868437227405312) 4611686018427387904 = some (wd s 9218868437227405312) := by
  have h2 : (4611686018427387904 : Nat) = wd false 4611686018427387904 := rfl
  unfold Format.mul
  rw [read_inf, h2, read_fin false _ (by omega)]
  have e1 : mg 4611686018427387904 = 4503599627370496 := rfl
  simp only [Datum.product, e1]
  rw [if_neg (by omega), Option.map_some, write_inf]
  simp

/-- x / 2 -/
theorem div_two (s : Bool) (r : Nat) (hr : r < 9218868437227405312) : double.div (wd s r) 4611686018427387904 =
    some (double.nearest s (2 * (mg r * 2 ^ (106 - (mg r).log2 - 52))) (-1074 + (up r : Int) + 51 - (106 - (mg r).log2 : Nat) - 1)) := by
  have h2 : (4611686018427387904 : Nat) = wd false 4611686018427387904 := rfl
  unfold Format.div
  rw [read_fin s r hr, h2, read_fin false _ (by omega)]
  have e1 : mg 4611686018427387904 = 2 ^ 52 := by rw [p52]; rfl
  have e2 : up 4611686018427387904 = 1023 := rfl
  have e3 : double.fractionBits = 52 := rfl
  have hg : (mg r).log2 ≤ 52 := by
    rcases Nat.eq_zero_or_pos (mg r) with e | e
    · rw [e]; simp
    · have := (Nat.log2_lt (n := mg r) (k := 53) (by omega)).2 (by rw [p53]; exact mg_lt r)
      omega
  have hmore : 52 + 2 + (2 ^ 52 : Nat).log2 - (mg r).log2 = 106 - (mg r).log2 := by rw [Nat.log2_two_pow]
  simp only [Datum.quotient, e1, e2, e3, hmore, Nat.shiftLeft_eq]
  rw [if_neg (by rw [p52]; omega), Option.map_some, write_num]
  have hs : mg r * 2 ^ (106 - (mg r).log2) = mg r * 2 ^ (106 - (mg r).log2 - 52) * 2 ^ 52 := by
    rw [Nat.mul_assoc, ← Nat.pow_add]; rw [show 106 - (mg r).log2 - 52 + 52 = 106 - (mg r).log2 by omega]
  rw [hs, Nat.mul_div_cancel _ (Nat.two_pow_pos 52), Nat.mul_mod_left]
  have hx : (s ^^ false) = s := by simp
  rw [hx]
  refine congrArg some ?_
  have e4 : (-1074 + (up r : Int) - (-1074 + (1023 : Nat)) - (106 - (mg r).log2 : Nat) - 1) = (-1074 + (up r : Int) + 51 - (106 - (mg r).log2 : Nat) - 1) := by omega
  rw [e4]; rfl

theorem div_two_exact (s : Bool) (r q : Nat) (hr : r < 9218868437227405312) (h0 : 0 < q) (hq : q < 9218868437227405312) (h : val r = 2 * val q) :
    double.div (wd s r) 4611686018427387904 = some (wd s q) := by
  rw [div_two s r hr]
  have hg : (mg r).log2 ≤ 52 := by
    rcases Nat.eq_zero_or_pos (mg r) with e | e
    · rw [e]; simp
    · have := (Nat.log2_lt (n := mg r) (k := 53) (by omega)).2 (by rw [p53]; exact mg_lt r)
      omega
  refine congrArg some (nearest_exact s _ q (up r) (56 - (mg r).log2 - 1 + 1) _ h0 hq (by omega) ?_)
  have : val q * 2 ^ (56 - (mg r).log2 - 1 + 1) = 2 * val q * 2 ^ (56 - (mg r).log2 - 1) := by
    rw [Nat.pow_succ, Nat.mul_comm _ 2, Nat.mul_left_comm, Nat.mul_assoc]
  rw [this, ← h, val_eq r]
  have e : 106 - (mg r).log2 - 52 = (56 - (mg r).log2 - 1) - 1 := by omega
  have e' : 2 * (mg r * 2 ^ (106 - (mg r).log2 - 52)) = mg r * 2 ^ (56 - (mg r).log2 - 1) := by
    rw [e, show 2 ^ (56 - (mg r).log2 - 1) = 2 ^ ((56 - (mg r).log2 - 1) - 1 + 1) by rw [show (56 - (mg r).log2 - 1) - 1 + 1 = 56 - (mg r).log2 - 1 by omega], Nat.pow_succ]
    simp only [Nat.mul_left_comm, Nat.mul_comm]
  rw [e', Nat.mul_assoc, Nat.mul_assoc, Nat.mul_comm (2 ^ up r)]

theorem div_two_fin (s : Bool) (r : Nat) (hr : r < 4616189618054758400) : ∃ q, q < 9218868437227405312 ∧ double.div (wd s r) 4611686018427387904 = some (wd s q) := by
  rw [div_two s r (by omega)]
  have hg : (mg r).log2 ≤ 52 := by
    rcases Nat.eq_zero_or_pos (mg r) with e | e
    · rw [e]; simp
    · have := (Nat.log2_lt (n := mg r) (k := 53) (by omega)).2 (by rw [p53]; exact mg_lt r)
      omega
  obtain ⟨q, hq, he⟩ := nearest_fin s (2 * (mg r * 2 ^ (106 - (mg r).log2 - 52))) (-1074 + (up r : Int) + 51 - (106 - (mg r).log2 : Nat) - 1) (by
    have hu : up r ≤ 1025 := by unfold up; split <;> omega
    rcases Nat.eq_zero_or_pos (mg r) with e | e
    · rw [e]; simp; omega
    · rw [show 2 * (mg r * 2 ^ (106 - (mg r).log2 - 52)) = mg r * 2 ^ (106 - (mg r).log2 - 52 + 1) by rw [Nat.pow_succ]; simp only [Nat.mul_left_comm, Nat.mul_comm], log2_mul_pow _ _ e]
      omega)
  exact ⟨q, hq, by rw [he]⟩

theorem sub_self (s : Bool) (r : Nat) (hr : r < 9218868437227405312) : double.sub (wd s r) (wd s r) = some 0 := by
  unfold Format.sub
  rw [read_fin s r hr]
  simp only [Datum.opposite, Datum.sum, Int.min_self, Int.sub_self, signed_eq]
  have : sg s (mg r * 2 ^ (0 : Int).toNat) + sg (!s) (mg r * 2 ^ (0 : Int).toNat) = 0 := by cases s <;> simp [sg] <;> omega
  rw [this]
  simp only [if_true, Option.map_some, write_num]
  refine congrArg some ?_
  have e : (s && !s) = false := by cases s <;> rfl
  rw [e]
  simp [nearest_zero, wd]

theorem sub_self_inf (s : Bool) : double.sub (wd s 9218868437227405312) (wd s 9218868437227405312) = none := by
  unfold Format.sub
  rw [read_inf]
  cases s <;> rfl

/-- 1 / 0 and 1 / -0 -/
theorem one_div_zero (s : Bool) : double.div 4607182418800017408 (wd s 0) = some (wd s 9218868437227405312) := by
  unfold Format.div
  have h1 : (4607182418800017408 : Nat) = wd false 4607182418800017408 := rfl
  rw [h1, read_fin false _ (by omega), read_fin s 0 (by omega)]
  have e1 : mg 4607182418800017408 = 4503599627370496 := rfl
  have e2 : mg 0 = 0 := rfl
  simp only [Datum.quotient, e1, e2]
  rw [if_pos (by simp), if_neg (by omega), Option.map_some, write_inf]
  simp

theorem cut_zero (s : Bool) (n d : Nat) : Toward.zero.cut s n d = n / 2 ^ d := by
  unfold Toward.cut
  simp only [Nat.shiftLeft_eq, Nat.one_mul, Bool.toNat_false, Nat.add_zero]
  by_cases h : d ≤ n.log2 + 2
  · rw [Nat.min_eq_left h]
  · rw [Nat.min_eq_right (by omega)]
    have hl : n < 2 ^ (n.log2 + 1) := Nat.lt_log2_self
    have h1 : 2 ^ (n.log2 + 1) ≤ 2 ^ (n.log2 + 2) := Nat.pow_le_pow_right (by omega) (by omega)
    have h2 : 2 ^ (n.log2 + 1) ≤ 2 ^ d := Nat.pow_le_pow_right (by omega) (by omega)
    rw [Nat.div_eq_of_lt (by omega), Nat.div_eq_of_lt (by omega)]

theorem floor_eq (r : Nat) : mg r * 2 ^ (-1074 + (up r : Int)).toNat / 2 ^ (-(-1074 + (up r : Int))).toNat = val r / 2 ^ E := by
  rw [val_eq]
  by_cases h : up r ≤ 1074
  · have e1 : (-1074 + (up r : Int)).toNat = 0 := by omega
    have e2 : (-(-1074 + (up r : Int))).toNat = 1074 - up r := by omega
    rw [e1, e2, Nat.pow_zero, Nat.mul_one]
    have : (2 : Nat) ^ E = 2 ^ (1074 - up r) * 2 ^ up r := by rw [← Nat.pow_add, show 1074 - up r + up r = E by have := E_eq; omega]
    rw [this, Nat.mul_div_mul_right _ _ (Nat.two_pow_pos _)]
  · have e1 : (-1074 + (up r : Int)).toNat = up r - 1074 := by omega
    have e2 : (-(-1074 + (up r : Int))).toNat = 0 := by omega
    rw [e1, e2, Nat.pow_zero, Nat.div_one]
    have : (2 : Nat) ^ up r = 2 ^ (up r - 1074) * 2 ^ E := by rw [← Nat.pow_add, show up r - 1074 + E = up r by have := E_eq; omega]
    rw [this, ← Nat.mul_assoc, Nat.mul_div_cancel _ (Nat.two_pow_pos _)]

theorem integral_fin (s : Bool) (r : Nat) (hr : r < 9218868437227405312) : (double.read (wd s r)).integral .zero = .number s (val r / 2 ^ E) 0 := by
  rw [read_fin s r hr]
  simp only [Datum.integral, cut_zero, Nat.shiftLeft_eq]
  rw [floor_eq]

/-- int(x) -/
theorem toInt_fin (s : Bool) (r : Nat) (hr : r < 9218868437227405312) : (double.read (wd s r)).toInt .zero = some (sg s (val r / 2 ^ E)) := by
  unfold Datum.toInt
  rw [integral_fin s r hr]
  simp only [signed_eq]
  simp

/-- the rung of q * 2 ^ k -/
def rg (q k : Nat) : Nat := if q.log2 + k < 52 then q * 2 ^ k else (q.log2 + k - 52) * 4503599627370496 + q * 2 ^ (52 - q.log2)

theorem rg_aux (q : Nat) (h0 : 0 < q) (hq : q < 9007199254740992) : 4503599627370496 ≤ q * 2 ^ (52 - q.log2) ∧ q * 2 ^ (52 - q.log2) < 9007199254740992 := by
  have hl := (Nat.log2_lt (n := q) (k := 53) (by omega)).2 (by rw [p53]; exact hq)
  have h1 := Nat.log2_self_le (n := q) (by omega)
  have h2 : q < 2 ^ (q.log2 + 1) := Nat.lt_log2_self
  constructor
  · have := Nat.mul_le_mul_right (2 ^ (52 - q.log2)) h1
    rw [← Nat.pow_add, show q.log2 + (52 - q.log2) = 52 by omega, p52] at this
    exact this
  · have := Nat.mul_lt_mul_of_pos_right h2 (Nat.two_pow_pos (52 - q.log2))
    rw [← Nat.pow_add, show q.log2 + 1 + (52 - q.log2) = 53 by omega, p53] at this
    exact this

theorem val_rg (q k : Nat) (h0 : 0 < q) (hq : q < 9007199254740992) : val (rg q k) = q * 2 ^ k := by
  have ⟨ha, hb⟩ := rg_aux q h0 hq
  have hl := (Nat.log2_lt (n := q) (k := 53) (by omega)).2 (by rw [p53]; exact hq)
  by_cases h : q.log2 + k < 52
  · have : q * 2 ^ k < 4503599627370496 := by
      have h2 : q < 2 ^ (q.log2 + 1) := Nat.lt_log2_self
      have := Nat.mul_lt_mul_of_pos_right h2 (Nat.two_pow_pos k)
      rw [← Nat.pow_add] at this
      refine Nat.lt_of_lt_of_le this ?_
      rw [← p52]; exact Nat.pow_le_pow_right (by omega) (by omega)
    simp only [rg, if_pos h, val, if_pos this]
  · simp only [rg, if_neg h]
    have e : q * 2 ^ k = q * 2 ^ (52 - q.log2) * 2 ^ (q.log2 + k - 52) := by
      rw [Nat.mul_assoc, ← Nat.pow_add, show 52 - q.log2 + (q.log2 + k - 52) = k by omega]
    rw [e]
    generalize q * 2 ^ (52 - q.log2) = m at ha hb
    generalize q.log2 + k - 52 = j
    have hn : ¬ j * 4503599627370496 + m < 4503599627370496 := by omega
    have e1 : (j * 4503599627370496 + m) / 4503599627370496 - 1 = j := by omega
    have e2 : 4503599627370496 + (j * 4503599627370496 + m) % 4503599627370496 = m := by omega
    simp only [val, if_neg hn]
    rw [e1, e2]

theorem rg_lt (q k : Nat) (h0 : 0 < q) (hq : q < 9007199254740992) (h : q.log2 + k < 2098) : rg q k < 9218868437227405312 := by
  have ⟨ha, hb⟩ := rg_aux q h0 hq
  unfold rg
  split
  · rename_i h
    have h2 : q < 2 ^ (q.log2 + 1) := Nat.lt_log2_self
    have := Nat.mul_lt_mul_of_pos_right h2 (Nat.two_pow_pos k)
    rw [← Nat.pow_add] at this
    have h3 : 2 ^ (q.log2 + 1 + k) ≤ 2 ^ 52 := Nat.pow_le_pow_right (by omega) (by omega)
    rw [p52] at h3
    omega
  · generalize q * 2 ^ (52 - q.log2) = m at ha hb
    have : q.log2 + k - 52 ≤ 2045 := by omega
    generalize q.log2 + k - 52 = j at this
    omega

theorem rg_pos (q k : Nat) (h0 : 0 < q) (hq : q < 9007199254740992) : 0 < rg q k := by
  have h := val_rg q k h0 hq
  rcases Nat.eq_zero_or_pos (rg q k) with e | e
  · rw [e, val_zero] at h
    have := Nat.mul_pos h0 (Nat.two_pow_pos k); omega
  · exact e

/-- trunc -/
theorem trunc_fin (s : Bool) (r : Nat) (hr : r < 9218868437227405312) : ∃ q, q < 9218868437227405312 ∧ val q = val r / 2 ^ E * 2 ^ E ∧ double.write ((double.read (wd s r)).integral .zero) = wd s q := by
  rw [integral_fin s r hr, write_num]
  rcases Nat.eq_zero_or_pos (val r / 2 ^ E) with e | e
  · exact ⟨0, by omega, by rw [e, val_zero, Nat.zero_mul], by rw [e, nearest_zero]⟩
  · by_cases hu : 1074 ≤ up r
    · have hd : val r / 2 ^ E * 2 ^ E = val r := by
        have : (2 : Nat) ^ up r = 2 ^ (up r - 1074) * 2 ^ E := by rw [← Nat.pow_add, show up r - 1074 + E = up r by have := E_eq; omega]
        rw [val_eq, this, ← Nat.mul_assoc, Nat.mul_div_cancel _ (Nat.two_pow_pos _)]
      have h0 : 0 < r := by
        rcases Nat.eq_zero_or_pos r with e' | e'
        · subst e'; rw [val_zero, Nat.zero_div] at e; omega
        · exact e'
      exact ⟨r, hr, hd.symm, nearest_exact s _ r E 0 0 h0 hr (by have := E_eq; omega) (by rw [hd, Nat.pow_zero, Nat.mul_one])⟩
    · have hlt : val r / 2 ^ E < 9007199254740992 := by
        rw [Nat.div_lt_iff_lt_mul (Nat.two_pow_pos _), val_eq]
        have h1 := Nat.mul_lt_mul_of_pos_right (mg_lt r) (Nat.two_pow_pos (up r))
        refine Nat.lt_of_lt_of_le h1 (Nat.mul_le_mul_left _ (Nat.pow_le_pow_right (by omega) (by have := E_eq; omega)))
      have hl := (Nat.log2_lt (n := val r / 2 ^ E) (k := 53) (by omega)).2 (by rw [p53]; exact hlt)
      refine ⟨rg (val r / 2 ^ E) E, rg_lt _ _ e hlt (by have := E_eq; omega), val_rg _ _ e hlt, ?_⟩
      exact nearest_exact s _ _ E 0 0 (rg_pos _ _ e hlt) (rg_lt _ _ e hlt (by have := E_eq; omega)) (by have := E_eq; omega) (by rw [val_rg _ _ e hlt, Nat.pow_zero, Nat.mul_one])

/-- float64(n) -/
theorem ofInt (n : Nat) (s : Bool) (hn : n < 9007199254740992) : ∃ q, q < 9218868437227405312 ∧ val q = n * 2 ^ E ∧ double.nearest s n 0 = wd s q := by
  rcases Nat.eq_zero_or_pos n with e | e
  · subst e; exact ⟨0, by omega, by rw [val_zero, Nat.zero_mul], nearest_zero s 0⟩
  · have hl := (Nat.log2_lt (n := n) (k := 53) (by omega)).2 (by rw [p53]; exact hn)
    exact ⟨rg n E, rg_lt _ _ e hn (by have := E_eq; omega), val_rg _ _ e hn, nearest_exact s _ _ E 0 0 (rg_pos _ _ e hn) (rg_lt _ _ e hn (by have := E_eq; omega)) (by have := E_eq; omega) (by rw [val_rg _ _ e hn, Nat.pow_zero, Nat.mul_one])⟩

/-- What a number is made of: an odd number and a place. -/
def PR (r q : Nat) (x : Int) : Prop := q % 2 = 1 ∧ q < 9007199254740992 ∧ 0 ≤ x + 1074 ∧ x ≤ 1100 ∧ val r = q * 2 ^ (x + 1074).toNat

theorem val_log2_lt (r : Nat) (hr : r < 9218868437227405312) (h0 : 0 < r) : (val r).log2 < 2098 := by
  have hg : (mg r).log2 ≤ 52 := by
    have := (Nat.log2_lt (n := mg r) (k := 53) (by have := mg_pos r h0; omega)).2 (by rw [p53]; exact mg_lt r)
    omega
  rw [val_eq, log2_mul_pow _ _ (mg_pos r h0)]
  have := up_lt r hr
  omega

theorem pr_of (r q a b : Nat) (hr : r < 9218868437227405312) (h0 : 0 < r) (ho : q % 2 = 1) (hq : q < 9007199254740992) (h : val r * 2 ^ b = q * 2 ^ E * 2 ^ a) : PR r q ((a : Int) - b) := by
  have hE := E_eq
  have hl : (val r).log2 + b = q.log2 + E + a := by
    have := congrArg Nat.log2 h
    rw [log2_mul_pow _ _ (val_pos r h0), log2_mul_pow _ _ (Nat.mul_pos (by omega) (Nat.two_pow_pos _)), log2_mul_pow _ _ (by omega)] at this
    exact this
  have hv := val_log2_lt r hr h0
  by_cases hc : b ≤ E + a
  · refine ⟨ho, hq, by omega, by omega, ?_⟩
    refine Nat.eq_of_mul_eq_mul_right (Nat.two_pow_pos b) ?_
    rw [h, Nat.mul_assoc, ← Nat.pow_add, Nat.mul_assoc, ← Nat.pow_add, show ((a : Int) - b + 1074).toNat + b = E + a by omega]
  · exfalso
    have h2 : val r * 2 ^ (b - (E + a)) = q := by
      refine Nat.eq_of_mul_eq_mul_right (Nat.two_pow_pos (E + a)) ?_
      rw [Nat.mul_assoc, ← Nat.pow_add, show b - (E + a) + (E + a) = b by omega, h, Nat.mul_assoc, ← Nat.pow_add]
    rw [show b - (E + a) = (b - (E + a) - 1) + 1 by omega, Nat.pow_succ, ← Nat.mul_assoc] at h2
    omega

theorem odd_pow_unique (q1 q2 k1 k2 : Nat) (h1 : q1 % 2 = 1) (h : q1 * 2 ^ k1 = q2 * 2 ^ k2) (hle : k1 ≤ k2) : k1 = k2 ∧ q1 = q2 := by
  by_cases e : k1 = k2
  · subst e
    exact ⟨rfl, Nat.eq_of_mul_eq_mul_right (Nat.two_pow_pos k1) h⟩
  · exfalso
    have h3 : q1 = q2 * 2 ^ (k2 - k1) := by
      refine Nat.eq_of_mul_eq_mul_right (Nat.two_pow_pos k1) ?_
      rw [h, Nat.mul_assoc, ← Nat.pow_add, show k2 - k1 + k1 = k2 by omega]
    rw [show k2 - k1 = (k2 - k1 - 1) + 1 by omega, Nat.pow_succ, ← Nat.mul_assoc] at h3
    omega

theorem pr_unique {r q1 q2 : Nat} {x1 x2 : Int} (h1 : PR r q1 x1) (h2 : PR r q2 x2) : q1 = q2 ∧ x1 = x2 := by
  obtain ⟨a1, _, c1, _, e1⟩ := h1
  obtain ⟨a2, _, c2, _, e2⟩ := h2
  rw [e1] at e2
  rcases Nat.le_total (x1 + 1074).toNat (x2 + 1074).toNat with h | h
  · have := odd_pow_unique _ _ _ _ a1 e2 h
    exact ⟨this.2, by omega⟩
  · have := odd_pow_unique _ _ _ _ a2 e2.symm h
    exact ⟨this.2.symm, by omega⟩

/-- whether a number is whole -/
def whole (r : Nat) : Bool := val r % 2 ^ E == 0

theorem whole_iff_place {r q : Nat} {x : Int} (h : PR r q x) : whole r = decide (0 ≤ x) := by
  have hE := E_eq
  obtain ⟨a, _, c, _, e⟩ := h
  unfold whole
  rw [e]
  by_cases hx : 0 ≤ x
  · rw [show (x + 1074).toNat = x.toNat + E by omega, Nat.pow_add, ← Nat.mul_assoc, Nat.mul_mod_left]
    simp [hx]
  · have : ¬ (q * 2 ^ (x + 1074).toNat % 2 ^ E = 0) := by
      intro h0
      have hd := Nat.dvd_of_mod_eq_zero h0
      obtain ⟨k, hk⟩ := hd
      have h3 : q = 2 ^ (E - (x + 1074).toNat) * k := by
        refine Nat.eq_of_mul_eq_mul_right (Nat.two_pow_pos (x + 1074).toNat) ?_
        rw [hk, Nat.mul_right_comm, ← Nat.pow_add, show E - (x + 1074).toNat + (x + 1074).toNat = E by omega]
      rw [show E - (x + 1074).toNat = (E - (x + 1074).toNat - 1) + 1 by omega, Nat.pow_succ, Nat.mul_comm _ 2, Nat.mul_assoc] at h3
      omega
    simp [hx, this]

theorem sr_gt_c (s : Bool) (r : Nat) : sr s r > sr false 4841369599423283200 ↔ (s = false ∧ 4841369599423283200 < r) := by
  cases s <;> simp [sr] <;> omega
theorem sr_lt_c (s : Bool) (r : Nat) : sr s r < sr true 4841369599423283200 ↔ (s = true ∧ 4841369599423283200 < r) := by
  cases s <;> simp [sr] <;> omega

theorem val_half (r : Nat) (h : 9007199254740992 ≤ r) : val r = 2 * val (r - 4503599627370496) := by
  have h1 : ¬ r - 4503599627370496 < 4503599627370496 := by omega
  have : dbl (r - 4503599627370496) = r := by rw [dbl, if_neg h1]; omega
  rw [← val_dbl, this]

theorem cmp_gt (s t : Bool) (r q : Nat) (hr : r ≤ 9218868437227405312) (hq : q ≤ 9218868437227405312) :
    (FloatKind.f64.format.order (wd s r) (wd t q) == some Ordering.gt) = decide (sr t q < sr s r) := by
  show (double.order (wd s r) (wd t q) == some Ordering.gt) = _
  rw [order_wd s t r q hr hq]
  by_cases h : sr t q < sr s r
  · rw [compare_gt h]; simp [h]
  · by_cases h2 : sr s r = sr t q
    · rw [compare_eq h2]; simp [h]
    · rw [compare_lt (by omega)]; simp [h]
theorem cmp_lt (s t : Bool) (r q : Nat) (hr : r ≤ 9218868437227405312) (hq : q ≤ 9218868437227405312) :
    (FloatKind.f64.format.order (wd s r) (wd t q) == some Ordering.lt) = decide (sr s r < sr t q) := by
  show (double.order (wd s r) (wd t q) == some Ordering.lt) = _
  rw [order_wd s t r q hr hq]
  by_cases h : sr s r < sr t q
  · rw [compare_lt h]; simp [h]
  · by_cases h2 : sr s r = sr t q
    · rw [compare_eq h2]; simp [h]
    · rw [compare_gt (by omega)]; simp [h]
theorem cmp_eq (s t : Bool) (r q : Nat) (hr : r ≤ 9218868437227405312) (hq : q ≤ 9218868437227405312) :
    (FloatKind.f64.format.order (wd s r) (wd t q) == some Ordering.eq) = decide (sr s r = sr t q) := by
  show (double.order (wd s r) (wd t q) == some Ordering.eq) = _
  rw [order_wd s t r q hr hq]
  by_cases h : sr s r < sr t q
  · rw [compare_lt h]; have : ¬ sr s r = sr t q := by omega
    simp [this]
  · by_cases h2 : sr s r = sr t q
    · rw [compare_eq h2]; simp [h2]
    · rw [compare_gt (by omega)]; simp [h2]
theorem cmp_ne (s t : Bool) (r q : Nat) (hr : r ≤ 9218868437227405312) (hq : q ≤ 9218868437227405312) :
    (FloatKind.f64.format.order (wd s r) (wd t q) != some Ordering.eq) = !decide (sr s r = sr t q) := by
  rw [← cmp_eq s t r q hr hq]; rfl

theorem cmp_nan (s : Bool) (r : Nat) (o : Ordering) (h : r < 9223372036854775808) (h2 : 9218868437227405312 < r) (x : Nat) :
    (FloatKind.f64.format.order (wd s r) x == some o) = false ∧ (FloatKind.f64.format.order x (wd s r) == some o) = false := by
  constructor
  · show (double.order (wd s r) x == some o) = _
    rw [order_nan_left s r x h h2]; rfl
  · show (double.order x (wd s r) == some o) = _
    rw [order_nan_right s r x h h2]; rfl

/-- the rungs on which a number below 2^53 and at least 2^52 lies -/
theorem val_c (f : Nat) (hf : f < 4503599627370496) : val (4841369599423283200 + f) = (4503599627370496 + f) * 2 ^ E := by
  have h : ¬ 4841369599423283200 + f < 4503599627370496 := by omega
  have e1 : (4841369599423283200 + f) / 4503599627370496 - 1 = E := by have := E_eq; omega
  have e2 : (4841369599423283200 + f) % 4503599627370496 = f := by omega
  unfold val
  rw [if_neg h, e1, e2]

theorem val_lt_c (r : Nat) (h : r < 4841369599423283200) : val r < 4503599627370496 * 2 ^ E := by
  have := val_c 0 (by omega)
  have h2 := val_mono h
  rw [Nat.add_zero, Nat.add_zero] at this
  rw [this] at h2
  exact h2

theorem floor_lt_c (r : Nat) (h : r < 4841369599423283200) : val r / 2 ^ E < 4503599627370496 := by
  rw [Nat.div_lt_iff_lt_mul (Nat.two_pow_pos _)]
  exact val_lt_c r h
end Fl
end Go.Proofs.Ytmflbibogkebmaa
