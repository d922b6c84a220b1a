/- A number's text and what is read of it, both ways: facts and contracts. -/
import Derived.Test.YtjijinjedeinmaaDoorReadE
import Derived.Test.YtjijinjedeinmaaDoorNumFactsB
namespace Go.Proofs.YtjijinjedeinmaaDoor
open Go.RowKit
open Rd Fl

/-- What the road of a number's text reads of the packages' variables. -/
structure EnvT (w : World) : Prop where
  tab : Tab w
  pow : Lib.TabIs Tryd.prog w "internal/strconv.uint64pow10" .u64 Lib.pow10Tab
theorem Env.t {w : World} (h : Env w) : EnvT w := ⟨h.tab, h.pow⟩
theorem EnvT.below {w w' : World} (h : EnvT w) (hb : Below w.heap.size w w') : EnvT w' where
  tab := fun i hi => cell_keep hb (h.tab i hi)
  pow := tab_below gPow h.pow hb
theorem itext_noWT (m x : Int) (h : noB m x = true) (w : World) (hE : EnvT w) :
    Calls Tryd.prog 11 #[.float .f64 (noW m x)] w fun e w' => e = .returned (.string (numT m x)) ∧ Below w.heap.size w w' := by
  obtain ⟨p, h0, hp, hw, hpr⟩ := noW_pr m x h
  rw [hw]
  refine (itext_num (decide (m < 0)) p h0 hp w hE.tab hE.pow).mono ?_
  rintro e w' ⟨⟨q, x2, rfl, hx⟩, hb⟩
  obtain ⟨rfl, rfl⟩ := pr_unique hx hpr
  rw [sg_self]
  exact ⟨rfl, hb⟩

theorem odd_part (n : Nat) : ∀ m, m ≤ n → 0 < m → ∃ q j, q % 2 = 1 ∧ q ≤ m ∧ m = q * 2 ^ j := by
  induction n with
  | zero => intro m h1 h2; omega
  | succ n ih =>
    intro m h1 h2
    by_cases ho : m % 2 = 1
    · exact ⟨m, 0, ho, Nat.le_refl _, by simp⟩
    · obtain ⟨q, j, h3, h4, h5⟩ := ih (m / 2) (by omega) (by omega)
      refine ⟨q, j + 1, h3, by omega, ?_⟩
      rw [Nat.pow_succ, ← Nat.mul_assoc, ← h5]
      omega

theorem pr_some (r : Nat) (h0 : 0 < r) (hr : r < 9218868437227405312) : ∃ q x, PR r q x := by
  obtain ⟨q, j, h1, h2, h3⟩ := odd_part (mg r) (mg r) (Nat.le_refl _) (mg_pos r h0)
  have hq := mg_lt r
  refine ⟨q, _, pr_of r q (j + up r) E hr h0 h1 (by omega) ?_⟩
  rw [val_eq, h3, Nat.pow_add]
  simp only [Nat.mul_assoc]
  rw [Nat.mul_comm (2 ^ up r) (2 ^ E), Nat.mul_left_comm (2 ^ j) (2 ^ E)]

theorem ba_eq {s t : ByteArray} (h : s.data.toList = t.data.toList) : s = t := by
  cases s with
  | mk a => cases t with
    | mk b =>
      simp at h
      rw [h]

theorem numT_size (m x : Int) (h : noB m x = true) : (numT m x).size ≤ 40 := by
  obtain ⟨ho, hl, hx1, hx2, hx3⟩ := of_decide_eq_true h
  have e : (numT m x).size = (Lib.itoa m).length + 1 + (Lib.itoa x).length := by
    have := congrArg List.length (numT_list m x)
    simp at this
    have h2 : (numT m x).size = (numT m x).data.size := rfl
    omega
  have d1 := dec_len 15 m.natAbs (by omega)
  have d2 := dec_len 15 x.natAbs (by omega)
  have i1 : ∀ n : Int, (Lib.itoa n).length ≤ (Lib.decDigits n.natAbs).length + 1 := by
    intro n
    unfold Lib.itoa
    split
    · rw [List.length_cons]; omega
    · rw [show n.toNat = n.natAbs by omega]; omega
  have := i1 m
  have := i1 x
  omega

theorem beq_false_of_mem {l t : List UInt8} (c : UInt8) (h : c ∈ l) (h2 : c ∉ t) : (l == t) = false := by
  rw [Bool.eq_false_iff]
  intro h3
  have : l = t := by simpa using h3
  exact h2 (this ▸ h)

theorem numT_noEdge (m x : Int) : noEdge (numT m x) := by
  have hm : (112 : UInt8) ∈ (numT m x).toList := by
    rw [ByteArray.toList_eq, numT_list]; simp
  exact ⟨beq_false_of_mem 112 hm (by decide), beq_false_of_mem 112 hm (by decide), beq_false_of_mem 112 hm (by decide), beq_false_of_mem 112 hm (by decide), beq_false_of_mem 112 hm (by decide)⟩

/-- The text of an odd number and a place is read as the number. -/
theorem agree_numT (m x : Int) (h : noB m x = true) (t : Bool) (r : Nat) (hr : r < 9223372036854775808) (hw : noW m x = wd t r) : AgreeAt (numT m x) t r true := by
  obtain ⟨ho, hl, hx1, hx2, hx3⟩ := of_decide_eq_true h
  have i1 := itoa_sg m (by omega)
  have i2 := itoa_sg x (by omega)
  have hz := numT_size m x h
  have hS := sread_some (numT m x) (by omega) (numT_noEdge m x) (Lib.itoa m) (Lib.itoa x) (numT_list m x) (itoa_nop m)
  have hI := fun w hE => iread_parts (numT m x) (by omega) (numT_noEdge m x) _ _ (fun w hE => read_parts (numT m x) (by omega) (Lib.itoa m) (Lib.itoa x) (numT_list m x) (itoa_nop m) w hE) w hE
  rw [i1.1, i1.2, i2.1, i2.2, h] at hS hI
  simp only [Bool.and_self, if_true, hw] at hS hI
  refine ⟨hr, fun w => (hS w).mono ?_, hI⟩
  rintro e w' ⟨rfl, hn⟩
  exact ⟨⟨t, r, hr, rfl, sameB_refl _ _⟩, hn⟩

theorem text_of (s : Bool) (r : Nat) (hr : r < 9223372036854775808) : ∃ T u p, T.size ≤ 43 ∧
    (∀ w, Calls Tryd.prog 13 #[.float .f64 (wd s r)] w fun e w' => e = .returned (.string T) ∧ Below w.heap.size w w') ∧
    (∀ w, EnvT w → Calls Tryd.prog 11 #[.float .f64 (wd s r)] w fun e w' => e = .returned (.string T) ∧ Below w.heap.size w w') ∧
    AgreeAt T u p true ∧ sameB u p s r = true := by
  by_cases h : r = 0 ∨ 9218868437227405312 ≤ r
  · have hS := stext_edge s r hr h
    have hI := itext_edge s r hr h
    by_cases h1 : 9218868437227405312 < r
    · have e : edgeT s r = ⟨#[110, 97, 110]⟩ := by unfold edgeT; rw [if_pos h1]
      rw [e] at hS hI
      exact ⟨_, _, _, by decide, hS, fun w _ => hI w, agree_nan _ (by rw [ByteArray.toList_eq]; decide), by simp [sameB, h1]⟩
    · by_cases h2 : r = 9218868437227405312
      · subst h2
        have e : edgeT s 9218868437227405312 = (if s then ⟨#[45, 105, 110, 102]⟩ else ⟨#[105, 110, 102]⟩) := by unfold edgeT; rw [if_neg h1, if_pos rfl]
        rw [e] at hS hI
        cases s
        · exact ⟨_, _, _, by decide, hS, fun w _ => hI w, agree_inf _ (by rw [ByteArray.toList_eq]; decide) (by rw [ByteArray.toList_eq]; decide), sameB_refl _ _⟩
        · exact ⟨_, _, _, by decide, hS, fun w _ => hI w, agree_neginf _ (by rw [ByteArray.toList_eq]; decide) (by rw [ByteArray.toList_eq]; decide) (by rw [ByteArray.toList_eq]; decide), sameB_refl _ _⟩
      · have h0 : r = 0 := by omega
        subst h0
        have e : edgeT s 0 = (if s then ⟨#[45, 48]⟩ else ⟨#[48]⟩) := by unfold edgeT; rw [if_neg h1, if_neg h2]
        rw [e] at hS hI
        cases s
        · exact ⟨_, _, _, by decide, hS, fun w _ => hI w, agree_zero _ (by rw [ByteArray.toList_eq]; decide) (by rw [ByteArray.toList_eq]; decide) (by rw [ByteArray.toList_eq]; decide) (by rw [ByteArray.toList_eq]; decide), sameB_refl _ _⟩
        · exact ⟨_, _, _, by decide, hS, fun w _ => hI w, agree_negzero _ (by rw [ByteArray.toList_eq]; decide) (by rw [ByteArray.toList_eq]; decide) (by rw [ByteArray.toList_eq]; decide) (by rw [ByteArray.toList_eq]; decide) (by rw [ByteArray.toList_eq]; decide), sameB_refl _ _⟩
  · have h0 : 0 < r := by omega
    have h1 : r < 9218868437227405312 := by omega
    obtain ⟨q, x, hx⟩ := pr_some r h0 h1
    obtain ⟨hb, hw⟩ := made_again s r q x h0 h1 hx
    have hz := numT_size _ _ hb
    refine ⟨numT (sg s q) x, s, r, by omega, fun w => (stext_num s r h0 h1 w).mono ?_, fun w hE => (itext_num s r h0 h1 w hE.tab hE.pow).mono ?_, agree_numT _ _ hb s r hr hw, sameB_refl _ _⟩
    · rintro e w' ⟨⟨q2, x2, rfl, hx2⟩, hb2⟩
      obtain ⟨rfl, rfl⟩ := pr_unique hx2 hx
      exact ⟨rfl, hb2⟩
    · rintro e w' ⟨⟨q2, x2, rfl, hx2⟩, hb2⟩
      obtain ⟨rfl, rfl⟩ := pr_unique hx2 hx
      exact ⟨rfl, hb2⟩

/-- What the program's NumText says of the number u, p: this text. -/
def SaysAt (s : ByteArray) (u : Bool) (p : Nat) : Prop :=
  ∀ w, EnvT w → Calls Tryd.prog 11 #[.float .f64 (wd u p)] w fun e w' => e = .returned (.string s) ∧ Below w.heap.size w w'

theorem says_edge (s : ByteArray) (u : Bool) (p : Nat) (hp : p < 9223372036854775808) (h : p = 0 ∨ 9218868437227405312 ≤ p) (l : List UInt8) (hl : (s.toList == l) = true) (hT : (edgeT u p).data.toList = l) : SaysAt s u p := by
  have e : edgeT u p = s := ba_eq (by rw [hT]; rw [ByteArray.toList_eq] at hl; exact (by simpa using hl : s.data.toList = l).symm)
  intro w _
  have := itext_edge u p hp h w
  rwa [e] at this

/-- Of any text both tell the same, and what is told true has just that text. -/
theorem agree_full (s : ByteArray) (hs : s.size ≤ 1048576) : ∃ u p b, AgreeAt s u p b ∧ (b = true → SaysAt s u p) := by
  cases n1 : (s.toList == [110, 97, 110])
  · cases n2 : (s.toList == [105, 110, 102])
    · cases n3 : (s.toList == [45, 105, 110, 102])
      · cases n4 : (s.toList == [48])
        · cases n5 : (s.toList == [45, 48])
          · have he : noEdge s := ⟨n1, n2, n3, n4, n5⟩
            have hno : ∀ {P : Prop}, false = true → P := fun h => by cases h
            by_cases hl : 40 < (s.size : Int)
            · refine ⟨false, 0, false, ⟨by omega, fun w => (sread_long s hs he hl w).mono ?_, fun w _ => iread_long s he hl w⟩, hno⟩
              rintro e w' ⟨rfl, hn⟩
              exact ⟨⟨false, 0, by omega, rfl, sameB_refl _ _⟩, hn⟩
            · have hl2 : (s.size : Int) ≤ 40 := by omega
              by_cases hp : (112 : UInt8) ∈ s.data.toList
              · obtain ⟨A, B, h1, h2⟩ := List.eq_append_cons_of_mem hp
                by_cases hg : (sgB A && sgB B && noB (sgV A) (sgV B)) = true
                · rw [Bool.and_eq_true, Bool.and_eq_true] at hg
                  obtain ⟨⟨g1, g2⟩, g3⟩ := hg
                  have j1 := (sg_itoa A g1).1
                  have j2 := (sg_itoa B g2).1
                  have e : numT (sgV A) (sgV B) = s := ba_eq (by rw [numT_list, ← j1, ← j2, h1])
                  obtain ⟨p, p0, p1, hw, hpr⟩ := noW_pr _ _ g3
                  refine ⟨_, p, true, e ▸ agree_numT _ _ g3 _ p (by omega) hw, fun _ w hE => ?_⟩
                  have := itext_noWT _ _ g3 w hE
                  rwa [e, hw] at this
                · have hg2 := Bool.eq_false_iff.2 hg
                  have hS := sread_some s hl2 he A B h1 h2
                  have hI := fun w hE => iread_parts s hl2 he _ _ (fun w hE => read_parts s hl2 A B h1 h2 w hE) w hE
                  have hv : ∃ t r, r < 9223372036854775808 ∧ (if (sgB A && sgB B) = true then noW (sgV A) (sgV B) else 0) = wd t r := by
                    split
                    · exact noW_wd _ _
                    · exact ⟨false, 0, by omega, rfl⟩
                  obtain ⟨t, r, hr, hv⟩ := hv
                  rw [hg2, hv] at hS hI
                  refine ⟨t, r, false, ⟨hr, fun w => (hS w).mono ?_, hI⟩, hno⟩
                  rintro e w' ⟨rfl, hn⟩
                  exact ⟨⟨t, r, hr, rfl, sameB_refl _ _⟩, hn⟩
              · refine ⟨false, 0, false, ⟨by omega, fun w => (sread_none s hl2 he hp w).mono ?_, fun w hE => iread_parts s hl2 he _ _ (fun w hE => read_none s hl2 hp w hE) w hE⟩, hno⟩
                rintro e w' ⟨rfl, hn⟩
                exact ⟨⟨false, 0, by omega, rfl, sameB_refl _ _⟩, hn⟩
          · exact ⟨_, _, _, agree_negzero s n1 n2 n3 n4 n5, fun _ => says_edge s true 0 (by omega) (Or.inl rfl) _ n5 (by unfold edgeT; rw [if_neg (by omega), if_neg (by omega)]; rfl)⟩
        · exact ⟨_, _, _, agree_zero s n1 n2 n3 n4, fun _ => says_edge s false 0 (by omega) (Or.inl rfl) _ n4 (by unfold edgeT; rw [if_neg (by omega), if_neg (by omega)]; rfl)⟩
      · exact ⟨_, _, _, agree_neginf s n1 n2 n3, fun _ => says_edge s true 9218868437227405312 (by omega) (Or.inr (by omega)) _ n3 (by unfold edgeT; rw [if_neg (by omega), if_pos rfl]; rfl)⟩
    · exact ⟨_, _, _, agree_inf s n1 n2, fun _ => says_edge s false 9218868437227405312 (by omega) (Or.inr (by omega)) _ n2 (by unfold edgeT; rw [if_neg (by omega), if_pos rfl]; rfl)⟩
  · exact ⟨_, _, _, agree_nan s n1, fun _ => says_edge s false 9221120237041090561 (by omega) (Or.inr (by omega)) _ n1 (by unfold edgeT; rw [if_pos (by omega)])⟩
end Go.Proofs.YtjijinjedeinmaaDoor
