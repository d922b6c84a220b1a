/- A number's text, both ways: facts and contracts (a dump without the reading of numbers). -/
import Derived.Test.YtdifamjkbagfcaaDoorReadM
import Derived.Test.YtdifamjkbagfcaaDoorText
import Derived.Test.YtdifamjkbagfcaaDoorNumFactsB
namespace Go.Proofs.YtdifamjkbagfcaaDoor
open Go.RowKit
open Rd Fl

theorem hide' {p : Prop} (h : p) : Hid p := h
theorem cell_keep {w w' : World} (hb : Below w.heap.size w w') {a : Addr} {v : Value} (hc : w.cell? a = some v) : w'.cell? a = some v := (hb.cell (World.block_lt_of_cell? w a hc)).trans hc


/-- What the road of a number's text reads of the packages' variables. -/
structure EnvT (w : World) : Prop where
  tab : Tab w
  pow : Lib.TabIs Tryd.prog w "internal/strconv.uint64pow10" .u64 Lib.pow10Tab
theorem EnvT.below {w w' : World} (h : EnvT w) (hb : Below w.heap.size w w') : EnvT w' where
  tab := fun i hi => cell_keep hb (h.tab i hi)
  pow := tab_below gPow h.pow hb
theorem odd_part (n : Nat) : ∀ m, m ≤ n → 0 < m → ∃ q j, q % 2 = 1 ∧ q ≤ m ∧ m = q * 2 ^ j := by
  induction n with
  | zero => intro m h1 h2; omega
  | succ n ih =>
    intro m h1 h2
    by_cases ho : m % 2 = 1
    · exact ⟨m, 0, ho, Nat.le_refl _, by simp⟩
    · obtain ⟨q, j, h3, h4, h5⟩ := ih (m / 2) (by omega) (by omega)
      refine ⟨q, j + 1, h3, by omega, ?_⟩
      rw [Nat.pow_succ, ← Nat.mul_assoc, ← h5]
      omega

theorem pr_some (r : Nat) (h0 : 0 < r) (hr : r < 9218868437227405312) : ∃ q x, PR r q x := by
  obtain ⟨q, j, h1, h2, h3⟩ := odd_part (mg r) (mg r) (Nat.le_refl _) (mg_pos r h0)
  have hq := mg_lt r
  refine ⟨q, _, pr_of r q (j + up r) E hr h0 h1 (by omega) ?_⟩
  rw [val_eq, h3, Nat.pow_add]
  simp only [Nat.mul_assoc]
  rw [Nat.mul_comm (2 ^ up r) (2 ^ E), Nat.mul_left_comm (2 ^ j) (2 ^ E)]

theorem numT_list (m x : Int) : (numT m x).data.toList = Lib.itoa m ++ 112 :: Lib.itoa x := by
  unfold numT tx
  rw [ByteArray.mk_append_mk _ [112], ByteArray.mk_append_mk]
  simp

theorem numT_size (m x : Int) (h : noB m x = true) : (numT m x).size ≤ 40 := by
  obtain ⟨ho, hl, hx1, hx2, hx3⟩ := of_decide_eq_true h
  have e : (numT m x).size = (Lib.itoa m).length + 1 + (Lib.itoa x).length := by
    have := congrArg List.length (numT_list m x)
    simp at this
    have h2 : (numT m x).size = (numT m x).data.size := rfl
    omega
  have d1 := dec_len 15 m.natAbs (by omega)
  have d2 := dec_len 15 x.natAbs (by omega)
  have i1 : ∀ n : Int, (Lib.itoa n).length ≤ (Lib.decDigits n.natAbs).length + 1 := by
    intro n
    unfold Lib.itoa
    split
    · rw [List.length_cons]; omega
    · rw [show n.toNat = n.natAbs by omega]; omega
  have := i1 m
  have := i1 x
  omega

theorem text_of (s : Bool) (r : Nat) (hr : r < 9223372036854775808) : ∃ (T : ByteArray) (_ : Bool) (_ : Nat), T.size ≤ 43 ∧
    (∀ w, Calls Tryd.prog 98 #[.float .f64 (wd s r)] w fun e w' => e = .returned (.string T) ∧ Below w.heap.size w w') ∧
    (∀ w, EnvT w → Calls Tryd.prog 78 #[.float .f64 (wd s r)] w fun e w' => e = .returned (.string T) ∧ Below w.heap.size w w') ∧
    True ∧ True := by
  by_cases h : r = 0 ∨ 9218868437227405312 ≤ r
  · have hS := stext_edge s r hr h
    have hI := itext_edge s r hr h
    by_cases h1 : 9218868437227405312 < r
    · have e : edgeT s r = ⟨#[110, 97, 110]⟩ := by unfold edgeT; rw [if_pos h1]
      rw [e] at hS hI
      exact ⟨_, true, 0, by decide, hS, fun w _ => hI w, trivial, trivial⟩
    · by_cases h2 : r = 9218868437227405312
      · subst h2
        have e : edgeT s 9218868437227405312 = (if s then ⟨#[45, 105, 110, 102]⟩ else ⟨#[105, 110, 102]⟩) := by unfold edgeT; rw [if_neg h1, if_pos rfl]
        rw [e] at hS hI
        cases s
        · exact ⟨_, true, 0, by decide, hS, fun w _ => hI w, trivial, trivial⟩
        · exact ⟨_, true, 0, by decide, hS, fun w _ => hI w, trivial, trivial⟩
      · have h0 : r = 0 := by omega
        subst h0
        have e : edgeT s 0 = (if s then ⟨#[45, 48]⟩ else ⟨#[48]⟩) := by unfold edgeT; rw [if_neg h1, if_neg h2]
        rw [e] at hS hI
        cases s
        · exact ⟨_, true, 0, by decide, hS, fun w _ => hI w, trivial, trivial⟩
        · exact ⟨_, true, 0, by decide, hS, fun w _ => hI w, trivial, trivial⟩
  · have h0 : 0 < r := by omega
    have h1 : r < 9218868437227405312 := by omega
    obtain ⟨q, x, hx⟩ := pr_some r h0 h1
    obtain ⟨hb, hw⟩ := made_again s r q x h0 h1 hx
    have hz := numT_size _ _ hb
    refine ⟨numT (sg s q) x, s, r, by omega, fun w => (stext_num s r h0 h1 w).mono ?_, fun w hE => (itext_num s r h0 h1 w hE.tab hE.pow).mono ?_, trivial, trivial⟩
    · rintro e w' ⟨⟨q2, x2, rfl, hx2⟩, hb2⟩
      obtain ⟨rfl, rfl⟩ := pr_unique hx2 hx
      exact ⟨rfl, hb2⟩
    · rintro e w' ⟨⟨q2, x2, rfl, hx2⟩, hb2⟩
      obtain ⟨rfl, rfl⟩ := pr_unique hx2 hx
      exact ⟨rfl, hb2⟩

end Go.Proofs.YtdifamjkbagfcaaDoor
