/- impl.endsInText and OpText: contracts. -/
import Derived.Test.YtdifamjkbagfcaaDoorGood
import Derived.Test.YtdifamjkbagfcaaDoorOpTx
import Derived.Deep.RegionWith
namespace Go.Proofs.YtdifamjkbagfcaaDoor
open Go.RowKit
open Rd Fl

/-- the ends that go for a text -/
def endsT : Array Value := #[.int .i64 1, .int .i64 1000, .int .i64 1000, .int .i64 1000, .int .i64 1000, .int .i64 1000]
/-- the world in which the ends are filled up to a place -/
def endsW (w : World) (x1 x2 x3 x4 x5 : Int) : World := (w.alloc (.cells #[.int .i64 0, .int .i64 0, .int .i64 0, .int .i64 0, .int .i64 0, .int .i64 0] 110)).alloc (.cells #[.int .i64 1, .int .i64 x1, .int .i64 x2, .int .i64 x3, .int .i64 x4, .int .i64 x5] 110)

set_option maxRecDepth 20000 in
set_option maxHeartbeats 1000000 in
theorem ends_any (w : World) : Calls Tryd.prog 77 #[] w fun e w' => e = .returned (.agg endsT) ∧ Below w.heap.size w w' := by
  go_enter Tryd.func77, Tryd.ntmps77
  go_wp2
  go_loopw [2] (fun i wr => (i = .int .i64 1 ∧ wr = endsW w 0 0 0 0 0) ∨ (i = .int .i64 2 ∧ wr = endsW w 1000 0 0 0 0) ∨ (i = .int .i64 3 ∧ wr = endsW w 1000 1000 0 0 0) ∨ (i = .int .i64 4 ∧ wr = endsW w 1000 1000 1000 0 0) ∨ (i = .int .i64 5 ∧ wr = endsW w 1000 1000 1000 1000 0) ∨ (i = .int .i64 6 ∧ wr = endsW w 1000 1000 1000 1000 1000)) (fun i _ => (6 - intOf i).toNat)
  case atStart => exact .inl ⟨rfl, rfl⟩
  case round =>
    rcases hrel with ⟨rfl, rfl⟩ | ⟨rfl, rfl⟩ | ⟨rfl, rfl⟩ | ⟨rfl, rfl⟩ | ⟨rfl, rfl⟩ | ⟨rfl, rfl⟩
    · unfold endsW
      go_wp2
      go_roundw
      case rel => exact .inr (.inl ⟨rfl, by first | rfl | trivial⟩)
      case measure => simp [intOf]
    · unfold endsW
      go_wp2
      go_roundw
      case rel => exact .inr (.inr (.inl ⟨rfl, by first | rfl | trivial⟩))
      case measure => simp [intOf]
    · unfold endsW
      go_wp2
      go_roundw
      case rel => exact .inr (.inr (.inr (.inl ⟨rfl, by first | rfl | trivial⟩)))
      case measure => simp [intOf]
    · unfold endsW
      go_wp2
      go_roundw
      case rel => exact .inr (.inr (.inr (.inr (.inl ⟨rfl, by first | rfl | trivial⟩))))
      case measure => simp [intOf]
    · unfold endsW
      go_wp2
      go_roundw
      case rel => exact .inr (.inr (.inr (.inr (.inr ⟨rfl, by first | rfl | trivial⟩))))
      case measure => simp [intOf]
    · unfold endsW
      go_wp2
      refine bodyPost_ret (v := .agg endsT) (by simp [results, Tryd.results77, go_sem, endsT]) rfl ⟨rfl, ?_⟩
      exact ((Below.refl _ _).up _).up _

def formV (k : Nat) : Bool := decide (k = 1)
def formA (k : Nat) : Nat := if k = 2 ∨ k = 3 then 1 else if k = 10 ∨ k = 11 then 2 else if k = 12 ∨ k = 13 then 3 else if k = 14 then 4 else if k = 16 ∨ k = 17 then 5 else 0
def formB (k : Nat) : Nat := if k = 16 then 3 else 0
def formW (k : Nat) : ByteArray := opWords.getD k ⟨#[]⟩
/-- The table of forms stands. -/
def Forms (w : World) : Prop := ∀ k, k ≤ 17 → Form w k (formW k) (formV k) (formA k) (formB k)
theorem Forms.below {w w' : World} (h : Forms w) (hb : Below w.heap.size w w') : Forms w' := fun k hk =>
  let f := h k hk
  ⟨cell_keep hb f.word, cell_keep hb f.v, cell_keep hb f.a, cell_keep hb f.b⟩

theorem formA_lt (k : Nat) : formA k < 6 := by unfold formA; repeat (split <;> try omega)
theorem formB_lt (k : Nat) : formB k < 6 := by unfold formB; split <;> omega
def endT (f : Nat) : Int := if f = 0 then 1 else 1000
theorem endsT_at (f : Nat) (h : f < 6) : endsT[f]? = some (.int .i64 (endT f)) := by
  rcases (by omega : f = 0 ∨ f = 1 ∨ f = 2 ∨ f = 3 ∨ f = 4 ∨ f = 5) with rfl | rfl | rfl | rfl | rfl | rfl <;> rfl

theorem codes (k : Nat) (h1 : 1 ≤ k) (h2 : k ≤ 17) : k = 1 ∨ k = 2 ∨ k = 3 ∨ k = 4 ∨ k = 5 ∨ k = 6 ∨ k = 7 ∨ k = 8 ∨ k = 9 ∨ k = 10 ∨ k = 11 ∨ k = 12 ∨ k = 13 ∨ k = 14 ∨ k = 15 ∨ k = 16 ∨ k = 17 := by omega

theorem plain_good (k : Nat) (h1 : 1 ≤ k) (h2 : k ≤ 17) (a b : Int) (z : Bool) : plainB k a b z = goodB a b z (formV k) (endT (formA k)) (endT (formB k)) := by
  rw [Bool.eq_iff_iff]
  rcases codes k h1 h2 with rfl | rfl | rfl | rfl | rfl | rfl | rfl | rfl | rfl | rfl | rfl | rfl | rfl | rfl | rfl | rfl | rfl <;>
    simp [plainB, goodB, uV, uA, uB, formV, formA, formB, endT] <;> cases z <;> (try simp) <;> (try omega)

theorem words_at (k : Nat) (h2 : k ≤ 17) : wordsV[k]? = some (.string (formW k)) ∧ (formW k).size ≤ 10 := by
  by_cases h : k = 0
  · subst h; exact ⟨rfl, by decide⟩
  · rcases codes k (by omega) h2 with rfl | rfl | rfl | rfl | rfl | rfl | rfl | rfl | rfl | rfl | rfl | rfl | rfl | rfl | rfl | rfl | rfl <;> exact ⟨rfl, by decide⟩
theorem tx_dec (n : Int) (h : 0 ≤ n) : tx n = decB n := by
  unfold tx decB Lib.itoa
  rw [if_neg (by omega)]

theorem useT_nat (k : Nat) (h1 : 1 ≤ k) (h2 : k ≤ 17) : (useT k).data.toList = if formV k = true then [118] else if formA k = 0 then [] else if formB k = 0 then [97] else [97, 98] := by
  rcases codes k h1 h2 with rfl | rfl | rfl | rfl | rfl | rfl | rfl | rfl | rfl | rfl | rfl | rfl | rfl | rfl | rfl | rfl | rfl <;> rfl

theorem form_classes (k : Nat) (h1 : 1 ≤ k) (h2 : k ≤ 17) : (formV k = true ∧ formA k = 0 ∧ formB k = 0) ∨ (formV k = false ∧ formA k = 0 ∧ formB k = 0) ∨ (formV k = false ∧ formA k ≠ 0 ∧ formB k = 0) ∨ (formV k = false ∧ formA k ≠ 0 ∧ formB k ≠ 0) := by
  rcases codes k h1 h2 with rfl | rfl | rfl | rfl | rfl | rfl | rfl | rfl | rfl | rfl | rfl | rfl | rfl | rfl | rfl | rfl | rfl <;> decide

set_option maxRecDepth 20000 in
set_option maxHeartbeats 1000000 in
theorem iopText_out (c a b : Int) (v : Nat) (hc : c < 1 ∨ 17 < c) (w : World) :
    Calls Tryd.prog 40 #[.agg #[.int .i64 c, .int .i64 a, .int .i64 b, .float .f64 v]] w fun e w' => e = .returned (.tuple #[.string ⟨#[]⟩, .bool false]) ∧ Below w.heap.size w w' := by
  have HC := hide' (fun E w => goodop_out c a b v E w hc)
  clear hc
  go_enter Tryd.func40, Tryd.ntmps40
  go_wp2_with fail
  go_region_with (first | (go_at_call 77; refine (ends_any _).mono ?_; rintro e w1 ⟨rfl, hb1⟩; obtain ⟨hc1, hf1⟩ := bcell hb1) | (go_at_call 76; refine (HC.out _ _).mono ?_; rintro e w2 ⟨rfl, hb2⟩))
  all_goals go_wp2_with fail
  all_goals go_ret2
  all_goals
    refine ⟨rfl, ?_⟩
    exact ((((Below.refl _ w).up _).drew).trans (hb1.mono (by simp))).trans (hb2.mono (by have := hb1.size; simp at this; omega))

set_option maxRecDepth 20000 in
set_option maxHeartbeats 1000000 in
theorem iopText_no (k : Nat) (hk1 : 1 ≤ k) (hk : k ≤ 17) (a b : Int) (s : Bool) (r : Nat) (hr : r < 9223372036854775808) (hp : plainB k a b (sameB s r false 0) = false) (w : World) (hF : Forms w) :
    Calls Tryd.prog 40 #[.agg #[.int .i64 k, .int .i64 a, .int .i64 b, .float .f64 (wd s r)]] w fun e w' => e = .returned (.tuple #[.string ⟨#[]⟩, .bool false]) ∧ Below w.heap.size w w' := by
  have HC := hide' (fun w' hF => goodop_in k hk1 hk a b s r hr endsT (formW k) (formV k) (formA k) (formB k) _ _ rfl (formA_lt k) (formB_lt k) (endsT_at _ (formA_lt k)) (endsT_at _ (formB_lt k)) w' hF)
  rw [← plain_good k hk1 hk, hp] at HC
  have HF := hide' (fun w' hb => (hF.below (w' := w') hb) k hk)
  clear hp hr hk1 hk hF
  go_enter Tryd.func40, Tryd.ntmps40
  go_wp2_with fail
  go_region_with (first | (go_at_call 77; refine (ends_any _).mono ?_; rintro e w1 ⟨rfl, hb1⟩; obtain ⟨hc1, hf1⟩ := bcell hb1) | (go_at_call 76; refine (HC.out _ (HF.out _ ((((Below.refl _ w).up _).drew).trans (hb1.mono (by simp))))).mono ?_; rintro e w2 ⟨rfl, hb2⟩))
  all_goals go_wp2_with fail
  all_goals go_ret2
  all_goals
    refine ⟨rfl, ?_⟩
    exact ((((Below.refl _ w).up _).drew).trans (hb1.mono (by simp))).trans (hb2.mono (by have := hb1.size; simp at this; omega))

set_option maxRecDepth 20000 in
set_option maxHeartbeats 2000000 in
theorem iopText_yes (k : Nat) (hk1 : 1 ≤ k) (hk : k ≤ 17) (a b : Int) (s : Bool) (r : Nat) (hr : r < 9223372036854775808) (T : ByteArray) (hT : T.size ≤ 43)
    (hIT : ∀ w, EnvT w → Calls Tryd.prog 78 #[.float .f64 (wd s r)] w fun e w' => e = .returned (.string T) ∧ Below w.heap.size w w') (hp : plainB k a b (sameB s r false 0) = true) (w : World) (hE : EnvT w) (hF : Forms w) :
    Calls Tryd.prog 40 #[.agg #[.int .i64 k, .int .i64 a, .int .i64 b, .float .f64 (wd s r)]] w fun e w' => e = .returned (.tuple #[.string (accT (formW k) (argX T a b) (useT k).data.toList), .bool true]) ∧ Below w.heap.size w w' := by
  have HC := hide' (fun w' hF => goodop_in k hk1 hk a b s r hr endsT (formW k) (formV k) (formA k) (formB k) _ _ rfl (formA_lt k) (formB_lt k) (endsT_at _ (formA_lt k)) (endsT_at _ (formB_lt k)) w' hF)
  rw [← plain_good k hk1 hk, hp] at HC
  have HF := hide' (fun w' hb => (hF.below (w' := w') hb) k hk)
  have HE := hide' (fun w' hb => hE.below (w' := w') hb)
  unfold plainB at hp
  simp only [Bool.and_eq_true, decide_eq_true_eq] at hp
  obtain ⟨⟨⟨⟨⟨-, h2⟩, h3⟩, -⟩, -⟩, -⟩ := hp
  have za := decB_size a h2.1 h2.2
  have zb := decB_size b h3.1 h3.2
  have HA := hide' (fun w hE => (itoa_tx a (by omega) (by omega) w (EnvT.pow hE)))
  have HB := hide' (fun w hE => (itoa_tx b (by omega) (by omega) w (EnvT.pow hE)))
  rw [tx_dec a h2.1] at HA
  rw [tx_dec b h3.1] at HB
  have HIT := hide' hIT
  have hsz : 0 < w.heap.size := World.block_lt_of_cell? w _ (hF k hk).word
  have k1 : (1 : Int) ≤ k := by omega
  have k2 : (k : Int) < 18 := by omega
  have hWs := (words_at k hk).2
  have hu := useT_nat k hk1 hk
  have hcl := form_classes k hk1 hk
  rw [hu]
  generalize formW k = W at HC HF hWs
  generalize formV k = v at HC HF hcl
  generalize formA k = fa at HC HF hcl
  generalize formB k = fb at HC HF hcl
  clear hr hk1 hk hF hE hu hIT h2 h3
  rcases hcl with ⟨rfl, rfl, rfl⟩ | ⟨rfl, rfl, rfl⟩ | ⟨rfl, hfa, rfl⟩ | ⟨rfl, hfa, hfb⟩
  · rw [if_pos rfl]
    go_enter Tryd.func40, Tryd.ntmps40
    go_wp2_with fail
    go_region_with (first | (go_at_call 77; refine (ends_any _).mono ?_; rintro e w1 ⟨rfl, hb1⟩; obtain ⟨hc1, hf1⟩ := bcell hb1) | (go_at_call 76; refine (HC.out _ (HF.out _ ((((Below.refl _ w).up _).drew).trans (hb1.mono (by simp))))).mono ?_; rintro e w2 ⟨rfl, hb2⟩))
    all_goals
      have HB2 := hide' (((((Below.refl _ w).up _).drew).trans (hb1.mono (by simp))).trans (hb2.mono (by have := hb1.size; simp at this; omega)))
      obtain ⟨c0, c1, c2, c3⟩ := (box_new w k a b (wd s r) 77).above (((Below.refl _ _).drew.trans hb1).trans (hb2.mono hb1.size))
      obtain ⟨f0, f1, f2, f3⟩ := HF.out w2 HB2.out
      have hz2 : 0 < w2.heap.size := by have := HB2.out.size; omega
      have hz3 : w.heap.size < w2.heap.size := World.block_lt_of_cell? w2 _ c0
      clear hb1 hb2 hc1 hf1 HC
      go_wp2_with (go_at_call 78; refine (HIT.out _ (HE.out _ (HB2.out.up _))).mono ?_; rintro e w3 ⟨rfl, hb3⟩; obtain ⟨hc3, hf3⟩ := bcell hb3; have hz4 : w2.heap.size < w3.heap.size := by (have := hb3.size; simp at this; omega))
      go_ret2
      exact ⟨rfl, (HB2.out.up _).trans (hb3.mono (by simp; omega))⟩
  · rw [if_neg (by simp), if_pos rfl]
    go_enter Tryd.func40, Tryd.ntmps40
    go_wp2_with fail
    go_region_with (first | (go_at_call 77; refine (ends_any _).mono ?_; rintro e w1 ⟨rfl, hb1⟩; obtain ⟨hc1, hf1⟩ := bcell hb1) | (go_at_call 76; refine (HC.out _ (HF.out _ ((((Below.refl _ w).up _).drew).trans (hb1.mono (by simp))))).mono ?_; rintro e w2 ⟨rfl, hb2⟩))
    all_goals
      have HB2 := hide' (((((Below.refl _ w).up _).drew).trans (hb1.mono (by simp))).trans (hb2.mono (by have := hb1.size; simp at this; omega)))
      obtain ⟨c0, c1, c2, c3⟩ := (box_new w k a b (wd s r) 77).above (((Below.refl _ _).drew.trans hb1).trans (hb2.mono hb1.size))
      obtain ⟨f0, f1, f2, f3⟩ := HF.out w2 HB2.out
      have hz2 : 0 < w2.heap.size := by have := HB2.out.size; omega
      have hz3 : w.heap.size < w2.heap.size := World.block_lt_of_cell? w2 _ c0
      clear hb1 hb2 hc1 hf1 HC
      go_wp2_with fail
      go_ret2
      exact ⟨rfl, HB2.out.up _⟩
  · rw [if_neg (by simp), if_neg hfa, if_pos rfl]
    have hfa2 : ¬ (fa : Int) = 0 := by omega
    clear hfa
    go_enter Tryd.func40, Tryd.ntmps40
    go_wp2_with fail
    go_region_with (first | (go_at_call 77; refine (ends_any _).mono ?_; rintro e w1 ⟨rfl, hb1⟩; obtain ⟨hc1, hf1⟩ := bcell hb1) | (go_at_call 76; refine (HC.out _ (HF.out _ ((((Below.refl _ w).up _).drew).trans (hb1.mono (by simp))))).mono ?_; rintro e w2 ⟨rfl, hb2⟩))
    all_goals
      have HB2 := hide' (((((Below.refl _ w).up _).drew).trans (hb1.mono (by simp))).trans (hb2.mono (by have := hb1.size; simp at this; omega)))
      obtain ⟨c0, c1, c2, c3⟩ := (box_new w k a b (wd s r) 77).above (((Below.refl _ _).drew.trans hb1).trans (hb2.mono hb1.size))
      obtain ⟨f0, f1, f2, f3⟩ := HF.out w2 HB2.out
      have hz2 : 0 < w2.heap.size := by have := HB2.out.size; omega
      have hz3 : w.heap.size < w2.heap.size := World.block_lt_of_cell? w2 _ c0
      clear hb1 hb2 hc1 hf1 HC
      go_wp2_with (go_at_call_of 39 a; refine (HA.out _ (HE.out _ (HB2.out.up _))).mono ?_; rintro e w3 ⟨rfl, hb3⟩; obtain ⟨hc3, hf3⟩ := bcell hb3; have hz4 : w2.heap.size < w3.heap.size := by (have := hb3.size; simp at this; omega))
      go_ret2
      exact ⟨rfl, (HB2.out.up _).trans (hb3.mono (by simp; omega))⟩
  · rw [if_neg (by simp), if_neg hfa, if_neg hfb]
    have hfa2 : ¬ (fa : Int) = 0 := by omega
    have hfb2 : ¬ (fb : Int) = 0 := by omega
    clear hfa hfb
    go_enter Tryd.func40, Tryd.ntmps40
    go_wp2_with fail
    go_region_with (first | (go_at_call 77; refine (ends_any _).mono ?_; rintro e w1 ⟨rfl, hb1⟩; obtain ⟨hc1, hf1⟩ := bcell hb1) | (go_at_call 76; refine (HC.out _ (HF.out _ ((((Below.refl _ w).up _).drew).trans (hb1.mono (by simp))))).mono ?_; rintro e w2 ⟨rfl, hb2⟩))
    all_goals
      have HB2 := hide' (((((Below.refl _ w).up _).drew).trans (hb1.mono (by simp))).trans (hb2.mono (by have := hb1.size; simp at this; omega)))
      obtain ⟨c0, c1, c2, c3⟩ := (box_new w k a b (wd s r) 77).above (((Below.refl _ _).drew.trans hb1).trans (hb2.mono hb1.size))
      obtain ⟨f0, f1, f2, f3⟩ := HF.out w2 HB2.out
      have hz2 : 0 < w2.heap.size := by have := HB2.out.size; omega
      have hz3 : w.heap.size < w2.heap.size := World.block_lt_of_cell? w2 _ c0
      clear hb1 hb2 hc1 hf1 HC
      go_wp2_with (first | (go_at_call_of 39 a; refine (HA.out _ (HE.out _ (HB2.out.up _))).mono ?_; rintro e w3 ⟨rfl, hb3⟩; obtain ⟨hc3, hf3⟩ := bcell hb3; have hz4 : w2.heap.size < w3.heap.size := by (have := hb3.size; simp at this; omega)) | (go_at_call_of 39 b; refine (HB.out _ (HE.out _ ((HB2.out.up _).trans (hb3.mono (by simp; omega))))).mono ?_; rintro e w4 ⟨rfl, hb4⟩))
      go_ret2
      exact ⟨rfl, ((HB2.out.up _).trans (hb3.mono (by simp; omega))).trans (hb4.mono (by omega))⟩
end Go.Proofs.YtdifamjkbagfcaaDoor
