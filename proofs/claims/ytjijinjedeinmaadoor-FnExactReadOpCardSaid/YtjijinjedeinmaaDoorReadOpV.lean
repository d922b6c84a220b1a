/- spec.ReadOp: contracts where something is named. -/
import Derived.Test.YtjijinjedeinmaaDoorReadOpS
namespace Go.Proofs.YtjijinjedeinmaaDoor
open Go.RowKit
open Rd Fl

theorem drawn_belowV {w w' : World} {m : Nat} (h : w' = w.drewN m) : Below w.heap.size w w' := by rw [h]; exact below_draws (Below.refl _ _) m

set_option maxRecDepth 20000 in
set_option maxHeartbeats 4000000 in
theorem sreadop_bt (s : ByteArray) (hs : s.size ≤ 1048576) (W : List UInt8) (X : ByteArray) (hX : ByteArray.mk W.toArray = X) (ws : List (List UInt8)) (hsp : splitF s.data.toList = W :: ws) (kc : Nat) (hk : kc ≤ 17)
    (hw : ∀ i, 1 ≤ i → i ≤ 17 → ((formW i).toList == X.toList) = decide (i = kc)) (_hlen : (W :: ws).length ≤ 1048577) (hk1 : 1 ≤ kc) (hu : useT kc = ⟨#[97, 98]⟩) (Y : List UInt8) (YB : ByteArray) (hY : ByteArray.mk Y.toArray = YB) (Z : List UInt8) (ZB : ByteArray) (hZ : ByteArray.mk Z.toArray = ZB) (hws : ws = [Y, Z]) (m q : Int) (hYs : YB.size ≤ 1048576) (hd : dgN YB.data.toList = m) (hZs : ZB.size ≤ 1048576) (hd2 : dgN ZB.data.toList = q) (hm0 : 0 ≤ m) (hm1 : m ≤ 999) (hq0 : 0 ≤ q) (hq1 : q ≤ 999) (w : World) :
    Calls Tryd.prog 25 #[.string s] w fun e w' => e = .returned (.tuple #[.agg #[.int .i64 (kc : Int), .int .i64 m, .int .i64 q, .float .f64 0], .bool true]) ∧ Below w.heap.size w w' := by
  have HSP := hide' (fun w => split_any s hs w)
  rw [hsp] at HSP
  have HW := hide' hw
  have HUS := hide' (fun w => uses_any kc w)
  rw [hu] at HUS
  have hk0 : ((kc : Int) == 0) = false := by rw [beq_eq_false_iff_ne]; omega
  have HN := hide' (show (W :: ws).length = 3 by rw [hws]; rfl)
  have HWS := hide' (show (W :: ws)[1]? = some Y by rw [hws]; rfl)
  have HWZ := hide' (show (W :: ws)[2]? = some Z by rw [hws]; rfl)
  have HDG := hide' (fun w => l1digits_any YB w hYs)
  rw [hd] at HDG
  have HDZ := hide' (fun w => l1digits_any ZB w hZs)
  rw [hd2] at HDZ
  have hst := store_f
  have hnl : ((W :: ws).length : Int) ≤ 1048577 := by omega
  clear hs hsp hw _hlen hk1 hu hws hYs hd hZs hd2
  go_enter Tryd.func25, Tryd.ntmps25
  go_wp2_with fail
  refine (HSP.out _).mono ?_
  rintro e w1 ⟨⟨v, rfl, hown⟩, hb1⟩
  obtain ⟨g, cap, rfl, hg1, hg2, hgc⟩ := own_cells hown (by simp)
  have x0 := hgc 0 W rfl
  have HGC := hide' hgc
  have HB1 := hide' (((Below.refl _ w).up _).trans (hb1.mono (by simp)))
  have HT1 := hide' (there_keep hb1 (new_there w 0 0 0 0 46))
  have hz1 : w.heap.size < w1.heap.size := by have := hb1.size; simp at this; omega
  have hg3 : w.heap.size < g := by simp at hg1; omega
  obtain ⟨y0, y1, y2, y3, e0, e1, e2, e3, z4, z5, z6, z7⟩ := four_there HT1.out
  simp only [Nat.zero_add] at e1 e2 e3 z5 z6 z7
  unfold strV at x0
  rw [hX] at x0
  clear hown hb1 hgc hg1
  have hn0 : (0 : Int) < ((W :: ws).length : Int) := by simp
  generalize hn : (W :: ws).length = n at hnl hn0
  go_wp2_with (go_at_call 66; refine (words_any _).mono ?_; rintro e w2 ⟨rfl, rfl⟩)
  go_loopw [18] (fun i wr => ∃ k : Nat, k ≤ 18 ∧ i = .int .i64 k ∧ wr = (w1.alloc (.cells #[.int .i64 (codeUp kc k), .int .i64 0, .int .i64 0, .float .f64 0] 46)).alloc (.cells wordsV 9)) (fun i _ => 18 - (intOf i).toNat)
  case atStart => exact ⟨0, by omega, rfl, rfl⟩
  case round =>
    obtain ⟨k, hk2, rfl, rfl⟩ := hrel
    by_cases hlt : k < 18
    · have hwd := wordsV_at k hlt
      by_cases h0 : k = 0
      · subst h0
        go_wp2_with fail
        go_roundw
        case rel => exact ⟨1, by omega, by go_num, by rw [codeUp_one]⟩
        case measure => simp [intOf]
      · have k1 : (0 : Int) < k := by omega
        have k2 : (k : Int) < 18 := by omega
        have hq := HW.out k (by omega) (by omega)
        by_cases he : k = kc
        · rw [decide_eq_true he] at hq
          subst he
          have HU := hide' (codeUp_eq k)
          generalize codeUp k k = cu at *
          go_wp2_with fail
          go_roundw
          case rel => exact ⟨k + 1, by omega, by go_num, by rw [HU.out]⟩
          case measure => simp [intOf]; omega
        · rw [decide_eq_false he] at hq
          have HU := hide' (codeUp_ne kc k he)
          generalize codeUp kc k = cu at *
          go_wp2_with fail
          go_roundw
          case rel => exact ⟨k + 1, by omega, by go_num, by rw [HU.out]⟩
          case measure => simp [intOf]; omega
    · obtain rfl : k = 18 := by omega
      rw [codeUp_end kc hk]
      have hn1 : (n : Int) = 3 := by have := HN.out; omega
      have x1 := HGC.out 1 Y HWS.out
      unfold strV at x1
      rw [hY] at x1
      have x2 := HGC.out 2 Z HWZ.out
      unfold strV at x2
      rw [hZ] at x2
      clear hn
      go_wp2_with (go_at_call 67; refine (HUS.out _).mono ?_; rintro e w' ⟨rfl, rfl⟩)
      go_loopw [9] (fun i wr => (i = .int .i64 0 ∧ wr = ((w1.alloc (.cells #[.int .i64 (kc : Int), .int .i64 0, .int .i64 0, .float .f64 0] 46)).alloc (.cells wordsV 9))) ∨ (i = .int .i64 1 ∧ wr = ((w1.alloc (.cells #[.int .i64 (kc : Int), .int .i64 m, .int .i64 0, .float .f64 0] 46)).alloc (.cells wordsV 9))) ∨ (i = .int .i64 2 ∧ wr = ((w1.alloc (.cells #[.int .i64 (kc : Int), .int .i64 m, .int .i64 q, .float .f64 0] 46)).alloc (.cells wordsV 9)))) (fun i _ => (2 - intOf i).toNat)
      case atStart => exact .inl ⟨rfl, rfl⟩
      case round =>
        rcases hrel with ⟨rfl, rfl⟩ | ⟨rfl, rfl⟩ | ⟨rfl, rfl⟩
        · go_wp2_with (first | (go_at_call_of 68 YB; refine (HDG.out _).mono ?_; rintro e w' ⟨rfl, rfl⟩) | (go_at_call_of 68 ZB; refine (HDZ.out _).mono ?_; rintro e w' ⟨rfl, rfl⟩) | (go_at_call 56; refine (l1in_any _ _ _ _).mono ?_; rintro e w' ⟨rfl, rfl⟩))
          go_roundw
          case rel => exact .inr (.inl ⟨by go_num, by first | rfl | trivial⟩)
          case measure => simp [intOf]
        · go_wp2_with (first | (go_at_call_of 68 YB; refine (HDG.out _).mono ?_; rintro e w' ⟨rfl, rfl⟩) | (go_at_call_of 68 ZB; refine (HDZ.out _).mono ?_; rintro e w' ⟨rfl, rfl⟩) | (go_at_call 56; refine (l1in_any _ _ _ _).mono ?_; rintro e w' ⟨rfl, rfl⟩))
          go_roundw
          case rel => exact .inr (.inr ⟨by go_num, by first | rfl | trivial⟩)
          case measure => simp [intOf]
        · go_wp2_with fail
          refine bodyPost_ret (v := .tuple #[.agg #[.int .i64 (kc : Int), .int .i64 m, .int .i64 q, .float .f64 0], .bool true]) (by simp [results, Tryd.results25, go_sem, e0, e1, e2, e3, hz1]) rfl ⟨rfl, ?_⟩
          exact ((below_cells HB1.out (Nat.le_refl _) [.int .i64 (kc : Int), .int .i64 m, .int .i64 q, .float .f64 0] 0).up _).up _

set_option maxRecDepth 20000 in
set_option maxHeartbeats 4000000 in
theorem sreadop_b1 (s : ByteArray) (hs : s.size ≤ 1048576) (W : List UInt8) (X : ByteArray) (hX : ByteArray.mk W.toArray = X) (ws : List (List UInt8)) (hsp : splitF s.data.toList = W :: ws) (kc : Nat) (hk : kc ≤ 17)
    (hw : ∀ i, 1 ≤ i → i ≤ 17 → ((formW i).toList == X.toList) = decide (i = kc)) (_hlen : (W :: ws).length ≤ 1048577) (hk1 : 1 ≤ kc) (hu : useT kc = ⟨#[97, 98]⟩) (Y : List UInt8) (YB : ByteArray) (hY : ByteArray.mk Y.toArray = YB) (Z : List UInt8) (hws : ws = [Y, Z]) (m : Int) (hYs : YB.size ≤ 1048576) (hd : dgN YB.data.toList = m) (hm : decide (0 ≤ m ∧ m ≤ 999) = false) (w : World) :
    Calls Tryd.prog 25 #[.string s] w fun e w' => e = .returned (.tuple #[.agg #[.int .i64 0, .int .i64 0, .int .i64 0, .float .f64 0], .bool false]) ∧ Below w.heap.size w w' := by
  have HSP := hide' (fun w => split_any s hs w)
  rw [hsp] at HSP
  have HW := hide' hw
  have HUS := hide' (fun w => uses_any kc w)
  rw [hu] at HUS
  have hk0 : ((kc : Int) == 0) = false := by rw [beq_eq_false_iff_ne]; omega
  have HN := hide' (show (W :: ws).length = 3 by rw [hws]; rfl)
  have HWS := hide' (show (W :: ws)[1]? = some Y by rw [hws]; rfl)
  have HDG := hide' (fun w => l1digits_any YB w hYs)
  rw [hd] at HDG
  have hst := store_f
  have hnl : ((W :: ws).length : Int) ≤ 1048577 := by omega
  clear hs hsp hw _hlen hk1 hu hws hYs hd
  go_enter Tryd.func25, Tryd.ntmps25
  go_wp2_with fail
  refine (HSP.out _).mono ?_
  rintro e w1 ⟨⟨v, rfl, hown⟩, hb1⟩
  obtain ⟨g, cap, rfl, hg1, hg2, hgc⟩ := own_cells hown (by simp)
  have x0 := hgc 0 W rfl
  have HGC := hide' hgc
  have HB1 := hide' (((Below.refl _ w).up _).trans (hb1.mono (by simp)))
  have HT1 := hide' (there_keep hb1 (new_there w 0 0 0 0 46))
  have hz1 : w.heap.size < w1.heap.size := by have := hb1.size; simp at this; omega
  have hg3 : w.heap.size < g := by simp at hg1; omega
  obtain ⟨y0, y1, y2, y3, e0, e1, e2, e3, z4, z5, z6, z7⟩ := four_there HT1.out
  simp only [Nat.zero_add] at e1 e2 e3 z5 z6 z7
  unfold strV at x0
  rw [hX] at x0
  clear hown hb1 hgc hg1
  have hn0 : (0 : Int) < ((W :: ws).length : Int) := by simp
  generalize hn : (W :: ws).length = n at hnl hn0
  go_wp2_with (go_at_call 66; refine (words_any _).mono ?_; rintro e w2 ⟨rfl, rfl⟩)
  go_loopw [18] (fun i wr => ∃ k : Nat, k ≤ 18 ∧ i = .int .i64 k ∧ wr = (w1.alloc (.cells #[.int .i64 (codeUp kc k), .int .i64 0, .int .i64 0, .float .f64 0] 46)).alloc (.cells wordsV 9)) (fun i _ => 18 - (intOf i).toNat)
  case atStart => exact ⟨0, by omega, rfl, rfl⟩
  case round =>
    obtain ⟨k, hk2, rfl, rfl⟩ := hrel
    by_cases hlt : k < 18
    · have hwd := wordsV_at k hlt
      by_cases h0 : k = 0
      · subst h0
        go_wp2_with fail
        go_roundw
        case rel => exact ⟨1, by omega, by go_num, by rw [codeUp_one]⟩
        case measure => simp [intOf]
      · have k1 : (0 : Int) < k := by omega
        have k2 : (k : Int) < 18 := by omega
        have hq := HW.out k (by omega) (by omega)
        by_cases he : k = kc
        · rw [decide_eq_true he] at hq
          subst he
          have HU := hide' (codeUp_eq k)
          generalize codeUp k k = cu at *
          go_wp2_with fail
          go_roundw
          case rel => exact ⟨k + 1, by omega, by go_num, by rw [HU.out]⟩
          case measure => simp [intOf]; omega
        · rw [decide_eq_false he] at hq
          have HU := hide' (codeUp_ne kc k he)
          generalize codeUp kc k = cu at *
          go_wp2_with fail
          go_roundw
          case rel => exact ⟨k + 1, by omega, by go_num, by rw [HU.out]⟩
          case measure => simp [intOf]; omega
    · obtain rfl : k = 18 := by omega
      rw [codeUp_end kc hk]
      have hn1 : (n : Int) = 3 := by have := HN.out; omega
      have x1 := HGC.out 1 Y HWS.out
      unfold strV at x1
      rw [hY] at x1
      clear hn
      go_wp2_with (go_at_call 67; refine (HUS.out _).mono ?_; rintro e w' ⟨rfl, rfl⟩)
      go_loopw [9] (fun i wr => i = .int .i64 0 ∧ wr = ((w1.alloc (.cells #[.int .i64 (kc : Int), .int .i64 0, .int .i64 0, .float .f64 0] 46)).alloc (.cells wordsV 9))) (fun _ _ => 0)
      case atStart => exact ⟨rfl, rfl⟩
      case round =>
        obtain ⟨rfl, rfl⟩ := hrel
        go_wp2_with (first | (go_at_call 68; refine (HDG.out _).mono ?_; rintro e w' ⟨rfl, rfl⟩) | (go_at_call 56; refine (l1in_any _ _ _ _).mono ?_; rintro e w' ⟨rfl, rfl⟩))
        refine bodyPost_ret (v := .tuple #[.agg #[.int .i64 0, .int .i64 0, .int .i64 0, .float .f64 0], .bool false]) (by simp [results, Tryd.results25, go_sem, e0, e1, e2, e3, hz1]) rfl ⟨rfl, ?_⟩
        exact ((below_cells HB1.out (Nat.le_refl _) [.int .i64 0, .int .i64 0, .int .i64 0, .float .f64 0] 0).up _).up _

set_option maxRecDepth 20000 in
set_option maxHeartbeats 4000000 in
theorem sreadop_b2 (s : ByteArray) (hs : s.size ≤ 1048576) (W : List UInt8) (X : ByteArray) (hX : ByteArray.mk W.toArray = X) (ws : List (List UInt8)) (hsp : splitF s.data.toList = W :: ws) (kc : Nat) (hk : kc ≤ 17)
    (hw : ∀ i, 1 ≤ i → i ≤ 17 → ((formW i).toList == X.toList) = decide (i = kc)) (_hlen : (W :: ws).length ≤ 1048577) (hk1 : 1 ≤ kc) (hu : useT kc = ⟨#[97, 98]⟩) (Y : List UInt8) (YB : ByteArray) (hY : ByteArray.mk Y.toArray = YB) (Z : List UInt8) (ZB : ByteArray) (hZ : ByteArray.mk Z.toArray = ZB) (hws : ws = [Y, Z]) (m q : Int) (hYs : YB.size ≤ 1048576) (hd : dgN YB.data.toList = m) (hZs : ZB.size ≤ 1048576) (hd2 : dgN ZB.data.toList = q) (hm0 : 0 ≤ m) (hm1 : m ≤ 999) (hq : decide (0 ≤ q ∧ q ≤ 999) = false) (w : World) :
    Calls Tryd.prog 25 #[.string s] w fun e w' => e = .returned (.tuple #[.agg #[.int .i64 0, .int .i64 0, .int .i64 0, .float .f64 0], .bool false]) ∧ Below w.heap.size w w' := by
  have HSP := hide' (fun w => split_any s hs w)
  rw [hsp] at HSP
  have HW := hide' hw
  have HUS := hide' (fun w => uses_any kc w)
  rw [hu] at HUS
  have hk0 : ((kc : Int) == 0) = false := by rw [beq_eq_false_iff_ne]; omega
  have HN := hide' (show (W :: ws).length = 3 by rw [hws]; rfl)
  have HWS := hide' (show (W :: ws)[1]? = some Y by rw [hws]; rfl)
  have HWZ := hide' (show (W :: ws)[2]? = some Z by rw [hws]; rfl)
  have HDG := hide' (fun w => l1digits_any YB w hYs)
  rw [hd] at HDG
  have HDZ := hide' (fun w => l1digits_any ZB w hZs)
  rw [hd2] at HDZ
  have hst := store_f
  have hnl : ((W :: ws).length : Int) ≤ 1048577 := by omega
  clear hs hsp hw _hlen hk1 hu hws hYs hd hZs hd2
  go_enter Tryd.func25, Tryd.ntmps25
  go_wp2_with fail
  refine (HSP.out _).mono ?_
  rintro e w1 ⟨⟨v, rfl, hown⟩, hb1⟩
  obtain ⟨g, cap, rfl, hg1, hg2, hgc⟩ := own_cells hown (by simp)
  have x0 := hgc 0 W rfl
  have HGC := hide' hgc
  have HB1 := hide' (((Below.refl _ w).up _).trans (hb1.mono (by simp)))
  have HT1 := hide' (there_keep hb1 (new_there w 0 0 0 0 46))
  have hz1 : w.heap.size < w1.heap.size := by have := hb1.size; simp at this; omega
  have hg3 : w.heap.size < g := by simp at hg1; omega
  obtain ⟨y0, y1, y2, y3, e0, e1, e2, e3, z4, z5, z6, z7⟩ := four_there HT1.out
  simp only [Nat.zero_add] at e1 e2 e3 z5 z6 z7
  unfold strV at x0
  rw [hX] at x0
  clear hown hb1 hgc hg1
  have hn0 : (0 : Int) < ((W :: ws).length : Int) := by simp
  generalize hn : (W :: ws).length = n at hnl hn0
  go_wp2_with (go_at_call 66; refine (words_any _).mono ?_; rintro e w2 ⟨rfl, rfl⟩)
  go_loopw [18] (fun i wr => ∃ k : Nat, k ≤ 18 ∧ i = .int .i64 k ∧ wr = (w1.alloc (.cells #[.int .i64 (codeUp kc k), .int .i64 0, .int .i64 0, .float .f64 0] 46)).alloc (.cells wordsV 9)) (fun i _ => 18 - (intOf i).toNat)
  case atStart => exact ⟨0, by omega, rfl, rfl⟩
  case round =>
    obtain ⟨k, hk2, rfl, rfl⟩ := hrel
    by_cases hlt : k < 18
    · have hwd := wordsV_at k hlt
      by_cases h0 : k = 0
      · subst h0
        go_wp2_with fail
        go_roundw
        case rel => exact ⟨1, by omega, by go_num, by rw [codeUp_one]⟩
        case measure => simp [intOf]
      · have k1 : (0 : Int) < k := by omega
        have k2 : (k : Int) < 18 := by omega
        have hq := HW.out k (by omega) (by omega)
        by_cases he : k = kc
        · rw [decide_eq_true he] at hq
          subst he
          have HU := hide' (codeUp_eq k)
          generalize codeUp k k = cu at *
          go_wp2_with fail
          go_roundw
          case rel => exact ⟨k + 1, by omega, by go_num, by rw [HU.out]⟩
          case measure => simp [intOf]; omega
        · rw [decide_eq_false he] at hq
          have HU := hide' (codeUp_ne kc k he)
          generalize codeUp kc k = cu at *
          go_wp2_with fail
          go_roundw
          case rel => exact ⟨k + 1, by omega, by go_num, by rw [HU.out]⟩
          case measure => simp [intOf]; omega
    · obtain rfl : k = 18 := by omega
      rw [codeUp_end kc hk]
      have hn1 : (n : Int) = 3 := by have := HN.out; omega
      have x1 := HGC.out 1 Y HWS.out
      unfold strV at x1
      rw [hY] at x1
      have x2 := HGC.out 2 Z HWZ.out
      unfold strV at x2
      rw [hZ] at x2
      clear hn
      go_wp2_with (go_at_call 67; refine (HUS.out _).mono ?_; rintro e w' ⟨rfl, rfl⟩)
      go_loopw [9] (fun i wr => (i = .int .i64 0 ∧ wr = ((w1.alloc (.cells #[.int .i64 (kc : Int), .int .i64 0, .int .i64 0, .float .f64 0] 46)).alloc (.cells wordsV 9))) ∨ (i = .int .i64 1 ∧ wr = ((w1.alloc (.cells #[.int .i64 (kc : Int), .int .i64 m, .int .i64 0, .float .f64 0] 46)).alloc (.cells wordsV 9)))) (fun i _ => (2 - intOf i).toNat)
      case atStart => exact .inl ⟨rfl, rfl⟩
      case round =>
        rcases hrel with ⟨rfl, rfl⟩ | ⟨rfl, rfl⟩
        · go_wp2_with (first | (go_at_call_of 68 YB; refine (HDG.out _).mono ?_; rintro e w' ⟨rfl, rfl⟩) | (go_at_call_of 68 ZB; refine (HDZ.out _).mono ?_; rintro e w' ⟨rfl, rfl⟩) | (go_at_call 56; refine (l1in_any _ _ _ _).mono ?_; rintro e w' ⟨rfl, rfl⟩))
          go_roundw
          case rel => exact .inr ⟨by go_num, by first | rfl | trivial⟩
          case measure => simp [intOf]
        · go_wp2_with (first | (go_at_call_of 68 YB; refine (HDG.out _).mono ?_; rintro e w' ⟨rfl, rfl⟩) | (go_at_call_of 68 ZB; refine (HDZ.out _).mono ?_; rintro e w' ⟨rfl, rfl⟩) | (go_at_call 56; refine (l1in_any _ _ _ _).mono ?_; rintro e w' ⟨rfl, rfl⟩))
          refine bodyPost_ret (v := .tuple #[.agg #[.int .i64 0, .int .i64 0, .int .i64 0, .float .f64 0], .bool false]) (by simp [results, Tryd.results25, go_sem, e0, e1, e2, e3, hz1]) rfl ⟨rfl, ?_⟩
          exact ((below_cells HB1.out (Nat.le_refl _) [.int .i64 0, .int .i64 0, .int .i64 0, .float .f64 0] 0).up _).up _

end Go.Proofs.YtjijinjedeinmaaDoor
