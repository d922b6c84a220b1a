/- spec.ReadOp: contracts where something is named. -/
import Derived.Test.YtjijinjedeinmaaDoorReadOpS
namespace Go.Proofs.YtjijinjedeinmaaDoor
open Go.RowKit
open Rd Fl

theorem drawn_below {w w' : World} {m : Nat} (h : w' = w.drewN m) : Below w.heap.size w w' := by rw [h]; exact below_draws (Below.refl _ _) m

set_option maxRecDepth 20000 in
set_option maxHeartbeats 4000000 in
theorem sreadop_vt (s : ByteArray) (hs : s.size ≤ 1048576) (W : List UInt8) (X : ByteArray) (hX : ByteArray.mk W.toArray = X) (ws : List (List UInt8)) (hsp : splitF s.data.toList = W :: ws) (kc : Nat) (hk : kc ≤ 17)
    (hw : ∀ i, 1 ≤ i → i ≤ 17 → ((formW i).toList == X.toList) = decide (i = kc)) (_hlen : (W :: ws).length ≤ 1048577) (hk1 : 1 ≤ kc) (hu : useT kc = ⟨#[118]⟩) (Y : List UInt8) (YB : ByteArray) (hY : ByteArray.mk Y.toArray = YB) (hws : ws = [Y]) (u : Bool) (p : Nat) (hA : AgreeAt YB u p true) (w : World) :
    Calls Tryd.prog 25 #[.string s] w fun e w' => (∃ t r, r < 9223372036854775808 ∧ e = .returned (.tuple #[.agg #[.int .i64 (kc : Int), .int .i64 0, .int .i64 0, .float .f64 (wd t r)], .bool true]) ∧ sameB u p t r = true) ∧ Below w.heap.size w w' := by
  have HSP := hide' (fun w => split_any s hs w)
  rw [hsp] at HSP
  have HW := hide' hw
  have HUS := hide' (fun w => uses_any kc w)
  rw [hu] at HUS
  have hk0 : ((kc : Int) == 0) = false := by rw [beq_eq_false_iff_ne]; omega
  have HN := hide' (show (W :: ws).length = 2 by rw [hws]; rfl)
  have HWS := hide' (show (W :: ws)[1]? = some Y by rw [hws]; rfl)
  have HRD := hide' hA.2.1
  have hst := store_f
  have hnl : ((W :: ws).length : Int) ≤ 1048577 := by omega
  clear hs hsp hw _hlen hk1 hu hws hA
  go_enter Tryd.func25, Tryd.ntmps25
  go_wp2_with fail
  refine (HSP.out _).mono ?_
  rintro e w1 ⟨⟨v, rfl, hown⟩, hb1⟩
  obtain ⟨g, cap, rfl, hg1, hg2, hgc⟩ := own_cells hown (by simp)
  have x0 := hgc 0 W rfl
  have HGC := hide' hgc
  have HB1 := hide' (((Below.refl _ w).up _).trans (hb1.mono (by simp)))
  have HT1 := hide' (there_keep hb1 (new_there w 0 0 0 0 46))
  have hz1 : w.heap.size < w1.heap.size := by have := hb1.size; simp at this; omega
  have hg3 : w.heap.size < g := by simp at hg1; omega
  obtain ⟨y0, y1, y2, y3, e0, e1, e2, e3, z4, z5, z6, z7⟩ := four_there HT1.out
  simp only [Nat.zero_add] at e1 e2 e3 z5 z6 z7
  unfold strV at x0
  rw [hX] at x0
  clear hown hb1 hgc hg1
  have hn0 : (0 : Int) < ((W :: ws).length : Int) := by simp
  generalize hn : (W :: ws).length = n at hnl hn0
  go_wp2_with (go_at_call 66; refine (words_any _).mono ?_; rintro e w2 ⟨rfl, rfl⟩)
  go_loopw [18] (fun i wr => ∃ k : Nat, k ≤ 18 ∧ i = .int .i64 k ∧ wr = (w1.alloc (.cells #[.int .i64 (codeUp kc k), .int .i64 0, .int .i64 0, .float .f64 0] 46)).alloc (.cells wordsV 9)) (fun i _ => 18 - (intOf i).toNat)
  case atStart => exact ⟨0, by omega, rfl, rfl⟩
  case round =>
    obtain ⟨k, hk2, rfl, rfl⟩ := hrel
    by_cases hlt : k < 18
    · have hwd := wordsV_at k hlt
      by_cases h0 : k = 0
      · subst h0
        go_wp2_with fail
        go_roundw
        case rel => exact ⟨1, by omega, by go_num, by rw [codeUp_one]⟩
        case measure => simp [intOf]
      · have k1 : (0 : Int) < k := by omega
        have k2 : (k : Int) < 18 := by omega
        have hq := HW.out k (by omega) (by omega)
        by_cases he : k = kc
        · rw [decide_eq_true he] at hq
          subst he
          have HU := hide' (codeUp_eq k)
          generalize codeUp k k = cu at *
          go_wp2_with fail
          go_roundw
          case rel => exact ⟨k + 1, by omega, by go_num, by rw [HU.out]⟩
          case measure => simp [intOf]; omega
        · rw [decide_eq_false he] at hq
          have HU := hide' (codeUp_ne kc k he)
          generalize codeUp kc k = cu at *
          go_wp2_with fail
          go_roundw
          case rel => exact ⟨k + 1, by omega, by go_num, by rw [HU.out]⟩
          case measure => simp [intOf]; omega
    · obtain rfl : k = 18 := by omega
      rw [codeUp_end kc hk]
      have hn1 : (n : Int) = 2 := by have := HN.out; omega
      have x1 := HGC.out 1 Y HWS.out
      unfold strV at x1
      rw [hY] at x1
      clear hn
      go_wp2_with (go_at_call 67; refine (HUS.out _).mono ?_; rintro e w' ⟨rfl, rfl⟩)
      go_loopw [9] (fun i wr => (i = .int .i64 0 ∧ wr = ((w1.alloc (.cells #[.int .i64 (kc : Int), .int .i64 0, .int .i64 0, .float .f64 0] 46)).alloc (.cells wordsV 9))) ∨ (∃ (t : Bool) (r : Nat), i = .int .i64 1 ∧ Hid (BoxAt w1.heap.size kc 0 0 (wd t r) wr) ∧ Hid (wr.there w.heap.size 0 4) ∧ Hid (Below w.heap.size w wr) ∧ Hid (r < 9223372036854775808) ∧ Hid (sameB u p t r = true))) (fun i _ => (1 - intOf i).toNat)
      case atStart => exact .inl ⟨rfl, rfl⟩
      case round =>
        rcases hrel with ⟨rfl, rfl⟩ | ⟨t, r, rfl, hbx, hth, hbw, hr, hsm⟩
        · go_wp2_with (go_at_call 16; refine (HRD.out _).mono ?_; rintro e w3 ⟨⟨t, r, hr, rfl, hsm⟩, m, hw3⟩; have HR := hide' hr; have HSM := hide' hsm; have hb3 := drawn_below hw3; obtain ⟨c0, c1, c2, c3⟩ := ((box_new w1 kc 0 0 0 46).above ((Below.refl _ _).up (.cells wordsV 9))).above hb3; obtain ⟨q0, q1, q2, q3, d0, d1, d2, d3, zz0, zz1, zz2, zz3⟩ := four_there (there_keep hb3 (there_keep ((Below.refl _ _).up (.cells wordsV 9)) (new_there w1 kc 0 0 0 46))); have HT3 := hide' (there_keep hb3 (there_keep (((Below.refl _ _).up (.cells #[.int .i64 (kc : Int), .int .i64 0, .int .i64 0, .float .f64 0] 46)).up (.cells wordsV 9)) HT1.out)); have HB3 := hide' (((HB1.out.up (.cells #[.int .i64 (kc : Int), .int .i64 0, .int .i64 0, .float .f64 0] 46)).up (.cells wordsV 9)).trans (hb3.mono (by have := HB1.out.size; simp; omega))); clear hr hsm hw3 hb3 d0 d1 d2 d3)
          go_roundw
          case rel => exact .inr ⟨t, r, by go_num, box_set ⟨c0, c1, c2, c3⟩ (wd t r), World.there_setCells HT3.out _ 3 [.float .f64 (wd t r)], HB3.out.setCell (p := ⟨w1.heap.size, 3, none⟩) HB1.out.size _, HR.out, HSM.out⟩
          case measure => simp [intOf]
        · clear e0 e1 e2 e3 z4 z5 z6 z7 y0 y1 y2 y3
          obtain ⟨c0, c1, c2, c3⟩ := hbx.out
          obtain ⟨y0, y1, y2, y3, e0, e1, e2, e3, z4, z5, z6, z7⟩ := four_there hth.out
          simp only [Nat.zero_add] at e1 e2 e3 z5 z6 z7
          go_wp2_with fail
          refine bodyPost_ret (v := .tuple #[.agg #[.int .i64 (kc : Int), .int .i64 0, .int .i64 0, .float .f64 (wd t r)], .bool true]) (by simp [results, Tryd.results25, go_sem, e0, e1, e2, e3]) rfl ⟨⟨t, r, hr.out, rfl, hsm.out⟩, ?_⟩
          exact below_cells hbw.out (Nat.le_refl _) [.int .i64 (kc : Int), .int .i64 0, .int .i64 0, .float .f64 (wd t r)] 0

set_option maxRecDepth 20000 in
set_option maxHeartbeats 4000000 in
theorem sreadop_vf (s : ByteArray) (hs : s.size ≤ 1048576) (W : List UInt8) (X : ByteArray) (hX : ByteArray.mk W.toArray = X) (ws : List (List UInt8)) (hsp : splitF s.data.toList = W :: ws) (kc : Nat) (hk : kc ≤ 17)
    (hw : ∀ i, 1 ≤ i → i ≤ 17 → ((formW i).toList == X.toList) = decide (i = kc)) (_hlen : (W :: ws).length ≤ 1048577) (hk1 : 1 ≤ kc) (hu : useT kc = ⟨#[118]⟩) (Y : List UInt8) (YB : ByteArray) (hY : ByteArray.mk Y.toArray = YB) (hws : ws = [Y]) (u : Bool) (p : Nat) (hA : AgreeAt YB u p false) (w : World) :
    Calls Tryd.prog 25 #[.string s] w fun e w' => e = .returned (.tuple #[.agg #[.int .i64 0, .int .i64 0, .int .i64 0, .float .f64 0], .bool false]) ∧ Below w.heap.size w w' := by
  have HSP := hide' (fun w => split_any s hs w)
  rw [hsp] at HSP
  have HW := hide' hw
  have HUS := hide' (fun w => uses_any kc w)
  rw [hu] at HUS
  have hk0 : ((kc : Int) == 0) = false := by rw [beq_eq_false_iff_ne]; omega
  have HN := hide' (show (W :: ws).length = 2 by rw [hws]; rfl)
  have HWS := hide' (show (W :: ws)[1]? = some Y by rw [hws]; rfl)
  have HRD := hide' hA.2.1
  have hst := store_f
  have hnl : ((W :: ws).length : Int) ≤ 1048577 := by omega
  clear hs hsp hw _hlen hk1 hu hws hA
  go_enter Tryd.func25, Tryd.ntmps25
  go_wp2_with fail
  refine (HSP.out _).mono ?_
  rintro e w1 ⟨⟨v, rfl, hown⟩, hb1⟩
  obtain ⟨g, cap, rfl, hg1, hg2, hgc⟩ := own_cells hown (by simp)
  have x0 := hgc 0 W rfl
  have HGC := hide' hgc
  have HB1 := hide' (((Below.refl _ w).up _).trans (hb1.mono (by simp)))
  have HT1 := hide' (there_keep hb1 (new_there w 0 0 0 0 46))
  have hz1 : w.heap.size < w1.heap.size := by have := hb1.size; simp at this; omega
  have hg3 : w.heap.size < g := by simp at hg1; omega
  obtain ⟨y0, y1, y2, y3, e0, e1, e2, e3, z4, z5, z6, z7⟩ := four_there HT1.out
  simp only [Nat.zero_add] at e1 e2 e3 z5 z6 z7
  unfold strV at x0
  rw [hX] at x0
  clear hown hb1 hgc hg1
  have hn0 : (0 : Int) < ((W :: ws).length : Int) := by simp
  generalize hn : (W :: ws).length = n at hnl hn0
  go_wp2_with (go_at_call 66; refine (words_any _).mono ?_; rintro e w2 ⟨rfl, rfl⟩)
  go_loopw [18] (fun i wr => ∃ k : Nat, k ≤ 18 ∧ i = .int .i64 k ∧ wr = (w1.alloc (.cells #[.int .i64 (codeUp kc k), .int .i64 0, .int .i64 0, .float .f64 0] 46)).alloc (.cells wordsV 9)) (fun i _ => 18 - (intOf i).toNat)
  case atStart => exact ⟨0, by omega, rfl, rfl⟩
  case round =>
    obtain ⟨k, hk2, rfl, rfl⟩ := hrel
    by_cases hlt : k < 18
    · have hwd := wordsV_at k hlt
      by_cases h0 : k = 0
      · subst h0
        go_wp2_with fail
        go_roundw
        case rel => exact ⟨1, by omega, by go_num, by rw [codeUp_one]⟩
        case measure => simp [intOf]
      · have k1 : (0 : Int) < k := by omega
        have k2 : (k : Int) < 18 := by omega
        have hq := HW.out k (by omega) (by omega)
        by_cases he : k = kc
        · rw [decide_eq_true he] at hq
          subst he
          have HU := hide' (codeUp_eq k)
          generalize codeUp k k = cu at *
          go_wp2_with fail
          go_roundw
          case rel => exact ⟨k + 1, by omega, by go_num, by rw [HU.out]⟩
          case measure => simp [intOf]; omega
        · rw [decide_eq_false he] at hq
          have HU := hide' (codeUp_ne kc k he)
          generalize codeUp kc k = cu at *
          go_wp2_with fail
          go_roundw
          case rel => exact ⟨k + 1, by omega, by go_num, by rw [HU.out]⟩
          case measure => simp [intOf]; omega
    · obtain rfl : k = 18 := by omega
      rw [codeUp_end kc hk]
      have hn1 : (n : Int) = 2 := by have := HN.out; omega
      have x1 := HGC.out 1 Y HWS.out
      unfold strV at x1
      rw [hY] at x1
      clear hn
      go_wp2_with (go_at_call 67; refine (HUS.out _).mono ?_; rintro e w' ⟨rfl, rfl⟩)
      go_loopw [9] (fun i wr => i = .int .i64 0 ∧ wr = ((w1.alloc (.cells #[.int .i64 (kc : Int), .int .i64 0, .int .i64 0, .float .f64 0] 46)).alloc (.cells wordsV 9))) (fun _ _ => 0)
      case atStart => exact ⟨rfl, rfl⟩
      case round =>
        obtain ⟨rfl, rfl⟩ := hrel
        clear e0 e1 e2 e3 z4 z5 z6 z7 y0 y1 y2 y3
        go_wp2_with (go_at_call 16; refine (HRD.out _).mono ?_; rintro e w3 ⟨⟨t, r, hr, rfl, hsm⟩, m, hw3⟩; have hb3 := drawn_below hw3; obtain ⟨c0, c1, c2, c3⟩ := ((box_new w1 kc 0 0 0 46).above ((Below.refl _ _).up (.cells wordsV 9))).above hb3; obtain ⟨q0, q1, q2, q3, d0, d1, d2, d3, zz0, zz1, zz2, zz3⟩ := four_there (there_keep hb3 (there_keep ((Below.refl _ _).up (.cells wordsV 9)) (new_there w1 kc 0 0 0 46))); obtain ⟨y0, y1, y2, y3, e0, e1, e2, e3, z4, z5, z6, z7⟩ := four_there (there_keep hb3 (there_keep (((Below.refl _ _).up (.cells #[.int .i64 (kc : Int), .int .i64 0, .int .i64 0, .float .f64 0] 46)).up (.cells wordsV 9)) HT1.out)); have HB3 := hide' (((HB1.out.up (.cells #[.int .i64 (kc : Int), .int .i64 0, .int .i64 0, .float .f64 0] 46)).up (.cells wordsV 9)).trans (hb3.mono (by have := HB1.out.size; simp; omega))); simp only [Nat.zero_add] at e1 e2 e3 z5 z6 z7; clear hr hsm hw3 hb3 d0 d1 d2 d3)
        refine bodyPost_ret (v := .tuple #[.agg #[.int .i64 0, .int .i64 0, .int .i64 0, .float .f64 0], .bool false]) (by simp [results, Tryd.results25, go_sem, e0, e1, e2, e3]) rfl ⟨rfl, ?_⟩
        exact below_cells (HB3.out.setCell (p := ⟨w1.heap.size, 3, none⟩) HB1.out.size (.float .f64 (wd t r))) (Nat.le_refl _) [.int .i64 0, .int .i64 0, .int .i64 0, .float .f64 0] 0

end Go.Proofs.YtjijinjedeinmaaDoor
