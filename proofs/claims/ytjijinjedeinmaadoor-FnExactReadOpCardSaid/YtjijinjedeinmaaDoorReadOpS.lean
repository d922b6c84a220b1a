/- spec.ReadOp: contract. -/
import Derived.Test.YtjijinjedeinmaaDoorReadOpI
namespace Go.Proofs.YtjijinjedeinmaaDoor
open Go.RowKit
open Rd Fl

theorem own_cells {w : World} {base : Nat} {v : Value} {ws : List (List UInt8)} (h : w.ownsRow base 9 1 v ws.length (ws.map strV)) (hn : 1 ≤ ws.length) :
    ∃ g cap, v = .slice (some ⟨g, 0, none⟩) ws.length cap ∧ base ≤ g ∧ g < w.heap.size ∧ ∀ j p, ws[j]? = some p → w.cell? ⟨g, j, none⟩ = some (strV p) := by
  rcases h.2 with ⟨_, h0⟩ | ⟨g, cap, cur, rfl, hb, hg, hc, hm, hs, ht⟩
  · omega
  · refine ⟨g, cap, rfl, hb, (Array.getElem?_eq_some_iff.1 hg).1, fun j p hp => ?_⟩
    have hj : j < ws.length := (List.getElem?_eq_some_iff.1 hp).1
    have h1 : cur.toList[j]? = some (strV p) := by
      have h2 : (cur.toList.take (ws.length * 1))[j]? = some (strV p) := by rw [ht, List.getElem?_map, hp]; rfl
      rwa [List.getElem?_take_of_lt (by omega)] at h2
    unfold World.cell?
    simp only [hg]
    simpa using h1

def codeUp (kc i : Nat) : Int := if kc < i then kc else 0
theorem codeUp_zero (kc : Nat) : codeUp kc 0 = 0 := by unfold codeUp; rw [if_neg (by omega)]
theorem codeUp_eq (kc : Nat) : codeUp kc (kc + 1) = kc := by unfold codeUp; rw [if_pos (by omega)]
theorem codeUp_ne (kc i : Nat) (h : i ≠ kc) : codeUp kc (i + 1) = codeUp kc i := by
  unfold codeUp
  by_cases h1 : kc < i
  · rw [if_pos (by omega), if_pos h1]
  · rw [if_neg (by omega), if_neg h1]
theorem codeUp_one (kc : Nat) : codeUp kc 1 = codeUp kc 0 := by
  unfold codeUp
  by_cases h : kc < 1
  · rw [if_pos h, if_neg (by omega)]; omega
  · rw [if_neg h, if_neg (by omega)]
theorem codeUp_end (kc : Nat) (h : kc ≤ 17) : codeUp kc 18 = kc := by unfold codeUp; rw [if_pos (by omega)]

theorem wordsV_at (i : Nat) (h : i < 18) : wordsV[i]? = some (.string (formW i)) := (words_at i (by omega)).1

set_option maxRecDepth 20000 in
set_option maxHeartbeats 4000000 in
theorem sreadop_no (s : ByteArray) (hs : s.size ≤ 1048576) (W : List UInt8) (X : ByteArray) (hX : ByteArray.mk W.toArray = X) (ws : List (List UInt8)) (hsp : splitF s.data.toList = W :: ws) (kc : Nat) (hk : kc ≤ 17)
    (hw : ∀ i, 1 ≤ i → i ≤ 17 → ((formW i).toList == X.toList) = decide (i = kc)) (_hlen : (W :: ws).length ≤ 1048577) (hno : kc = 0 ∨ (W :: ws).length ≠ (useT kc).size + 1) (w : World) :
    Calls Tryd.prog 25 #[.string s] w fun e w' => e = .returned (.tuple #[.agg #[.int .i64 0, .int .i64 0, .int .i64 0, .float .f64 0], .bool false]) ∧ Below w.heap.size w w' := by
  have HSP := hide' (fun w => split_any s hs w)
  rw [hsp] at HSP
  have HW := hide' hw
  have HN := hide' hno
  have hst := store_f
  have hnl : ((W :: ws).length : Int) ≤ 1048577 := by omega
  clear hs hsp hw _hlen hno
  go_enter Tryd.func25, Tryd.ntmps25
  go_wp2_with fail
  refine (HSP.out _).mono ?_
  rintro e w1 ⟨⟨v, rfl, hown⟩, hb1⟩
  obtain ⟨g, cap, rfl, hg1, hg2, hgc⟩ := own_cells hown (by simp)
  have x0 := hgc 0 W rfl
  have HGC := hide' hgc
  have HB1 := hide' (((Below.refl _ w).up _).trans (hb1.mono (by simp)))
  have HT1 := hide' (there_keep hb1 (new_there w 0 0 0 0 46))
  have hz1 : w.heap.size < w1.heap.size := by have := hb1.size; simp at this; omega
  have hg3 : w.heap.size < g := by simp at hg1; omega
  obtain ⟨y0, y1, y2, y3, e0, e1, e2, e3, z4, z5, z6, z7⟩ := four_there HT1.out
  simp only [Nat.zero_add] at e1 e2 e3 z5 z6 z7
  unfold strV at x0
  rw [hX] at x0
  clear hown hb1 hgc hg1
  have hn0 : (0 : Int) < ((W :: ws).length : Int) := by simp
  generalize hn : (W :: ws).length = n at hnl hn0
  go_wp2_with (go_at_call 66; refine (words_any _).mono ?_; rintro e w2 ⟨rfl, rfl⟩)
  go_loopw [18] (fun i wr => ∃ k : Nat, k ≤ 18 ∧ i = .int .i64 k ∧ wr = (w1.alloc (.cells #[.int .i64 (codeUp kc k), .int .i64 0, .int .i64 0, .float .f64 0] 46)).alloc (.cells wordsV 9)) (fun i _ => 18 - (intOf i).toNat)
  case atStart => exact ⟨0, by omega, rfl, rfl⟩
  case round =>
    obtain ⟨k, hk2, rfl, rfl⟩ := hrel
    by_cases hlt : k < 18
    · have hwd := wordsV_at k hlt
      by_cases h0 : k = 0
      · subst h0
        go_wp2_with fail
        go_roundw
        case rel => exact ⟨1, by omega, by go_num, by rw [codeUp_one]⟩
        case measure => simp [intOf]
      · have k1 : (0 : Int) < k := by omega
        have k2 : (k : Int) < 18 := by omega
        have hq := HW.out k (by omega) (by omega)
        by_cases he : k = kc
        · rw [decide_eq_true he] at hq
          subst he
          have HU := hide' (codeUp_eq k)
          generalize codeUp k k = cu at *
          go_wp2_with fail
          go_roundw
          case rel => exact ⟨k + 1, by omega, by go_num, by rw [HU.out]⟩
          case measure => simp [intOf]; omega
        · rw [decide_eq_false he] at hq
          have HU := hide' (codeUp_ne kc k he)
          generalize codeUp kc k = cu at *
          go_wp2_with fail
          go_roundw
          case rel => exact ⟨k + 1, by omega, by go_num, by rw [HU.out]⟩
          case measure => simp [intOf]; omega
    · obtain rfl : k = 18 := by omega
      rw [codeUp_end kc hk]
      by_cases hz : kc = 0
      · subst hz
        clear hn
        go_wp2_with (go_at_call 67; refine (uses_any _ _).mono ?_; rintro e w' ⟨rfl, rfl⟩)
        refine bodyPost_ret (v := .tuple #[.agg #[.int .i64 0, .int .i64 0, .int .i64 0, .float .f64 0], .bool false]) (by simp [results, Tryd.results25, go_sem, e0, e1, e2, e3, hz1]) rfl ⟨rfl, ?_⟩
        exact ((below_cells HB1.out (Nat.le_refl _) [.int .i64 0, .int .i64 0, .int .i64 0, .float .f64 0] 0).up _).up _
      · have hne : ((n : Int) != ((useT kc).size : Int) + 1) = true := by
          rw [bne_iff_ne]
          rcases HN.out with h | h <;> omega
        have hu : ((useT kc).size : Int) ≤ 2 := by have := (use_bytes kc).1; omega
        have hk0 : ((kc : Int) == 0) = false := by rw [beq_eq_false_iff_ne]; omega
        clear hn
        go_wp2_with (go_at_call 67; refine (uses_any _ _).mono ?_; rintro e w' ⟨rfl, rfl⟩)
        refine bodyPost_ret (v := .tuple #[.agg #[.int .i64 0, .int .i64 0, .int .i64 0, .float .f64 0], .bool false]) (by simp [results, Tryd.results25, go_sem, e0, e1, e2, e3, hz1]) rfl ⟨rfl, ?_⟩
        exact ((below_cells HB1.out (Nat.le_refl _) [.int .i64 0, .int .i64 0, .int .i64 0, .float .f64 0] 0).up _).up _

set_option maxRecDepth 20000 in
set_option maxHeartbeats 4000000 in
theorem sreadop_0 (s : ByteArray) (hs : s.size ≤ 1048576) (W : List UInt8) (X : ByteArray) (hX : ByteArray.mk W.toArray = X) (ws : List (List UInt8)) (hsp : splitF s.data.toList = W :: ws) (kc : Nat) (hk : kc ≤ 17)
    (hw : ∀ i, 1 ≤ i → i ≤ 17 → ((formW i).toList == X.toList) = decide (i = kc)) (_hlen : (W :: ws).length ≤ 1048577) (hk1 : 1 ≤ kc) (hu : useT kc = ⟨#[]⟩) (hn1 : (W :: ws).length = 1) (w : World) :
    Calls Tryd.prog 25 #[.string s] w fun e w' => e = .returned (.tuple #[.agg #[.int .i64 (kc : Int), .int .i64 0, .int .i64 0, .float .f64 0], .bool true]) ∧ Below w.heap.size w w' := by
  have HSP := hide' (fun w => split_any s hs w)
  rw [hsp] at HSP
  have HW := hide' hw
  have HUS := hide' (fun w => uses_any kc w)
  rw [hu] at HUS
  have hk0 : ((kc : Int) == 0) = false := by rw [beq_eq_false_iff_ne]; omega
  have HN := hide' hn1
  have hst := store_f
  have hnl : ((W :: ws).length : Int) ≤ 1048577 := by omega
  clear hs hsp hw _hlen hk1 hu hn1
  go_enter Tryd.func25, Tryd.ntmps25
  go_wp2_with fail
  refine (HSP.out _).mono ?_
  rintro e w1 ⟨⟨v, rfl, hown⟩, hb1⟩
  obtain ⟨g, cap, rfl, hg1, hg2, hgc⟩ := own_cells hown (by simp)
  have x0 := hgc 0 W rfl
  have HGC := hide' hgc
  have HB1 := hide' (((Below.refl _ w).up _).trans (hb1.mono (by simp)))
  have HT1 := hide' (there_keep hb1 (new_there w 0 0 0 0 46))
  have hz1 : w.heap.size < w1.heap.size := by have := hb1.size; simp at this; omega
  have hg3 : w.heap.size < g := by simp at hg1; omega
  obtain ⟨y0, y1, y2, y3, e0, e1, e2, e3, z4, z5, z6, z7⟩ := four_there HT1.out
  simp only [Nat.zero_add] at e1 e2 e3 z5 z6 z7
  unfold strV at x0
  rw [hX] at x0
  clear hown hb1 hgc hg1
  have hn0 : (0 : Int) < ((W :: ws).length : Int) := by simp
  generalize hn : (W :: ws).length = n at hnl hn0
  go_wp2_with (go_at_call 66; refine (words_any _).mono ?_; rintro e w2 ⟨rfl, rfl⟩)
  go_loopw [18] (fun i wr => ∃ k : Nat, k ≤ 18 ∧ i = .int .i64 k ∧ wr = (w1.alloc (.cells #[.int .i64 (codeUp kc k), .int .i64 0, .int .i64 0, .float .f64 0] 46)).alloc (.cells wordsV 9)) (fun i _ => 18 - (intOf i).toNat)
  case atStart => exact ⟨0, by omega, rfl, rfl⟩
  case round =>
    obtain ⟨k, hk2, rfl, rfl⟩ := hrel
    by_cases hlt : k < 18
    · have hwd := wordsV_at k hlt
      by_cases h0 : k = 0
      · subst h0
        go_wp2_with fail
        go_roundw
        case rel => exact ⟨1, by omega, by go_num, by rw [codeUp_one]⟩
        case measure => simp [intOf]
      · have k1 : (0 : Int) < k := by omega
        have k2 : (k : Int) < 18 := by omega
        have hq := HW.out k (by omega) (by omega)
        by_cases he : k = kc
        · rw [decide_eq_true he] at hq
          subst he
          have HU := hide' (codeUp_eq k)
          generalize codeUp k k = cu at *
          go_wp2_with fail
          go_roundw
          case rel => exact ⟨k + 1, by omega, by go_num, by rw [HU.out]⟩
          case measure => simp [intOf]; omega
        · rw [decide_eq_false he] at hq
          have HU := hide' (codeUp_ne kc k he)
          generalize codeUp kc k = cu at *
          go_wp2_with fail
          go_roundw
          case rel => exact ⟨k + 1, by omega, by go_num, by rw [HU.out]⟩
          case measure => simp [intOf]; omega
    · obtain rfl : k = 18 := by omega
      rw [codeUp_end kc hk]
      have hn1 : (n : Int) = 1 := by have := HN.out; omega
      clear hn
      go_wp2_with (go_at_call 67; refine (HUS.out _).mono ?_; rintro e w' ⟨rfl, rfl⟩)
      go_loopw [9] (fun i wr => i = .int .i64 0 ∧ wr = ((w1.alloc (.cells #[.int .i64 (kc : Int), .int .i64 0, .int .i64 0, .float .f64 0] 46)).alloc (.cells wordsV 9))) (fun _ _ => 0)
      case atStart => exact ⟨rfl, rfl⟩
      case round =>
        obtain ⟨rfl, rfl⟩ := hrel
        go_wp2_with fail
        refine bodyPost_ret (v := .tuple #[.agg #[.int .i64 (kc : Int), .int .i64 0, .int .i64 0, .float .f64 0], .bool true]) (by simp [results, Tryd.results25, go_sem, e0, e1, e2, e3, hz1]) rfl ⟨rfl, ?_⟩
        exact ((below_cells HB1.out (Nat.le_refl _) [.int .i64 (kc : Int), .int .i64 0, .int .i64 0, .float .f64 0] 0).up _).up _

end Go.Proofs.YtjijinjedeinmaaDoor
