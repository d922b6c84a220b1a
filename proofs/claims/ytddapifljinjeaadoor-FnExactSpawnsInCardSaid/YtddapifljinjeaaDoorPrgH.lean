/- spec.GoodProg: contract. -/
import Derived.Test.YtddapifljinjeaaDoorPrgG
namespace Go.Proofs.YtddapifljinjeaaDoor
open Go.RowKit
open Rd Fl

theorem head_cases {cl lk cd n : Int} (h : headB cl lk cd n = false) : decide (0 ≤ cl ∧ cl ≤ 4) = false ∨ (decide (0 ≤ cl ∧ cl ≤ 4) = true ∧ decide (0 ≤ lk ∧ lk ≤ 4) = false) ∨ (decide (0 ≤ cl ∧ cl ≤ 4) = true ∧ decide (0 ≤ lk ∧ lk ≤ 4) = true ∧ decide (0 ≤ cd ∧ cd ≤ 2) = false) ∨ (decide (0 ≤ cl ∧ cl ≤ 4) = true ∧ decide (0 ≤ lk ∧ lk ≤ 4) = true ∧ decide (0 ≤ cd ∧ cd ≤ 2) = true ∧ decide (1 ≤ n ∧ n ≤ 4) = false) := by
  unfold headB at h
  cases h1 : decide (0 ≤ cl ∧ cl ≤ 4)
  · exact .inl rfl
  · cases h2 : decide (0 ≤ lk ∧ lk ≤ 4)
    · exact .inr (.inl ⟨rfl, rfl⟩)
    · cases h3 : decide (0 ≤ cd ∧ cd ≤ 2)
      · exact .inr (.inr (.inl ⟨rfl, rfl, rfl⟩))
      · cases h4 : decide (1 ≤ n ∧ n ≤ 4)
        · exact .inr (.inr (.inr ⟨rfl, rfl, rfl, rfl⟩))
        · rw [h1, h2, h3, h4] at h; cases h
theorem head_all {cl lk cd n : Int} (h : headB cl lk cd n = true) : (0 ≤ cl ∧ cl ≤ 4) ∧ (0 ≤ lk ∧ lk ≤ 4) ∧ (0 ≤ cd ∧ cd ≤ 2) ∧ (1 ≤ n ∧ n ≤ 4) := by
  unfold headB at h
  simp only [Bool.and_eq_true, decide_eq_true_eq] at h
  exact ⟨h.1.1.1, h.1.1.2, h.1.2, h.2⟩

set_option maxRecDepth 20000 in
set_option maxHeartbeats 2000000 in
theorem sgood_head (cl lk cd : Int) (R : Option Addr) (rs : List (List OpD)) (cap : Nat) (hl : rs.length ≤ 1048576) (hh : headB cl lk cd rs.length = false) (w : World) :
    Calls Tryd.prog 14 #[.agg #[.int .i64 cl, .int .i64 lk, .int .i64 cd, .slice R rs.length cap]] w fun e w' => e = .returned (.bool false) ∧ Below w.heap.size w w' := by
  have hl' : (rs.length : Int) ≤ 1048576 := by omega
  rcases head_cases hh with h1 | ⟨h1, h2⟩ | ⟨h1, h2, h3⟩ | ⟨h1, h2, h3, h4⟩
  all_goals
    clear hh
    go_enter Tryd.func14, Tryd.ntmps14
    go_wp2_with (go_at_call 24; refine (l1in_any _ _ _ _).mono ?_; rintro e w' ⟨rfl, rfl⟩)
    go_ret
    exact ⟨rfl, (Below.refl _ w).up _⟩

set_option maxRecDepth 20000 in
set_option maxHeartbeats 4000000 in
theorem sgood_loop (cl lk cd : Int) (R : Option Addr) (rs : List (List OpD)) (cap : Nat) (hls : ∀ l ∈ rs, l.length ≤ 1048576) (hr : ∀ l ∈ rs, ∀ o ∈ l, o.r < 9223372036854775808) (hh : headB cl lk cd rs.length = true) (w : World) (hR : RoutsAt w R rs) :
    Calls Tryd.prog 14 #[.agg #[.int .i64 cl, .int .i64 lk, .int .i64 cd, .slice R rs.length cap]] w fun e w' => e = .returned (.bool (rs.all (routS cl lk cd rs.length))) ∧ Below w.heap.size w w' := by
  obtain ⟨g1, g2, g3, g4⟩ := head_all hh
  have e1 : decide (0 ≤ cl ∧ cl ≤ 4) = true := decide_eq_true g1
  have e2 : decide (0 ≤ lk ∧ lk ≤ 4) = true := decide_eq_true g2
  have e3 : decide (0 ≤ cd ∧ cd ≤ 2) = true := decide_eq_true g3
  have hn1 : (1 : Int) ≤ rs.length := g4.1
  have hl' : (rs.length : Int) ≤ 4 := g4.2
  obtain ⟨b, off, hA1, hc⟩ := hR
  have hA2 := hA1 (by intro h; rw [h] at g4; simp at g4)
  subst hA2
  have HC := hide' (fun i (hi : i < rs.length) => hc i rs[i] (List.getElem?_eq_getElem hi))
  have HRR := hide' hr
  have HLL := hide' hls
  have hst := store_f
  clear hc hA1 hr hls hh g1 g2 g3 g4
  go_enter Tryd.func14, Tryd.ntmps14
  go_wp2_with (go_at_call 24; refine (l1in_any _ _ _ _).mono ?_; rintro e w' ⟨rfl, rfl⟩)
  clear e1 e2 e3
  go_loopw [33] (fun i wr => ∃ k : Nat, k ≤ rs.length ∧ i = .int .i64 k ∧ Hid (∀ l ∈ rs.take k, routS cl lk cd rs.length l = true) ∧ Hid (PBox w.heap.size cl lk cd (some ⟨b, off, none⟩) rs.length cap wr) ∧ Hid (Below w.heap.size w wr)) (fun i _ => rs.length - (intOf i).toNat)
  case atStart => exact ⟨0, Nat.zero_le _, rfl, (fun l hl => by cases hl), pbox_new w cl lk cd _ _ cap _, (Below.refl _ w).up _⟩
  case round =>
    obtain ⟨k, hk, rfl, hdone, hbox, hbw⟩ := hrel
    by_cases hlt : k < rs.length
    · obtain ⟨A, cp, x1, y1⟩ := HC.out k hlt
      have z1 := keep_cell hbw.out x1
      have Y1 := hide' (y1.keep hbw.out)
      have HR := hide' (HRR.out rs[k] (List.getElem_mem hlt))
      have HL := hide' (HLL.out rs[k] (List.getElem_mem hlt))
      have hll : (rs[k].length : Int) ≤ 1048576 := by have := HL.out; omega
      have HDS := hide' (fun h => all_take_succ hlt hdone.out h)
      have HDF := hide' (fun h => all_false_at (p := routS cl lk cd rs.length) hlt h)
      clear x1 y1
      generalize rs[k] = l at z1 Y1 HR HL HDS HDF hll
      have hfls : routS cl lk cd rs.length l = false → rs.all (routS cl lk cd rs.length) = false := HDF.out
      have HF := hide' hfls
      clear HDF hfls
      obtain ⟨b2, off2, hB1, hc2⟩ := Y1.out
      by_cases hle : l = []
      · have hrt : routS cl lk cd rs.length l = true := by rw [hle]; rfl
        have HT := hide' (HDS.out hrt)
        clear HDS hrt hc2 hB1
        subst hle
        go_wp2_with fail
        go_loopw [39] (fun i wx => i = .int .i64 0 ∧ wx = wr) (fun _ _ => 0)
        case atStart => exact ⟨rfl, rfl⟩
        case round =>
          obtain ⟨rfl, rfl⟩ := hrel
          go_wp2_with fail
          go_roundw
          case rel => exact ⟨k + 1, by omega, by go_num, HT.out, hbox.out, hbw.out⟩
          case measure => simp [intOf]; omega
      · have hB2 := hB1 hle
        subst hB2
        have HC2 := hide' (fun i (hi : i < l.length) => hc2 i l[i] (List.getElem?_eq_getElem hi))
        clear hc2 hB1 hle
        go_wp2_with fail
        go_loopw [39] (fun i wx => ∃ j : Nat, j ≤ l.length ∧ i = .int .i64 j ∧ Hid (∀ o ∈ l.take j, specOK cl lk cd rs.length l.length o = true) ∧ Hid (PBox w.heap.size cl lk cd (some ⟨b, off, none⟩) rs.length cap wx) ∧ Hid (Below w.heap.size w wx) ∧ Hid (Below wr.heap.size wr wx)) (fun i _ => l.length - (intOf i).toNat)
        case atStart => exact ⟨0, Nat.zero_le _, rfl, (fun l hl => by cases hl), hbox.out, hbw.out, Below.refl _ _⟩
        case round =>
          obtain ⟨j, hj, rfl, hdo, hbx, hbx2, hbx3⟩ := hrel
          by_cases hjl : j < l.length
          · obtain ⟨c0, c1, c2, c3⟩ := op_range (range_keep hbx3.out (HC2.out j hjl))
            have HR2 := hide' (HR.out l[j] (List.getElem_mem hjl))
            have HOS := hide' (fun h => all_take_succ (p := specOK cl lk cd rs.length l.length) hjl hdo.out h)
            have HOF := hide' (fun h => all_false_at (p := specOK cl lk cd rs.length l.length) hjl h)
            generalize l[j] = o at c0 c1 c2 c3 HR2 HOS HOF
            obtain ⟨p0, p1, p2, p3⟩ := hbx.out
            have hzx : w.heap.size < wr.heap.size := World.block_lt_of_cell? wr _ p0
            obtain ⟨oc, oa, ob, os, or⟩ := o
            have HCL := hide' (fun w => l2op_any cl lk cd (some ⟨b, off, none⟩) rs.length cap l.length ⟨oc, oa, ob, os, or⟩ HR2.out w)
            cases hok : specOK cl lk cd rs.length l.length ⟨oc, oa, ob, os, or⟩
            · rw [hok] at HCL
              have hno : routS cl lk cd rs.length l = false := by unfold routS; rw [HOF.out hok]; rfl
              have HNO := hide' (HF.out hno)
              clear hok hno HOS HOF
              go_wp2_with (go_at_call 25; refine (HCL.out _).mono ?_; rintro e w1 ⟨rfl, hb1⟩)
              go_ret
              exact ⟨by rw [HNO.out]; rfl, (hbx2.out.up _).trans (hb1.mono (by simp; omega))⟩
            · rw [hok] at HCL
              have HO := hide' (HOS.out hok)
              clear hok HOS HOF
              go_wp2_with (go_at_call 25; refine (HCL.out _).mono ?_; rintro e w1 ⟨rfl, hb1⟩)
              go_roundw
              case rel => exact ⟨j + 1, by omega, by go_num, HO.out, hbx.out.keep (((Below.refl _ _).up _).trans (hb1.mono (by simp))), (hbx2.out.up _).trans (hb1.mono (by simp; omega)), (hbx3.out.up _).trans (hb1.mono (by have := hbx3.out.size; simp; omega))⟩
              case measure => simp [intOf]; omega
          · have hje : j = l.length := by omega
            subst hje
            have hall := all_take_all hdo.out
            by_cases h24 : l.length ≤ 24
            · have hrt : routS cl lk cd rs.length l = true := by unfold routS; rw [hall, decide_eq_true h24]; rfl
              have HT := hide' (HDS.out hrt)
              have h24' : (l.length : Int) ≤ 24 := by omega
              clear HDS hrt hall h24
              go_wp2_with fail
              go_roundw
              case rel => exact ⟨k + 1, by omega, by go_num, HT.out, hbx.out, hbx2.out⟩
              case measure => simp [intOf]; omega
            · have hno : routS cl lk cd rs.length l = false := by unfold routS; rw [decide_eq_false h24]; simp
              have h24' : (24 : Int) < l.length := by omega
              have HNO := hide' (HF.out hno)
              clear hno hall h24
              go_wp2_with fail
              go_ret
              exact ⟨by rw [HNO.out]; rfl, hbx2.out⟩
    · have hke : k = rs.length := by omega
      subst hke
      have HNO := hide' (all_take_all hdone.out)
      go_wp2_with fail
      go_ret
      exact ⟨by rw [HNO.out]; rfl, hbw.out⟩
end Go.Proofs.YtddapifljinjeaaDoor
