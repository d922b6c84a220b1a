/- The specification's table of what comes ahead of what, walked. -/
import Derived.Test.YtbaknjfaplmaiaaQm
namespace Go.Proofs.Ytbaknjfaplmaiaa
open Go.RowKit
open Rd Fl

set_option maxRecDepth 20000 in
set_option maxHeartbeats 8000000 in
theorem l6ahead_any (A : Option Addr) (l : List EvD) (cap : Nat) (hg : goodTr l = true) (hne : l ≠ []) (w : World) (hA : EvsAt w A l) :
    Calls Try.prog 23 #[.slice A l.length cap] w fun e w' => ∃ g, e = .returned (.slice (some ⟨g, 0, none⟩) l.length l.length) ∧ MatO w w' l g l.length l.length := by
  have h200 := good_len hg
  have hn' : (l.length : Int) ≤ 200 := by omega
  have hmk := make_bools l.length (by omega)
  have hmk2 := make_boolss l.length (by omega)
  have HRB := hide' (fun (i j : Nat) (hi : i < l.length) (hj : j < l.length) w => (show Calls Try.prog 44 _ w _ from by rw [rgt_get hi hj]; exact (right_both l[i] l[j] (good_ev hg hi) (good_ev hg hj) w).1 : Calls Try.prog 44 #[.agg #[.int .i64 l[i].th, .int .i64 l[i].kd, .int .i64 l[i].ob, .int .i64 l[i].lk, .int .i64 l[i].pc], .agg #[.int .i64 l[j].th, .int .i64 l[j].kd, .int .i64 l[j].ob, .int .i64 l[j].lk, .int .i64 l[j].pc]] w fun r w' => r = .returned (.bool (rgt l i j)) ∧ Below w.heap.size w w'))
  obtain ⟨b, off, hA1, hc⟩ := hA
  have hA2 := hA1 hne
  subst hA2
  have HCE := hide' (fun i (hi : i < l.length) => hc i l[i] (List.getElem?_eq_getElem hi))
  have HM0 := hide' (show MatO w (w.alloc (.cells (madeCells #[.slice none 0 0] l.length) 48)) l w.heap.size l.length 0 from ⟨(Below.refl _ w).up _, Nat.le_refl _, made_there w _ _ _, (fun j hj => by omega), by simp⟩)
  clear hc hA1 hg hne
  go_enter Try.func23, Try.ntmps23
  go_wp2
  generalize hg : w.heap.size = g at HM0
  go_loopw [13] (fun i wr => ∃ (j : Nat), j ≤ l.length ∧ i = .int .i64 j ∧ Hid (MatO w wr l g l.length j)) (fun i _ => l.length - (intOf i).toNat)
  case atStart => exact ⟨0, Nat.zero_le _, rfl, HM0.out⟩
  case round =>
    clear HM0
    obtain ⟨j, hj, rfl, hrnd⟩ := hrel
    by_cases hlt : j < l.length
    · have hj2 : (j : Int) < l.length := by omega
      obtain ⟨x0, y0⟩ := there_keep ((Below.refl _ wr).up (.cells (madeCells #[.bool false] l.length) 4)) hrnd.out.t j hlt
      obtain ⟨x1, y1⟩ := Option.isSome_iff_exists.1 x0
      rw [Nat.zero_add] at y0 y1
      go_wp2_with fail
      have HC0 := hide' (hrnd.out.row hlt)
      have HXJ := hide' (HCE.out j hlt)
      generalize hR : wr.heap.size = R at HC0
      clear hrnd x0 x1 y0 y1
      go_loopw [5] (fun i wr => ∃ (k : Nat), k ≤ j ∧ i = .int .i64 k ∧ Hid (MatC w wr l g l.length j R (pah l j k))) (fun i _ => j - (intOf i).toNat)
      case atStart => exact ⟨0, Nat.zero_le _, rfl, HC0.out⟩
      case round =>
        clear HC0 hR
        obtain ⟨i, hi, rfl, hrnd⟩ := hrel
        by_cases hil : i < j
        · have hi2 : (i : Int) < j := by omega
          have hi3 : (i : Int) < l.length := by omega
          obtain ⟨c0, c1, c2, c3, c4⟩ := ev_range (range_keep hrnd.out.b (HCE.out i (by omega)))
          obtain ⟨d0, d1, d2, d3, d4⟩ := ev_range (range_keep hrnd.out.b (HCE.out j hlt))
          have HCL := hide' (HRB.out i j (by omega) hlt)
          have HPN := hide' (fun h => hrnd.out.cong (f' := pah l j (i + 1)) (fun k _ => (pah_no (l := l) (j := j) (i := i) h k).symm))
          have HMS := hide' (fun h k x => mah_step (l := l) (j := j) (i := i) h k x)
          generalize hx : l[i] = x at c0 c1 c2 c3 c4 HCL
          generalize hy : l[j] = y at d0 d1 d2 d3 d4 HCL
          clear hx hy
          obtain ⟨r0, r1, r2, r3, r4⟩ := x
          obtain ⟨s0, s1, s2, s3, s4⟩ := y
          simp only at c0 c1 c2 c3 c4 d0 d1 d2 d3 d4 HCL
          generalize hpg : rgt l i j = gb at HCL HPN HMS
          clear hpg
          go_wp2_with fail
          go_cut [36] (fun t wx => t = .bool (!gb) ∧ Hid (Below wr.heap.size wr wx))
          case first =>
            go_region_with (go_at_call 44; refine (HCL.out _).mono ?_; rintro e w3 ⟨rfl, hb3⟩)
            all_goals
              go_wp2_with fail
              go_meet
              exact ⟨rfl, first_below (Below.refl _ _) hb3⟩
          case rest =>
            obtain ⟨rfl, B5⟩ := hcut
            clear c0 c1 c2 c3 c4 d0 d1 d2 d3 d4 HCL
            cases gb
            · have HE := hide' ((HPN.out rfl).keep B5.out)
              clear HPN HMS hrnd B5
              go_wp2_with fail
              go_roundw
              case rel => exact ⟨i + 1, by omega, by go_num, HE.out⟩
              case measure => simp [intOf]; omega
            · have R5 := hide' (hrnd.out.keep B5.out)
              have HMS2 := hide' (HMS.out rfl)
              clear HPN HMS hrnd B5
              have e0 := R5.out.c
              obtain ⟨e1, e2⟩ := R5.out.th i (by omega)
              rw [Nat.zero_add] at e1 e2
              obtain ⟨e3, e4⟩ := Option.isSome_iff_exists.1 e1
              have R6 := hide' ((R5.out.set i (by omega) true).cong (f' := mah l j i 0) (fun k _ => by rw [mah_zero]; by_cases e : k = i <;> simp [e]))
              obtain ⟨Q, q1, q2, q3, q4⟩ := R6.out.r i hil
              go_wp2_with fail
              have Q6 := hide' (show ∀ x, x < l.length → (wc.setCell ⟨R, i, none⟩ (.bool true)).cell? ⟨Q, x, none⟩ = some (.bool (ahB l x i)) from q4)
              clear e0 e1 e2 e3 e4 q3 q4 R5
              go_loopw [48] (fun i' wr => ∃ (k : Nat), k ≤ l.length ∧ i' = .int .i64 k ∧ Hid (MatC w wr l g l.length j R (mah l j i k)) ∧ Hid (∀ x, x < l.length → wr.cell? ⟨Q, x, none⟩ = some (.bool (ahB l x i)))) (fun i' _ => l.length - (intOf i').toNat)
              case atStart => exact ⟨0, Nat.zero_le _, rfl, R6.out, Q6.out⟩
              case round =>
                clear R6 Q6
                obtain ⟨k, hk, rfl, hrnd, hq⟩ := hrel
                by_cases hkl : k < l.length
                · have hk2 : (k : Int) < l.length := by omega
                  have f0 := hq.out k hkl
                  have f1 := hrnd.out.c
                  have f2 := hrnd.out.f k hkl
                  have f3 := (hrnd.out.th k hkl).2
                  rw [Nat.zero_add] at f3
                  have HE := hide' (fun v (hv : v = (mah l j i k k || ahB l k i)) => (hrnd.out.set k hkl v).cong (f' := mah l j i (k + 1)) (fun x _ => by rw [HMS2.out k x, hv]))
                  have HQ := hide' (fun (v : Value) x (hx : x < l.length) => show (wr.setCell ⟨R, k, none⟩ v).cell? ⟨Q, x, none⟩ = some (.bool (ahB l x i)) by rw [World.cell?_setCell_other _ _ _ _ (by simp <;> omega)]; exact hq.out x hx)
                  generalize mah l j i k k = u at f2 HE
                  generalize ahB l k i = v at f0 HE
                  cases u
                  · have HE2 := hide' (HE.out v (by simp))
                    clear HE hrnd hq
                    go_wp2_with fail
                    go_region
                    go_wp2_with fail
                    go_roundw
                    case rel => exact ⟨k + 1, by omega, by go_num, HE2.out.keep (Below.refl _ _).drew, fun x hx => HQ.out _ x hx⟩
                    case measure => simp [intOf]; omega
                  · have HE2 := hide' (HE.out true (by simp))
                    clear HE hrnd hq
                    go_wp2_with fail
                    go_region
                    go_wp2_with fail
                    go_roundw
                    case rel => exact ⟨k + 1, by omega, by go_num, HE2.out.keep (Below.refl _ _).drew, fun x hx => HQ.out _ x hx⟩
                    case measure => simp [intOf]; omega
                · have hke : k = l.length := by omega
                  subst hke
                  have HE := hide' (hrnd.out.cong (f' := pah l j (i + 1)) (fun x hx => mah_full l j i l.length x hx))
                  clear hrnd hq
                  go_wp2_with fail
                  go_roundw
                  case rel => exact ⟨i + 1, by omega, by go_num, HE.out⟩
                  case measure => simp [intOf]; omega
        · have hie : i = j := by omega
          subst hie
          have HE := hide' (hrnd.out.out (fun k _ => pah_full l i k))
          clear hrnd
          go_wp2_with fail
          go_roundw
          case rel => exact ⟨i + 1, by omega, by go_num, HE.out⟩
          case measure => simp [intOf]; omega
    · have hke : j = l.length := by omega
      subst hke
      go_wp2_with fail
      go_ret
      exact ⟨g, by rw [← hg]; rfl, hrnd.out⟩
end Go.Proofs.Ytbaknjfaplmaiaa
