/- Schedules by rank: whether one is good, both sides. -/
import Derived.Test.YtnmbkiajkpcmnaaDoorPe
import Derived.Test.YtnmbkiajkpcmnaaDoorShelf
import Derived.Sort.OwnSortedInts
namespace Go.Proofs.YtnmbkiajkpcmnaaDoor
open Go.RowKit
open Rd Fl

theorem holdsE {w : World} {g : Nat} {e : TypeId} {cur : Array Value} {l : List Int} (hb : w.heap[g]? = some (.cells cur e (0, 0))) (ht : cur.toList.take (l.length * 1) = l.map iv) : Sort.Holds (Value.int .i64) w g 0 l.toArray := by
  intro j hj
  have hj' : j < l.length := by simpa using hj
  refine ⟨?_, by simp [World.frozen?, hb]⟩
  have h1 : (cur.toList.take (l.length * 1))[j]? = (l.map iv)[j]? := by rw [ht]
  rw [List.getElem?_take_of_lt (by omega)] at h1
  simp only [World.cell?, hb, Nat.zero_add]
  simp only [Option.isSome_none, Bool.false_eq_true, if_false]
  rw [← Array.getElem?_toList, h1]
  simp [hj', iv]
theorem sortrow_any (l : List Int) (e : TypeId) (B g cap : Nat) (hl : l.length ≤ 1000) (w : World) (h : w.ownsRow B e 1 (.slice (some ⟨g, 0, none⟩) l.length cap) l.length (l.map iv)) :
    Calls Tryd.prog 31 #[.slice (some ⟨g, 0, none⟩) l.length cap] w fun en w' => en = .returned (.tuple #[]) ∧ w'.ownsRow B e 1 (.slice (some ⟨g, 0, none⟩) l.length cap) l.length ((l.mergeSort fun x y => decide (x ≤ y)).map iv) ∧ w.grownBy w' (some g) := by
  rcases h.2 with ⟨h0, -⟩ | ⟨g', cap', cur, h0, hb, hg, h1, h2, h3, h4⟩
  · cases h0
  · cases h0
    refine (Tryd.slices_Sort_int g 0 cap l w (holdsE hg h4) (Array.getElem?_eq_some_iff.1 hg).1 (by omega)).mono ?_
    rintro en w' ⟨rfl, nn, os, rfl⟩
    exact ⟨rfl, ownsRow_sortedI (List.length_mergeSort l) hb hg h1 h2 h3, grownBy_sortedI _⟩

theorem l1has_take (b off : Nat) (l : List Int) (cap k : Nat) (hk : k ≤ l.length) (n : Int) (hl : l.length ≤ 1048576) (w : World) (hc : ∀ i x, l[i]? = some x → w.cell? ⟨b, off + i, none⟩ = some (iv x)) :
    Calls Tryd.prog 28 #[.slice (some ⟨b, off, none⟩) k cap, .int .i64 n] w fun e w' => e = .returned (.bool (decide (n ∈ l.take k))) ∧ w' = w := by
  have h := l1has_any (some ⟨b, off, none⟩) (l.take k) cap n (by rw [List.length_take]; omega) w ⟨b, off, fun _ => rfl, fun i x hi => hc i x (by
    have hil := (List.getElem?_eq_some_iff.1 hi).1
    rw [List.length_take] at hil
    rw [List.getElem?_take_of_lt (by omega)] at hi
    exact hi)⟩
  rw [List.length_take, Nat.min_eq_left hk] at h
  exact h

theorem newR_of {l : List Int} {k : Nat} {x : Int} (h : k < l.length) (hx : l[k] = x) : newR l k = !(decide (x ∈ l.take k)) := by
  unfold newR
  rw [getD_at h, hx]
  congr 1
  rw [Bool.eq_iff_iff, List.contains_iff_mem, decide_eq_true_eq]
theorem once_len {r : List Int} (h : ¬ r.length = 5) : onceB r = false := by unfold onceB; rw [decide_eq_false h]; rfl
theorem once_all {r : List Int} (h : r.all (inC 0 4) = false) : onceB r = false := by unfold onceB; rw [h]; simp
theorem once_new {r : List Int} {k : Nat} {x : Int} (h : k < r.length) (hx : r[k] = x) (hn : decide (x ∈ r.take k) = true) : onceB r = false := by
  unfold onceB
  rw [range_no h (by rw [newR_of h hx, hn]; rfl)]
  simp
theorem once_yes {r : List Int} (h5 : r.length = 5) (h : r.all (inC 0 4) = true) (hn : ∀ i, i < r.length → newR r i = true) : onceB r = true := by
  unfold onceB
  rw [decide_eq_true h5, h, range_all hn]; rfl
theorem goodC_once {r c : List Int} (h : onceB r = false) : goodC r c = false := by unfold goodC; rw [h]; rfl
theorem goodC_many {r c : List Int} (h : onceB r = true) (hc : ¬ c.length ≤ 4) : goodC r c = false := by unfold goodC; rw [h, decide_eq_false hc]; rfl
theorem goodC_ris {r c : List Int} (h : onceB r = true) (hc : c.length ≤ 4) : goodC r c = risB c := by unfold goodC; rw [h, decide_eq_true hc]; rfl

set_option maxRecDepth 20000 in
set_option maxHeartbeats 2000000 in
theorem sgoodpct_any (A B : Option Addr) (r c : List Int) (ca cb : Nat) (hr : r.length ≤ 1048576) (hc : c.length ≤ 1048576) (hca : r.length ≤ ca) (hcm : ca ≤ 1048576) (w : World) (hA : LAt iv w A r) (hB : LAt iv w B c) :
    Calls Tryd.prog 15 #[.agg #[.slice A r.length ca, .slice B c.length cb]] w fun e w' => e = .returned (.bool (goodC r c)) ∧ Below w.heap.size w w' := by
  have hr' : (r.length : Int) ≤ 1048576 := by omega
  have hc' : (c.length : Int) ≤ 1048576 := by omega
  have hca' : (r.length : Int) ≤ ca := by omega
  have hcm' : (ca : Int) ≤ 1048576 := by omega
  have hbw : Below w.heap.size w (w.alloc (.cells #[.slice A r.length ca, .slice B c.length cb] 28)) := (Below.refl _ w).up _
  by_cases h5 : r.length = 5
  · have h5' : (r.length : Int) = 5 := by omega
    have HALL := hide' (fun w h => l1allc_any A r ca 0 4 hr w h)
    have HRIS := hide' (fun w h => l1rising_any B c cb hc w h)
    have HAA := hide' (hA.keep hbw)
    have HBB := hide' (hB.keep hbw)
    have HL := hide' h5
    obtain ⟨p0, p1⟩ := cbox_new w A B r.length ca c.length cb 28
    have HBW := hide' hbw
    cases hall : r.all (inC 0 4) with
    | false =>
      have HO := hide' (goodC_once (c := c) (once_all hall))
      rw [hall] at HALL
      clear hA hB hr hc hca hcm hbw h5
      go_enter Tryd.func15, Tryd.ntmps15
      go_wp2_with (go_at_call 27; refine (HALL.out _ HAA.out).mono ?_; rintro e w' ⟨rfl, rfl⟩)
      go_ret
      exact ⟨by rw [HO.out]; rfl, HBW.out⟩
    | true =>
      rw [hall] at HALL
      have HAL := hide' hall
      obtain ⟨b, off, hA1, hcl⟩ := HAA.out
      have hAe := hA1 (fun e => by rw [e] at h5; cases h5)
      subst hAe
      have HCL := hide' hcl
      have HIN := hide' (fun (k : Nat) (hk : k ≤ r.length) (n : Int) w hw => l1has_take b off r ca k hk n hr w hw)
      have HCA := hide' hca
      clear hA hB hr hc hca hcm hbw h5 hcl hA1 hall
      have HG := hide' (fun (x : Int) (h : onceB r = false) => goodC_once (c := c) h)
      have HNW := hide' (fun (k : Nat) (x : Int) (h : k < r.length) (hx : r[k] = x) => once_new h hx)
      have HNR := hide' (fun (k : Nat) (x : Int) (h : k < r.length) (hx : r[k] = x) => newR_of h hx)
      have HYS := hide' (fun hn => once_yes HL.out HAL.out hn)
      have HMY := hide' (fun (h : onceB r = true) (h2 : ¬ c.length ≤ 4) => goodC_many h h2)
      have HRS := hide' (fun (h : onceB r = true) (h2 : c.length ≤ 4) => goodC_ris h h2)
      go_enter Tryd.func15, Tryd.ntmps15
      go_wp2_with (go_at_call 27; refine (HALL.out _ HAA.out).mono ?_; rintro e w' ⟨rfl, rfl⟩)
      go_loop [18] (fun i => ∃ k : Nat, k ≤ r.length ∧ i = .int .i64 k ∧ Hid (∀ i, i < k → newR r i = true)) (fun i => r.length - (intOf i).toNat)
      case atStart => exact ⟨0, Nat.zero_le _, rfl, fun i hi => by omega⟩
      case round =>
        obtain ⟨k, hk, rfl, hlow⟩ := hrel
        by_cases hlt : k < r.length
        · have c0 := HCL.out k r[k] (List.getElem?_eq_getElem hlt)
          unfold iv at c0
          have hk' : (k : Int) < r.length := by omega
          have hkc : k ≤ ca := by have := HCA.out; omega
          have hkc' : (k : Int) ≤ ca := by omega
          generalize hx : r[k] = x at c0
          have HX := hide' hx
          clear hx
          have HC2 := hide' (HIN.out k hk x _ HCL.out)
          by_cases hm : decide (x ∈ r.take k) = true
          · have HM := hide' (HG.out x (HNW.out k x hlt HX.out hm))
            rw [hm] at HC2
            go_wp2_with (go_at_call 28; refine HC2.out.mono ?_; rintro e w' ⟨rfl, rfl⟩)
            go_ret
            exact ⟨by rw [HM.out]; rfl, HBW.out⟩
          · have hm' : decide (x ∈ r.take k) = false := by simpa using hm
            have HM := hide' (show newR r k = true by rw [HNR.out k x hlt HX.out, hm']; rfl)
            rw [hm'] at HC2
            clear hm hm'
            go_wp2_with (go_at_call 28; refine HC2.out.mono ?_; rintro e w' ⟨rfl, rfl⟩)
            go_round
            case rel =>
              refine ⟨k + 1, by omega, by go_num, fun i hi => ?_⟩
              by_cases hik : i = k
              · subst hik; exact HM.out
              · exact hlow.out i (by omega)
            case measure => simp [intOf]; omega
        · have hke : k = r.length := by omega
          subst hke
          have HO := hide' (HYS.out hlow.out)
          by_cases h4 : c.length ≤ 4
          · have h4' : decide ((c.length : Int) ≤ 4) = true := decide_eq_true (by omega)
            have h4'' : (c.length : Int) ≤ 4 := by omega
            have HR := hide' (HRS.out HO.out h4)
            clear h4
            go_wp2_with (go_at_call 29; refine (HRIS.out _ HBB.out).mono ?_; rintro e w' ⟨rfl, hb1⟩)
            go_ret
            exact ⟨by rw [HR.out]; rfl, HBW.out.trans (hb1.mono HBW.out.size)⟩
          · have h4' : decide ((c.length : Int) ≤ 4) = false := decide_eq_false (by omega)
            have h4'' : ¬ (c.length : Int) ≤ 4 := by omega
            have HR := hide' (HMY.out HO.out h4)
            clear h4
            go_wp2_with fail
            go_ret
            exact ⟨by rw [HR.out]; rfl, HBW.out⟩
  · have h5' : ¬ (r.length : Int) = 5 := by omega
    have HO := hide' (goodC_once (c := c) (once_len h5))
    clear hA hB hr hc hca hcm h5
    go_enter Tryd.func15, Tryd.ntmps15
    go_wp2_with fail
    go_ret
    exact ⟨by rw [HO.out]; rfl, hbw⟩
end Go.Proofs.YtnmbkiajkpcmnaaDoor
