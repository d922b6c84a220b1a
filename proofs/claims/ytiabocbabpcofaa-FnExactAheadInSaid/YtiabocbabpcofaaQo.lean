/- impl.wayLeads: steps from place to place. -/
import Derived.Test.YtiabocbabpcofaaQm
namespace Go.Proofs.Ytiabocbabpcofaa
open Go.RowKit
open Rd Fl

/-- x is f, or a step leads to it from a place below a that f leads to -/
def way (l : List EvD) (f a x : Nat) : Bool := decide (x = f) || (List.range a).any fun m => (decide (m = f) || ahB l f m) && (rgt l m x && decide (m < x))
theorem way_succ (l : List EvD) (f a x : Nat) : way l f (a + 1) x = (way l f a x || ((decide (a = f) || ahB l f a) && (rgt l a x && decide (a < x)))) := by
  unfold way
  rw [List.range_succ, List.any_append]
  simp [Bool.or_assoc]
theorem way_start (l : List EvD) (f x : Nat) : way l f f x = decide (x = f) := by
  unfold way
  have : ((List.range f).any fun m => (decide (m = f) || ahB l f m) && (rgt l m x && decide (m < x))) = false := by
    rw [List.any_eq_false]
    intro m hm h
    have hmf := List.mem_range.1 hm
    rw [Bool.and_eq_true, Bool.or_eq_true, decide_eq_true_eq] at h
    rcases h.1 with h | h
    · omega
    · have := ahB_lt l f m h; omega
  rw [this, Bool.or_false]
theorem way_self (l : List EvD) (f a : Nat) : way l f a a = (decide (a = f) || ahB l f a) := by
  unfold way
  congr 1
  rw [Bool.eq_iff_iff, ahB_iff, List.any_eq_true]
  constructor
  · rintro ⟨m, hm, h⟩
    rw [Bool.and_eq_true, Bool.and_eq_true, Bool.or_eq_true, decide_eq_true_eq] at h
    exact ⟨m, List.mem_range.1 hm, h.2.1, h.1.imp Eq.symm id⟩
  · rintro ⟨m, hm, h1, h2⟩
    refine ⟨m, List.mem_range.2 hm, ?_⟩
    rw [Bool.and_eq_true, Bool.and_eq_true, Bool.or_eq_true, decide_eq_true_eq, decide_eq_true_eq]
    exact ⟨h2.imp Eq.symm id, h1, hm⟩
theorem way_no {l : List EvD} {f a : Nat} (h : way l f a a = false) (x : Nat) : way l f (a + 1) x = way l f a x := by
  rw [way_self] at h
  rw [way_succ, h]; simp
theorem way_low {l : List EvD} {f a x : Nat} (h : x ≤ a) : way l f (a + 1) x = way l f a x := by
  rw [way_succ, decide_eq_false (show ¬ a < x by omega)]; simp
theorem way_yes {l : List EvD} {f a x : Nat} (h : way l f a a = true) (hx : a < x) : way l f (a + 1) x = (way l f a x || rgt l a x) := by
  rw [way_self] at h
  rw [way_succ, h, decide_eq_true hx]; simp

/-- 200 bools in a block of their own -/
structure WayC (w wr : World) (R : Nat) (F : Nat → Bool) : Prop where
  b : Below w.heap.size w wr
  th : wr.there R 0 200
  f : ∀ k, k < 200 → wr.cell? ⟨R, k, none⟩ = some (.bool (F k))
  r : w.heap.size ≤ R
theorem WayC.keep {w wr wy : World} {R : Nat} {F : Nat → Bool} (h : WayC w wr R F) (hb : Below wr.heap.size wr wy) : WayC w wy R F :=
  ⟨h.b.trans (hb.mono h.b.size), there_keep hb h.th, fun k hk => keep_cell hb (h.f k hk), h.r⟩
theorem WayC.set {w wr : World} {R : Nat} {F : Nat → Bool} (h : WayC w wr R F) (k : Nat) (hk : k < 200) (v : Bool) : WayC w (wr.setCell ⟨R, k, none⟩ (.bool v)) R (fun x => if x = k then v else F x) := by
  have hr := h.r
  refine ⟨h.b.setCell (p := ⟨R, k, none⟩) (by show w.heap.size ≤ R; omega) _, there_set h.th _ _ _, fun x hx => ?_, h.r⟩
  by_cases e : x = k
  · subst e
    rw [World.cell?_setCell_same _ _ _ (h.f x hk), if_pos rfl]
  · rw [World.cell?_setCell_other _ _ _ _ (by simp <;> omega), if_neg e]
    exact h.f x hx

theorem zero200 : (Try.prog.info? 60).bind (·.zero) = some (.agg ((List.replicate 200 false).map Value.bool).toArray) := by kernel_rfl
theorem zerosB : ∃ z : List Bool, z.length = 200 ∧ (∀ k, k < 200 → z[k]? = some false) ∧ ∀ w, (zeroValue 60).run Try.prog w = .ok (.agg (z.map Value.bool).toArray) w := by
  refine ⟨List.replicate 200 false, List.length_replicate, fun k hk => by rw [List.getElem?_replicate, if_pos hk], fun w => ?_⟩
  have h0 := zero200
  generalize List.replicate 200 false = z at *
  cases hi : Try.prog.info? 60 with
  | none => rw [hi] at h0; cases h0
  | some i =>
    have h3 : i.zero = some (.agg (z.map Value.bool).toArray) := by rw [hi] at h0; exact h0
    simp [zeroValue, typeInfo, hi, h3]
theorem way_new (w : World) (z : List Bool) (hf : ∀ k, k < 200 → z[k]? = some false) (t : TypeId) : WayC w (w.alloc (.cells (z.map Value.bool).toArray t)) w.heap.size (fun _ => false) := by
  have hc : ∀ k, k < 200 → (w.alloc (.cells (z.map Value.bool).toArray t)).cell? ⟨w.heap.size, k, none⟩ = some (.bool false) := by
    intro k hk
    rw [World.cell?_alloc_new]
    simp [hf k hk]
  refine ⟨(Below.refl _ w).up _, fun k hk => ⟨by rw [Nat.zero_add, hc k hk]; rfl, World.frozen?_alloc_new _ _ _ _⟩, hc, Nat.le_refl _⟩

set_option maxRecDepth 20000 in
set_option maxHeartbeats 16000000 in
theorem wayleads_any (A : Option Addr) (l : List EvD) (cap : Nat) (hg : goodTr l = true) (f t : Nat) (hft : f < t) (ht : t < l.length) (w : World) (hA : EvsAt w A l) :
    Calls Try.prog 42 #[.slice A l.length cap, .int .i64 (f : Int), .int .i64 (t : Int)] w fun e w' => e = .returned (.bool (ahB l f t)) ∧ Below w.heap.size w w' := by
  obtain ⟨z, hz, hzf, hzz⟩ := zerosB
  have h200 := good_len hg
  have hn' : (l.length : Int) ≤ 200 := by omega
  have hf2 : (f : Int) < 200 := by omega
  have ht2 : (t : Int) < 200 := by omega
  have W0 := hide' (way_new w z hzf 60)
  obtain ⟨v0, v1⟩ := W0.out.th f (by omega)
  rw [Nat.zero_add] at v0 v1
  obtain ⟨v2, v3⟩ := Option.isSome_iff_exists.1 v0
  have W1 := hide' (W0.out.set f (by omega) true)
  rw [World.setCell_alloc_at _ _ _ _ _ rfl] at W1
  have HR := hide' (fun (i j : Nat) (hi : i < l.length) (hj : j < l.length) w => (show Calls Try.prog 37 _ w _ from by rw [rgt_get hi hj]; exact (right_both l[i] l[j] (good_ev hg hi) (good_ev hg hj) w).2 : Calls Try.prog 37 #[.agg #[.int .i64 l[i].th, .int .i64 l[i].kd, .int .i64 l[i].ob, .int .i64 l[i].lk, .int .i64 l[i].pc], .agg #[.int .i64 l[j].th, .int .i64 l[j].kd, .int .i64 l[j].ob, .int .i64 l[j].lk, .int .i64 l[j].pc]] w fun r w' => r = .returned (.bool (rgt l i j)) ∧ Below w.heap.size w w'))
  have HWS := hide' (way_start l f)
  have HWE := hide' (show way l f t t = ahB l f t by rw [way_self, decide_eq_false (show ¬ t = f by omega), Bool.false_or])
  have HWN := hide' (fun a h x => way_no (l := l) (f := f) (a := a) h x)
  have HWL := hide' (fun a x h => way_low (l := l) (f := f) (a := a) (x := x) h)
  have HWY := hide' (fun a x h hx => way_yes (l := l) (f := f) (a := a) (x := x) h hx)
  obtain ⟨b, off, hA1, hc⟩ := hA
  have hA2 := hA1 (by intro h; rw [h] at ht; simp at ht)
  subst hA2
  have HCE := hide' (fun i (hi : i < l.length) => hc i l[i] (List.getElem?_eq_getElem hi))
  clear hc hA1 hg hz hzf W0 v0
  generalize (z.map Value.bool).toArray = arr at *
  generalize ahB l f t = res at HWE
  go_enter Try.func42, Try.ntmps42
  go_wp2_with fail
  generalize hR : w.heap.size = R at W1
  go_loopw [8] (fun i wr => ∃ (a : Nat) (F : Nat → Bool), f ≤ a ∧ a ≤ t ∧ i = .int .i64 a ∧ Hid (WayC w wr R F) ∧ Hid (∀ x, x ≤ t → F x = way l f a x)) (fun i _ => t - (intOf i).toNat)
  case atStart => exact ⟨f, _, Nat.le_refl _, by omega, rfl, W1.out, (fun x _ => by rw [HWS.out]; by_cases e : x = f <;> simp [e])⟩
  case round =>
    clear W1 v1 v2 v3
    obtain ⟨a, F, ha1, ha2, rfl, hw, hF⟩ := hrel
    by_cases hlt : a < t
    · have ha3 : (a : Int) < t := by omega
      have ha4 : (a : Int) < 200 := by omega
      have f0 := hw.out.f a (by omega)
      have hFa := hF.out a ha2
      have HWNa := hide' (HWN.out a)
      have HWYa := hide' (fun x => HWY.out a x)
      rw [← hFa] at HWNa HWYa
      generalize F a = g at f0 HWNa HWYa
      cases g
      · have HE := hide' (fun x (hx : x ≤ t) => (hF.out x hx).trans (HWNa.out rfl x).symm)
        go_wp2_with fail
        go_roundw
        case rel => exact ⟨a + 1, F, by omega, by omega, by go_num, hw.out, HE.out⟩
        case measure => simp [intOf]; omega
      · have HWT := hide' (HWYa.out · rfl)
        clear HWNa HWYa
        have HM0 := hide' (show ∀ x, x ≤ t → F x = if x < a + 1 then way l f (a + 1) x else way l f a x from fun x hx => by
          by_cases e : x < a + 1
          · rw [if_pos e, HWL.out a x (by omega)]; exact hF.out x hx
          · rw [if_neg e]; exact hF.out x hx)
        have HA1 := hide' (show a < l.length by omega)
        have HW0 := hw
        clear hFa hF hw
        go_wp2_with fail
        go_loopw [9] (fun i wr => ∃ (x : Nat) (F : Nat → Bool), a + 1 ≤ x ∧ x ≤ t + 1 ∧ i = .int .i64 x ∧ Hid (WayC w wr R F) ∧ Hid (∀ y, y ≤ t → F y = if y < x then way l f (a + 1) y else way l f a y)) (fun i _ => t + 1 - (intOf i).toNat)
        case atStart => exact ⟨a + 1, F, Nat.le_refl _, by omega, by simp, HW0.out, HM0.out⟩
        case round =>
          clear HW0 HM0 f0
          obtain ⟨x, G, hx1, hx2, rfl, hw, hG⟩ := hrel
          by_cases hxt : x ≤ t
          · have hx3 : (x : Int) ≤ t := by omega
            have hx4 : (x : Int) < 200 := by omega
            have hx5 : (x : Int) < l.length := by omega
            have ha5 : (a : Int) < l.length := by omega
            have f0 := hw.out.f x (by omega)
            have f1 := (hw.out.th x (by omega)).2
            rw [Nat.zero_add] at f1
            have hGx := hG.out x hxt
            rw [if_neg (by omega)] at hGx
            have HWTx := hide' (HWT.out x (by omega))
            have HE := hide' (fun v (hv : v = way l f (a + 1) x) => (show ∀ y, y ≤ t → (if y = x then v else G y) = if y < x + 1 then way l f (a + 1) y else way l f a y from fun y hy => by
              by_cases e : y = x
              · subst e
                rw [if_pos rfl, if_pos (by omega), hv]
              · rw [if_neg e, hG.out y hy]
                by_cases e2 : y < x
                · rw [if_pos e2, if_pos (by omega)]
                · rw [if_neg e2, if_neg (by omega)]))
            rw [← hGx] at HWTx
            have HS := hide' (fun v => hw.out.set x (by omega) v)
            generalize G x = u at f0 HWTx
            clear hGx
            cases u
            · obtain ⟨c0, c1, c2, c3, c4⟩ := ev_range (range_keep hw.out.b (HCE.out a HA1.out))
              obtain ⟨d0, d1, d2, d3, d4⟩ := ev_range (range_keep hw.out.b (HCE.out x (by omega)))
              have HCL := hide' (HR.out a x HA1.out (by omega))
              generalize l[a] = ea at c0 c1 c2 c3 c4 HCL
              generalize l[x] = eb at d0 d1 d2 d3 d4 HCL
              obtain ⟨r0, r1, r2, r3, r4⟩ := ea
              obtain ⟨s0, s1, s2, s3, s4⟩ := eb
              simp only at c0 c1 c2 c3 c4 d0 d1 d2 d3 d4 HCL
              rw [Bool.false_or] at HWTx
              have HE2 := hide' (HE.out _ HWTx.out.symm)
              have HWK := hide' (fun (wy : World) (hb : Below wr.heap.size wr wy) => (hw.out.keep hb))
              generalize rgt l a x = gr at HCL HE2
              clear HE HWTx HS
              have HX := hide' (show x < 200 by omega)
              go_wp2_with fail
              go_region_with (go_at_call 37; refine (HCL.out _).mono ?_; rintro e w3 ⟨rfl, hb3⟩; have W3 := hide' (HWK.out _ (first_below (Below.refl _ _) hb3)); have p0 := W3.out.f x HX.out; have p1 := (W3.out.th x HX.out).2; rw [Nat.zero_add] at p1)
              all_goals
                go_wp2_with fail
                go_roundw
                case rel => exact ⟨x + 1, _, by omega, by omega, by go_num, W3.out.set x HX.out gr, HE2.out⟩
                case measure => simp [intOf]; omega
            · have HE2 := hide' (HE.out true (by rw [HWTx.out, Bool.true_or]))
              have HS2 := hide' (HS.out true)
              clear HE HWTx HS hw hG
              go_wp2_with fail
              go_region
              go_wp2_with fail
              go_roundw
              case rel => exact ⟨x + 1, _, by omega, by omega, by go_num, HS2.out.keep (Below.refl _ _).drew, HE2.out⟩
              case measure => simp [intOf]; omega
          · have hxe : x = t + 1 := by omega
            subst hxe
            have HE := hide' (fun y (hy : y ≤ t) => (hG.out y hy).trans (if_pos (by omega)))
            go_wp2_with fail
            go_roundw
            case rel => exact ⟨a + 1, G, by omega, by omega, by go_num, hw.out, HE.out⟩
            case measure => simp [intOf]; omega
    · have hke : a = t := by omega
      subst hke
      have f0 := hw.out.f a (by omega)
      rw [hF.out a (Nat.le_refl _), HWE.out] at f0
      go_wp2_with fail
      go_ret
      exact ⟨rfl, hw.out.b⟩
end Go.Proofs.Ytiabocbabpcofaa
