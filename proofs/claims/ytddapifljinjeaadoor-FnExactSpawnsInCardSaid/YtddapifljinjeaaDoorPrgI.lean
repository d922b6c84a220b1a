/- impl.GoodProg: contract. -/
import Derived.Test.YtddapifljinjeaaDoorPrgH
namespace Go.Proofs.YtddapifljinjeaaDoor
open Go.RowKit
open Rd Fl

def endP (cl lk cd n long : Int) (f : Nat) : Int := if f = 0 then 1 else if f = 1 then cl else if f = 2 then long + 1 else if f = 3 then lk else if f = 4 then n else cd
theorem endsP_at (cl lk cd n long : Int) (f : Nat) (h : f < 6) : (endsP cl lk cd n long)[f]? = some (.int .i64 (endP cl lk cd n long f)) := by
  rcases (by omega : f = 0 ∨ f = 1 ∨ f = 2 ∨ f = 3 ∨ f = 4 ∨ f = 5) with rfl | rfl | rfl | rfl | rfl | rfl <;> rfl
/-- what the program asks of an op within a program -/
def implOK (cl lk cd n long : Int) (o : OpD) : Bool :=
  decide (1 ≤ o.c ∧ o.c ≤ 17) && goodB o.a o.b (sameB o.s o.r false 0) (formV o.c.toNat) (endP cl lk cd n long (formA o.c.toNat)) (endP cl lk cd n long (formB o.c.toNat))
def routI (cl lk cd n : Int) (l : List OpD) : Bool := decide (l.length ≤ 24) && l.all (implOK cl lk cd n l.length)

theorem spec_impl (cl lk cd n long : Int) (o : OpD) (hh : headB cl lk cd n = true) (h0 : 0 ≤ long) (hl : long ≤ 24) : implOK cl lk cd n long o = specOK cl lk cd n long o := by
  obtain ⟨g1, g2, g3, g4⟩ := head_all hh
  obtain ⟨c, a, b, s, r⟩ := o
  unfold implOK specOK
  simp only
  generalize sameB s r false 0 = z
  by_cases hc : 1 ≤ c ∧ c ≤ 17
  · rw [decide_eq_true hc, Bool.true_and, Bool.eq_iff_iff]
    rcases (by omega : c = 1 ∨ c = 2 ∨ c = 3 ∨ c = 4 ∨ c = 5 ∨ c = 6 ∨ c = 7 ∨ c = 8 ∨ c = 9 ∨ c = 10 ∨ c = 11 ∨ c = 12 ∨ c = 13 ∨ c = 14 ∨ c = 15 ∨ c = 16 ∨ c = 17) with h | h | h | h | h | h | h | h | h | h | h | h | h | h | h | h | h
    all_goals
      subst h
      clear hc
      simp [plainB, withinB, goodB, uV, uA, uB, formV, formA, formB, endP]
      cases z <;> (try simp) <;> (try omega)
  · rw [decide_eq_false hc]
    unfold plainB
    rw [decide_eq_false hc]
    rfl

theorem rout_same (cl lk cd n : Int) (l : List OpD) (hh : headB cl lk cd n = true) : routI cl lk cd n l = routS cl lk cd n l := by
  unfold routI routS
  by_cases h : l.length ≤ 24
  · rw [decide_eq_true h, Bool.true_and, Bool.and_true]
    congr 1
    funext o
    exact spec_impl cl lk cd n l.length o hh (by omega) (by omega)
  · rw [decide_eq_false h]
    simp

theorem goodop_p (cl lk cd n long : Int) (o : OpD) (hr : o.r < 9223372036854775808) (w : World) (hF : Forms w) :
    Calls Tryd.prog 36 #[.agg #[.int .i64 o.c, .int .i64 o.a, .int .i64 o.b, .float .f64 (wd o.s o.r)], .agg (endsP cl lk cd n long)] w fun e w' => e = .returned (.bool (implOK cl lk cd n long o)) ∧ Below w.heap.size w w' := by
  obtain ⟨c, a, b, s, r⟩ := o
  unfold implOK
  simp only
  by_cases hc : 1 ≤ c ∧ c ≤ 17
  · obtain ⟨k, rfl⟩ : ∃ k : Nat, c = k := ⟨c.toNat, by omega⟩
    rw [decide_eq_true hc, Bool.true_and, Int.toNat_natCast]
    have hk : k ≤ 17 := by omega
    exact goodop_in k (by omega) hk a b s r hr _ (formW k) (formV k) (formA k) (formB k) _ _ rfl (formA_lt k) (formB_lt k) (endsP_at _ _ _ _ _ _ (formA_lt k)) (endsP_at _ _ _ _ _ _ (formB_lt k)) w (hF k hk)
  · rw [decide_eq_false hc]
    exact goodop_out c a b _ _ w (by omega)

set_option maxRecDepth 20000 in
set_option maxHeartbeats 2000000 in
theorem goodrout_any (cl lk cd : Int) (R A : Option Addr) (n cap cp : Nat) (l : List OpD) (hl : l.length ≤ 1048576) (hr : ∀ o ∈ l, o.r < 9223372036854775808) (w : World) (hA : OpsAt w A l) (hF : Forms w) :
    Calls Tryd.prog 27 #[.agg #[.int .i64 cl, .int .i64 lk, .int .i64 cd, .slice R n cap], .slice A l.length cp] w fun e w' => e = .returned (.bool (routI cl lk cd n l)) ∧ Below w.heap.size w w' := by
  have hl' : (l.length : Int) ≤ 1048576 := by omega
  have HF := hide' hF
  have HR := hide' hr
  have HEN : Hid (∀ w, Calls Tryd.prog 35 #[.agg #[.int .i64 cl, .int .i64 lk, .int .i64 cd, .slice R n cap], .int .i64 (l.length : Int)] w fun e w' => e = .returned (.agg #[.int .i64 1, .int .i64 cl, .int .i64 ((l.length : Int) + 1), .int .i64 lk, .int .i64 (n : Int), .int .i64 cd]) ∧ Below w.heap.size w w') := fun w => endsp_any cl lk cd R n cap l.length hl w
  have hst := store_f
  clear hF hr
  obtain ⟨b, off, hA1, hc⟩ := hA
  by_cases h24 : l.length ≤ 24
  · have h24' : (l.length : Int) ≤ 24 := by omega
    by_cases he : l = []
    · subst he
      clear hc hA1
      go_enter Tryd.func27, Tryd.ntmps27
      go_wp2_with (go_at_call 35; refine (HEN.out _).mono ?_; rintro e w1 ⟨rfl, hb1⟩)
      have HB1 := hide' (((Below.refl _ w).up _).trans (hb1.mono (by simp)))
      clear hb1
      go_loopw [17] (fun i wr => i = .int .i64 0 ∧ Hid (Below w.heap.size w wr)) (fun _ _ => 0)
      case atStart => exact ⟨rfl, HB1.out.up _⟩
      case round =>
        obtain ⟨rfl, hbw⟩ := hrel
        go_wp2_with fail
        go_ret
        exact ⟨rfl, hbw.out⟩
    · have hA2 := hA1 he
      subst hA2
      have HC := hide' (fun i (hi : i < l.length) => hc i l[i] (List.getElem?_eq_getElem hi))
      clear hc hA1 he
      go_enter Tryd.func27, Tryd.ntmps27
      go_wp2_with (go_at_call 35; refine (HEN.out _).mono ?_; rintro e w1 ⟨rfl, hb1⟩)
      have HB1 := hide' ((((Below.refl _ w).up _).trans (hb1.mono (by simp))).up (.cells #[.int .i64 1, .int .i64 cl, .int .i64 ((l.length : Int) + 1), .int .i64 lk, .int .i64 (n : Int), .int .i64 cd] 67))
      have hz1 : w.heap.size < w1.heap.size := by have := hb1.size; simp at this; omega
      clear hb1
      go_loopw [17] (fun i wr => ∃ j : Nat, j ≤ l.length ∧ i = .int .i64 j ∧ Hid (∀ o ∈ l.take j, implOK cl lk cd n l.length o = true) ∧ Hid (Below w.heap.size w wr) ∧ Hid (Below (w1.alloc (.cells #[.int .i64 1, .int .i64 cl, .int .i64 ((l.length : Int) + 1), .int .i64 lk, .int .i64 (n : Int), .int .i64 cd] 67)).heap.size (w1.alloc (.cells #[.int .i64 1, .int .i64 cl, .int .i64 ((l.length : Int) + 1), .int .i64 lk, .int .i64 (n : Int), .int .i64 cd] 67)) wr)) (fun i _ => l.length - (intOf i).toNat)
      case atStart => exact ⟨0, Nat.zero_le _, rfl, (fun l hl => by cases hl), HB1.out, Below.refl _ _⟩
      case round =>
        obtain ⟨j, hj, rfl, hdo, hbw, hbe⟩ := hrel
        by_cases hjl : j < l.length
        · obtain ⟨c0, c1, c2, c3⟩ := op_range (range_keep hbw.out (HC.out j hjl))
          have HR2 := hide' (HR.out l[j] (List.getElem_mem hjl))
          have HOS := hide' (fun h => all_take_succ (p := implOK cl lk cd n l.length) hjl hdo.out h)
          have HOF := hide' (fun h => all_false_at (p := implOK cl lk cd n l.length) hjl h)
          obtain ⟨hce, hfe⟩ := bcell hbe.out
          have hze : w1.heap.size < wr.heap.size := by have := hbe.out.size; simp at this; omega
          generalize l[j] = o at c0 c1 c2 c3 HR2 HOS HOF
          obtain ⟨oc, oa, ob, os, or⟩ := o
          have HCL : Hid (∀ w, Forms w → Calls Tryd.prog 36 #[.agg #[.int .i64 oc, .int .i64 oa, .int .i64 ob, .float .f64 (wd os or)], .agg #[.int .i64 1, .int .i64 cl, .int .i64 ((l.length : Int) + 1), .int .i64 lk, .int .i64 (n : Int), .int .i64 cd]] w fun e w' => e = .returned (.bool (implOK cl lk cd n l.length ⟨oc, oa, ob, os, or⟩)) ∧ Below w.heap.size w w') := fun w hF => goodop_p cl lk cd n l.length ⟨oc, oa, ob, os, or⟩ HR2.out w hF
          have HF2 := hide' (HF.out.below (hbw.out.up (.cells #[.int .i64 oc, .int .i64 oa, .int .i64 ob, .float .f64 (wd os or)] 43)))
          cases hok : implOK cl lk cd n l.length ⟨oc, oa, ob, os, or⟩
          · rw [hok] at HCL
            have hno : routI cl lk cd n l = false := by unfold routI; rw [HOF.out hok]; simp
            have HNO := hide' hno
            clear hok hno HOS HOF
            go_wp2_with (go_at_call 36; refine (HCL.out _ HF2.out).mono ?_; rintro e w2 ⟨rfl, hb2⟩)
            go_ret
            exact ⟨by rw [HNO.out]; rfl, (hbw.out.up _).trans (hb2.mono (by have := hbw.out.size; simp; omega))⟩
          · rw [hok] at HCL
            have HO := hide' (HOS.out hok)
            clear hok HOS HOF
            go_wp2_with (go_at_call 36; refine (HCL.out _ HF2.out).mono ?_; rintro e w2 ⟨rfl, hb2⟩)
            go_roundw
            case rel => exact ⟨j + 1, by omega, by go_num, HO.out, (hbw.out.up _).trans (hb2.mono (by have := hbw.out.size; simp; omega)), (hbe.out.up _).trans (hb2.mono (by have := hbe.out.size; simp at this; simp; omega))⟩
            case measure => simp [intOf]; omega
        · have hje : j = l.length := by omega
          subst hje
          have HNO := hide' (show routI cl lk cd n l = true by unfold routI; rw [all_take_all hdo.out, decide_eq_true h24]; rfl)
          go_wp2_with fail
          go_ret
          exact ⟨by rw [HNO.out]; rfl, hbw.out⟩
  · have h24' : (24 : Int) < l.length := by omega
    have hno : routI cl lk cd n l = false := by unfold routI; rw [decide_eq_false h24]; rfl
    rw [hno]
    clear hno h24 hc hA1
    go_enter Tryd.func27, Tryd.ntmps27
    go_wp2_with fail
    go_ret
    exact ⟨rfl, (Below.refl _ w).up _⟩

theorem head_ways {cl lk cd n : Int} (h : headB cl lk cd n = false) : cl < 0 ∨ (0 ≤ cl ∧ 4 < cl) ∨ ((0 ≤ cl ∧ cl ≤ 4) ∧ lk < 0) ∨ ((0 ≤ cl ∧ cl ≤ 4) ∧ 0 ≤ lk ∧ 4 < lk) ∨ ((0 ≤ cl ∧ cl ≤ 4) ∧ (0 ≤ lk ∧ lk ≤ 4) ∧ cd < 0) ∨ ((0 ≤ cl ∧ cl ≤ 4) ∧ (0 ≤ lk ∧ lk ≤ 4) ∧ 0 ≤ cd ∧ 2 < cd) ∨
    ((0 ≤ cl ∧ cl ≤ 4) ∧ (0 ≤ lk ∧ lk ≤ 4) ∧ (0 ≤ cd ∧ cd ≤ 2) ∧ n < 1) ∨ ((0 ≤ cl ∧ cl ≤ 4) ∧ (0 ≤ lk ∧ lk ≤ 4) ∧ (0 ≤ cd ∧ cd ≤ 2) ∧ 1 ≤ n ∧ 4 < n) := by
  have : ¬ ((0 ≤ cl ∧ cl ≤ 4) ∧ (0 ≤ lk ∧ lk ≤ 4) ∧ (0 ≤ cd ∧ cd ≤ 2) ∧ 1 ≤ n ∧ n ≤ 4) := by
    intro hc
    unfold headB at h
    simp [hc] at h
  omega

set_option maxRecDepth 20000 in
set_option maxHeartbeats 4000000 in
theorem igood_head (cl lk cd : Int) (R : Option Addr) (rs : List (List OpD)) (cap : Nat) (hh : headB cl lk cd rs.length = false) (w : World) :
    Calls Tryd.prog 17 #[.agg #[.int .i64 cl, .int .i64 lk, .int .i64 cd, .slice R rs.length cap]] w fun e w' => e = .returned (.bool false) ∧ Below w.heap.size w w' := by
  rcases head_ways hh with h1 | ⟨h1, h2⟩ | ⟨⟨h1, h2⟩, h3⟩ | ⟨⟨h1, h2⟩, h3, h4⟩ | ⟨⟨h1, h2⟩, ⟨h3, h4⟩, h5⟩ | ⟨⟨h1, h2⟩, ⟨h3, h4⟩, h5, h6⟩ | ⟨⟨h1, h2⟩, ⟨h3, h4⟩, ⟨h5, h6⟩, h7⟩ | ⟨⟨h1, h2⟩, ⟨h3, h4⟩, ⟨h5, h6⟩, h7, h8⟩
  all_goals
    clear hh
    go_enter Tryd.func17, Tryd.ntmps17
    go_wp2_with fail
    go_ret
    exact ⟨rfl, (Below.refl _ w).up _⟩

set_option maxRecDepth 20000 in
set_option maxHeartbeats 4000000 in
theorem igood_loop (cl lk cd : Int) (R : Option Addr) (rs : List (List OpD)) (cap : Nat) (hls : ∀ l ∈ rs, l.length ≤ 1048576) (hr : ∀ l ∈ rs, ∀ o ∈ l, o.r < 9223372036854775808) (hh : headB cl lk cd rs.length = true) (w : World) (hR : RoutsAt w R rs) (hF : Forms w) :
    Calls Tryd.prog 17 #[.agg #[.int .i64 cl, .int .i64 lk, .int .i64 cd, .slice R rs.length cap]] w fun e w' => e = .returned (.bool (rs.all (routI cl lk cd rs.length))) ∧ Below w.heap.size w w' := by
  obtain ⟨⟨g1, g2⟩, ⟨g3, g4⟩, ⟨g5, g6⟩, g7, g8⟩ := head_all hh
  obtain ⟨b, off, hA1, hc⟩ := hR
  have hA2 := hA1 (by intro h; rw [h] at g7; simp at g7)
  subst hA2
  have HC := hide' (fun i (hi : i < rs.length) => hc i rs[i] (List.getElem?_eq_getElem hi))
  have HRR := hide' hr
  have HLL := hide' hls
  have HF := hide' hF
  clear hc hA1 hr hls hh hF
  go_enter Tryd.func17, Tryd.ntmps17
  go_wp2_with fail
  go_loopw [46] (fun i wr => ∃ k : Nat, k ≤ rs.length ∧ i = .int .i64 k ∧ Hid (∀ l ∈ rs.take k, routI cl lk cd rs.length l = true) ∧ Hid (PBox w.heap.size cl lk cd (some ⟨b, off, none⟩) rs.length cap wr) ∧ Hid (Below w.heap.size w wr)) (fun i _ => rs.length - (intOf i).toNat)
  case atStart => exact ⟨0, Nat.zero_le _, rfl, (fun l hl => by cases hl), pbox_new w cl lk cd _ _ cap _, (Below.refl _ w).up _⟩
  case round =>
    obtain ⟨k, hk, rfl, hdone, hbox, hbw⟩ := hrel
    by_cases hlt : k < rs.length
    · obtain ⟨A, cp, x1, y1⟩ := HC.out k hlt
      have z1 := keep_cell hbw.out x1
      have Y1 := hide' (y1.keep hbw.out)
      have HR := hide' (HRR.out rs[k] (List.getElem_mem hlt))
      have HL := hide' (HLL.out rs[k] (List.getElem_mem hlt))
      have HDS := hide' (fun h => all_take_succ (p := routI cl lk cd rs.length) hlt hdone.out h)
      have HDF := hide' (fun h => all_false_at (p := routI cl lk cd rs.length) hlt h)
      clear x1 y1
      generalize rs[k] = l at z1 Y1 HR HL HDS HDF
      obtain ⟨p0, p1, p2, p3⟩ := hbox.out
      have HG := hide' (goodrout_any cl lk cd (some ⟨b, off, none⟩) A rs.length cap cp l HL.out HR.out wr Y1.out (HF.out.below hbw.out))
      cases hok : routI cl lk cd rs.length l
      · rw [hok] at HG
        have HNO := hide' (HDF.out hok)
        clear hok HDS HDF
        go_wp2_with (go_at_call 27; refine (HG.out).mono ?_; rintro e w1 ⟨rfl, hb1⟩)
        go_ret
        exact ⟨by rw [HNO.out]; rfl, hbw.out.trans (hb1.mono hbw.out.size)⟩
      · rw [hok] at HG
        have HO := hide' (HDS.out hok)
        clear hok HDS HDF
        go_wp2_with (go_at_call 27; refine (HG.out).mono ?_; rintro e w1 ⟨rfl, hb1⟩)
        go_roundw
        case rel => exact ⟨k + 1, by omega, by go_num, HO.out, hbox.out.keep hb1, hbw.out.trans (hb1.mono hbw.out.size)⟩
        case measure => simp [intOf]; omega
    · have hke : k = rs.length := by omega
      subst hke
      have HNO := hide' (all_take_all hdone.out)
      go_wp2_with fail
      go_ret
      exact ⟨by rw [HNO.out]; rfl, hbw.out⟩

/-- Both sides tell the same bool of a program. -/
theorem good_both (cl lk cd : Int) (rs : List (List OpD)) (hl : rs.length ≤ 1048576) (hls : ∀ l ∈ rs, l.length ≤ 1048576) (hr : ∀ l ∈ rs, ∀ o ∈ l, o.r < 9223372036854775808) :
    (∀ R cap w, RoutsAt w R rs → Calls Tryd.prog 14 #[.agg #[.int .i64 cl, .int .i64 lk, .int .i64 cd, .slice R rs.length cap]] w fun e w' => e = .returned (.bool (goodS cl lk cd rs)) ∧ Below w.heap.size w w') ∧
    (∀ R cap w, RoutsAt w R rs → Forms w → Calls Tryd.prog 17 #[.agg #[.int .i64 cl, .int .i64 lk, .int .i64 cd, .slice R rs.length cap]] w fun e w' => e = .returned (.bool (goodS cl lk cd rs)) ∧ Below w.heap.size w w') := by
  unfold goodS
  cases hh : headB cl lk cd rs.length
  · exact ⟨fun R cap w _ => sgood_head cl lk cd R rs cap hl hh w, fun R cap w _ _ => igood_head cl lk cd R rs cap hh w⟩
  · rw [Bool.true_and]
    refine ⟨fun R cap w hR => sgood_loop cl lk cd R rs cap hls hr hh w hR, fun R cap w hR hF => ?_⟩
    have := igood_loop cl lk cd R rs cap hls hr hh w hR hF
    rwa [show rs.all (routI cl lk cd rs.length) = rs.all (routS cl lk cd rs.length) by congr 1; funext l; exact rout_same cl lk cd rs.length l hh] at this
end Go.Proofs.YtddapifljinjeaaDoor
