/- Programs: the copy as a struct, and comparisons. -/
import Derived.Test.YtddapifljinjeaaDoorPrgD
import Derived.Test.YtddapifljinjeaaDoorLeast
import Derived.Deep.RegionWith
namespace Go.Proofs.YtddapifljinjeaaDoor
open Go.RowKit
open Rd Fl

theorem OwnTo.setc {w : World} {N k : Nat} {rs : List (List OpD)} (h : OwnTo w N k rs) (b o : Nat) (v : Value) (hb : b < N) : OwnTo (w.setCell ⟨b, o, none⟩ v) N k rs := by
  intro i l hi hl
  obtain ⟨M, h1, h2, h3, h4⟩ := h i l hi hl
  refine ⟨M, h1, by rw [set_size]; exact h2, ?_, h4.set _ _ _ (by omega)⟩
  rw [World.cell?_setCell_other _ _ _ _ (by simp <;> omega)]
  exact h3
theorem first_below {w wr w1 : World} (h : Below w.heap.size w wr) (hb : Below wr.drew.heap.size wr.drew w1) : Below w.heap.size w w1 := h.drew.trans (hb.mono h.size)

set_option maxRecDepth 20000 in
set_option maxHeartbeats 1000000 in
theorem toprog_any (cl lk cd : Int) (R : Option Addr) (rs : List (List OpD)) (cap : Nat) (hl : rs.length ≤ 1048576) (hls : ∀ l ∈ rs, l.length ≤ 1048576) (w : World) (hR : RoutsAt w R rs) :
    Calls Tryd.prog 6 #[.agg #[.int .i64 cl, .int .i64 lk, .int .i64 cd, .slice R rs.length cap]] w fun e w' => (∃ N, e = .returned (.agg #[.int .i64 cl, .int .i64 lk, .int .i64 cd, .slice (some ⟨N, 0, none⟩) rs.length rs.length]) ∧ w.heap.size ≤ N ∧ N < w'.heap.size ∧ OwnTo w' N rs.length rs) ∧ Below w.heap.size w w' := by
  have HC := hide' (fun w hR => toopss_any R rs cap hl hls w hR)
  have HR := hide' hR
  clear hl hls hR
  go_enter Tryd.func6, Tryd.ntmps6
  go_wp2_with fail
  refine (HC.out _ (HR.out.keep ((((Below.refl _ w).up _).up _).up _))).mono ?_
  rintro e w1 ⟨rfl, hz1, ho1, hb1⟩
  obtain ⟨hc1, hf1⟩ := bcell hb1
  have hz : w.heap.size + 1 + 1 < w1.heap.size := by simp at hz1; omega
  have HO := hide' ho1
  have HB := hide' hb1
  clear ho1 hb1
  go_wp2_with fail
  refine bodyPost_ret (v := .agg #[.int .i64 cl, .int .i64 lk, .int .i64 cd, .slice (some ⟨w.heap.size + 1 + 1 + 1, 0, none⟩) rs.length rs.length]) (by simp [results, Tryd.results6, go_sem, hc1]) rfl ?_
  have e3 : ∀ o1 o2 o3, (((w.alloc o1).alloc o2).alloc o3).heap.size = w.heap.size + 1 + 1 + 1 := fun o1 o2 o3 => by simp
  rw [e3] at HO hz1
  refine ⟨⟨w.heap.size + 1 + 1 + 1, rfl, by omega, by simp only [set_size]; exact hz1, ?_⟩, ?_⟩
  · exact ((((HO.out.setc _ _ _ (by omega)).setc _ _ _ (by omega)).setc _ _ _ (by omega)).setc _ _ _ (by omega)).setc _ _ _ (by omega)
  · exact (((((((((Below.refl _ w).up _).up _).up _).trans (HB.out.mono (by rw [e3]; omega))).setCell (p := ⟨w.heap.size + 1 + 1, 3, none⟩) (by show _ ≤ w.heap.size + 1 + 1; omega) _).setCell (p := ⟨w.heap.size + 1, 0, none⟩) (by show _ ≤ w.heap.size + 1; omega) _).setCell (p := ⟨w.heap.size + 1, 1, none⟩) (by show _ ≤ w.heap.size + 1; omega) _).setCell (p := ⟨w.heap.size + 1, 2, none⟩) (by show _ ≤ w.heap.size + 1; omega) _).setCell (p := ⟨w.heap.size + 1, 3, none⟩) (by show _ ≤ w.heap.size + 1; omega) _

set_option maxRecDepth 20000 in
set_option maxHeartbeats 1000000 in
theorem eqop_any (c a b : Int) (s t : Bool) (r q : Nat) (hr : r < 9223372036854775808) (hq : q < 9223372036854775808) (hs : sameB s r t q = true) (w : World) :
    Calls Tryd.prog 48 #[.agg #[.int .i64 c, .int .i64 a, .int .i64 b, .float .f64 (wd s r)], .agg #[.int .i64 c, .int .i64 a, .int .i64 b, .float .f64 (wd t q)]] w fun e w' => e = .returned (.bool true) ∧ Below w.heap.size w w' := by
  have HS := hide' (fun w => samefl_any s t r q hr hq hs w)
  clear hr hq hs
  go_enter Tryd.func48, Tryd.ntmps48
  go_wp2_with (go_at_call 58; refine (HS.out _).mono ?_; rintro e w' ⟨rfl, rfl⟩)
  go_ret
  exact ⟨rfl, ((Below.refl _ w).up _).up _⟩

set_option maxRecDepth 20000 in
set_option maxHeartbeats 1000000 in
theorem eqops_any (A B : Option Addr) (l : List OpD) (ca cb : Nat) (hl : l.length ≤ 1048576) (hr : ∀ o ∈ l, o.r < 9223372036854775808) (w : World) (hA : OpsAt w A l) (hB : OpsAt w B l) :
    Calls Tryd.prog 31 #[.slice A l.length ca, .slice B l.length cb] w fun e w' => e = .returned (.bool true) ∧ Below w.heap.size w w' := by
  have hl' : (l.length : Int) ≤ 1048576 := by omega
  obtain ⟨b, off, hA1, hc⟩ := hA
  obtain ⟨b', off', hB1, hc'⟩ := hB
  by_cases he : l = []
  · subst he
    clear hc hA1 hc' hB1
    go_enter Tryd.func31, Tryd.ntmps31
    go_wp2
    go_loop [5] (fun i => i = .int .i64 0) (fun _ => 0)
    case atStart => rfl
    case round =>
      subst hrel
      go_wp2
      go_ret
      exact ⟨rfl, Below.refl _ _⟩
  · have hA2 := hA1 he
    have hB2 := hB1 he
    subst hA2 hB2
    have HC := hide' (fun i (hi : i < l.length) => hc i l[i] (List.getElem?_eq_getElem hi))
    have HD := hide' (fun i (hi : i < l.length) => hc' i l[i] (List.getElem?_eq_getElem hi))
    have HRR := hide' hr
    clear hc hA1 he hc' hB1 hr
    go_enter Tryd.func31, Tryd.ntmps31
    go_wp2
    go_loopw [5] (fun i wr => ∃ k : Nat, k ≤ l.length ∧ i = .int .i64 k ∧ Hid (Below w.heap.size w wr)) (fun i _ => l.length - (intOf i).toNat)
    case atStart => exact ⟨0, Nat.zero_le _, rfl, Below.refl _ _⟩
    case round =>
      obtain ⟨k, hk, rfl, hbw⟩ := hrel
      by_cases hlt : k < l.length
      · obtain ⟨c0, c1, c2, c3⟩ := op_range (range_keep hbw.out (HC.out k hlt))
        obtain ⟨d0, d1, d2, d3⟩ := op_range (range_keep hbw.out (HD.out k hlt))
        have HR := hide' (HRR.out l[k] (List.getElem_mem hlt))
        generalize l[k] = o at c0 c1 c2 c3 d0 d1 d2 d3 HR
        obtain ⟨oc, oa, ob, os, or⟩ := o
        go_wp2_with fail
        go_region_with (go_at_call 48; refine (eqop_any oc oa ob os os or or HR.out HR.out (sameB_refl _ _) _).mono ?_; rintro e w1 ⟨rfl, hb1⟩)
        all_goals
          go_wp2_with fail
          go_roundw
          case rel => exact ⟨k + 1, by omega, by go_num, first_below hbw.out hb1⟩
          case measure => simp [intOf]; omega
      · go_wp2
        go_ret
        exact ⟨rfl, hbw.out⟩

set_option maxRecDepth 20000 in
set_option maxHeartbeats 1000000 in
theorem eqopss_any (A B : Option Addr) (rs : List (List OpD)) (ca cb : Nat) (hl : rs.length ≤ 1048576) (hls : ∀ l ∈ rs, l.length ≤ 1048576) (hr : ∀ l ∈ rs, ∀ o ∈ l, o.r < 9223372036854775808) (w : World) (hA : RoutsAt w A rs) (hB : RoutsAt w B rs) :
    Calls Tryd.prog 21 #[.slice A rs.length ca, .slice B rs.length cb] w fun e w' => e = .returned (.bool true) ∧ Below w.heap.size w w' := by
  have hl' : (rs.length : Int) ≤ 1048576 := by omega
  obtain ⟨b, off, hA1, hc⟩ := hA
  obtain ⟨b', off', hB1, hc'⟩ := hB
  by_cases he : rs = []
  · subst he
    clear hc hA1 hc' hB1
    go_enter Tryd.func21, Tryd.ntmps21
    go_wp2
    go_loop [5] (fun i => i = .int .i64 0) (fun _ => 0)
    case atStart => rfl
    case round =>
      subst hrel
      go_wp2
      go_ret
      exact ⟨rfl, Below.refl _ _⟩
  · have hA2 := hA1 he
    have hB2 := hB1 he
    subst hA2 hB2
    have HC := hide' (fun i (hi : i < rs.length) => hc i rs[i] (List.getElem?_eq_getElem hi))
    have HD := hide' (fun i (hi : i < rs.length) => hc' i rs[i] (List.getElem?_eq_getElem hi))
    have HRR := hide' hr
    have HLL := hide' hls
    clear hc hA1 he hc' hB1 hr hls
    go_enter Tryd.func21, Tryd.ntmps21
    go_wp2
    go_loopw [5] (fun i wr => ∃ k : Nat, k ≤ rs.length ∧ i = .int .i64 k ∧ Hid (Below w.heap.size w wr)) (fun i _ => rs.length - (intOf i).toNat)
    case atStart => exact ⟨0, Nat.zero_le _, rfl, Below.refl _ _⟩
    case round =>
      obtain ⟨k, hk, rfl, hbw⟩ := hrel
      by_cases hlt : k < rs.length
      · obtain ⟨A1, p1, x1, y1⟩ := HC.out k hlt
        obtain ⟨A2, p2, x2, y2⟩ := HD.out k hlt
        have z1 := keep_cell hbw.out x1
        have z2 := keep_cell hbw.out x2
        have Y1 := hide' (y1.keep hbw.out.drew)
        have Y2 := hide' (y2.keep hbw.out.drew)
        have HR := hide' (HRR.out rs[k] (List.getElem_mem hlt))
        have HL := hide' (HLL.out rs[k] (List.getElem_mem hlt))
        clear x1 x2 y1 y2
        generalize rs[k] = l at z1 z2 Y1 Y2 HR HL
        go_wp2_with fail
        go_region_with (go_at_call 31; refine (eqops_any A1 A2 l p1 p2 HL.out HR.out _ Y1.out Y2.out).mono ?_; rintro e w1 ⟨rfl, hb1⟩)
        all_goals
          go_wp2_with fail
          go_roundw
          case rel => exact ⟨k + 1, by omega, by go_num, first_below hbw.out hb1⟩
          case measure => simp [intOf]; omega
      · go_wp2
        go_ret
        exact ⟨rfl, hbw.out⟩

set_option maxRecDepth 20000 in
set_option maxHeartbeats 1000000 in
theorem eqprog_any (cl lk cd : Int) (A B : Option Addr) (rs : List (List OpD)) (ca cb : Nat) (hl : rs.length ≤ 1048576) (hls : ∀ l ∈ rs, l.length ≤ 1048576) (hr : ∀ l ∈ rs, ∀ o ∈ l, o.r < 9223372036854775808) (w : World) (hA : RoutsAt w A rs) (hB : RoutsAt w B rs) :
    Calls Tryd.prog 9 #[.agg #[.int .i64 cl, .int .i64 lk, .int .i64 cd, .slice A rs.length ca], .agg #[.int .i64 cl, .int .i64 lk, .int .i64 cd, .slice B rs.length cb]] w fun e w' => e = .returned (.bool true) ∧ Below w.heap.size w w' := by
  have HC := hide' (fun w hA hB => eqopss_any A B rs ca cb hl hls hr w hA hB)
  have HA := hide' hA
  have HB := hide' hB
  clear hl hls hr hA hB
  go_enter Tryd.func9, Tryd.ntmps9
  go_wp2_with fail
  refine (HC.out _ (HA.out.keep (((Below.refl _ w).up _).up _)) (HB.out.keep (((Below.refl _ w).up _).up _))).mono ?_
  rintro e w1 ⟨rfl, hb1⟩
  have HBW := hide' ((((Below.refl _ w).up _).up _).trans (hb1.mono (by simp; omega)))
  clear hb1
  go_wp2_with fail
  go_ret
  exact ⟨rfl, HBW.out⟩
end Go.Proofs.YtddapifljinjeaaDoor
