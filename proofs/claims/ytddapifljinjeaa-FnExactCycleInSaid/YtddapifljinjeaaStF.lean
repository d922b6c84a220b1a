/- States: comparisons of the exact laws. -/
import Derived.Test.YtddapifljinjeaaStE
import Derived.Test.YtddapifljinjeaaLeast
import Derived.BigQuiet
import Derived.Deep.RegionWith
namespace Go.Proofs.Ytddapifljinjeaa
open Go.RowKit
open Rd Fl

theorem first_below2 {w wr w1 : World} (h : Below w.heap.size w wr) (hb : Below wr.drew.heap.size wr.drew w1) : Below w.heap.size w w1 := h.drew.trans (hb.mono h.size)

set_option maxRecDepth 20000 in
set_option maxHeartbeats 1000000 in
theorem eqfls_any (A B : Option Addr) (l : List (Bool × Nat)) (ca cb : Nat) (hl : l.length ≤ 1048576) (hr : ∀ x ∈ l, x.2 < 9223372036854775808) (w : World) (hA : LAt fv w A l) (hB : LAt fv w B l) :
    Calls Try.prog 41 #[.slice A l.length ca, .slice B l.length cb] w fun e w' => e = .returned (.bool true) ∧ Below w.heap.size w w' := by
  have hl' : (l.length : Int) ≤ 1048576 := by omega
  obtain ⟨b, off, hA1, hc⟩ := hA
  obtain ⟨b', off', hB1, hc'⟩ := hB
  by_cases he : l = []
  · subst he
    clear hc hA1 hc' hB1
    go_enter Try.func41, Try.ntmps41
    go_wp2
    go_loop [5] (fun i => i = .int .i64 0) (fun _ => 0)
    case atStart => rfl
    case round =>
      subst hrel
      go_wp2
      go_ret
      exact ⟨rfl, Below.refl _ _⟩
  · have hA2 := hA1 he
    have hB2 := hB1 he
    subst hA2 hB2
    have HC := hide' (fun i (hi : i < l.length) => hc i l[i] (List.getElem?_eq_getElem hi))
    have HD := hide' (fun i (hi : i < l.length) => hc' i l[i] (List.getElem?_eq_getElem hi))
    have HRR := hide' hr
    clear hc hA1 he hc' hB1 hr
    go_enter Try.func41, Try.ntmps41
    go_wp2
    go_loopw [5] (fun i wr => ∃ k : Nat, k ≤ l.length ∧ i = .int .i64 k ∧ Hid (Below w.heap.size w wr)) (fun i _ => l.length - (intOf i).toNat)
    case atStart => exact ⟨0, Nat.zero_le _, rfl, Below.refl _ _⟩
    case round =>
      obtain ⟨k, hk, rfl, hbw⟩ := hrel
      by_cases hlt : k < l.length
      · have c0 : _ = some (Value.float .f64 (wd l[k].1 l[k].2)) := keep_cell hbw.out (HC.out k hlt)
        have d0 : _ = some (Value.float .f64 (wd l[k].1 l[k].2)) := keep_cell hbw.out (HD.out k hlt)
        have HR := hide' (HRR.out l[k] (List.getElem_mem hlt))
        generalize l[k] = o at c0 d0 HR
        obtain ⟨os, or⟩ := o
        go_wp2_with fail
        go_quiet ((go_at_call 51; exact Calls.quiet_of_same (samefl_any os os or or HR.out HR.out (sameB_refl _ _) _)))
        go_wp2_with fail
        go_roundw
        case rel => exact ⟨k + 1, by omega, by go_num, below_draws hbw.out _⟩
        case measure => simp [intOf]; omega
      · go_wp2
        go_ret
        exact ⟨rfl, hbw.out⟩

set_option maxRecDepth 20000 in
set_option maxHeartbeats 1000000 in
theorem eqints_any (A B : Option Addr) (l : List Int) (ca cb : Nat) (hl : l.length ≤ 1048576) (w : World) (hA : LAt iv w A l) (hB : LAt iv w B l) :
    Calls Try.prog 9 #[.slice A l.length ca, .slice B l.length cb] w fun e w' => e = .returned (.bool true) ∧ Below w.heap.size w w' := by
  have hl' : (l.length : Int) ≤ 1048576 := by omega
  obtain ⟨b, off, hA1, hc⟩ := hA
  obtain ⟨b', off', hB1, hc'⟩ := hB
  by_cases he : l = []
  · subst he
    clear hc hA1 hc' hB1
    go_enter Try.func9, Try.ntmps9
    go_wp2
    go_loop [5] (fun i => i = .int .i64 0) (fun _ => 0)
    case atStart => rfl
    case round =>
      subst hrel
      go_wp2
      go_ret
      exact ⟨rfl, Below.refl _ _⟩
  · have hA2 := hA1 he
    have hB2 := hB1 he
    subst hA2 hB2
    have HC := hide' (fun i (hi : i < l.length) => hc i l[i] (List.getElem?_eq_getElem hi))
    have HD := hide' (fun i (hi : i < l.length) => hc' i l[i] (List.getElem?_eq_getElem hi))
    clear hc hA1 he hc' hB1
    go_enter Try.func9, Try.ntmps9
    go_wp2
    go_loopw [5] (fun i wr => ∃ k : Nat, k ≤ l.length ∧ i = .int .i64 k ∧ Hid (Below w.heap.size w wr)) (fun i _ => l.length - (intOf i).toNat)
    case atStart => exact ⟨0, Nat.zero_le _, rfl, Below.refl _ _⟩
    case round =>
      obtain ⟨k, hk, rfl, hbw⟩ := hrel
      by_cases hlt : k < l.length
      · have c0 : _ = some (Value.int .i64 l[k]) := keep_cell hbw.out (HC.out k hlt)
        have d0 : _ = some (Value.int .i64 l[k]) := keep_cell hbw.out (HD.out k hlt)
        generalize l[k] = o at c0 d0
        go_wp2_with fail
        go_quiet (fail)
        go_wp2_with fail
        go_roundw
        case rel => exact ⟨k + 1, by omega, by go_num, below_draws hbw.out _⟩
        case measure => simp [intOf]; omega
      · go_wp2
        go_ret
        exact ⟨rfl, hbw.out⟩

set_option maxRecDepth 20000 in
set_option maxHeartbeats 1000000 in
theorem eqth_any (r0 r1 r2 r3 r4 : Int) (S U : Option Addr) (sk : List (Bool × Nat)) (ca cb : Nat) (hl : sk.length ≤ 1048576) (hr : ∀ x ∈ sk, x.2 < 9223372036854775808) (w : World) (hS : LAt fv w S sk) (hU : LAt fv w U sk) :
    Calls Try.prog 50 #[.agg #[.int .i64 r0, .int .i64 r1, .int .i64 r2, .int .i64 r3, .int .i64 r4, .slice S sk.length ca], .agg #[.int .i64 r0, .int .i64 r1, .int .i64 r2, .int .i64 r3, .int .i64 r4, .slice U sk.length cb]] w fun e w' => e = .returned (.bool true) ∧ Below w.heap.size w w' := by
  have HC := hide' (fun w h1 h2 => eqfls_any S U sk ca cb hl hr w h1 h2)
  have HS := hide' hS
  have HU := hide' hU
  clear hl hr hS hU
  go_enter Try.func50, Try.ntmps50
  go_wp2_with fail
  refine (HC.out _ (HS.out.keep (((Below.refl _ w).up _).up _)) (HU.out.keep (((Below.refl _ w).up _).up _))).mono ?_
  rintro e w1 ⟨rfl, hb1⟩
  have HBW := hide' ((((Below.refl _ w).up _).up _).trans (hb1.mono (by simp; omega)))
  clear hb1
  go_wp2_with fail
  go_ret
  exact ⟨rfl, HBW.out⟩

set_option maxRecDepth 20000 in
set_option maxHeartbeats 1000000 in
theorem eqths_any (A B : Option Addr) (ts : List ThD) (ca cb : Nat) (hl : ts.length ≤ 1048576) (hls : ∀ t ∈ ts, t.sk.length ≤ 1048576) (hr : ∀ t ∈ ts, ∀ x ∈ t.sk, x.2 < 9223372036854775808) (w : World) (hA : ThsAt w A ts) (hB : ThsAt w B ts) :
    Calls Try.prog 40 #[.slice A ts.length ca, .slice B ts.length cb] w fun e w' => e = .returned (.bool true) ∧ Below w.heap.size w w' := by
  have hl' : (ts.length : Int) ≤ 1048576 := by omega
  obtain ⟨b, off, hA1, hc⟩ := hA
  obtain ⟨b', off', hB1, hc'⟩ := hB
  by_cases he : ts = []
  · subst he
    clear hc hA1 hc' hB1
    go_enter Try.func40, Try.ntmps40
    go_wp2
    go_loop [5] (fun i => i = .int .i64 0) (fun _ => 0)
    case atStart => rfl
    case round =>
      subst hrel
      go_wp2
      go_ret
      exact ⟨rfl, Below.refl _ _⟩
  · have hA2 := hA1 he
    have hB2 := hB1 he
    subst hA2 hB2
    have HC := hide' (fun i (hi : i < ts.length) => hc i ts[i] (List.getElem?_eq_getElem hi))
    have HD := hide' (fun i (hi : i < ts.length) => hc' i ts[i] (List.getElem?_eq_getElem hi))
    have HRR := hide' hr
    have HLL := hide' hls
    clear hc hA1 he hc' hB1 hr hls
    go_enter Try.func40, Try.ntmps40
    go_wp2
    go_loopw [5] (fun i wr => ∃ k : Nat, k ≤ ts.length ∧ i = .int .i64 k ∧ Hid (Below w.heap.size w wr)) (fun i _ => ts.length - (intOf i).toNat)
    case atStart => exact ⟨0, Nat.zero_le _, rfl, Below.refl _ _⟩
    case round =>
      obtain ⟨k, hk, rfl, hbw⟩ := hrel
      by_cases hlt : k < ts.length
      · obtain ⟨S1, p1, x1, y1⟩ := HC.out k hlt
        obtain ⟨S2, p2, x2, y2⟩ := HD.out k hlt
        obtain ⟨c0, c1, c2, c3, c4, c5⟩ := th_range (range_keep hbw.out x1)
        obtain ⟨d0, d1, d2, d3, d4, d5⟩ := th_range (range_keep hbw.out x2)
        have Y1 := hide' (y1.keep hbw.out.drew)
        have Y2 := hide' (y2.keep hbw.out.drew)
        have HR := hide' (HRR.out ts[k] (List.getElem_mem hlt))
        have HL := hide' (HLL.out ts[k] (List.getElem_mem hlt))
        clear x1 x2 y1 y2
        generalize ts[k] = t at c0 c1 c2 c3 c4 c5 d0 d1 d2 d3 d4 d5 Y1 Y2 HR HL
        obtain ⟨r0, r1, r2, r3, r4, sk⟩ := t
        go_wp2_with fail
        go_region_with (go_at_call 50; refine (eqth_any r0 r1 r2 r3 r4 S1 S2 sk p1 p2 HL.out HR.out _ Y1.out Y2.out).mono ?_; rintro e w1 ⟨rfl, hb1⟩)
        all_goals
          go_wp2_with fail
          go_roundw
          case rel => exact ⟨k + 1, by omega, by go_num, first_below2 hbw.out hb1⟩
          case measure => simp [intOf]; omega
      · go_wp2
        go_ret
        exact ⟨rfl, hbw.out⟩

/-- the numbers' words -/
structure StNums (s : StD) : Prop where
  k : ∀ t ∈ s.ts, ∀ x ∈ t.sk, x.2 < 9223372036854775808
  c : ∀ x ∈ s.cl, x.2 < 9223372036854775808

set_option maxRecDepth 20000 in
set_option maxHeartbeats 1000000 in
theorem eqstate_any (s : StD) (T C O T' C' O' : Option Addr) (k1 k2 k3 j1 j2 j3 : Nat) (hf : StFit s 1048576) (hn : StNums s) (w : World) (hA : StAt w T C O s) (hB : StAt w T' C' O' s) :
    Calls Try.prog 27 #[.agg #[.slice T s.ts.length k1, .slice C s.cl.length k2, .slice O s.ow.length k3, .int .i64 s.ft], .agg #[.slice T' s.ts.length j1, .slice C' s.cl.length j2, .slice O' s.ow.length j3, .int .i64 s.ft]] w fun e w' => e = .returned (.bool true) ∧ Below w.heap.size w w' := by
  have H1 := hide' (fun w h1 h2 => eqths_any T T' s.ts k1 j1 hf.t hf.k hn.k w h1 h2)
  have H2 := hide' (fun w h1 h2 => eqfls_any C C' s.cl k2 j2 hf.c hn.c w h1 h2)
  have H3 := hide' (fun w h1 h2 => eqints_any O O' s.ow k3 j3 hf.o w h1 h2)
  have HA := hide' hA
  have HB := hide' hB
  clear hf hn hA hB
  generalize s.ts.length = n1 at *
  generalize s.cl.length = n2 at *
  generalize s.ow.length = n3 at *
  generalize s.ft = ft at *
  go_enter Try.func27, Try.ntmps27
  go_wp2_with fail
  have hb0 : Below w.heap.size w ((w.alloc (.cells #[.slice T n1 k1, .slice C n2 k2, .slice O n3 k3, .int .i64 ft] 36)).alloc (.cells #[.slice T' n1 j1, .slice C' n2 j2, .slice O' n3 j3, .int .i64 ft] 36)) := ((Below.refl _ w).up _).up _
  refine (H1.out _ (HA.out.t.keep hb0) (HB.out.t.keep hb0)).mono ?_
  have hx := (sbox_new w T C O n1 k1 n2 k2 n3 k3 ft 36).keep ((Below.refl _ _).up (.cells #[.slice T' n1 j1, .slice C' n2 j2, .slice O' n3 j3, .int .i64 ft] 36))
  have hy := sbox_new (w.alloc (.cells #[.slice T n1 k1, .slice C n2 k2, .slice O n3 k3, .int .i64 ft] 36)) T' C' O' n1 j1 n2 j2 n3 j3 ft 36
  rw [show (w.alloc (.cells #[.slice T n1 k1, .slice C n2 k2, .slice O n3 k3, .int .i64 ft] 36)).heap.size = w.heap.size + 1 by simp] at hy
  generalize ((w.alloc (.cells #[.slice T n1 k1, .slice C n2 k2, .slice O n3 k3, .int .i64 ft] 36)).alloc (.cells #[.slice T' n1 j1, .slice C' n2 j2, .slice O' n3 j3, .int .i64 ft] 36)) = W at hb0 hx hy
  rintro e w1 ⟨rfl, hb1⟩
  have X1 := hide' (hx.keep hb1)
  have Y1 := hide' (hy.keep hb1)
  obtain ⟨a0, a1, a2, a3⟩ := X1.out
  obtain ⟨c0, c1, c2, c3⟩ := Y1.out
  have B1 := hide' (hb0.trans (hb1.mono hb0.size))
  clear hb1 hx hy hb0
  go_wp2_with fail
  refine (H2.out _ (HA.out.c.keep B1.out) (HB.out.c.keep B1.out)).mono ?_
  rintro e w2 ⟨rfl, hb2⟩
  have X2 := hide' (X1.out.keep hb2)
  have Y2 := hide' (Y1.out.keep hb2)
  clear a0 a1 a2 a3 c0 c1 c2 c3
  obtain ⟨a0, a1, a2, a3⟩ := X2.out
  obtain ⟨c0, c1, c2, c3⟩ := Y2.out
  have B2 := hide' (B1.out.trans (hb2.mono B1.out.size))
  clear hb2
  go_wp2_with fail
  refine (H3.out _ (HA.out.o.keep B2.out) (HB.out.o.keep B2.out)).mono ?_
  rintro e w3 ⟨rfl, hb3⟩
  have X3 := hide' (X2.out.keep hb3)
  have Y3 := hide' (Y2.out.keep hb3)
  clear a0 a1 a2 a3 c0 c1 c2 c3
  obtain ⟨a0, a1, a2, a3⟩ := X3.out
  obtain ⟨c0, c1, c2, c3⟩ := Y3.out
  have B3 := hide' (B2.out.trans (hb3.mono B2.out.size))
  clear hb3
  go_wp2_with fail
  all_goals first
    | (go_ret; exact ⟨rfl, B3.out⟩)
    | (go_quiet (fail); go_wp2_with fail; go_ret; exact ⟨rfl, below_draws B3.out _⟩)
end Go.Proofs.Ytddapifljinjeaa
