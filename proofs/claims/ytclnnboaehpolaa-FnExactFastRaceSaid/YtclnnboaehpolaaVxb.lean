/- (knownCells).raceAt. -/
import Derived.Test.YtclnnboaehpolaaVm
import Derived.Test.YtclnnboaehpolaaQd
import Derived.Deep.QuietTactic
import Derived.BigQuiet
namespace Go.Proofs.Ytclnnboaehpolaa
open Go.RowKit Go.Maps
open Rd Fl

theorem zeroSc (w : World) : (zeroValue 59).run Try.prog w = .ok (.agg #[.int .i64 0, .int .i64 0]) w := by kernel_rfl
theorem zeroA5 (w : World) : (zeroValue 60).run Try.prog w = .ok (.agg #[.int .i64 0, .int .i64 0, .int .i64 0, .int .i64 0, .int .i64 0]) w := by kernel_rfl
/-- the two maps' box and the event's -/
structure KnBox (w wx : World) (M1 M2 : Nat) (r0 r1 r2 r3 r4 : Int) : Prop where
  b : Below w.heap.size w wx
  k0 : wx.cell? ⟨w.heap.size, 0, none⟩ = some (.map (some M1))
  k1 : wx.cell? ⟨w.heap.size, 1, none⟩ = some (.map (some M2))
  e : EvBox wx (w.heap.size + 1) r0 r1 r2 r3 r4
theorem knbox_new (w : World) (M1 M2 : Nat) (r0 r1 r2 r3 r4 : Int) : KnBox w ((w.alloc (.cells #[.map (some M1), .map (some M2)] 48)).alloc (.cells #[.int .i64 r0, .int .i64 r1, .int .i64 r2, .int .i64 r3, .int .i64 r4] 35)) M1 M2 r0 r1 r2 r3 r4 := by
  have hb : Below (w.alloc (.cells #[.map (some M1), .map (some M2)] 48)).heap.size (w.alloc (.cells #[.map (some M1), .map (some M2)] 48)) ((w.alloc (.cells #[.map (some M1), .map (some M2)] 48)).alloc (.cells #[.int .i64 r0, .int .i64 r1, .int .i64 r2, .int .i64 r3, .int .i64 r4] 35)) := (Below.refl _ _).up _
  refine ⟨below2 w _ _, keep_cell hb ?_, keep_cell hb ?_, ?_⟩
  · rw [World.cell?_alloc_new]; rfl
  · rw [World.cell?_alloc_new]; rfl
  · have h := evbox_new (w.alloc (.cells #[.map (some M1), .map (some M2)] 48)) r0 r1 r2 r3 r4
    have e : (w.alloc (.cells #[.map (some M1), .map (some M2)] 48)).heap.size = w.heap.size + 1 := by simp
    rw [e] at h
    exact h
theorem KnBox.keep {w wx wy : World} {M1 M2 : Nat} {r0 r1 r2 r3 r4 : Int} (h : KnBox w wx M1 M2 r0 r1 r2 r3 r4) (hb : Below wx.heap.size wx wy) : KnBox w wy M1 M2 r0 r1 r2 r3 r4 :=
  ⟨h.b.trans (hb.mono h.b.size), keep_cell hb h.k0, keep_cell hb h.k1, h.e.keep hb⟩
/-- A clock of five lies there. -/
def FiveAt (w : World) (b o : Nat) (e0 e1 e2 e3 e4 : Int) : Prop := w.cell? ⟨b, o, none⟩ = some (.int .i64 e0) ∧ w.cell? ⟨b, o + 1, none⟩ = some (.int .i64 e1) ∧ w.cell? ⟨b, o + 2, none⟩ = some (.int .i64 e2) ∧ w.cell? ⟨b, o + 3, none⟩ = some (.int .i64 e3) ∧ w.cell? ⟨b, o + 4, none⟩ = some (.int .i64 e4)
theorem FiveAt.keep {w w' : World} {b o : Nat} {e0 e1 e2 e3 e4 : Int} (h : FiveAt w b o e0 e1 e2 e3 e4) (hb : Below w.heap.size w w') : FiveAt w' b o e0 e1 e2 e3 e4 := by
  obtain ⟨h0, h1, h2, h3, h4⟩ := h
  exact ⟨keep_cell hb h0, keep_cell hb h1, keep_cell hb h2, keep_cell hb h3, keep_cell hb h4⟩
theorem two_new (w : World) (a b : Value) (t : TypeId) : (w.alloc (.cells #[a, b] t)).cell? ⟨w.heap.size, 0, none⟩ = some a ∧ (w.alloc (.cells #[a, b] t)).cell? ⟨w.heap.size, 1, none⟩ = some b := by
  refine ⟨?_, ?_⟩ <;> (rw [World.cell?_alloc_new]; rfl)

set_option maxRecDepth 20000 in
set_option maxHeartbeats 8000000 in
theorem raceat_any (M1 M2 n1 n2 : Nat) (f1 f2 : Int → Option Value) (r0 r1 r2 r3 r4 : Int) (th : Nat) (cn eth d0 d1 d2 d3 d4 e0 e1 e2 e3 e4 : Int) (bC oC cap : Nat) (w : World)
    (hm1 : MapV w M1 n1 f1) (hm2 : MapV w M2 n2 f2) (hr2 : wfI r2) (h1 : (f1 r2).getD (.agg #[.int .i64 0, .int .i64 0]) = .agg #[.int .i64 (th : Int), .int .i64 cn])
    (h2 : (f2 r2).getD (.agg #[.int .i64 0, .int .i64 0, .int .i64 0, .int .i64 0, .int .i64 0]) = .agg #[.int .i64 d0, .int .i64 d1, .int .i64 d2, .int .i64 d3, .int .i64 d4])
    (hth : th < 5) (hcl : FiveAt w bC oC e0 e1 e2 e3 e4) (hct : w.cell? ⟨bC, oC + th, none⟩ = some (.int .i64 eth)) :
    Calls Try.prog 16 #[.agg #[.map (some M1), .map (some M2)], .agg #[.int .i64 r0, .int .i64 r1, .int .i64 r2, .int .i64 r3, .int .i64 r4], .slice (some ⟨bC, oC, none⟩) 5 cap] w fun e w' =>
      e = .returned (.bool (decide (cn > eth) || (!(r1 == 2) && (decide (d0 > e0) || (decide (d1 > e1) || (decide (d2 > e2) || (decide (d3 > e3) || decide (d4 > e4)))))))) ∧ Below w.heap.size w w' := by
  have hth2 : (th : Int) < 5 := by omega
  have hth0 : (0 : Int) ≤ (th : Int) := by omega
  have K0 := hide' (knbox_new w M1 M2 r0 r1 r2 r3 r4)
  have X1 := hide' (hm1.keep (K0.out.b))
  have X2 := hide' (hm2.keep (K0.out.b))
  have CL := hide' (hcl.keep K0.out.b)
  have CT := hide' (keep_cell K0.out.b hct)
  clear hm1 hm2 hcl hct
  go_enter Try.func16, Try.ntmps16
  go_upto_region 1 with fail
  generalize hwx : (w.alloc (.cells #[.map (some M1), .map (some M2)] 48)).alloc (.cells #[.int .i64 r0, .int .i64 r1, .int .i64 r2, .int .i64 r3, .int .i64 r4] 35) = wx at *
  clear hwx
  have U1 := hide' ((Below.refl wx.heap.size wx).up (.cells #[.int .i64 (th : Int), .int .i64 cn] 59))
  obtain ⟨t0, t1⟩ := two_new wx (.int .i64 (th : Int)) (.int .i64 cn) 59
  have ct := keep_cell U1.out CT.out
  have Y2 := hide' (X2.out.keep U1.out)
  have D1 := hide' (CL.out.keep U1.out)
  have K1 := hide' (K0.out.keep U1.out)
  have k0 := K0.out.k0
  obtain ⟨q0, q1, q2, q3, q4⟩ := K0.out.e
  go_wp2_with (at_lookup; refine mv_look _ rfl _ _ 45 rfl 59 Try.underlying45 _ (zeroSc _) M1 n1 f1 rfl X1.out r2 hr2 rfl _ h1 ?_)
  go_quiet (fail)
  generalize hWq : (wx.alloc (.cells #[.int .i64 (th : Int), .int .i64 cn] 59)).drewN nq = W at *
  have V1 := hide' (show Below (wx.alloc (.cells #[.int .i64 (th : Int), .int .i64 cn] 59)).heap.size (wx.alloc (.cells #[.int .i64 (th : Int), .int .i64 cn] 59)) W by rw [← hWq]; exact below_draws (Below.refl _ _) _)
  have Z2 := hide' (Y2.out.keep V1.out)
  have E2 := hide' (D1.out.keep V1.out)
  have K2 := hide' (K1.out.keep V1.out)
  clear hWq t0 t1 ct Y2 D1 K1 k0 q0 q1 q2 q3 q4 X1 X2 CL CT K0 U1 V1 h1
  obtain ⟨q0, q1, q2, q3, q4⟩ := K2.out.e
  have k1 := K2.out.k1
  obtain ⟨c0, c1, c2, c3, c4⟩ := E2.out
  by_cases hc : cn > eth
  · have hcd : decide (cn > eth) = true := decide_eq_true hc
    go_wp2_with fail
    go_ret
    exact ⟨by rw [hcd, Bool.true_or]; rfl, K2.out.b⟩
  · have hcd : decide (cn > eth) = false := decide_eq_false hc
    cases hk : (r1 == 2)
    · go_wp2_with (at_lookup; refine mv_look _ rfl _ _ 46 rfl 60 Try.underlying46 _ (zeroA5 _) M2 n2 f2 rfl Z2.out r2 hr2 rfl _ h2 ?_)
      have i0 : ∀ w, (Instr.index 60 (.agg #[.int .i64 d0, .int .i64 d1, .int .i64 d2, .int .i64 d3, .int .i64 d4]) (.int .i64 0)).run Try.prog w = .ok (.int .i64 d0) w := fun _ => by rfl
      have i1 : ∀ w, (Instr.index 60 (.agg #[.int .i64 d0, .int .i64 d1, .int .i64 d2, .int .i64 d3, .int .i64 d4]) (.int .i64 1)).run Try.prog w = .ok (.int .i64 d1) w := fun _ => by rfl
      have i2 : ∀ w, (Instr.index 60 (.agg #[.int .i64 d0, .int .i64 d1, .int .i64 d2, .int .i64 d3, .int .i64 d4]) (.int .i64 2)).run Try.prog w = .ok (.int .i64 d2) w := fun _ => by rfl
      have i3 : ∀ w, (Instr.index 60 (.agg #[.int .i64 d0, .int .i64 d1, .int .i64 d2, .int .i64 d3, .int .i64 d4]) (.int .i64 3)).run Try.prog w = .ok (.int .i64 d3) w := fun _ => by rfl
      have i4 : ∀ w, (Instr.index 60 (.agg #[.int .i64 d0, .int .i64 d1, .int .i64 d2, .int .i64 d3, .int .i64 d4]) (.int .i64 4)).run Try.prog w = .ok (.int .i64 d4) w := fun _ => by rfl
      have H5 := hide' K2.out.b
      clear q0 q1 q2 q3 q4 k1 K2 Z2 h2 E2
      go_loopw [31] (fun x wr => Hid (wr = W) ∧ ((x = .int .i64 0) ∨ (x = .int .i64 1 ∧ Hid (decide (d0 > e0) = false)) ∨ (x = .int .i64 2 ∧ Hid (decide (d0 > e0) = false) ∧ Hid (decide (d1 > e1) = false)) ∨ (x = .int .i64 3 ∧ Hid (decide (d0 > e0) = false) ∧ Hid (decide (d1 > e1) = false) ∧ Hid (decide (d2 > e2) = false)) ∨ (x = .int .i64 4 ∧ Hid (decide (d0 > e0) = false) ∧ Hid (decide (d1 > e1) = false) ∧ Hid (decide (d2 > e2) = false) ∧ Hid (decide (d3 > e3) = false)) ∨ (x = .int .i64 5 ∧ Hid (decide (d0 > e0) = false) ∧ Hid (decide (d1 > e1) = false) ∧ Hid (decide (d2 > e2) = false) ∧ Hid (decide (d3 > e3) = false) ∧ Hid (decide (d4 > e4) = false)))) (fun x _ => 5 - (intOf x).toNat)
      case atStart => exact ⟨rfl, .inl rfl⟩
      case round =>
        obtain ⟨hw, h⟩ := hrel
        have hw' := hw.out
        clear hw
        subst hw'
        rcases h with rfl | ⟨rfl, h0⟩ | ⟨rfl, h0, h1⟩ | ⟨rfl, h0, h1, h2⟩ | ⟨rfl, h0, h1, h2, h3⟩ | ⟨rfl, h0, h1, h2, h3, h4⟩
        · cases hh : decide (d0 > e0)
          · go_wp2_with fail
            go_roundw
            case rel => exact ⟨(by first | exact rfl | exact trivial), .inr (.inl ⟨by go_num, (by first | exact hh | exact trivial)⟩)⟩
            case measure => simp [intOf]
          · go_wp2_with fail
            go_ret
            exact ⟨by rw [hcd, hk, hh]; rfl, H5.out⟩
        · cases hh : decide (d1 > e1)
          · go_wp2_with fail
            go_roundw
            case rel => exact ⟨(by first | exact rfl | exact trivial), .inr (.inr (.inl ⟨by go_num, h0, (by first | exact hh | exact trivial)⟩))⟩
            case measure => simp [intOf]
          · go_wp2_with fail
            go_ret
            exact ⟨by rw [hcd, hk, h0.out, hh]; rfl, H5.out⟩
        · cases hh : decide (d2 > e2)
          · go_wp2_with fail
            go_roundw
            case rel => exact ⟨(by first | exact rfl | exact trivial), .inr (.inr (.inr (.inl ⟨by go_num, h0, h1, (by first | exact hh | exact trivial)⟩)))⟩
            case measure => simp [intOf]
          · go_wp2_with fail
            go_ret
            exact ⟨by rw [hcd, hk, h0.out, h1.out, hh]; rfl, H5.out⟩
        · cases hh : decide (d3 > e3)
          · go_wp2_with fail
            go_roundw
            case rel => exact ⟨(by first | exact rfl | exact trivial), .inr (.inr (.inr (.inr (.inl ⟨by go_num, h0, h1, h2, (by first | exact hh | exact trivial)⟩))))⟩
            case measure => simp [intOf]
          · go_wp2_with fail
            go_ret
            exact ⟨by rw [hcd, hk, h0.out, h1.out, h2.out, hh]; rfl, H5.out⟩
        · cases hh : decide (d4 > e4)
          · go_wp2_with fail
            go_roundw
            case rel => exact ⟨(by first | exact rfl | exact trivial), .inr (.inr (.inr (.inr (.inr ⟨by go_num, h0, h1, h2, h3, (by first | exact hh | exact trivial)⟩))))⟩
            case measure => simp [intOf]
          · go_wp2_with fail
            go_ret
            exact ⟨by rw [hcd, hk, h0.out, h1.out, h2.out, h3.out, hh]; rfl, H5.out⟩
        · go_wp2_with fail
          go_ret
          exact ⟨by rw [hcd, hk, h0.out, h1.out, h2.out, h3.out, h4.out]; rfl, H5.out⟩
    · go_wp2_with fail
      go_ret
      exact ⟨rfl, K2.out.b⟩
end Go.Proofs.Ytclnnboaehpolaa
