/- SameState: both sides. -/
import Derived.Test.YtdifamjkbagfcabSn
namespace Go.Proofs.Ytdifamjkbagfcab
open Go.RowKit
open Rd Fl

def stSame (s u : StD) : Bool := sameL thEq s.ts u.ts && (sameL sB s.cl u.cl && (sameL iB s.ow u.ow && decide (s.ft = u.ft)))

/-- What the walks over SameState begin with. -/
def ssW (w : World) (T C O : Option Addr) (n1 k1 n2 k2 n3 k3 : Nat) (ft : Int) (T' C' O' : Option Addr) (m1 j1 m2 j2 m3 j3 : Nat) (fu : Int) (t : TypeId) : World := (w.alloc (.cells #[.slice T n1 k1, .slice C n2 k2, .slice O n3 k3, .int .i64 ft] t)).alloc (.cells #[.slice T' m1 j1, .slice C' m2 j2, .slice O' m3 j3, .int .i64 fu] t)
/-- Two states lie boxed, and all that lay below lies there. -/
structure Two2 (w : World) (T C O : Option Addr) (n1 k1 n2 k2 n3 k3 : Nat) (ft : Int) (T' C' O' : Option Addr) (m1 j1 m2 j2 m3 j3 : Nat) (fu : Int) (wx : World) : Prop where
  a : SBox w.heap.size T C O n1 k1 n2 k2 n3 k3 ft wx
  c : SBox (w.heap.size + 1) T' C' O' m1 j1 m2 j2 m3 j3 fu wx
  b : Below w.heap.size w wx
theorem Two2.keep {w : World} {T C O : Option Addr} {n1 k1 n2 k2 n3 k3 : Nat} {ft : Int} {T' C' O' : Option Addr} {m1 j1 m2 j2 m3 j3 : Nat} {fu : Int} {wx wy : World} (h : Two2 w T C O n1 k1 n2 k2 n3 k3 ft T' C' O' m1 j1 m2 j2 m3 j3 fu wx) (hb : Below wx.heap.size wx wy) : Two2 w T C O n1 k1 n2 k2 n3 k3 ft T' C' O' m1 j1 m2 j2 m3 j3 fu wy := ⟨h.a.keep hb, h.c.keep hb, h.b.trans (hb.mono h.b.size)⟩
theorem two2_new (w : World) (T C O : Option Addr) (n1 k1 n2 k2 n3 k3 : Nat) (ft : Int) (T' C' O' : Option Addr) (m1 j1 m2 j2 m3 j3 : Nat) (fu : Int) (t : TypeId) : Two2 w T C O n1 k1 n2 k2 n3 k3 ft T' C' O' m1 j1 m2 j2 m3 j3 fu (ssW w T C O n1 k1 n2 k2 n3 k3 ft T' C' O' m1 j1 m2 j2 m3 j3 fu t) := by
  have hq := sbox_new (w.alloc (.cells #[.slice T n1 k1, .slice C n2 k2, .slice O n3 k3, .int .i64 ft] t)) T' C' O' m1 j1 m2 j2 m3 j3 fu t
  rw [show (w.alloc (.cells #[.slice T n1 k1, .slice C n2 k2, .slice O n3 k3, .int .i64 ft] t)).heap.size = w.heap.size + 1 by simp] at hq
  exact ⟨(sbox_new w T C O n1 k1 n2 k2 n3 k3 ft t).keep ((Below.refl _ _).up _), hq, ((Below.refl _ w).up _).up _⟩

set_option maxRecDepth 20000 in
set_option maxHeartbeats 4000000 in
theorem isamest_any (s u : StD) (T C O T' C' O' : Option Addr) (k1 k2 k3 j1 j2 j3 : Nat) (hf : StFit s 1048576) (hg : StFit u 1048576) (hn : StNums s) (hm : StNums u) (w : World) (hA : StAt w T C O s) (hB : StAt w T' C' O' u) :
    Calls Try.prog 7 #[.agg #[.slice T s.ts.length k1, .slice C s.cl.length k2, .slice O s.ow.length k3, .int .i64 s.ft], .agg #[.slice T' u.ts.length j1, .slice C' u.cl.length j2, .slice O' u.ow.length j3, .int .i64 u.ft]] w fun e w' => e = .returned (.bool (stSame s u)) ∧ Below w.heap.size w w' := by
  have H1 := hide' (fun w h1 h2 => equalt_l T T' s.ts u.ts k1 j1 hf.t hg.t hf.k hg.k hn.k hm.k w h1 h2)
  have H2 := hide' (fun w h1 h2 => equalf_l C C' s.cl u.cl k2 j2 hf.c hg.c hn.c hm.c w h1 h2)
  have H3 := hide' (fun w h1 h2 => equal_l O O' s.ow u.ow k3 j3 hf.o hg.o w h1 h2)
  have HA := hide' hA
  have HB := hide' hB
  have HW := hide' (two2_new w T C O s.ts.length k1 s.cl.length k2 s.ow.length k3 s.ft T' C' O' u.ts.length j1 u.cl.length j2 u.ow.length j3 u.ft 31)
  unfold stSame
  clear hf hg hn hm hA hB
  generalize sameL thEq s.ts u.ts = g1 at H1 ⊢
  generalize sameL sB s.cl u.cl = g2 at H2 ⊢
  generalize sameL iB s.ow u.ow = g3 at H3 ⊢
  generalize s.ts.length = n1 at *
  generalize s.cl.length = n2 at *
  generalize s.ow.length = n3 at *
  generalize s.ft = ft at *
  generalize u.ts.length = m1 at *
  generalize u.cl.length = m2 at *
  generalize u.ow.length = m3 at *
  generalize u.ft = fu at *
  by_cases hft : ft = fu
  · subst hft
    cases g3
    · go_enter Try.func7, Try.ntmps7
      go_wp2_with (go_at_call 17; refine (H3.out _ (HA.out.o.keep HW.out.b) (HB.out.o.keep HW.out.b)).mono ?_; rintro e w1 ⟨rfl, hb1⟩; have W1 := hide' (HW.out.keep hb1))
      go_ret
      exact ⟨by simp, W1.out.b⟩
    · cases g2
      · go_enter Try.func7, Try.ntmps7
        go_wp2_with (first | (go_at_call 17; refine (H3.out _ (HA.out.o.keep HW.out.b) (HB.out.o.keep HW.out.b)).mono ?_; rintro e w1 ⟨rfl, hb1⟩; have W1 := hide' (HW.out.keep hb1); obtain ⟨⟨a0, a1, a2, a3⟩, ⟨c0, c1, c2, c3⟩, -⟩ := W1.out) | (go_at_call 18; refine (H2.out _ (HA.out.c.keep W1.out.b) (HB.out.c.keep W1.out.b)).mono ?_; rintro e w2 ⟨rfl, hb2⟩; have W2 := hide' (W1.out.keep hb2)))
        go_ret
        exact ⟨by simp, W2.out.b⟩
      · go_enter Try.func7, Try.ntmps7
        go_wp2_with (first | (go_at_call 17; refine (H3.out _ (HA.out.o.keep HW.out.b) (HB.out.o.keep HW.out.b)).mono ?_; rintro e w1 ⟨rfl, hb1⟩; have W1 := hide' (HW.out.keep hb1); obtain ⟨⟨a0, a1, a2, a3⟩, ⟨c0, c1, c2, c3⟩, -⟩ := W1.out) | (go_at_call 18; refine (H2.out _ (HA.out.c.keep W1.out.b) (HB.out.c.keep W1.out.b)).mono ?_; rintro e w2 ⟨rfl, hb2⟩; have W2 := hide' (W1.out.keep hb2); obtain ⟨⟨d0, d1, d2, d3⟩, ⟨e0, e1, e2, e3⟩, -⟩ := W2.out) | (go_at_call 20; refine (H1.out _ (HA.out.t.keep W2.out.b) (HB.out.t.keep W2.out.b)).mono ?_; rintro e w3 ⟨rfl, hb3⟩; have W3 := hide' (W2.out.keep hb3)))
        go_ret
        exact ⟨by simp, W3.out.b⟩
  · have hft2 : decide (ft = fu) = false := decide_eq_false hft
    go_enter Try.func7, Try.ntmps7
    go_wp2_with fail
    go_ret
    exact ⟨by simp [hft2], HW.out.b⟩

set_option maxRecDepth 20000 in
set_option maxHeartbeats 4000000 in
theorem ssamest_no (s u : StD) (T C O T' C' O' : Option Addr) (k1 k2 k3 j1 j2 j3 : Nat) (hf : StFit s 1048576) (hg : StFit u 1048576) (hn : StNums s) (hm : StNums u) (hno : s.ts.length ≠ u.ts.length ∨ (sameL sB s.cl u.cl && (sameL iB s.ow u.ow && decide (s.ft = u.ft))) = false) (w : World) (hA : StAt w T C O s) (hB : StAt w T' C' O' u) :
    Calls Try.prog 5 #[.agg #[.slice T s.ts.length k1, .slice C s.cl.length k2, .slice O s.ow.length k3, .int .i64 s.ft], .agg #[.slice T' u.ts.length j1, .slice C' u.cl.length j2, .slice O' u.ow.length j3, .int .i64 u.ft]] w fun e w' => e = .returned (.bool false) ∧ Below w.heap.size w w' := by
  have hl1 : (s.ts.length : Int) ≤ 1048576 := by have := hf.t; omega
  have hl2 : (u.ts.length : Int) ≤ 1048576 := by have := hg.t; omega
  have H2 := hide' (fun w h1 h2 => l3same_l C C' s.cl u.cl k2 j2 hf.c hg.c hn.c hm.c w h1 h2)
  have H3 := hide' (fun w h1 h2 => l1same_l O O' s.ow u.ow k3 j3 hf.o hg.o w h1 h2)
  have HA := hide' hA
  have HB := hide' hB
  have HW := hide' (two2_new w T C O s.ts.length k1 s.cl.length k2 s.ow.length k3 s.ft T' C' O' u.ts.length j1 u.cl.length j2 u.ow.length j3 u.ft 31)
  clear hf hg hn hm hA hB
  generalize sameL sB s.cl u.cl = g2 at H2 hno
  generalize sameL iB s.ow u.ow = g3 at H3 hno
  by_cases hlen : s.ts.length = u.ts.length
  · have hno2 := hno.resolve_left (fun h => h hlen)
    rw [← hlen] at HW ⊢
    clear hno hlen hl2
    generalize s.ts.length = n1 at *
    generalize s.cl.length = n2 at *
    generalize s.ow.length = n3 at *
    generalize s.ft = ft at *
    generalize u.cl.length = m2 at *
    generalize u.ow.length = m3 at *
    generalize u.ft = fu at *
    cases g2
    · clear hno2
      go_enter Try.func5, Try.ntmps5
      go_wp2_with (go_at_call 12; refine (H2.out _ (HA.out.c.keep HW.out.b) (HB.out.c.keep HW.out.b)).mono ?_; rintro e w1 ⟨rfl, hb1⟩; have W1 := hide' (HW.out.keep hb1))
      go_ret
      exact ⟨rfl, W1.out.b⟩
    · cases g3
      · clear hno2
        go_enter Try.func5, Try.ntmps5
        go_wp2_with (first | (go_at_call 12; refine (H2.out _ (HA.out.c.keep HW.out.b) (HB.out.c.keep HW.out.b)).mono ?_; rintro e w1 ⟨rfl, hb1⟩; have W1 := hide' (HW.out.keep hb1); obtain ⟨⟨a0, a1, a2, a3⟩, ⟨c0, c1, c2, c3⟩, -⟩ := W1.out) | (go_at_call 13; refine (H3.out _ (HA.out.o.keep W1.out.b) (HB.out.o.keep W1.out.b)).mono ?_; rintro e w2 ⟨rfl, hb2⟩; have W2 := hide' (W1.out.keep hb2)))
        go_ret
        exact ⟨rfl, W2.out.b⟩
      · have hft : ft ≠ fu := by simpa using hno2
        clear hno2
        go_enter Try.func5, Try.ntmps5
        go_wp2_with (first | (go_at_call 12; refine (H2.out _ (HA.out.c.keep HW.out.b) (HB.out.c.keep HW.out.b)).mono ?_; rintro e w1 ⟨rfl, hb1⟩; have W1 := hide' (HW.out.keep hb1); obtain ⟨⟨a0, a1, a2, a3⟩, ⟨c0, c1, c2, c3⟩, -⟩ := W1.out) | (go_at_call 13; refine (H3.out _ (HA.out.o.keep W1.out.b) (HB.out.o.keep W1.out.b)).mono ?_; rintro e w2 ⟨rfl, hb2⟩; have W2 := hide' (W1.out.keep hb2); obtain ⟨⟨d0, d1, d2, d3⟩, ⟨e0, e1, e2, e3⟩, -⟩ := W2.out))
        go_ret
        exact ⟨rfl, W2.out.b⟩
  · have hln : ¬ ((s.ts.length : Int) = (u.ts.length : Int)) := by omega
    clear hno hlen
    go_enter Try.func5, Try.ntmps5
    go_wp2_with fail
    go_ret
    exact ⟨rfl, HW.out.b⟩
end Go.Proofs.Ytdifamjkbagfcab
