/- (knownCells).note. -/
import Derived.Test.YtclnnboaehpolaaVxb
import Derived.Test.YtclnnboaehpolaaVs
namespace Go.Proofs.Ytclnnboaehpolaa
open Go.RowKit Go.Maps
open Rd Fl

/-- five numbers, the one at place th put anew -/
def set5 (th : Nat) (v d0 d1 d2 d3 d4 : Int) : Value := .agg #[.int .i64 (if th = 0 then v else d0), .int .i64 (if th = 1 then v else d1), .int .i64 (if th = 2 then v else d2), .int .i64 (if th = 3 then v else d3), .int .i64 (if th = 4 then v else d4)]
/-- Of all that was there in cells nothing has turned. -/
structure CKept (w w' : World) : Prop where
  c : ∀ N o v, w.cell? ⟨N, o, none⟩ = some v → w'.cell? ⟨N, o, none⟩ = some v
  z : w.heap.size ≤ w'.heap.size
theorem CKept.refl (w : World) : CKept w w := ⟨fun _ _ _ h => h, Nat.le_refl _⟩
theorem CKept.of {w w' : World} (h : Below w.heap.size w w') : CKept w w' := ⟨fun _ _ _ hc => keep_cell h hc, h.size⟩
theorem CKept.trans {a b c : World} (h : CKept a b) (k : CKept b c) : CKept a c := ⟨fun N o v hc => k.c N o v (h.c N o v hc), Nat.le_trans h.z k.z⟩
theorem CKept.map {w w' : World} {M n : Nat} {f : Int → Option Value} (hm : MapV w M n f) (hg : w.grownBy w' (some M)) : CKept w w' := by
  refine ⟨fun N o v hc => ?_, hg.size⟩
  have hl := cell_lt hc
  have hne : N ≠ M := by
    intro e
    subst e
    obtain ⟨D, ⟨es, clock, h3, -⟩, -⟩ := hm
    simp [World.cell?, h3] at hc
  have e := hg.block N hl (fun e => hne (Option.some.inj e))
  unfold World.cell? at hc ⊢
  simp only at hc ⊢
  rw [e]; exact hc
theorem EvBox.ck {w w' : World} {N : Nat} {a0 a1 a2 a3 a4 : Int} (h : EvBox w N a0 a1 a2 a3 a4) (k : CKept w w') : EvBox w' N a0 a1 a2 a3 a4 := ⟨k.c _ _ _ h.1, k.c _ _ _ h.2.1, k.c _ _ _ h.2.2.1, k.c _ _ _ h.2.2.2.1, k.c _ _ _ h.2.2.2.2⟩

set_option maxRecDepth 20000 in
set_option maxHeartbeats 8000000 in
theorem note_store (M1 M2 n1 n2 lo : Nat) (f1 f2 : Int → Option Value) (r0 r1 r2 r3 r4 : Int) (th : Nat) (eth : Int) (bC oC cap : Nat) (w : World)
    (hm1 : MapV w M1 n1 f1) (hm2 : MapV w M2 n2 f2) (hne : M1 ≠ M2) (hl1 : lo ≤ M1) (hl2 : lo ≤ M2) (hr2 : wfI r2) (hk : (r1 == 3) = true) (h0 : r0 = (th : Int)) (hth : th < 5) (hn1 : n1 ≤ 1048576)
    (hct : w.cell? ⟨bC, oC + th, none⟩ = some (.int .i64 eth)) :
    Calls Try.prog 17 #[.agg #[.map (some M1), .map (some M2)], .agg #[.int .i64 r0, .int .i64 r1, .int .i64 r2, .int .i64 r3, .int .i64 r4], .slice (some ⟨bC, oC, none⟩) 5 cap] w fun e w' =>
      e = .returned (.tuple #[]) ∧ Below lo w w' ∧ CKept w w' ∧ MapV w' M1 (n1 + 1) (putF f1 r2 (.agg #[.int .i64 (th : Int), .int .i64 eth])) ∧ MapV w' M2 n2 (delF f2 r2) := by
  subst h0
  have hth2 : (th : Int) < 5 := by omega
  have hth0 : (0 : Int) ≤ (th : Int) := by omega
  have hlw := hm1.lt
  have hlw2 := hm2.lt
  have K0 := hide' (knbox_new w M1 M2 (th : Int) r1 r2 r3 r4)
  have X1 := hide' (hm1.keep (K0.out.b))
  have X2 := hide' (hm2.keep (K0.out.b))
  have ct := keep_cell K0.out.b hct
  clear hm1 hm2 hct
  go_enter Try.func17, Try.ntmps17
  go_upto_region 1 with fail
  generalize hwx : (w.alloc (.cells #[.map (some M1), .map (some M2)] 48)).alloc (.cells #[.int .i64 (th : Int), .int .i64 r1, .int .i64 r2, .int .i64 r3, .int .i64 r4] 35) = wx at *
  clear hwx
  have k0 := K0.out.k0
  have k1 := K0.out.k1
  obtain ⟨q0, q1, q2, q3, q4⟩ := K0.out.e
  go_wp2_with (first
    | (at_mapUpdate; refine mv_put _ rfl _ _ _ 45 rfl 59 Try.underlying45 M1 n1 f1 rfl X1.out hn1 r2 hr2 _ rfl rfl ?_; intro w5 hm5 hg5; go_frame; have P5 := hide' hm5; have C5 := hide' (CKept.map X1.out hg5); have Y5 := hide' (X2.out.row hg5 (fun e => hne (Option.some.inj e).symm)); have G5 := hide' (Below.grown (K0.out.b.mono (Nat.le_trans hl1 (Nat.le_of_lt hlw))) hg5 (Nat.le_trans (Nat.le_trans hl1 (Nat.le_of_lt hlw)) K0.out.b.size) (fun j hj => by cases hj; exact hl1)); clear hm5 hg5 q0 q1 q2 q3 q4; have k1 := C5.out.c _ _ _ k1; obtain ⟨q0, q1, q2, q3, q4⟩ := K0.out.e.ck C5.out)
    | (at_delete; refine mv_del _ rfl _ _ 46 rfl 60 Try.underlying46 M2 n2 f2 rfl Y5.out r2 hr2 rfl ?_; intro w6 hm6 hg6; go_frame))
  refine bodyPost_ret (results_none rfl _ _ _) rfl ?_
  exact ⟨rfl, Below.grown G5.out hg6 (Nat.le_trans (Nat.le_trans hl1 (Nat.le_of_lt hlw)) (Nat.le_trans K0.out.b.size C5.out.z)) (fun j hj => by cases hj; exact hl2), ((CKept.of K0.out.b).trans C5.out).trans (CKept.map Y5.out hg6), P5.out.row hg6 (fun e => hne (Option.some.inj e)), hm6⟩

theorem five_new (w : World) (a b c d e : Value) (t : TypeId) : (w.alloc (.cells #[a, b, c, d, e] t)).cell? ⟨w.heap.size, 0, none⟩ = some a ∧ (w.alloc (.cells #[a, b, c, d, e] t)).cell? ⟨w.heap.size, 1, none⟩ = some b ∧ (w.alloc (.cells #[a, b, c, d, e] t)).cell? ⟨w.heap.size, 2, none⟩ = some c ∧ (w.alloc (.cells #[a, b, c, d, e] t)).cell? ⟨w.heap.size, 3, none⟩ = some d ∧ (w.alloc (.cells #[a, b, c, d, e] t)).cell? ⟨w.heap.size, 4, none⟩ = some e := by
  refine ⟨?_, ?_, ?_, ?_, ?_⟩ <;> (rw [World.cell?_alloc_new]; rfl)

set_option maxRecDepth 20000 in
set_option maxHeartbeats 8000000 in
theorem note_load (M1 M2 n1 n2 lo : Nat) (f1 f2 : Int → Option Value) (r0 r1 r2 r3 r4 : Int) (th : Nat) (eth d0 d1 d2 d3 d4 : Int) (bC oC cap : Nat) (w : World)
    (hm1 : MapV w M1 n1 f1) (hm2 : MapV w M2 n2 f2) (hne : M1 ≠ M2) (hl1 : lo ≤ M1) (hl2 : lo ≤ M2) (hr2 : wfI r2) (hk : (r1 == 3) = false) (h0 : r0 = (th : Int)) (hth : th < 5) (hn2 : n2 ≤ 1048576)
    (h2 : (f2 r2).getD (.agg #[.int .i64 0, .int .i64 0, .int .i64 0, .int .i64 0, .int .i64 0]) = .agg #[.int .i64 d0, .int .i64 d1, .int .i64 d2, .int .i64 d3, .int .i64 d4])
    (hct : w.cell? ⟨bC, oC + th, none⟩ = some (.int .i64 eth)) :
    Calls Try.prog 17 #[.agg #[.map (some M1), .map (some M2)], .agg #[.int .i64 r0, .int .i64 r1, .int .i64 r2, .int .i64 r3, .int .i64 r4], .slice (some ⟨bC, oC, none⟩) 5 cap] w fun e w' =>
      e = .returned (.tuple #[]) ∧ Below lo w w' ∧ CKept w w' ∧ MapV w' M1 n1 f1 ∧ MapV w' M2 (n2 + 1) (putF f2 r2 (set5 th eth d0 d1 d2 d3 d4)) := by
  have hlw := hm1.lt
  have hlw2 := hm2.lt
  have hthc : th = 0 ∨ th = 1 ∨ th = 2 ∨ th = 3 ∨ th = 4 := by omega
  have Q1 := hide' hm1
  have Q2 := hide' hm2
  clear hm1 hm2 hth
  rcases hthc with rfl | rfl | rfl | rfl | rfl
  · have h0' : r0 = 0 := h0
    subst h0'
    rw [show set5 0 eth d0 d1 d2 d3 d4 = .agg #[.int .i64 eth, .int .i64 d1, .int .i64 d2, .int .i64 d3, .int .i64 d4] from rfl]
    have K0 := hide' (knbox_new w M1 M2 0 r1 r2 r3 r4)
    have X1 := hide' (Q1.out.keep (K0.out.b))
    have X2 := hide' (Q2.out.keep (K0.out.b))
    have ct := keep_cell K0.out.b hct
    rw [Nat.add_zero] at ct
    clear Q1 Q2 hct h0
    go_enter Try.func17, Try.ntmps17
    go_upto_region 1 with fail
    generalize hwx : (w.alloc (.cells #[.map (some M1), .map (some M2)] 48)).alloc (.cells #[.int .i64 0, .int .i64 r1, .int .i64 r2, .int .i64 r3, .int .i64 r4] 35) = wx at *
    clear hwx
    have k1 := K0.out.k1
    obtain ⟨q0, q1, q2, q3, q4⟩ := K0.out.e
    have U5 := hide' ((Below.refl wx.heap.size wx).up (.cells #[.int .i64 d0, .int .i64 d1, .int .i64 d2, .int .i64 d3, .int .i64 d4] 60))
    obtain ⟨u0, u1, u2, u3, u4⟩ := K0.out.e.keep U5.out
    have W6 := hide' ((Below.refl wx.heap.size wx).up (.cells #[.int .i64 eth, .int .i64 d1, .int .i64 d2, .int .i64 d3, .int .i64 d4] 60))
    have X6 := hide' (X2.out.keep W6.out)
    have Y6 := hide' (X1.out.keep W6.out)
    obtain ⟨v0, v1, v2, v3, v4⟩ := K0.out.e.keep W6.out
    have k6 := keep_cell W6.out k1
    obtain ⟨x0, x1, x2, x3, x4⟩ := five_new wx (.int .i64 eth) (.int .i64 d1) (.int .i64 d2) (.int .i64 d3) (.int .i64 d4) 60
    go_wp2_with (first
      | (at_lookup; refine mv_look _ rfl _ _ 46 rfl 60 Try.underlying46 _ (zeroA5 _) M2 n2 f2 rfl X2.out r2 hr2 rfl _ h2 ?_)
      | (at_mapUpdate; refine mv_put _ rfl _ _ _ 46 rfl 60 Try.underlying46 M2 n2 f2 rfl X6.out hn2 r2 hr2 _ rfl rfl ?_; intro w6 hm6 hg6; go_frame))
    go_end0
    have HB := K0.out.b.trans (W6.out.mono K0.out.b.size)
    exact ⟨rfl, Below.grown (HB.mono (Nat.le_trans hl1 (Nat.le_of_lt hlw))) hg6 (Nat.le_trans (Nat.le_trans hl1 (Nat.le_of_lt hlw)) HB.size) (fun j hj => by cases hj; exact hl2), (CKept.of HB).trans (CKept.map X6.out hg6), Y6.out.row hg6 (fun e => hne (Option.some.inj e)), hm6⟩
  · have h0' : r0 = 1 := h0
    subst h0'
    rw [show set5 1 eth d0 d1 d2 d3 d4 = .agg #[.int .i64 d0, .int .i64 eth, .int .i64 d2, .int .i64 d3, .int .i64 d4] from rfl]
    have K0 := hide' (knbox_new w M1 M2 1 r1 r2 r3 r4)
    have X1 := hide' (Q1.out.keep (K0.out.b))
    have X2 := hide' (Q2.out.keep (K0.out.b))
    have ct := keep_cell K0.out.b hct
    clear Q1 Q2 hct h0
    go_enter Try.func17, Try.ntmps17
    go_upto_region 1 with fail
    generalize hwx : (w.alloc (.cells #[.map (some M1), .map (some M2)] 48)).alloc (.cells #[.int .i64 1, .int .i64 r1, .int .i64 r2, .int .i64 r3, .int .i64 r4] 35) = wx at *
    clear hwx
    have k1 := K0.out.k1
    obtain ⟨q0, q1, q2, q3, q4⟩ := K0.out.e
    have U5 := hide' ((Below.refl wx.heap.size wx).up (.cells #[.int .i64 d0, .int .i64 d1, .int .i64 d2, .int .i64 d3, .int .i64 d4] 60))
    obtain ⟨u0, u1, u2, u3, u4⟩ := K0.out.e.keep U5.out
    have W6 := hide' ((Below.refl wx.heap.size wx).up (.cells #[.int .i64 d0, .int .i64 eth, .int .i64 d2, .int .i64 d3, .int .i64 d4] 60))
    have X6 := hide' (X2.out.keep W6.out)
    have Y6 := hide' (X1.out.keep W6.out)
    obtain ⟨v0, v1, v2, v3, v4⟩ := K0.out.e.keep W6.out
    have k6 := keep_cell W6.out k1
    obtain ⟨x0, x1, x2, x3, x4⟩ := five_new wx (.int .i64 d0) (.int .i64 eth) (.int .i64 d2) (.int .i64 d3) (.int .i64 d4) 60
    go_wp2_with (first
      | (at_lookup; refine mv_look _ rfl _ _ 46 rfl 60 Try.underlying46 _ (zeroA5 _) M2 n2 f2 rfl X2.out r2 hr2 rfl _ h2 ?_)
      | (at_mapUpdate; refine mv_put _ rfl _ _ _ 46 rfl 60 Try.underlying46 M2 n2 f2 rfl X6.out hn2 r2 hr2 _ rfl rfl ?_; intro w6 hm6 hg6; go_frame))
    go_end0
    have HB := K0.out.b.trans (W6.out.mono K0.out.b.size)
    exact ⟨rfl, Below.grown (HB.mono (Nat.le_trans hl1 (Nat.le_of_lt hlw))) hg6 (Nat.le_trans (Nat.le_trans hl1 (Nat.le_of_lt hlw)) HB.size) (fun j hj => by cases hj; exact hl2), (CKept.of HB).trans (CKept.map X6.out hg6), Y6.out.row hg6 (fun e => hne (Option.some.inj e)), hm6⟩
  · have h0' : r0 = 2 := h0
    subst h0'
    rw [show set5 2 eth d0 d1 d2 d3 d4 = .agg #[.int .i64 d0, .int .i64 d1, .int .i64 eth, .int .i64 d3, .int .i64 d4] from rfl]
    have K0 := hide' (knbox_new w M1 M2 2 r1 r2 r3 r4)
    have X1 := hide' (Q1.out.keep (K0.out.b))
    have X2 := hide' (Q2.out.keep (K0.out.b))
    have ct := keep_cell K0.out.b hct
    clear Q1 Q2 hct h0
    go_enter Try.func17, Try.ntmps17
    go_upto_region 1 with fail
    generalize hwx : (w.alloc (.cells #[.map (some M1), .map (some M2)] 48)).alloc (.cells #[.int .i64 2, .int .i64 r1, .int .i64 r2, .int .i64 r3, .int .i64 r4] 35) = wx at *
    clear hwx
    have k1 := K0.out.k1
    obtain ⟨q0, q1, q2, q3, q4⟩ := K0.out.e
    have U5 := hide' ((Below.refl wx.heap.size wx).up (.cells #[.int .i64 d0, .int .i64 d1, .int .i64 d2, .int .i64 d3, .int .i64 d4] 60))
    obtain ⟨u0, u1, u2, u3, u4⟩ := K0.out.e.keep U5.out
    have W6 := hide' ((Below.refl wx.heap.size wx).up (.cells #[.int .i64 d0, .int .i64 d1, .int .i64 eth, .int .i64 d3, .int .i64 d4] 60))
    have X6 := hide' (X2.out.keep W6.out)
    have Y6 := hide' (X1.out.keep W6.out)
    obtain ⟨v0, v1, v2, v3, v4⟩ := K0.out.e.keep W6.out
    have k6 := keep_cell W6.out k1
    obtain ⟨x0, x1, x2, x3, x4⟩ := five_new wx (.int .i64 d0) (.int .i64 d1) (.int .i64 eth) (.int .i64 d3) (.int .i64 d4) 60
    go_wp2_with (first
      | (at_lookup; refine mv_look _ rfl _ _ 46 rfl 60 Try.underlying46 _ (zeroA5 _) M2 n2 f2 rfl X2.out r2 hr2 rfl _ h2 ?_)
      | (at_mapUpdate; refine mv_put _ rfl _ _ _ 46 rfl 60 Try.underlying46 M2 n2 f2 rfl X6.out hn2 r2 hr2 _ rfl rfl ?_; intro w6 hm6 hg6; go_frame))
    go_end0
    have HB := K0.out.b.trans (W6.out.mono K0.out.b.size)
    exact ⟨rfl, Below.grown (HB.mono (Nat.le_trans hl1 (Nat.le_of_lt hlw))) hg6 (Nat.le_trans (Nat.le_trans hl1 (Nat.le_of_lt hlw)) HB.size) (fun j hj => by cases hj; exact hl2), (CKept.of HB).trans (CKept.map X6.out hg6), Y6.out.row hg6 (fun e => hne (Option.some.inj e)), hm6⟩
  · have h0' : r0 = 3 := h0
    subst h0'
    rw [show set5 3 eth d0 d1 d2 d3 d4 = .agg #[.int .i64 d0, .int .i64 d1, .int .i64 d2, .int .i64 eth, .int .i64 d4] from rfl]
    have K0 := hide' (knbox_new w M1 M2 3 r1 r2 r3 r4)
    have X1 := hide' (Q1.out.keep (K0.out.b))
    have X2 := hide' (Q2.out.keep (K0.out.b))
    have ct := keep_cell K0.out.b hct
    clear Q1 Q2 hct h0
    go_enter Try.func17, Try.ntmps17
    go_upto_region 1 with fail
    generalize hwx : (w.alloc (.cells #[.map (some M1), .map (some M2)] 48)).alloc (.cells #[.int .i64 3, .int .i64 r1, .int .i64 r2, .int .i64 r3, .int .i64 r4] 35) = wx at *
    clear hwx
    have k1 := K0.out.k1
    obtain ⟨q0, q1, q2, q3, q4⟩ := K0.out.e
    have U5 := hide' ((Below.refl wx.heap.size wx).up (.cells #[.int .i64 d0, .int .i64 d1, .int .i64 d2, .int .i64 d3, .int .i64 d4] 60))
    obtain ⟨u0, u1, u2, u3, u4⟩ := K0.out.e.keep U5.out
    have W6 := hide' ((Below.refl wx.heap.size wx).up (.cells #[.int .i64 d0, .int .i64 d1, .int .i64 d2, .int .i64 eth, .int .i64 d4] 60))
    have X6 := hide' (X2.out.keep W6.out)
    have Y6 := hide' (X1.out.keep W6.out)
    obtain ⟨v0, v1, v2, v3, v4⟩ := K0.out.e.keep W6.out
    have k6 := keep_cell W6.out k1
    obtain ⟨x0, x1, x2, x3, x4⟩ := five_new wx (.int .i64 d0) (.int .i64 d1) (.int .i64 d2) (.int .i64 eth) (.int .i64 d4) 60
    go_wp2_with (first
      | (at_lookup; refine mv_look _ rfl _ _ 46 rfl 60 Try.underlying46 _ (zeroA5 _) M2 n2 f2 rfl X2.out r2 hr2 rfl _ h2 ?_)
      | (at_mapUpdate; refine mv_put _ rfl _ _ _ 46 rfl 60 Try.underlying46 M2 n2 f2 rfl X6.out hn2 r2 hr2 _ rfl rfl ?_; intro w6 hm6 hg6; go_frame))
    go_end0
    have HB := K0.out.b.trans (W6.out.mono K0.out.b.size)
    exact ⟨rfl, Below.grown (HB.mono (Nat.le_trans hl1 (Nat.le_of_lt hlw))) hg6 (Nat.le_trans (Nat.le_trans hl1 (Nat.le_of_lt hlw)) HB.size) (fun j hj => by cases hj; exact hl2), (CKept.of HB).trans (CKept.map X6.out hg6), Y6.out.row hg6 (fun e => hne (Option.some.inj e)), hm6⟩
  · have h0' : r0 = 4 := h0
    subst h0'
    rw [show set5 4 eth d0 d1 d2 d3 d4 = .agg #[.int .i64 d0, .int .i64 d1, .int .i64 d2, .int .i64 d3, .int .i64 eth] from rfl]
    have K0 := hide' (knbox_new w M1 M2 4 r1 r2 r3 r4)
    have X1 := hide' (Q1.out.keep (K0.out.b))
    have X2 := hide' (Q2.out.keep (K0.out.b))
    have ct := keep_cell K0.out.b hct
    clear Q1 Q2 hct h0
    go_enter Try.func17, Try.ntmps17
    go_upto_region 1 with fail
    generalize hwx : (w.alloc (.cells #[.map (some M1), .map (some M2)] 48)).alloc (.cells #[.int .i64 4, .int .i64 r1, .int .i64 r2, .int .i64 r3, .int .i64 r4] 35) = wx at *
    clear hwx
    have k1 := K0.out.k1
    obtain ⟨q0, q1, q2, q3, q4⟩ := K0.out.e
    have U5 := hide' ((Below.refl wx.heap.size wx).up (.cells #[.int .i64 d0, .int .i64 d1, .int .i64 d2, .int .i64 d3, .int .i64 d4] 60))
    obtain ⟨u0, u1, u2, u3, u4⟩ := K0.out.e.keep U5.out
    have W6 := hide' ((Below.refl wx.heap.size wx).up (.cells #[.int .i64 d0, .int .i64 d1, .int .i64 d2, .int .i64 d3, .int .i64 eth] 60))
    have X6 := hide' (X2.out.keep W6.out)
    have Y6 := hide' (X1.out.keep W6.out)
    obtain ⟨v0, v1, v2, v3, v4⟩ := K0.out.e.keep W6.out
    have k6 := keep_cell W6.out k1
    obtain ⟨x0, x1, x2, x3, x4⟩ := five_new wx (.int .i64 d0) (.int .i64 d1) (.int .i64 d2) (.int .i64 d3) (.int .i64 eth) 60
    go_wp2_with (first
      | (at_lookup; refine mv_look _ rfl _ _ 46 rfl 60 Try.underlying46 _ (zeroA5 _) M2 n2 f2 rfl X2.out r2 hr2 rfl _ h2 ?_)
      | (at_mapUpdate; refine mv_put _ rfl _ _ _ 46 rfl 60 Try.underlying46 M2 n2 f2 rfl X6.out hn2 r2 hr2 _ rfl rfl ?_; intro w6 hm6 hg6; go_frame))
    go_end0
    have HB := K0.out.b.trans (W6.out.mono K0.out.b.size)
    exact ⟨rfl, Below.grown (HB.mono (Nat.le_trans hl1 (Nat.le_of_lt hlw))) hg6 (Nat.le_trans (Nat.le_trans hl1 (Nat.le_of_lt hlw)) HB.size) (fun j hj => by cases hj; exact hl2), (CKept.of HB).trans (CKept.map X6.out hg6), Y6.out.row hg6 (fun e => hne (Option.some.inj e)), hm6⟩
end Go.Proofs.Ytclnnboaehpolaa
