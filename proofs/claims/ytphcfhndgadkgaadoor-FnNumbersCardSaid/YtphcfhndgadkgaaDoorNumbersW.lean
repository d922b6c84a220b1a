/- The walk of FnNumbers. -/
import Derived.Test.YtphcfhndgadkgaaDoorDraws
import Derived.Test.YtphcfhndgadkgaaDoorNumFactsB
namespace Go.Proofs.YtphcfhndgadkgaaDoor
open Go.RowKit
open Fl

set_option maxHeartbeats 400000 in
theorem big_any (a b : Option Addr) (la ca lb cb : Nat) (w : World) :
    Calls Tryd.prog 5 #[.slice a la ca, .slice b lb cb] w fun e w' => (∃ v : Bool, e = .returned (.bool v) ∧ (v = false → la ≤ 1048576 ∧ lb ≤ 1048576)) ∧ w' = w := by
  by_cases h : la ≤ 1048576
  · by_cases h2 : lb + la ≤ 1048576
    · go_enter Tryd.func5, Tryd.ntmps5
      go_wp2
      go_ret
      exact ⟨⟨_, rfl, fun _ => ⟨by omega, by omega⟩⟩, rfl⟩
    · have h3 : 1048576 < (lb : Int) + la := by omega
      go_enter Tryd.func5, Tryd.ntmps5
      go_wp2
      go_ret
      refine ⟨⟨_, rfl, fun hv => ?_⟩, rfl⟩
      simp at hv
      omega
  · have h3 : 1048576 < (la : Int) := by omega
    go_enter Tryd.func5, Tryd.ntmps5
    go_wp2
    go_ret
    exact ⟨⟨true, rfl, fun hv => by cases hv⟩, rfl⟩

theorem Src.grow {w w' : World} {a : Option Addr} {len : Nat} (h : Src w w.heap.size a len) (hb : Below w.heap.size w w') : Src w' w'.heap.size a len := by
  have h1 := h.below hb
  refine ⟨h1.1, fun i hi => ?_⟩
  obtain ⟨ab, off, b, e1, e2, e3⟩ := h1.2 i hi
  exact ⟨ab, off, b, e1, Nat.lt_of_lt_of_le e2 hb.size, e3⟩
theorem Tab.under {w w' : World} (h : Tab w) (hb : Below w.heap.size w w') : Tab w' := fun i hi =>
  (hb.cell (World.block_lt_of_cell? w _ (h i hi))).trans (h i hi)
theorem below_drewN {N : Nat} {w w' : World} (h : Below N w w') (n : Nat) : Below N w (w'.drewN n) := ⟨h.os, h.tape, h.output, h.size, h.block⟩

theorem notSame {n : Int} {b : Bool} (h : n = 0 ↔ b = true) (h2 : n ≠ 0) : b = false := by
  cases b
  · rfl
  · exact absurd (h.2 rfl) h2

/-- The ways in which two numbers lie. -/
theorem ways (s t : Bool) (r q : Nat) (hr : r < 9223372036854775808) (hq : q < 9223372036854775808) :
    (cmpN s r t q = 0 ∧ cmpN t q s r = 0 ∧ sameB s r t q = true ∧ leastW s r t q = wd s r ∧ (FloatKind.f64.format.order (wd s r) (wd t q) == some Ordering.lt) = false) ∨
    (cmpN s r t q = 1 ∧ cmpN t q s r = -1 ∧ sameB s r t q = false ∧ leastW s r t q = wd t q ∧ (FloatKind.f64.format.order (wd s r) (wd t q) == some Ordering.lt) = false) ∨
    (cmpN s r t q = -1 ∧ cmpN t q s r = 1 ∧ sameB s r t q = false ∧ leastW s r t q = wd s r ∧ (FloatKind.f64.format.order (wd s r) (wd t q) == some Ordering.lt) = false) ∨
    (cmpN s r t q = -1 ∧ cmpN t q s r = 1 ∧ sameB s r t q = false ∧ leastW s r t q = wd s r ∧ (FloatKind.f64.format.order (wd s r) (wd t q) == some Ordering.lt) = true) := by
  have ha := cmp_anti s t r q
  have hsm := cmp_same s t r q
  have hl := lt_cmp s t r q hr hq
  have hlw : leastW s r t q = if cmpN s r t q ≤ 0 then wd s r else wd t q := rfl
  cases ho : (FloatKind.f64.format.order (wd s r) (wd t q) == some Ordering.lt) <;> rcases cmp_cases s t r q with h | h | h
  · exact .inl ⟨h, by rw [ha, h]; rfl, hsm.1 h, by rw [hlw, h]; rfl, rfl⟩
  · exact .inr (.inl ⟨h, by rw [ha, h], notSame hsm (by omega), by rw [hlw, h]; rfl, rfl⟩)
  · exact .inr (.inr (.inl ⟨h, by rw [ha, h]; rfl, notSame hsm (by omega), by rw [hlw, h]; rfl, rfl⟩))
  · have := hl ho; omega
  · have := hl ho; omega
  · exact .inr (.inr (.inr ⟨h, by rw [ha, h]; rfl, notSame hsm (by omega), by rw [hlw, h]; rfl, rfl⟩))

set_option maxRecDepth 20000 in
set_option maxHeartbeats 12000000 in
theorem numbers_any (a b : Option Addr) (la ca lb cb : Nat) (w : World) (hs1 : la ≤ 1048576 → Src w w.heap.size a la) (hs2 : lb ≤ 1048576 → Src w w.heap.size b lb) (hT : Tab w) :
    Calls Tryd.prog 3 #[.slice a la ca, .slice b lb cb] w fun e w' => e = .returned (.bool true) ∧ Below w.heap.size w w' := by
  have H1 := hidec hs1
  have H2 := hidec hs2
  have HT := hidec hT
  clear hs1 hs2 hT
  go_enter Tryd.func3, Tryd.ntmps3
  go_wp2_with fail
  refine (big_any _ _ _ _ _ _ _).mono ?_
  rintro e w' ⟨⟨v, rfl, hv⟩, rfl⟩
  cases v with
  | true =>
    go_wp2_with fail
    go_ret
    exact ⟨rfl, Below.refl _ _⟩
  | false =>
    have HL := hidec (hv rfl)
    clear hv
    go_wp2_with fail
    refine (dcmp_any a la ca _ (H1.out HL.out.1)).mono ?_
    rintro e w1 ⟨⟨s, r, t, q, hr, hq, rfl⟩, hb1⟩
    have s1 := cmp_self s r
    have s2 := cmp_self t q
    have s3 := sameB_refl s r
    have s4 := sameB_refl t q
    rcases ways s t r q hr hq with ⟨c1, c2, c3, c4, c5⟩ | ⟨c1, c2, c3, c4, c5⟩ | ⟨c1, c2, c3, c4, c5⟩ | ⟨c1, c2, c3, c4, c5⟩
    · go_wp2_with (first | (go_at_call 7; refine (icmp_any _ _ _ _ (by assumption) (by assumption) _).mono ?_; rintro e w' ⟨rfl, rfl⟩) | (go_at_call 9; refine (scmp_any _ _ _ _ (by assumption) (by assumption) _).mono ?_; rintro e w' ⟨rfl, rfl⟩) | (go_at_call 8; refine (ileast_any _ _ _ _ (by assumption) (by assumption) _).mono ?_; rintro e w' ⟨rfl, rfl⟩; rw [c4]) | (go_at_call 12; refine (sleast_any _ _ _ _ (by assumption) (by assumption) _).mono ?_; rintro e w' ⟨rfl, rfl⟩; rw [c4]) | (go_at_call 10; refine (isame_any _ _ _ _ (by assumption) (by assumption) _).mono ?_; rintro e w' ⟨rfl, rfl⟩) | (go_at_call 11; refine (samenum_any _ _ _ _ (by assumption) (by assumption) _).mono ?_; rintro e w' ⟨rfl, rfl⟩))
      refine (dparts_any b lb cb _ ((H2.out HL.out.2).grow hb1)).mono ?_
      rintro e w2 ⟨⟨u, p, hp, rfl⟩, hb2⟩
      have HB2 := hidec (hb1.trans (hb2.mono hb1.size))
      clear hb1 hb2 c1 c2 c3 c4 c5 s1 s2 s3 s4 hr hq
      by_cases hpn : p = 0 ∨ 9218868437227405312 ≤ p
      · have HN := hidec hpn
        have hk : kindN p < 3 := by rcases kindN_small p hpn with h | h | h <;> omega
        clear hpn
        go_wp2_with (first | (go_at_call 14; refine (iparts_no u p hp HN.out _).mono ?_; rintro e w' ⟨rfl, rfl⟩) | (go_at_call 15; refine (sparts_no u p hp HN.out _).mono ?_; rintro e w' ⟨rfl, n, rfl⟩) | (go_at_call 16; refine (ikind_any u p hp _).mono ?_; rintro e w' ⟨rfl, rfl⟩) | (go_at_call 17; refine (skind_any u p hp _).mono ?_; rintro e w' ⟨rfl, n, rfl⟩) | (go_at_call 18; refine (iminus_any u p hp _).mono ?_; rintro e w' ⟨rfl, rfl⟩) | (go_at_call 19; refine (sminus_any u p hp _).mono ?_; rintro e w' ⟨rfl, rfl⟩))
        refine (dnumof_any b lb cb _ ((H2.out HL.out.2).grow (below_drewN HB2.out _))).mono ?_
        rintro e w3 ⟨⟨c, d, hc, hd1, hd2, rfl⟩, hb3⟩
        have HB3 := hidec ((below_drewN HB2.out _).trans (hb3.mono (below_drewN HB2.out _).size))
        have HC := hidec hc
        clear hc hb3 hd1 hd2
        cases hnb3 : noB c d with
        | false =>
          have hnw3 := noW_false hnb3
          have hz := sameB_refl false 0
          go_wp2_with (first | (go_at_call 20; refine (inumof_any c d (by have := HC.out; omega) (by have := HC.out; omega) _).mono ?_; rintro e w' ⟨rfl, rfl⟩; rw [hnb3, hnw3]) | (go_at_call 22; refine (snumof_any c d (by have := HC.out; omega) (by have := HC.out; omega) _).mono ?_; rintro e w' ⟨rfl, n3, rfl⟩; rw [hnb3, hnw3]) | (go_at_call 23; refine (dtoix_any b lb cb _ ((H2.out HL.out.2).grow (below_drewN HB3.out _))).mono ?_; rintro e w4 ⟨⟨sx, rx, mx, hrx, hmx1, hmx2, rfl⟩, hb4⟩; have HB4 := hidec ((below_drewN HB3.out _).trans (hb4.mono (below_drewN HB3.out _).size)); clear hb4) | (go_at_call 24; refine (itoix_any sx rx hrx mx _).mono ?_; rintro e w' ⟨rfl, rfl⟩) | (go_at_call 25; refine (stoix_any sx rx hrx mx _).mono ?_; rintro e w' ⟨rfl, rfl⟩) | (go_at_call 11; refine (samenum_any false false 0 0 (by omega) (by omega) _).mono ?_; rintro e w' ⟨rfl, rfl⟩))
          go_ret
          exact ⟨rfl, HB4.out⟩
        | true =>
          obtain ⟨k, hk0, hk1, hnw3, hpr⟩ := parts_again c d hnb3
          have hkk : k < 9223372036854775808 := by omega
          have hz := sameB_refl (decide (c < 0)) k
          have HK0 := hidec hk0
          have HK1 := hidec hk1
          have HPR := hidec hpr
          clear hk0 hk1 hpr
          generalize hcs : decide (c < 0) = cs at hnw3 hz
          go_wp2_with (first | (go_at_call 20; refine (inumof_any c d (by have := HC.out; omega) (by have := HC.out; omega) _).mono ?_; rintro e w' ⟨rfl, rfl⟩; rw [hnb3, hnw3]) | (go_at_call 22; refine (snumof_any c d (by have := HC.out; omega) (by have := HC.out; omega) _).mono ?_; rintro e w' ⟨rfl, n3, rfl⟩; rw [hnb3, hnw3]) | (go_at_call 23; refine (dtoix_any b lb cb _ ((H2.out HL.out.2).grow (below_drewN HB3.out _))).mono ?_; rintro e w4 ⟨⟨sx, rx, mx, hrx, hmx1, hmx2, rfl⟩, hb4⟩; have HB4 := hidec ((below_drewN HB3.out _).trans (hb4.mono (below_drewN HB3.out _).size)); clear hb4) | (go_at_call 24; refine (itoix_any sx rx hrx mx _).mono ?_; rintro e w' ⟨rfl, rfl⟩) | (go_at_call 25; refine (stoix_any sx rx hrx mx _).mono ?_; rintro e w' ⟨rfl, rfl⟩) | (go_at_call 11; refine (samenum_any cs cs k k hkk hkk _).mono ?_; rintro e w' ⟨rfl, rfl⟩) | (go_at_call 14; refine (iparts_yes cs k HK0.out HK1.out _ (Tab.under HT.out HB4.out)).mono ?_; rintro e w' ⟨⟨m5, x5, rfl, hx5⟩, rfl⟩; obtain ⟨e5, e6⟩ := pr_unique hx5 HPR.out; rw [e5, e6, ← hcs, sg_self]; clear e5 e6 hx5))
          go_ret
          exact ⟨rfl, HB4.out⟩
      · have h0 : 0 < p := by omega
        have h1 : p < 9218868437227405312 := by omega
        have HP0 := hidec h0
        have HP1 := hidec h1
        have hmin : minusB u p = u := by unfold minusB; rw [decide_eq_true (by omega)]; simp
        have HTT := hidec (Tab.under HT.out HB2.out)
        clear hpn h0 h1
        go_wp2_with fail
        refine (iparts_yes u p HP0.out HP1.out _ HTT.out).mono ?_
        rintro e w' ⟨⟨m, x, rfl, hx⟩, rfl⟩
        have hk1 := kind_place p m x HP0.out HP1.out hx
        have hk3 : 3 ≤ kindN p := by rw [hk1]; split <;> omega
        have hkx : (kindN p == 3) = decide (0 ≤ x) := by rw [hk1]; by_cases h : 0 ≤ x <;> simp [h]
        have hm0 : 0 < m := by have := hx.1; omega
        have hodd : ((sg u m).tmod 2 == 0) = false := tmod_odd _ (by rw [sg_abs]; exact hx.1)
        have hneg := sg_neg u m hm0
        obtain ⟨hnb, hnw⟩ := made_again u p m x HP0.out HP1.out hx
        have hbd := sg_bd u m hx.2.1
        have hsr := sameB_refl u p
        have HX := hidec hx
        have HBD := hidec hbd
        clear hx hk1 hm0 hbd
        go_wp2_with (first | (go_at_call 15; refine (sparts_yes u p HP0.out HP1.out _).mono ?_; rintro e w' ⟨⟨m2, x2, rfl, hx2⟩, n, rfl⟩; obtain ⟨rfl, rfl⟩ := pr_unique hx2 HX.out; clear hx2) | (go_at_call 16; refine (ikind_any u p hp _).mono ?_; rintro e w' ⟨rfl, rfl⟩) | (go_at_call 17; refine (skind_any u p hp _).mono ?_; rintro e w' ⟨rfl, n, rfl⟩) | (go_at_call 18; refine (iminus_any u p hp _).mono ?_; rintro e w' ⟨rfl, rfl⟩) | (go_at_call 19; refine (sminus_any u p hp _).mono ?_; rintro e w' ⟨rfl, rfl⟩) | (go_at_call 20; refine (inumof_any _ _ (by have := HBD.out; omega) (by have := HBD.out; omega) _).mono ?_; rintro e w' ⟨rfl, rfl⟩; rw [hnb, hnw]) | (go_at_call 11; refine (samenum_any u u p p hp hp _).mono ?_; rintro e w' ⟨rfl, rfl⟩))
        refine (dnumof_any b lb cb _ ((H2.out HL.out.2).grow (below_drewN HB2.out _))).mono ?_
        rintro e w3 ⟨⟨c, d, hc, hd1, hd2, rfl⟩, hb3⟩
        have HB3 := hidec ((below_drewN HB2.out _).trans (hb3.mono (below_drewN HB2.out _).size))
        have HC := hidec hc
        clear hc hb3 hd1 hd2
        cases hnb3 : noB c d with
        | false =>
          have hnw3 := noW_false hnb3
          have hz := sameB_refl false 0
          go_wp2_with (first | (go_at_call 20; refine (inumof_any c d (by have := HC.out; omega) (by have := HC.out; omega) _).mono ?_; rintro e w' ⟨rfl, rfl⟩; rw [hnb3, hnw3]) | (go_at_call 22; refine (snumof_any c d (by have := HC.out; omega) (by have := HC.out; omega) _).mono ?_; rintro e w' ⟨rfl, n3, rfl⟩; rw [hnb3, hnw3]) | (go_at_call 23; refine (dtoix_any b lb cb _ ((H2.out HL.out.2).grow (below_drewN HB3.out _))).mono ?_; rintro e w4 ⟨⟨sx, rx, mx, hrx, hmx1, hmx2, rfl⟩, hb4⟩; have HB4 := hidec ((below_drewN HB3.out _).trans (hb4.mono (below_drewN HB3.out _).size)); clear hb4) | (go_at_call 24; refine (itoix_any sx rx hrx mx _).mono ?_; rintro e w' ⟨rfl, rfl⟩) | (go_at_call 25; refine (stoix_any sx rx hrx mx _).mono ?_; rintro e w' ⟨rfl, rfl⟩) | (go_at_call 11; refine (samenum_any false false 0 0 (by omega) (by omega) _).mono ?_; rintro e w' ⟨rfl, rfl⟩))
          go_ret
          exact ⟨rfl, HB4.out⟩
        | true =>
          obtain ⟨k, hk0, hk1, hnw3, hpr⟩ := parts_again c d hnb3
          have hkk : k < 9223372036854775808 := by omega
          have hz := sameB_refl (decide (c < 0)) k
          have HK0 := hidec hk0
          have HK1 := hidec hk1
          have HPR := hidec hpr
          clear hk0 hk1 hpr
          generalize hcs : decide (c < 0) = cs at hnw3 hz
          go_wp2_with (first | (go_at_call 20; refine (inumof_any c d (by have := HC.out; omega) (by have := HC.out; omega) _).mono ?_; rintro e w' ⟨rfl, rfl⟩; rw [hnb3, hnw3]) | (go_at_call 22; refine (snumof_any c d (by have := HC.out; omega) (by have := HC.out; omega) _).mono ?_; rintro e w' ⟨rfl, n3, rfl⟩; rw [hnb3, hnw3]) | (go_at_call 23; refine (dtoix_any b lb cb _ ((H2.out HL.out.2).grow (below_drewN HB3.out _))).mono ?_; rintro e w4 ⟨⟨sx, rx, mx, hrx, hmx1, hmx2, rfl⟩, hb4⟩; have HB4 := hidec ((below_drewN HB3.out _).trans (hb4.mono (below_drewN HB3.out _).size)); clear hb4) | (go_at_call 24; refine (itoix_any sx rx hrx mx _).mono ?_; rintro e w' ⟨rfl, rfl⟩) | (go_at_call 25; refine (stoix_any sx rx hrx mx _).mono ?_; rintro e w' ⟨rfl, rfl⟩) | (go_at_call 11; refine (samenum_any cs cs k k hkk hkk _).mono ?_; rintro e w' ⟨rfl, rfl⟩) | (go_at_call 14; refine (iparts_yes cs k HK0.out HK1.out _ (Tab.under HT.out HB4.out)).mono ?_; rintro e w' ⟨⟨m5, x5, rfl, hx5⟩, rfl⟩; obtain ⟨e5, e6⟩ := pr_unique hx5 HPR.out; rw [e5, e6, ← hcs, sg_self]; clear e5 e6 hx5))
          go_ret
          exact ⟨rfl, HB4.out⟩
    · have s5 : sameB t q s r = false := by rw [← sameB_comm]; exact c3
      go_wp2_with (first | (go_at_call 7; refine (icmp_any _ _ _ _ (by assumption) (by assumption) _).mono ?_; rintro e w' ⟨rfl, rfl⟩) | (go_at_call 9; refine (scmp_any _ _ _ _ (by assumption) (by assumption) _).mono ?_; rintro e w' ⟨rfl, rfl⟩) | (go_at_call 8; refine (ileast_any _ _ _ _ (by assumption) (by assumption) _).mono ?_; rintro e w' ⟨rfl, rfl⟩; rw [c4]) | (go_at_call 12; refine (sleast_any _ _ _ _ (by assumption) (by assumption) _).mono ?_; rintro e w' ⟨rfl, rfl⟩; rw [c4]) | (go_at_call 10; refine (isame_any _ _ _ _ (by assumption) (by assumption) _).mono ?_; rintro e w' ⟨rfl, rfl⟩) | (go_at_call 11; refine (samenum_any _ _ _ _ (by assumption) (by assumption) _).mono ?_; rintro e w' ⟨rfl, rfl⟩))
      refine (dparts_any b lb cb _ ((H2.out HL.out.2).grow hb1)).mono ?_
      rintro e w2 ⟨⟨u, p, hp, rfl⟩, hb2⟩
      have HB2 := hidec (hb1.trans (hb2.mono hb1.size))
      clear hb1 hb2 c1 c2 c3 c4 c5 s1 s2 s3 s4 s5 hr hq
      by_cases hpn : p = 0 ∨ 9218868437227405312 ≤ p
      · have HN := hidec hpn
        have hk : kindN p < 3 := by rcases kindN_small p hpn with h | h | h <;> omega
        clear hpn
        go_wp2_with (first | (go_at_call 14; refine (iparts_no u p hp HN.out _).mono ?_; rintro e w' ⟨rfl, rfl⟩) | (go_at_call 15; refine (sparts_no u p hp HN.out _).mono ?_; rintro e w' ⟨rfl, n, rfl⟩) | (go_at_call 16; refine (ikind_any u p hp _).mono ?_; rintro e w' ⟨rfl, rfl⟩) | (go_at_call 17; refine (skind_any u p hp _).mono ?_; rintro e w' ⟨rfl, n, rfl⟩) | (go_at_call 18; refine (iminus_any u p hp _).mono ?_; rintro e w' ⟨rfl, rfl⟩) | (go_at_call 19; refine (sminus_any u p hp _).mono ?_; rintro e w' ⟨rfl, rfl⟩))
        refine (dnumof_any b lb cb _ ((H2.out HL.out.2).grow (below_drewN HB2.out _))).mono ?_
        rintro e w3 ⟨⟨c, d, hc, hd1, hd2, rfl⟩, hb3⟩
        have HB3 := hidec ((below_drewN HB2.out _).trans (hb3.mono (below_drewN HB2.out _).size))
        have HC := hidec hc
        clear hc hb3 hd1 hd2
        cases hnb3 : noB c d with
        | false =>
          have hnw3 := noW_false hnb3
          have hz := sameB_refl false 0
          go_wp2_with (first | (go_at_call 20; refine (inumof_any c d (by have := HC.out; omega) (by have := HC.out; omega) _).mono ?_; rintro e w' ⟨rfl, rfl⟩; rw [hnb3, hnw3]) | (go_at_call 22; refine (snumof_any c d (by have := HC.out; omega) (by have := HC.out; omega) _).mono ?_; rintro e w' ⟨rfl, n3, rfl⟩; rw [hnb3, hnw3]) | (go_at_call 23; refine (dtoix_any b lb cb _ ((H2.out HL.out.2).grow (below_drewN HB3.out _))).mono ?_; rintro e w4 ⟨⟨sx, rx, mx, hrx, hmx1, hmx2, rfl⟩, hb4⟩; have HB4 := hidec ((below_drewN HB3.out _).trans (hb4.mono (below_drewN HB3.out _).size)); clear hb4) | (go_at_call 24; refine (itoix_any sx rx hrx mx _).mono ?_; rintro e w' ⟨rfl, rfl⟩) | (go_at_call 25; refine (stoix_any sx rx hrx mx _).mono ?_; rintro e w' ⟨rfl, rfl⟩) | (go_at_call 11; refine (samenum_any false false 0 0 (by omega) (by omega) _).mono ?_; rintro e w' ⟨rfl, rfl⟩))
          go_ret
          exact ⟨rfl, HB4.out⟩
        | true =>
          obtain ⟨k, hk0, hk1, hnw3, hpr⟩ := parts_again c d hnb3
          have hkk : k < 9223372036854775808 := by omega
          have hz := sameB_refl (decide (c < 0)) k
          have HK0 := hidec hk0
          have HK1 := hidec hk1
          have HPR := hidec hpr
          clear hk0 hk1 hpr
          generalize hcs : decide (c < 0) = cs at hnw3 hz
          go_wp2_with (first | (go_at_call 20; refine (inumof_any c d (by have := HC.out; omega) (by have := HC.out; omega) _).mono ?_; rintro e w' ⟨rfl, rfl⟩; rw [hnb3, hnw3]) | (go_at_call 22; refine (snumof_any c d (by have := HC.out; omega) (by have := HC.out; omega) _).mono ?_; rintro e w' ⟨rfl, n3, rfl⟩; rw [hnb3, hnw3]) | (go_at_call 23; refine (dtoix_any b lb cb _ ((H2.out HL.out.2).grow (below_drewN HB3.out _))).mono ?_; rintro e w4 ⟨⟨sx, rx, mx, hrx, hmx1, hmx2, rfl⟩, hb4⟩; have HB4 := hidec ((below_drewN HB3.out _).trans (hb4.mono (below_drewN HB3.out _).size)); clear hb4) | (go_at_call 24; refine (itoix_any sx rx hrx mx _).mono ?_; rintro e w' ⟨rfl, rfl⟩) | (go_at_call 25; refine (stoix_any sx rx hrx mx _).mono ?_; rintro e w' ⟨rfl, rfl⟩) | (go_at_call 11; refine (samenum_any cs cs k k hkk hkk _).mono ?_; rintro e w' ⟨rfl, rfl⟩) | (go_at_call 14; refine (iparts_yes cs k HK0.out HK1.out _ (Tab.under HT.out HB4.out)).mono ?_; rintro e w' ⟨⟨m5, x5, rfl, hx5⟩, rfl⟩; obtain ⟨e5, e6⟩ := pr_unique hx5 HPR.out; rw [e5, e6, ← hcs, sg_self]; clear e5 e6 hx5))
          go_ret
          exact ⟨rfl, HB4.out⟩
      · have h0 : 0 < p := by omega
        have h1 : p < 9218868437227405312 := by omega
        have HP0 := hidec h0
        have HP1 := hidec h1
        have hmin : minusB u p = u := by unfold minusB; rw [decide_eq_true (by omega)]; simp
        have HTT := hidec (Tab.under HT.out HB2.out)
        clear hpn h0 h1
        go_wp2_with fail
        refine (iparts_yes u p HP0.out HP1.out _ HTT.out).mono ?_
        rintro e w' ⟨⟨m, x, rfl, hx⟩, rfl⟩
        have hk1 := kind_place p m x HP0.out HP1.out hx
        have hk3 : 3 ≤ kindN p := by rw [hk1]; split <;> omega
        have hkx : (kindN p == 3) = decide (0 ≤ x) := by rw [hk1]; by_cases h : 0 ≤ x <;> simp [h]
        have hm0 : 0 < m := by have := hx.1; omega
        have hodd : ((sg u m).tmod 2 == 0) = false := tmod_odd _ (by rw [sg_abs]; exact hx.1)
        have hneg := sg_neg u m hm0
        obtain ⟨hnb, hnw⟩ := made_again u p m x HP0.out HP1.out hx
        have hbd := sg_bd u m hx.2.1
        have hsr := sameB_refl u p
        have HX := hidec hx
        have HBD := hidec hbd
        clear hx hk1 hm0 hbd
        go_wp2_with (first | (go_at_call 15; refine (sparts_yes u p HP0.out HP1.out _).mono ?_; rintro e w' ⟨⟨m2, x2, rfl, hx2⟩, n, rfl⟩; obtain ⟨rfl, rfl⟩ := pr_unique hx2 HX.out; clear hx2) | (go_at_call 16; refine (ikind_any u p hp _).mono ?_; rintro e w' ⟨rfl, rfl⟩) | (go_at_call 17; refine (skind_any u p hp _).mono ?_; rintro e w' ⟨rfl, n, rfl⟩) | (go_at_call 18; refine (iminus_any u p hp _).mono ?_; rintro e w' ⟨rfl, rfl⟩) | (go_at_call 19; refine (sminus_any u p hp _).mono ?_; rintro e w' ⟨rfl, rfl⟩) | (go_at_call 20; refine (inumof_any _ _ (by have := HBD.out; omega) (by have := HBD.out; omega) _).mono ?_; rintro e w' ⟨rfl, rfl⟩; rw [hnb, hnw]) | (go_at_call 11; refine (samenum_any u u p p hp hp _).mono ?_; rintro e w' ⟨rfl, rfl⟩))
        refine (dnumof_any b lb cb _ ((H2.out HL.out.2).grow (below_drewN HB2.out _))).mono ?_
        rintro e w3 ⟨⟨c, d, hc, hd1, hd2, rfl⟩, hb3⟩
        have HB3 := hidec ((below_drewN HB2.out _).trans (hb3.mono (below_drewN HB2.out _).size))
        have HC := hidec hc
        clear hc hb3 hd1 hd2
        cases hnb3 : noB c d with
        | false =>
          have hnw3 := noW_false hnb3
          have hz := sameB_refl false 0
          go_wp2_with (first | (go_at_call 20; refine (inumof_any c d (by have := HC.out; omega) (by have := HC.out; omega) _).mono ?_; rintro e w' ⟨rfl, rfl⟩; rw [hnb3, hnw3]) | (go_at_call 22; refine (snumof_any c d (by have := HC.out; omega) (by have := HC.out; omega) _).mono ?_; rintro e w' ⟨rfl, n3, rfl⟩; rw [hnb3, hnw3]) | (go_at_call 23; refine (dtoix_any b lb cb _ ((H2.out HL.out.2).grow (below_drewN HB3.out _))).mono ?_; rintro e w4 ⟨⟨sx, rx, mx, hrx, hmx1, hmx2, rfl⟩, hb4⟩; have HB4 := hidec ((below_drewN HB3.out _).trans (hb4.mono (below_drewN HB3.out _).size)); clear hb4) | (go_at_call 24; refine (itoix_any sx rx hrx mx _).mono ?_; rintro e w' ⟨rfl, rfl⟩) | (go_at_call 25; refine (stoix_any sx rx hrx mx _).mono ?_; rintro e w' ⟨rfl, rfl⟩) | (go_at_call 11; refine (samenum_any false false 0 0 (by omega) (by omega) _).mono ?_; rintro e w' ⟨rfl, rfl⟩))
          go_ret
          exact ⟨rfl, HB4.out⟩
        | true =>
          obtain ⟨k, hk0, hk1, hnw3, hpr⟩ := parts_again c d hnb3
          have hkk : k < 9223372036854775808 := by omega
          have hz := sameB_refl (decide (c < 0)) k
          have HK0 := hidec hk0
          have HK1 := hidec hk1
          have HPR := hidec hpr
          clear hk0 hk1 hpr
          generalize hcs : decide (c < 0) = cs at hnw3 hz
          go_wp2_with (first | (go_at_call 20; refine (inumof_any c d (by have := HC.out; omega) (by have := HC.out; omega) _).mono ?_; rintro e w' ⟨rfl, rfl⟩; rw [hnb3, hnw3]) | (go_at_call 22; refine (snumof_any c d (by have := HC.out; omega) (by have := HC.out; omega) _).mono ?_; rintro e w' ⟨rfl, n3, rfl⟩; rw [hnb3, hnw3]) | (go_at_call 23; refine (dtoix_any b lb cb _ ((H2.out HL.out.2).grow (below_drewN HB3.out _))).mono ?_; rintro e w4 ⟨⟨sx, rx, mx, hrx, hmx1, hmx2, rfl⟩, hb4⟩; have HB4 := hidec ((below_drewN HB3.out _).trans (hb4.mono (below_drewN HB3.out _).size)); clear hb4) | (go_at_call 24; refine (itoix_any sx rx hrx mx _).mono ?_; rintro e w' ⟨rfl, rfl⟩) | (go_at_call 25; refine (stoix_any sx rx hrx mx _).mono ?_; rintro e w' ⟨rfl, rfl⟩) | (go_at_call 11; refine (samenum_any cs cs k k hkk hkk _).mono ?_; rintro e w' ⟨rfl, rfl⟩) | (go_at_call 14; refine (iparts_yes cs k HK0.out HK1.out _ (Tab.under HT.out HB4.out)).mono ?_; rintro e w' ⟨⟨m5, x5, rfl, hx5⟩, rfl⟩; obtain ⟨e5, e6⟩ := pr_unique hx5 HPR.out; rw [e5, e6, ← hcs, sg_self]; clear e5 e6 hx5))
          go_ret
          exact ⟨rfl, HB4.out⟩
    · go_wp2_with (first | (go_at_call 7; refine (icmp_any _ _ _ _ (by assumption) (by assumption) _).mono ?_; rintro e w' ⟨rfl, rfl⟩) | (go_at_call 9; refine (scmp_any _ _ _ _ (by assumption) (by assumption) _).mono ?_; rintro e w' ⟨rfl, rfl⟩) | (go_at_call 8; refine (ileast_any _ _ _ _ (by assumption) (by assumption) _).mono ?_; rintro e w' ⟨rfl, rfl⟩; rw [c4]) | (go_at_call 12; refine (sleast_any _ _ _ _ (by assumption) (by assumption) _).mono ?_; rintro e w' ⟨rfl, rfl⟩; rw [c4]) | (go_at_call 10; refine (isame_any _ _ _ _ (by assumption) (by assumption) _).mono ?_; rintro e w' ⟨rfl, rfl⟩) | (go_at_call 11; refine (samenum_any _ _ _ _ (by assumption) (by assumption) _).mono ?_; rintro e w' ⟨rfl, rfl⟩))
      refine (dparts_any b lb cb _ ((H2.out HL.out.2).grow hb1)).mono ?_
      rintro e w2 ⟨⟨u, p, hp, rfl⟩, hb2⟩
      have HB2 := hidec (hb1.trans (hb2.mono hb1.size))
      clear hb1 hb2 c1 c2 c3 c4 c5 s1 s2 s3 s4 hr hq
      by_cases hpn : p = 0 ∨ 9218868437227405312 ≤ p
      · have HN := hidec hpn
        have hk : kindN p < 3 := by rcases kindN_small p hpn with h | h | h <;> omega
        clear hpn
        go_wp2_with (first | (go_at_call 14; refine (iparts_no u p hp HN.out _).mono ?_; rintro e w' ⟨rfl, rfl⟩) | (go_at_call 15; refine (sparts_no u p hp HN.out _).mono ?_; rintro e w' ⟨rfl, n, rfl⟩) | (go_at_call 16; refine (ikind_any u p hp _).mono ?_; rintro e w' ⟨rfl, rfl⟩) | (go_at_call 17; refine (skind_any u p hp _).mono ?_; rintro e w' ⟨rfl, n, rfl⟩) | (go_at_call 18; refine (iminus_any u p hp _).mono ?_; rintro e w' ⟨rfl, rfl⟩) | (go_at_call 19; refine (sminus_any u p hp _).mono ?_; rintro e w' ⟨rfl, rfl⟩))
        refine (dnumof_any b lb cb _ ((H2.out HL.out.2).grow (below_drewN HB2.out _))).mono ?_
        rintro e w3 ⟨⟨c, d, hc, hd1, hd2, rfl⟩, hb3⟩
        have HB3 := hidec ((below_drewN HB2.out _).trans (hb3.mono (below_drewN HB2.out _).size))
        have HC := hidec hc
        clear hc hb3 hd1 hd2
        cases hnb3 : noB c d with
        | false =>
          have hnw3 := noW_false hnb3
          have hz := sameB_refl false 0
          go_wp2_with (first | (go_at_call 20; refine (inumof_any c d (by have := HC.out; omega) (by have := HC.out; omega) _).mono ?_; rintro e w' ⟨rfl, rfl⟩; rw [hnb3, hnw3]) | (go_at_call 22; refine (snumof_any c d (by have := HC.out; omega) (by have := HC.out; omega) _).mono ?_; rintro e w' ⟨rfl, n3, rfl⟩; rw [hnb3, hnw3]) | (go_at_call 23; refine (dtoix_any b lb cb _ ((H2.out HL.out.2).grow (below_drewN HB3.out _))).mono ?_; rintro e w4 ⟨⟨sx, rx, mx, hrx, hmx1, hmx2, rfl⟩, hb4⟩; have HB4 := hidec ((below_drewN HB3.out _).trans (hb4.mono (below_drewN HB3.out _).size)); clear hb4) | (go_at_call 24; refine (itoix_any sx rx hrx mx _).mono ?_; rintro e w' ⟨rfl, rfl⟩) | (go_at_call 25; refine (stoix_any sx rx hrx mx _).mono ?_; rintro e w' ⟨rfl, rfl⟩) | (go_at_call 11; refine (samenum_any false false 0 0 (by omega) (by omega) _).mono ?_; rintro e w' ⟨rfl, rfl⟩))
          go_ret
          exact ⟨rfl, HB4.out⟩
        | true =>
          obtain ⟨k, hk0, hk1, hnw3, hpr⟩ := parts_again c d hnb3
          have hkk : k < 9223372036854775808 := by omega
          have hz := sameB_refl (decide (c < 0)) k
          have HK0 := hidec hk0
          have HK1 := hidec hk1
          have HPR := hidec hpr
          clear hk0 hk1 hpr
          generalize hcs : decide (c < 0) = cs at hnw3 hz
          go_wp2_with (first | (go_at_call 20; refine (inumof_any c d (by have := HC.out; omega) (by have := HC.out; omega) _).mono ?_; rintro e w' ⟨rfl, rfl⟩; rw [hnb3, hnw3]) | (go_at_call 22; refine (snumof_any c d (by have := HC.out; omega) (by have := HC.out; omega) _).mono ?_; rintro e w' ⟨rfl, n3, rfl⟩; rw [hnb3, hnw3]) | (go_at_call 23; refine (dtoix_any b lb cb _ ((H2.out HL.out.2).grow (below_drewN HB3.out _))).mono ?_; rintro e w4 ⟨⟨sx, rx, mx, hrx, hmx1, hmx2, rfl⟩, hb4⟩; have HB4 := hidec ((below_drewN HB3.out _).trans (hb4.mono (below_drewN HB3.out _).size)); clear hb4) | (go_at_call 24; refine (itoix_any sx rx hrx mx _).mono ?_; rintro e w' ⟨rfl, rfl⟩) | (go_at_call 25; refine (stoix_any sx rx hrx mx _).mono ?_; rintro e w' ⟨rfl, rfl⟩) | (go_at_call 11; refine (samenum_any cs cs k k hkk hkk _).mono ?_; rintro e w' ⟨rfl, rfl⟩) | (go_at_call 14; refine (iparts_yes cs k HK0.out HK1.out _ (Tab.under HT.out HB4.out)).mono ?_; rintro e w' ⟨⟨m5, x5, rfl, hx5⟩, rfl⟩; obtain ⟨e5, e6⟩ := pr_unique hx5 HPR.out; rw [e5, e6, ← hcs, sg_self]; clear e5 e6 hx5))
          go_ret
          exact ⟨rfl, HB4.out⟩
      · have h0 : 0 < p := by omega
        have h1 : p < 9218868437227405312 := by omega
        have HP0 := hidec h0
        have HP1 := hidec h1
        have hmin : minusB u p = u := by unfold minusB; rw [decide_eq_true (by omega)]; simp
        have HTT := hidec (Tab.under HT.out HB2.out)
        clear hpn h0 h1
        go_wp2_with fail
        refine (iparts_yes u p HP0.out HP1.out _ HTT.out).mono ?_
        rintro e w' ⟨⟨m, x, rfl, hx⟩, rfl⟩
        have hk1 := kind_place p m x HP0.out HP1.out hx
        have hk3 : 3 ≤ kindN p := by rw [hk1]; split <;> omega
        have hkx : (kindN p == 3) = decide (0 ≤ x) := by rw [hk1]; by_cases h : 0 ≤ x <;> simp [h]
        have hm0 : 0 < m := by have := hx.1; omega
        have hodd : ((sg u m).tmod 2 == 0) = false := tmod_odd _ (by rw [sg_abs]; exact hx.1)
        have hneg := sg_neg u m hm0
        obtain ⟨hnb, hnw⟩ := made_again u p m x HP0.out HP1.out hx
        have hbd := sg_bd u m hx.2.1
        have hsr := sameB_refl u p
        have HX := hidec hx
        have HBD := hidec hbd
        clear hx hk1 hm0 hbd
        go_wp2_with (first | (go_at_call 15; refine (sparts_yes u p HP0.out HP1.out _).mono ?_; rintro e w' ⟨⟨m2, x2, rfl, hx2⟩, n, rfl⟩; obtain ⟨rfl, rfl⟩ := pr_unique hx2 HX.out; clear hx2) | (go_at_call 16; refine (ikind_any u p hp _).mono ?_; rintro e w' ⟨rfl, rfl⟩) | (go_at_call 17; refine (skind_any u p hp _).mono ?_; rintro e w' ⟨rfl, n, rfl⟩) | (go_at_call 18; refine (iminus_any u p hp _).mono ?_; rintro e w' ⟨rfl, rfl⟩) | (go_at_call 19; refine (sminus_any u p hp _).mono ?_; rintro e w' ⟨rfl, rfl⟩) | (go_at_call 20; refine (inumof_any _ _ (by have := HBD.out; omega) (by have := HBD.out; omega) _).mono ?_; rintro e w' ⟨rfl, rfl⟩; rw [hnb, hnw]) | (go_at_call 11; refine (samenum_any u u p p hp hp _).mono ?_; rintro e w' ⟨rfl, rfl⟩))
        refine (dnumof_any b lb cb _ ((H2.out HL.out.2).grow (below_drewN HB2.out _))).mono ?_
        rintro e w3 ⟨⟨c, d, hc, hd1, hd2, rfl⟩, hb3⟩
        have HB3 := hidec ((below_drewN HB2.out _).trans (hb3.mono (below_drewN HB2.out _).size))
        have HC := hidec hc
        clear hc hb3 hd1 hd2
        cases hnb3 : noB c d with
        | false =>
          have hnw3 := noW_false hnb3
          have hz := sameB_refl false 0
          go_wp2_with (first | (go_at_call 20; refine (inumof_any c d (by have := HC.out; omega) (by have := HC.out; omega) _).mono ?_; rintro e w' ⟨rfl, rfl⟩; rw [hnb3, hnw3]) | (go_at_call 22; refine (snumof_any c d (by have := HC.out; omega) (by have := HC.out; omega) _).mono ?_; rintro e w' ⟨rfl, n3, rfl⟩; rw [hnb3, hnw3]) | (go_at_call 23; refine (dtoix_any b lb cb _ ((H2.out HL.out.2).grow (below_drewN HB3.out _))).mono ?_; rintro e w4 ⟨⟨sx, rx, mx, hrx, hmx1, hmx2, rfl⟩, hb4⟩; have HB4 := hidec ((below_drewN HB3.out _).trans (hb4.mono (below_drewN HB3.out _).size)); clear hb4) | (go_at_call 24; refine (itoix_any sx rx hrx mx _).mono ?_; rintro e w' ⟨rfl, rfl⟩) | (go_at_call 25; refine (stoix_any sx rx hrx mx _).mono ?_; rintro e w' ⟨rfl, rfl⟩) | (go_at_call 11; refine (samenum_any false false 0 0 (by omega) (by omega) _).mono ?_; rintro e w' ⟨rfl, rfl⟩))
          go_ret
          exact ⟨rfl, HB4.out⟩
        | true =>
          obtain ⟨k, hk0, hk1, hnw3, hpr⟩ := parts_again c d hnb3
          have hkk : k < 9223372036854775808 := by omega
          have hz := sameB_refl (decide (c < 0)) k
          have HK0 := hidec hk0
          have HK1 := hidec hk1
          have HPR := hidec hpr
          clear hk0 hk1 hpr
          generalize hcs : decide (c < 0) = cs at hnw3 hz
          go_wp2_with (first | (go_at_call 20; refine (inumof_any c d (by have := HC.out; omega) (by have := HC.out; omega) _).mono ?_; rintro e w' ⟨rfl, rfl⟩; rw [hnb3, hnw3]) | (go_at_call 22; refine (snumof_any c d (by have := HC.out; omega) (by have := HC.out; omega) _).mono ?_; rintro e w' ⟨rfl, n3, rfl⟩; rw [hnb3, hnw3]) | (go_at_call 23; refine (dtoix_any b lb cb _ ((H2.out HL.out.2).grow (below_drewN HB3.out _))).mono ?_; rintro e w4 ⟨⟨sx, rx, mx, hrx, hmx1, hmx2, rfl⟩, hb4⟩; have HB4 := hidec ((below_drewN HB3.out _).trans (hb4.mono (below_drewN HB3.out _).size)); clear hb4) | (go_at_call 24; refine (itoix_any sx rx hrx mx _).mono ?_; rintro e w' ⟨rfl, rfl⟩) | (go_at_call 25; refine (stoix_any sx rx hrx mx _).mono ?_; rintro e w' ⟨rfl, rfl⟩) | (go_at_call 11; refine (samenum_any cs cs k k hkk hkk _).mono ?_; rintro e w' ⟨rfl, rfl⟩) | (go_at_call 14; refine (iparts_yes cs k HK0.out HK1.out _ (Tab.under HT.out HB4.out)).mono ?_; rintro e w' ⟨⟨m5, x5, rfl, hx5⟩, rfl⟩; obtain ⟨e5, e6⟩ := pr_unique hx5 HPR.out; rw [e5, e6, ← hcs, sg_self]; clear e5 e6 hx5))
          go_ret
          exact ⟨rfl, HB4.out⟩
    · go_wp2_with (first | (go_at_call 7; refine (icmp_any _ _ _ _ (by assumption) (by assumption) _).mono ?_; rintro e w' ⟨rfl, rfl⟩) | (go_at_call 9; refine (scmp_any _ _ _ _ (by assumption) (by assumption) _).mono ?_; rintro e w' ⟨rfl, rfl⟩) | (go_at_call 8; refine (ileast_any _ _ _ _ (by assumption) (by assumption) _).mono ?_; rintro e w' ⟨rfl, rfl⟩; rw [c4]) | (go_at_call 12; refine (sleast_any _ _ _ _ (by assumption) (by assumption) _).mono ?_; rintro e w' ⟨rfl, rfl⟩; rw [c4]) | (go_at_call 10; refine (isame_any _ _ _ _ (by assumption) (by assumption) _).mono ?_; rintro e w' ⟨rfl, rfl⟩) | (go_at_call 11; refine (samenum_any _ _ _ _ (by assumption) (by assumption) _).mono ?_; rintro e w' ⟨rfl, rfl⟩))
      refine (dparts_any b lb cb _ ((H2.out HL.out.2).grow hb1)).mono ?_
      rintro e w2 ⟨⟨u, p, hp, rfl⟩, hb2⟩
      have HB2 := hidec (hb1.trans (hb2.mono hb1.size))
      clear hb1 hb2 c1 c2 c3 c4 c5 s1 s2 s3 s4 hr hq
      by_cases hpn : p = 0 ∨ 9218868437227405312 ≤ p
      · have HN := hidec hpn
        have hk : kindN p < 3 := by rcases kindN_small p hpn with h | h | h <;> omega
        clear hpn
        go_wp2_with (first | (go_at_call 14; refine (iparts_no u p hp HN.out _).mono ?_; rintro e w' ⟨rfl, rfl⟩) | (go_at_call 15; refine (sparts_no u p hp HN.out _).mono ?_; rintro e w' ⟨rfl, n, rfl⟩) | (go_at_call 16; refine (ikind_any u p hp _).mono ?_; rintro e w' ⟨rfl, rfl⟩) | (go_at_call 17; refine (skind_any u p hp _).mono ?_; rintro e w' ⟨rfl, n, rfl⟩) | (go_at_call 18; refine (iminus_any u p hp _).mono ?_; rintro e w' ⟨rfl, rfl⟩) | (go_at_call 19; refine (sminus_any u p hp _).mono ?_; rintro e w' ⟨rfl, rfl⟩))
        refine (dnumof_any b lb cb _ ((H2.out HL.out.2).grow (below_drewN HB2.out _))).mono ?_
        rintro e w3 ⟨⟨c, d, hc, hd1, hd2, rfl⟩, hb3⟩
        have HB3 := hidec ((below_drewN HB2.out _).trans (hb3.mono (below_drewN HB2.out _).size))
        have HC := hidec hc
        clear hc hb3 hd1 hd2
        cases hnb3 : noB c d with
        | false =>
          have hnw3 := noW_false hnb3
          have hz := sameB_refl false 0
          go_wp2_with (first | (go_at_call 20; refine (inumof_any c d (by have := HC.out; omega) (by have := HC.out; omega) _).mono ?_; rintro e w' ⟨rfl, rfl⟩; rw [hnb3, hnw3]) | (go_at_call 22; refine (snumof_any c d (by have := HC.out; omega) (by have := HC.out; omega) _).mono ?_; rintro e w' ⟨rfl, n3, rfl⟩; rw [hnb3, hnw3]) | (go_at_call 23; refine (dtoix_any b lb cb _ ((H2.out HL.out.2).grow (below_drewN HB3.out _))).mono ?_; rintro e w4 ⟨⟨sx, rx, mx, hrx, hmx1, hmx2, rfl⟩, hb4⟩; have HB4 := hidec ((below_drewN HB3.out _).trans (hb4.mono (below_drewN HB3.out _).size)); clear hb4) | (go_at_call 24; refine (itoix_any sx rx hrx mx _).mono ?_; rintro e w' ⟨rfl, rfl⟩) | (go_at_call 25; refine (stoix_any sx rx hrx mx _).mono ?_; rintro e w' ⟨rfl, rfl⟩) | (go_at_call 11; refine (samenum_any false false 0 0 (by omega) (by omega) _).mono ?_; rintro e w' ⟨rfl, rfl⟩))
          go_ret
          exact ⟨rfl, HB4.out⟩
        | true =>
          obtain ⟨k, hk0, hk1, hnw3, hpr⟩ := parts_again c d hnb3
          have hkk : k < 9223372036854775808 := by omega
          have hz := sameB_refl (decide (c < 0)) k
          have HK0 := hidec hk0
          have HK1 := hidec hk1
          have HPR := hidec hpr
          clear hk0 hk1 hpr
          generalize hcs : decide (c < 0) = cs at hnw3 hz
          go_wp2_with (first | (go_at_call 20; refine (inumof_any c d (by have := HC.out; omega) (by have := HC.out; omega) _).mono ?_; rintro e w' ⟨rfl, rfl⟩; rw [hnb3, hnw3]) | (go_at_call 22; refine (snumof_any c d (by have := HC.out; omega) (by have := HC.out; omega) _).mono ?_; rintro e w' ⟨rfl, n3, rfl⟩; rw [hnb3, hnw3]) | (go_at_call 23; refine (dtoix_any b lb cb _ ((H2.out HL.out.2).grow (below_drewN HB3.out _))).mono ?_; rintro e w4 ⟨⟨sx, rx, mx, hrx, hmx1, hmx2, rfl⟩, hb4⟩; have HB4 := hidec ((below_drewN HB3.out _).trans (hb4.mono (below_drewN HB3.out _).size)); clear hb4) | (go_at_call 24; refine (itoix_any sx rx hrx mx _).mono ?_; rintro e w' ⟨rfl, rfl⟩) | (go_at_call 25; refine (stoix_any sx rx hrx mx _).mono ?_; rintro e w' ⟨rfl, rfl⟩) | (go_at_call 11; refine (samenum_any cs cs k k hkk hkk _).mono ?_; rintro e w' ⟨rfl, rfl⟩) | (go_at_call 14; refine (iparts_yes cs k HK0.out HK1.out _ (Tab.under HT.out HB4.out)).mono ?_; rintro e w' ⟨⟨m5, x5, rfl, hx5⟩, rfl⟩; obtain ⟨e5, e6⟩ := pr_unique hx5 HPR.out; rw [e5, e6, ← hcs, sg_self]; clear e5 e6 hx5))
          go_ret
          exact ⟨rfl, HB4.out⟩
      · have h0 : 0 < p := by omega
        have h1 : p < 9218868437227405312 := by omega
        have HP0 := hidec h0
        have HP1 := hidec h1
        have hmin : minusB u p = u := by unfold minusB; rw [decide_eq_true (by omega)]; simp
        have HTT := hidec (Tab.under HT.out HB2.out)
        clear hpn h0 h1
        go_wp2_with fail
        refine (iparts_yes u p HP0.out HP1.out _ HTT.out).mono ?_
        rintro e w' ⟨⟨m, x, rfl, hx⟩, rfl⟩
        have hk1 := kind_place p m x HP0.out HP1.out hx
        have hk3 : 3 ≤ kindN p := by rw [hk1]; split <;> omega
        have hkx : (kindN p == 3) = decide (0 ≤ x) := by rw [hk1]; by_cases h : 0 ≤ x <;> simp [h]
        have hm0 : 0 < m := by have := hx.1; omega
        have hodd : ((sg u m).tmod 2 == 0) = false := tmod_odd _ (by rw [sg_abs]; exact hx.1)
        have hneg := sg_neg u m hm0
        obtain ⟨hnb, hnw⟩ := made_again u p m x HP0.out HP1.out hx
        have hbd := sg_bd u m hx.2.1
        have hsr := sameB_refl u p
        have HX := hidec hx
        have HBD := hidec hbd
        clear hx hk1 hm0 hbd
        go_wp2_with (first | (go_at_call 15; refine (sparts_yes u p HP0.out HP1.out _).mono ?_; rintro e w' ⟨⟨m2, x2, rfl, hx2⟩, n, rfl⟩; obtain ⟨rfl, rfl⟩ := pr_unique hx2 HX.out; clear hx2) | (go_at_call 16; refine (ikind_any u p hp _).mono ?_; rintro e w' ⟨rfl, rfl⟩) | (go_at_call 17; refine (skind_any u p hp _).mono ?_; rintro e w' ⟨rfl, n, rfl⟩) | (go_at_call 18; refine (iminus_any u p hp _).mono ?_; rintro e w' ⟨rfl, rfl⟩) | (go_at_call 19; refine (sminus_any u p hp _).mono ?_; rintro e w' ⟨rfl, rfl⟩) | (go_at_call 20; refine (inumof_any _ _ (by have := HBD.out; omega) (by have := HBD.out; omega) _).mono ?_; rintro e w' ⟨rfl, rfl⟩; rw [hnb, hnw]) | (go_at_call 11; refine (samenum_any u u p p hp hp _).mono ?_; rintro e w' ⟨rfl, rfl⟩))
        refine (dnumof_any b lb cb _ ((H2.out HL.out.2).grow (below_drewN HB2.out _))).mono ?_
        rintro e w3 ⟨⟨c, d, hc, hd1, hd2, rfl⟩, hb3⟩
        have HB3 := hidec ((below_drewN HB2.out _).trans (hb3.mono (below_drewN HB2.out _).size))
        have HC := hidec hc
        clear hc hb3 hd1 hd2
        cases hnb3 : noB c d with
        | false =>
          have hnw3 := noW_false hnb3
          have hz := sameB_refl false 0
          go_wp2_with (first | (go_at_call 20; refine (inumof_any c d (by have := HC.out; omega) (by have := HC.out; omega) _).mono ?_; rintro e w' ⟨rfl, rfl⟩; rw [hnb3, hnw3]) | (go_at_call 22; refine (snumof_any c d (by have := HC.out; omega) (by have := HC.out; omega) _).mono ?_; rintro e w' ⟨rfl, n3, rfl⟩; rw [hnb3, hnw3]) | (go_at_call 23; refine (dtoix_any b lb cb _ ((H2.out HL.out.2).grow (below_drewN HB3.out _))).mono ?_; rintro e w4 ⟨⟨sx, rx, mx, hrx, hmx1, hmx2, rfl⟩, hb4⟩; have HB4 := hidec ((below_drewN HB3.out _).trans (hb4.mono (below_drewN HB3.out _).size)); clear hb4) | (go_at_call 24; refine (itoix_any sx rx hrx mx _).mono ?_; rintro e w' ⟨rfl, rfl⟩) | (go_at_call 25; refine (stoix_any sx rx hrx mx _).mono ?_; rintro e w' ⟨rfl, rfl⟩) | (go_at_call 11; refine (samenum_any false false 0 0 (by omega) (by omega) _).mono ?_; rintro e w' ⟨rfl, rfl⟩))
          go_ret
          exact ⟨rfl, HB4.out⟩
        | true =>
          obtain ⟨k, hk0, hk1, hnw3, hpr⟩ := parts_again c d hnb3
          have hkk : k < 9223372036854775808 := by omega
          have hz := sameB_refl (decide (c < 0)) k
          have HK0 := hidec hk0
          have HK1 := hidec hk1
          have HPR := hidec hpr
          clear hk0 hk1 hpr
          generalize hcs : decide (c < 0) = cs at hnw3 hz
          go_wp2_with (first | (go_at_call 20; refine (inumof_any c d (by have := HC.out; omega) (by have := HC.out; omega) _).mono ?_; rintro e w' ⟨rfl, rfl⟩; rw [hnb3, hnw3]) | (go_at_call 22; refine (snumof_any c d (by have := HC.out; omega) (by have := HC.out; omega) _).mono ?_; rintro e w' ⟨rfl, n3, rfl⟩; rw [hnb3, hnw3]) | (go_at_call 23; refine (dtoix_any b lb cb _ ((H2.out HL.out.2).grow (below_drewN HB3.out _))).mono ?_; rintro e w4 ⟨⟨sx, rx, mx, hrx, hmx1, hmx2, rfl⟩, hb4⟩; have HB4 := hidec ((below_drewN HB3.out _).trans (hb4.mono (below_drewN HB3.out _).size)); clear hb4) | (go_at_call 24; refine (itoix_any sx rx hrx mx _).mono ?_; rintro e w' ⟨rfl, rfl⟩) | (go_at_call 25; refine (stoix_any sx rx hrx mx _).mono ?_; rintro e w' ⟨rfl, rfl⟩) | (go_at_call 11; refine (samenum_any cs cs k k hkk hkk _).mono ?_; rintro e w' ⟨rfl, rfl⟩) | (go_at_call 14; refine (iparts_yes cs k HK0.out HK1.out _ (Tab.under HT.out HB4.out)).mono ?_; rintro e w' ⟨⟨m5, x5, rfl, hx5⟩, rfl⟩; obtain ⟨e5, e6⟩ := pr_unique hx5 HPR.out; rw [e5, e6, ← hcs, sg_self]; clear e5 e6 hx5))
          go_ret
          exact ⟨rfl, HB4.out⟩
end Go.Proofs.YtphcfhndgadkgaaDoor
