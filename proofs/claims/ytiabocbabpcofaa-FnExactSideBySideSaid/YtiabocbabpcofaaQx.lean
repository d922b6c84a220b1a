/- SideBySide: both sides. -/
import Derived.Test.YtiabocbabpcofaaQw
import Derived.Test.YtiabocbabpcofaaQg
import Derived.Test.YtiabocbabpcofaaQj
namespace Go.Proofs.Ytiabocbabpcofaa
open Go.RowKit
open Rd Fl

/-- One clock is less just where its place comes ahead. -/
theorem less_ah {l : List EvD} (hg : goodTr l = true) {i j : Nat} (hij : i < j) (hj : j < l.length) : lessC (clock l i) (clock l j) = ahB l i j := by
  have hti : ∀ k (h : k < l.length), ∃ t : Nat, t < 5 ∧ (evA l k).th = (t : Int) := by
    intro k hk
    have := goodev_all (good_ev hg hk)
    rw [evA_get hk]
    exact ⟨(l[k].th).toNat, by omega, by omega⟩
  unfold lessC
  cases h : ahB l i j
  · obtain ⟨t, ht, he⟩ := hti i (by omega)
    have hlt := clk_not_le hij h
    rw [he] at hlt
    have : sameL lB (clock l i) (clock l j) = false := by
      refine sameL_no (clock_get l i t ht) (clock_get l j t ht) ?_
      unfold lB
      exact decide_eq_false (by omega)
    rw [this, Bool.false_and]
  · have h1 : sameL lB (clock l i) (clock l j) = true := by
      rw [sameL_iff]
      refine ⟨by rw [clock_len, clock_len], fun t x y hx hy => ?_⟩
      have ht : t < 5 := by have := (List.getElem?_eq_some_iff.1 hx).1; rw [clock_len] at this; exact this
      rw [clock_get l i t ht] at hx
      rw [clock_get l j t ht] at hy
      cases hx; cases hy
      unfold lB
      exact decide_eq_true (by have := clk_mono (l := l) (t : Int) h; omega)
    have h2 : sameL iB (clock l i) (clock l j) = false := by
      obtain ⟨t, ht, he⟩ := hti j hj
      have hlt := clk_self_lt h
      rw [he] at hlt
      refine sameL_no (clock_get l i t ht) (clock_get l j t ht) ?_
      unfold iB
      exact decide_eq_false (by omega)
    rw [h1, h2]; rfl

theorem box_new2 (w : World) (v : Value) (t : TypeId) : (w.alloc (.cells #[v] t)).cell? ⟨w.heap.size, 0, none⟩ = some v := by
  rw [World.cell?_alloc_new]; rfl
/-- the pairs of places of which neither comes ahead -/
def sideN (l : List EvD) : List (List Int) := if goodTr l = true then prAll (fun i j => !ahB l i j) l.length l.length else []
theorem sideN_len (l : List EvD) : (sideN l).length ≤ 40000 := by
  unfold sideN
  split
  · rename_i h
    have h1 := prAll_len (fun i j => !ahB l i j) l.length l.length
    have h2 := Nat.mul_le_mul (good_len h) (good_len h)
    omega
  · simp
theorem sideN_two (l : List EvD) : ∀ x ∈ sideN l, x.length ≤ 1000 := by
  unfold sideN
  split
  · exact prAll_two _ _ _
  · intro x h; cases h

set_option maxRecDepth 20000 in
set_option maxHeartbeats 4000000 in
theorem iside1_any (B : Nat) (l : List EvD) (v : Value) (lo hi : Nat) (hg : goodTr l = true) (i j : Nat) (hij : i < j) (hj : j < l.length) (w : World) (hB : w.cell? ⟨B, 0, none⟩ = some v) (hv : ResQ (clksTo l l.length) w lo hi v) :
    Calls Try.prog 48 #[.int .i64 (i : Int), .int .i64 (j : Int), .pointer (some ⟨B, 0, none⟩)] w fun e w' => e = .returned (.bool (!ahB l i j)) ∧ Below w.heap.size w w' := by
  have h200 := good_len hg
  have hn' : (l.length : Int) ≤ 200 := by omega
  have hi2 : (i : Int) < l.length := by omega
  have hj2 : (j : Int) < l.length := by omega
  obtain ⟨A, g, cap, M, O, C, rfl, c2, c3, -⟩ := hv.c
  obtain ⟨hA, -, -⟩ := c2 (by rw [clksTo_len]; omega)
  rw [clksTo_len] at hB
  subst hA
  obtain ⟨a1, -, -, -, -, a6⟩ := c3 i (by rw [clksTo_len]; omega)
  obtain ⟨b1, -, -, -, -, b6⟩ := c3 j (by rw [clksTo_len]; exact hj)
  simp only [clksTo_get] at a1 a6 b1 b6
  have HC := hide' (fun w hA hB => icless_any (some ⟨M i, O i, none⟩) (some ⟨M j, O j, none⟩) (clock l i) (clock l j) (C i) (C j) (by rw [clock_len]; omega) (by rw [clock_len]; omega) w hA hB)
  have HA1 := hide' (show LAt iv w (some ⟨M i, O i, none⟩) (clock l i) from ⟨M i, O i, fun _ => rfl, a6⟩)
  have HB1 := hide' (show LAt iv w (some ⟨M j, O j, none⟩) (clock l j) from ⟨M j, O j, fun _ => rfl, b6⟩)
  have e1 : lessT (clock l i) (clock l j) = (ahB l i j, true) := by
    unfold lessT
    rw [if_pos (by rw [clock_len, clock_len]), less_ah hg hij hj]
  rw [e1] at HC
  clear a6 b6 c3 c2 hg e1
  generalize ahB l i j = gb at HC
  generalize clock l i = x at a1 HC HA1
  generalize clock l j = y at b1 HC HB1
  generalize M i = Mi at *
  generalize M j = Mj at *
  generalize O i = Oi at *
  generalize O j = Oj at *
  generalize C i = Ci at *
  generalize C j = Cj at *
  go_enter Try.func48, Try.ntmps48
  go_wp2_with fail
  go_cut [6, 7] (fun t u wx => t = .bool gb ∧ u = .bool true ∧ Hid (Below w.heap.size w wx))
  case first =>
    go_region_with (go_at_call 26; refine (HC.out _ (HA1.out.keep (Below.refl _ w).drew) (HB1.out.keep (Below.refl _ w).drew)).mono ?_; rintro e w1 ⟨rfl, hb1⟩)
    all_goals
      go_wp2_with fail
      go_meet
      exact ⟨rfl, rfl, first_below (Below.refl _ _) hb1⟩
  case rest =>
    obtain ⟨rfl, rfl, B1⟩ := hcut
    go_wp2_with fail
    go_ret
    exact ⟨rfl, B1.out⟩

set_option maxRecDepth 20000 in
set_option maxHeartbeats 4000000 in
theorem iside_any (A : Option Addr) (l : List EvD) (cap : Nat) (hcap : l.length ≤ cap) (hl : l.length ≤ 1048576) (w : World) (hA : EvsAt w A l) :
    Calls Try.prog 29 #[.slice A l.length cap] w fun e w' => (∃ v, e = .returned (.tuple #[v, .bool (goodTr l)]) ∧ ResQ (sideN l) w' w.heap.size w'.heap.size v) ∧ Below w.heap.size w w' := by
  have hmf : ∀ (fn : Fn) (first cap : Array Value) (w : World), (Instr.makeFunc fn first cap).run Try.prog w = .ok (.func fn first cap) w := fun _ _ _ _ => rfl
  have HC := hide' (iclocks_any A l cap hcap hl w hA)
  have HQ := hide' (sideN_len l)
  have HQ2 := hide' (sideN_two l)
  unfold clocksN at HC
  unfold sideN at HQ HQ2 ⊢
  have hl' : (l.length : Int) ≤ 1048576 := by omega
  cases hg : goodTr l
  · rw [hg] at HC
    rw [if_neg (by simp)] at HC ⊢
    clear hg hA HQ HQ2
    go_enter Try.func29, Try.ntmps29
    go_wp2_with (go_at_call 23; refine HC.out.mono ?_; rintro e w1 ⟨⟨v, rfl, hr⟩, hb1⟩; obtain ⟨A1, cap1, rfl, -⟩ := resq_ll hr)
    go_ret2
    exact ⟨⟨_, rfl, resq_nil _ _ _ _ _⟩, hb1.up _⟩
  · rw [hg] at HC HQ HQ2
    rw [if_pos rfl] at HC HQ HQ2 ⊢
    have h200 := good_len hg
    have HP := hide' (fun B w hC => pairsw_side l.length B (fun i j => !ahB l i j) h200 w hC)
    have HS := hide' (fun B v lo hi i j hij hj w hB hv => iside1_any B l v lo hi hg i j hij hj w hB hv)
    clear hg hA hl
    go_enter Try.func29, Try.ntmps29
    go_wp2_with (go_at_call 23; refine HC.out.mono ?_; rintro e w1 ⟨⟨v, rfl, hr⟩, hb1⟩; obtain ⟨A1, cap1, rfl, -⟩ := resq_ll hr)
    have R1 := hide' hr
    have B1 := hide' (hb1.up (.cells #[.slice A1 (clksTo l l.length).length cap1] 29))
    clear hr hb1 HC
    have C1 := hide' (box_new2 w1 (.slice A1 (clksTo l l.length).length cap1) 29)
    have U1 := hide' ((Below.refl w1.heap.size w1).up (.cells #[.slice A1 (clksTo l l.length).length cap1] 29))
    refine (HP.out w1.heap.size (w1.alloc (.cells #[.slice A1 (clksTo l l.length).length cap1] 29)) (fun i j hij hj wx hbx => HS.out _ _ _ _ i j hij hj wx (keep_cell hbx C1.out) (resq_keep (resq_keep R1.out U1.out) hbx))).mono ?_
    rintro e w2 ⟨⟨v, Ms, rfl, hr⟩, hb2⟩
    have R2 := hide' (resq_less (resq_rowss hr HQ.out HQ2.out) B1.out.size)
    have B2 := hide' (B1.out.trans (hb2.mono B1.out.size))
    clear hr hb2 B1 C1 U1 R1 HP HS
    go_wp2_with fail
    go_ret2
    exact ⟨⟨_, rfl, R2.out⟩, B2.out⟩
end Go.Proofs.Ytiabocbabpcofaa
