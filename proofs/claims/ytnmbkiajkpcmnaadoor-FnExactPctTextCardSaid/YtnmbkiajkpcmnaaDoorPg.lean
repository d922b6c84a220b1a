/- Schedules by rank: whether one is good, the code's side. -/
import Derived.Test.YtnmbkiajkpcmnaaDoorPh
import Derived.Laws.Cover3
namespace Go.Proofs.YtnmbkiajkpcmnaaDoor
open Go.RowKit
open Rd Fl

def upTo (k j : Nat) : Int := if j < k then (j : Int) else 0
theorem upTo_set (k j : Nat) : (if j = k then (k : Int) else upTo k j) = upTo (k + 1) j := by
  unfold upTo
  by_cases h : j = k
  · subst h; simp
  · rw [if_neg h]
    by_cases h2 : j < k
    · rw [if_pos h2, if_pos (by omega)]
    · rw [if_neg h2, if_neg (by omega)]
theorem five_there {w : World} {N : Nat} (h : w.there N 0 5) : ∃ x0 x1 x2 x3 x4, (w.cell? ⟨N, 0, none⟩ = some x0 ∧ w.cell? ⟨N, 1, none⟩ = some x1 ∧ w.cell? ⟨N, 2, none⟩ = some x2 ∧ w.cell? ⟨N, 3, none⟩ = some x3 ∧ w.cell? ⟨N, 4, none⟩ = some x4) ∧ w.frozen? ⟨N, 0, none⟩ = false ∧ w.frozen? ⟨N, 1, none⟩ = false ∧ w.frozen? ⟨N, 2, none⟩ = false ∧ w.frozen? ⟨N, 3, none⟩ = false ∧ w.frozen? ⟨N, 4, none⟩ = false := by
  have h0 := h 0 (by omega)
  have h1 := h 1 (by omega)
  have h2 := h 2 (by omega)
  have h3 := h 3 (by omega)
  have h4 := h 4 (by omega)
  simp only [Nat.zero_add] at h0 h1 h2 h3 h4
  obtain ⟨x0, e0⟩ := Option.isSome_iff_exists.1 h0.1
  obtain ⟨x1, e1⟩ := Option.isSome_iff_exists.1 h1.1
  obtain ⟨x2, e2⟩ := Option.isSome_iff_exists.1 h2.1
  obtain ⟨x3, e3⟩ := Option.isSome_iff_exists.1 h3.1
  obtain ⟨x4, e4⟩ := Option.isSome_iff_exists.1 h4.1
  exact ⟨x0, x1, x2, x3, x4, ⟨e0, e1, e2, e3, e4⟩, h0.2, h1.2, h2.2, h3.2, h4.2⟩

theorem alloc_thereC (w : World) (cs : Array Value) (t : TypeId) (n : Nat) (hn : n ≤ cs.size) : (w.alloc (.cells cs t)).there w.heap.size 0 n := by
  intro j hj
  refine ⟨?_, World.frozen?_alloc_new _ _ _ _⟩
  rw [World.cell?_alloc_new, Nat.zero_add, Array.getElem?_eq_getElem (by omega)]
  rfl
theorem set_otherC {w : World} {N o M p : Nat} {v u : Value} (h : w.cell? ⟨M, p, none⟩ = some u) (hne : M ≠ N ∨ p ≠ o) : (w.setCell ⟨N, o, none⟩ v).cell? ⟨M, p, none⟩ = some u := by
  rw [World.cell?_setCell_other _ _ _ _ (by simp; omega)]
  exact h
theorem set5_cells {w : World} {N : Nat} (h : w.there N 0 5) (v0 v1 v2 v3 v4 : Value) :
    (((((w.setCell ⟨N, 0, none⟩ v0).setCell ⟨N, 1, none⟩ v1).setCell ⟨N, 2, none⟩ v2).setCell ⟨N, 3, none⟩ v3).setCell ⟨N, 4, none⟩ v4).cell? ⟨N, 0, none⟩ = some v0 ∧
    (((((w.setCell ⟨N, 0, none⟩ v0).setCell ⟨N, 1, none⟩ v1).setCell ⟨N, 2, none⟩ v2).setCell ⟨N, 3, none⟩ v3).setCell ⟨N, 4, none⟩ v4).cell? ⟨N, 1, none⟩ = some v1 ∧
    (((((w.setCell ⟨N, 0, none⟩ v0).setCell ⟨N, 1, none⟩ v1).setCell ⟨N, 2, none⟩ v2).setCell ⟨N, 3, none⟩ v3).setCell ⟨N, 4, none⟩ v4).cell? ⟨N, 2, none⟩ = some v2 ∧
    (((((w.setCell ⟨N, 0, none⟩ v0).setCell ⟨N, 1, none⟩ v1).setCell ⟨N, 2, none⟩ v2).setCell ⟨N, 3, none⟩ v3).setCell ⟨N, 4, none⟩ v4).cell? ⟨N, 3, none⟩ = some v3 ∧
    (((((w.setCell ⟨N, 0, none⟩ v0).setCell ⟨N, 1, none⟩ v1).setCell ⟨N, 2, none⟩ v2).setCell ⟨N, 3, none⟩ v3).setCell ⟨N, 4, none⟩ v4).cell? ⟨N, 4, none⟩ = some v4 := by
  obtain ⟨x0, x1, x2, x3, x4, ⟨e0, e1, e2, e3, e4⟩, -⟩ := five_there h
  have f0 := World.cell?_setCell_same _ _ v0 e0
  have g1 := set_otherC (v := v0) (N := N) (o := 0) e1 (.inr (by omega))
  have g2 := set_otherC (v := v0) (N := N) (o := 0) e2 (.inr (by omega))
  have g3 := set_otherC (v := v0) (N := N) (o := 0) e3 (.inr (by omega))
  have g4 := set_otherC (v := v0) (N := N) (o := 0) e4 (.inr (by omega))
  have f1 := World.cell?_setCell_same _ _ v1 g1
  have g2 := set_otherC (v := v1) (N := N) (o := 1) g2 (.inr (by omega))
  have g3 := set_otherC (v := v1) (N := N) (o := 1) g3 (.inr (by omega))
  have g4 := set_otherC (v := v1) (N := N) (o := 1) g4 (.inr (by omega))
  have f2 := World.cell?_setCell_same _ _ v2 g2
  have g3 := set_otherC (v := v2) (N := N) (o := 2) g3 (.inr (by omega))
  have g4 := set_otherC (v := v2) (N := N) (o := 2) g4 (.inr (by omega))
  have f3 := World.cell?_setCell_same _ _ v3 g3
  have g4 := set_otherC (v := v3) (N := N) (o := 3) g4 (.inr (by omega))
  have f4 := World.cell?_setCell_same _ _ v4 g4
  exact ⟨set_otherC (set_otherC (set_otherC (set_otherC f0 (.inr (by omega))) (.inr (by omega))) (.inr (by omega))) (.inr (by omega)), set_otherC (set_otherC (set_otherC f1 (.inr (by omega))) (.inr (by omega))) (.inr (by omega)), set_otherC (set_otherC f2 (.inr (by omega))) (.inr (by omega)), set_otherC f3 (.inr (by omega)), f4⟩
/-- what the loop of ownRanks keeps -/
structure Ork (w : World) (k : Nat) (wr : World) : Prop where
  c : ∀ j, j < 5 → wr.cell? ⟨w.heap.size + 1, j, none⟩ = some (.int .i64 (upTo k j))
  t : wr.there (w.heap.size + 1) 0 5
  r : wr.there w.heap.size 0 5
  b : Below w.heap.size w wr
theorem Ork.step {w wr : World} {k : Nat} (h : Ork w k wr) (hk : k < 5) : Ork w (k + 1) (wr.setCell ⟨w.heap.size + 1, k, none⟩ (.int .i64 k)) := by
  refine ⟨fun j hj => ?_, there_set h.t _ _ _, there_set h.r _ _ _, below_set h.b _ _ _ (by omega)⟩
  rw [← upTo_set]
  by_cases e : j = k
  · subst e
    rw [World.cell?_setCell_same _ _ _ (h.c j hj), if_pos rfl]
  · rw [World.cell?_setCell_other _ _ _ _ (by simp), if_neg e]
    exact h.c j hj

set_option maxRecDepth 20000 in
set_option maxHeartbeats 1000000 in
theorem ownranks_any (w : World) : Calls Tryd.prog 32 #[] w fun e w' => e = .returned (.agg #[.int .i64 0, .int .i64 1, .int .i64 2, .int .i64 3, .int .i64 4]) ∧ Below w.heap.size w w' := by
  have H0 := hide' (show Ork w 0 ((w.alloc (.cells #[.int .i64 0, .int .i64 0, .int .i64 0, .int .i64 0, .int .i64 0] 53)).alloc (.cells #[.int .i64 0, .int .i64 0, .int .i64 0, .int .i64 0, .int .i64 0] 53)) from by
    have hz : (w.alloc (.cells #[.int .i64 0, .int .i64 0, .int .i64 0, .int .i64 0, .int .i64 0] 53)).heap.size = w.heap.size + 1 := by simp
    have ht := alloc_thereC (w.alloc (.cells #[.int .i64 0, .int .i64 0, .int .i64 0, .int .i64 0, .int .i64 0] 53)) #[.int .i64 0, .int .i64 0, .int .i64 0, .int .i64 0, .int .i64 0] 53 5 (by simp)
    rw [hz] at ht
    refine ⟨fun j hj => ?_, ht, there_keep ((Below.refl _ _).up _) (alloc_thereC w _ _ 5 (by simp)), below2 w _ _⟩
    rw [← hz, World.cell?_alloc_new]
    match j, hj with
    | 0, _ => rfl
    | 1, _ => rfl
    | 2, _ => rfl
    | 3, _ => rfl
    | 4, _ => rfl)
  go_enter Tryd.func32, Tryd.ntmps32
  go_wp2
  go_loopw [3] (fun i wr => ∃ k : Nat, k ≤ 5 ∧ i = .int .i64 k ∧ Hid (Ork w k wr)) (fun i _ => 5 - (intOf i).toNat)
  case atStart => exact ⟨0, by omega, rfl, H0.out⟩
  case round =>
    obtain ⟨k, hk, rfl, hor⟩ := hrel
    by_cases hlt : k < 5
    · have hki : (k : Int) < 5 := by omega
      obtain ⟨y, hy⟩ := Option.isSome_iff_exists.1 (hor.out.t k hlt).1
      have hf := (hor.out.t k hlt).2
      rw [Nat.zero_add] at hy hf
      have HS := hide' (hor.out.step hlt)
      go_wp2
      go_roundw
      case rel => exact ⟨k + 1, by omega, by go_num, HS.out⟩
      case measure => simp [intOf]; omega
    · have hke : k = 5 := by omega
      subst hke
      have c0 := hor.out.c 0 (by omega)
      have c1 := hor.out.c 1 (by omega)
      have c2 := hor.out.c 2 (by omega)
      have c3 := hor.out.c 3 (by omega)
      have c4 := hor.out.c 4 (by omega)
      obtain ⟨x0, x1, x2, x3, x4, ⟨e0, e1, e2, e3, e4⟩, z0, z1, z2, z3, z4⟩ := five_there hor.out.r
      simp only [upTo] at c0 c1 c2 c3 c4
      obtain ⟨s0, s1, s2, s3, s4⟩ := set5_cells hor.out.r (.int .i64 0) (.int .i64 1) (.int .i64 2) (.int .i64 3) (.int .i64 4)
      go_wp2
      refine bodyPost_ret (v := .agg #[.int .i64 0, .int .i64 1, .int .i64 2, .int .i64 3, .int .i64 4]) (by simp [results, Tryd.results32, go_sem, s0, s1, s2, s3, s4]) rfl ⟨rfl, ?_⟩
      repeat (first | exact hor.out.b | refine below_set ?_ _ _ _ (by omega))

theorem made5 (w : World) (N : Nat) (t : TypeId) (v0 v1 v2 v3 v4 : Value) (hN : N = w.heap.size) : (w.alloc (.cells #[v0, v1, v2, v3, v4] t)).heap[N]? = some (.cells #[v0, v1, v2, v3, v4] t (0, 0)) := by
  subst hN; exact heap_alloc_new _ _

set_option maxRecDepth 20000 in
set_option maxHeartbeats 2000000 in
theorem igoodpct_out (A B : Option Addr) (n m ca cb : Nat) (h : ¬ n = 5 ∨ (n = 5 ∧ ¬ m ≤ 4)) (hn : n ≤ 1048576) (hm : m ≤ 1048576) (w : World) :
    Calls Tryd.prog 18 #[.agg #[.slice A n ca, .slice B m cb]] w fun e w' => e = .returned (.bool false) ∧ Below w.heap.size w w' := by
  have hn' : (n : Int) ≤ 1048576 := by omega
  have hm' : (m : Int) ≤ 1048576 := by omega
  rcases h with h | ⟨h, h4⟩
  · have h' : ¬ (n : Int) = 5 := by omega
    go_enter Tryd.func18, Tryd.ntmps18
    go_wp2_with fail
    go_ret
    exact ⟨rfl, (Below.refl _ w).up _⟩
  · have h' : (n : Int) = 5 := by omega
    have h4' : ¬ (m : Int) ≤ 4 := by omega
    clear h h4 hn hm
    go_enter Tryd.func18, Tryd.ntmps18
    go_wp2_with fail
    go_ret
    exact ⟨rfl, (Below.refl _ w).up _⟩

set_option maxRecDepth 20000 in
set_option maxHeartbeats 2000000 in
theorem igoodpct_in (b off : Nat) (B : Option Addr) (x0 x1 x2 x3 x4 : Int) (c : List Int) (ca cb : Nat) (hm : c.length ≤ 4) (w : World)
    (c0 : w.cell? ⟨b, off, none⟩ = some (.int .i64 x0)) (c1 : w.cell? ⟨b, off + 1, none⟩ = some (.int .i64 x1)) (c2 : w.cell? ⟨b, off + 2, none⟩ = some (.int .i64 x2)) (c3 : w.cell? ⟨b, off + 3, none⟩ = some (.int .i64 x3)) (c4 : w.cell? ⟨b, off + 4, none⟩ = some (.int .i64 x4)) (hB : LAt iv w B c) :
    Calls Tryd.prog 18 #[.agg #[.slice (some ⟨b, off, none⟩) 5 ca, .slice B c.length cb]] w fun e w' => e = .returned (.bool (goodC [x0, x1, x2, x3, x4] c)) ∧ Below w.heap.size w w' := by
  have hm' : (c.length : Int) ≤ 4 := by omega
  have hbw : Below w.heap.size w (w.alloc (.cells #[.slice (some ⟨b, off, none⟩) 5 ca, .slice B c.length cb] 28)) := (Below.refl _ w).up _
  obtain ⟨p0, p1⟩ := cbox_new w (some ⟨b, off, none⟩) B 5 ca c.length cb 28
  have HBW := hide' hbw
  have HBB := hide' (hB.keep hbw)
  have HCH := hide' (fun w h => goodchanges_any B c cb (by omega) w h)
  have HS := hide' (show ∀ (g : Nat) (w : World), w.ownsRow g 53 1 (.slice (some ⟨g, 0, none⟩) 5 5) 5 [.int .i64 x0, .int .i64 x1, .int .i64 x2, .int .i64 x3, .int .i64 x4] → Calls Tryd.prog 31 #[.slice (some ⟨g, 0, none⟩) 5 5] w fun en w' => en = .returned (.tuple #[]) ∧ w'.ownsRow g 53 1 (.slice (some ⟨g, 0, none⟩) 5 5) 5 (([x0, x1, x2, x3, x4].mergeSort fun x y => decide (x ≤ y)).map iv) ∧ w.grownBy w' (some g) from fun g w h => sortrow_any [x0, x1, x2, x3, x4] 53 g g 5 (by simp) w h)
  have hlen : ([x0, x1, x2, x3, x4].mergeSort fun x y => decide (x ≤ y)).length = 5 := by rw [List.length_mergeSort]; rfl
  have honce := once_sort (l := [x0, x1, x2, x3, x4]) rfl
  have HG1 := hide' (fun (h : onceB [x0, x1, x2, x3, x4] = true) => goodC_ris (c := c) h (by omega))
  have HG2 := hide' (fun (h : onceB [x0, x1, x2, x3, x4] = false) => goodC_once (c := c) h)
  generalize onceB [x0, x1, x2, x3, x4] = on at honce HG1 HG2
  generalize goodC [x0, x1, x2, x3, x4] c = gd at HG1 HG2
  generalize ([x0, x1, x2, x3, x4].mergeSort fun x y => decide (x ≤ y)) = s at HS hlen honce
  have haa := fun w => run_arrayAt (P := Tryd.prog) w 53 3 5 (some ⟨b, off, none⟩) 5 ca Tryd.underlying53 (by omega)
  have d0 := keep_cell hbw c0
  have d1 := keep_cell hbw c1
  have d2 := keep_cell hbw c2
  have d3 := keep_cell hbw c3
  have d4 := keep_cell hbw c4
  clear hbw hB c0 c1 c2 c3 c4
  go_enter Tryd.func18, Tryd.ntmps18
  go_wp2_with fail
  refine (HS.out _ _ ⟨rfl, .inr ⟨w.heap.size + 1, 5, _, rfl, Nat.le_refl _, made5 _ _ _ _ _ _ _ _ (by simp), by omega, by unfold maxLen; omega, rfl, rfl⟩⟩).mono ?_
  rintro en w1 ⟨rfl, ho, hgr⟩
  have hz0 : (w.alloc (.cells #[.slice (some ⟨b, off, none⟩) 5 ca, .slice B c.length cb] 28)).heap.size = w.heap.size + 1 := by simp
  have hb1 : Below (w.alloc (.cells #[.slice (some ⟨b, off, none⟩) 5 ca, .slice B c.length cb] 28)).heap.size (w.alloc (.cells #[.slice (some ⟨b, off, none⟩) 5 ca, .slice B c.length cb] 28)) w1 := Below.grown ((Below.refl _ _).up _) hgr (by simp) (fun k hk => by cases hk; simp)
  obtain ⟨q0, q1⟩ := (CBox.mk p0 p1).keep hb1
  have BB1 := hide' (HBB.out.keep hb1)
  have BW1 := hide' (HBW.out.trans (hb1.mono (by simp)))
  have hzz : w.heap.size + 1 < w1.heap.size := by have := hgr.size; simp at this; omega
  match s, hlen with
  | [y0, y1, y2, y3, y4], _ =>
    have e0 : w1.cell? ⟨w.heap.size + 1, 0, none⟩ = some (.int .i64 y0) := ho.cellAt 0 (by omega)
    have e1 : w1.cell? ⟨w.heap.size + 1, 1, none⟩ = some (.int .i64 y1) := ho.cellAt 1 (by omega)
    have e2 : w1.cell? ⟨w.heap.size + 1, 2, none⟩ = some (.int .i64 y2) := ho.cellAt 2 (by omega)
    have e3 : w1.cell? ⟨w.heap.size + 1, 3, none⟩ = some (.int .i64 y3) := ho.cellAt 3 (by omega)
    have e4 : w1.cell? ⟨w.heap.size + 1, 4, none⟩ = some (.int .i64 y4) := ho.cellAt 4 (by omega)
    clear p0 p1 d0 d1 d2 d3 d4 ho hgr hb1 HBW HBB HS haa
    have hd : decide ([y0, y1, y2, y3, y4] = [0, 1, 2, 3, 4]) = on := by
      rw [Bool.eq_iff_iff, decide_eq_true_eq]; exact honce.symm
    have heq := run_eq5 y0 y1 y2 y3 y4 0 1 2 3 4
    rw [hd] at heq
    clear hd honce
    cases on with
    | true =>
      have HG := hide' (HG1.out rfl)
      clear HG1 HG2
      go_wp2_with fail
      go_region_with (first | (go_at_call 32; refine (ownranks_any _).mono ?_; rintro e w2 ⟨rfl, hb2⟩; have B2 := hide' hb2; have f0 := keep_cell hb2 e0; have f1 := keep_cell hb2 e1; have f2 := keep_cell hb2 e2; have f3 := keep_cell hb2 e3; have f4 := keep_cell hb2 e4; have r1 := keep_cell hb2 q1; clear hb2 e0 e1 e2 e3 e4 q0 q1) | (go_at_call 33; refine (HCH.out _ (BB1.out.keep (by first | exact (Below.refl _ _).drew | exact Below.trans ((Below.refl _ _).drew) B2.out))).mono ?_; rintro e w3 ⟨rfl, rfl⟩))
      all_goals
        go_wp2_with fail
        go_ret
        exact ⟨by rw [HG.out]; rfl, first_below2 BW1.out B2.out⟩
    | false =>
      have HG := hide' (HG2.out rfl)
      clear HG1 HG2
      go_wp2_with fail
      refine wp_region_any (by kernel_rfl) ?_
      try (change wpAny _ _ _ _ _ _ _ (World.drew _))
      refine wpAny_ready (rs := [0, 1]) (by kernel_rfl) (by simp) ?_
      refine AllReady.cons rfl (fun K hK => ?_) (AllReady.cons rfl (fun K hK => ?_) AllReady.nil)
      · go_simp
        refine hK _ _ ?_
        clear hK K
        refine wpAny_ready (rs := [1]) (by kernel_rfl) (by simp) (AllReady.cons rfl (fun K hK => ?_) AllReady.nil)
        go_simp
        go_wp2_with (go_at_call 32; refine (ownranks_any _).mono ?_; rintro e w2 ⟨rfl, hb2⟩; have B2 := hide' hb2; have f0 := keep_cell hb2 e0; have f1 := keep_cell hb2 e1; have f2 := keep_cell hb2 e2; have f3 := keep_cell hb2 e3; have f4 := keep_cell hb2 e4; clear hb2)
        refine wpAny_ready (rs := [2]) (by kernel_rfl) (by simp) (AllReady.cons rfl (fun K hK => ?_) AllReady.nil)
        go_simp
        refine hK _ _ ?_
        clear hK K
        refine wpAny_ready (rs := [3]) (by kernel_rfl) (by simp) (AllReady.cons rfl (fun K hK => ?_) AllReady.nil)
        go_simp
        refine hK _ _ ?_
        clear hK K
        refine wpAny_ready (rs := [4]) (by kernel_rfl) (by simp) (AllReady.cons rfl (fun K hK => ?_) AllReady.nil)
        go_simp
        refine hK _ _ ?_
        clear hK K
        refine wpAny_ready (rs := [5]) (by kernel_rfl) (by simp) (AllReady.cons rfl (fun K hK => ?_) AllReady.nil)
        go_simp
        refine hK _ _ ?_
        clear hK K
        refine wpAny_ready (rs := [6]) (by kernel_rfl) (by simp) (AllReady.cons rfl (fun K hK => ?_) AllReady.nil)
        go_simp
        refine hK _ _ ?_
        clear hK K
        refine wpAny_ready (rs := [7]) (by kernel_rfl) (by simp) (AllReady.cons rfl (fun K hK => ?_) AllReady.nil)
        go_simp
        refine hK _ _ ?_
        clear hK K
        refine wpAny_ready (rs := [8]) (by kernel_rfl) (by simp) (AllReady.cons rfl (fun K hK => ?_) AllReady.nil)
        go_simp
        refine hK _ _ ?_
        clear hK K
        refine wpAny_done (by kernel_rfl) ?_ _
        go_wp2_with fail
        go_ret
        exact ⟨by rw [HG.out]; rfl, first_below2 BW1.out B2.out⟩
      · go_simp
        go_wp2_with (go_at_call 32; refine (ownranks_any _).mono ?_; rintro e w2 ⟨rfl, hb2⟩; have B2 := hide' hb2; have f0 := keep_cell hb2 e0; have f1 := keep_cell hb2 e1; have f2 := keep_cell hb2 e2; have f3 := keep_cell hb2 e3; have f4 := keep_cell hb2 e4; clear hb2)
        clear e0 e1 e2 e3 e4
        refine wpAny_ready (rs := [0]) (by kernel_rfl) (by simp) (AllReady.cons rfl (fun K hK => ?_) AllReady.nil)
        go_simp
        refine hK _ _ ?_
        clear hK K
        refine wpAny_ready (rs := [2]) (by kernel_rfl) (by simp) (AllReady.cons rfl (fun K hK => ?_) AllReady.nil)
        go_simp
        refine hK _ _ ?_
        clear hK K
        refine wpAny_ready (rs := [3]) (by kernel_rfl) (by simp) (AllReady.cons rfl (fun K hK => ?_) AllReady.nil)
        go_simp
        refine hK _ _ ?_
        clear hK K
        refine wpAny_ready (rs := [4]) (by kernel_rfl) (by simp) (AllReady.cons rfl (fun K hK => ?_) AllReady.nil)
        go_simp
        refine hK _ _ ?_
        clear hK K
        refine wpAny_ready (rs := [5]) (by kernel_rfl) (by simp) (AllReady.cons rfl (fun K hK => ?_) AllReady.nil)
        go_simp
        refine hK _ _ ?_
        clear hK K
        refine wpAny_ready (rs := [6]) (by kernel_rfl) (by simp) (AllReady.cons rfl (fun K hK => ?_) AllReady.nil)
        go_simp
        refine hK _ _ ?_
        clear hK K
        refine wpAny_ready (rs := [7]) (by kernel_rfl) (by simp) (AllReady.cons rfl (fun K hK => ?_) AllReady.nil)
        go_simp
        refine hK _ _ ?_
        clear hK K
        refine wpAny_ready (rs := [8]) (by kernel_rfl) (by simp) (AllReady.cons rfl (fun K hK => ?_) AllReady.nil)
        go_simp
        refine hK _ _ ?_
        clear hK K
        refine wpAny_done (by kernel_rfl) ?_ _
        go_wp2_with fail
        go_ret
        exact ⟨by rw [HG.out]; rfl, first_below2 BW1.out B2.out⟩

theorem list5L {l : List Int} (h : l.length = 5) : ∃ a b c d e, l = [a, b, c, d, e] := by
  match l, h with
  | [a, b, c, d, e], _ => exact ⟨a, b, c, d, e, rfl⟩
theorem igoodpct_any (A B : Option Addr) (r c : List Int) (ca cb : Nat) (hr : r.length ≤ 1048576) (hc : c.length ≤ 1048576) (w : World) (hA : LAt iv w A r) (hB : LAt iv w B c) :
    Calls Tryd.prog 18 #[.agg #[.slice A r.length ca, .slice B c.length cb]] w fun e w' => e = .returned (.bool (goodC r c)) ∧ Below w.heap.size w w' := by
  by_cases h5 : r.length = 5
  · by_cases h4 : c.length ≤ 4
    · obtain ⟨x0, x1, x2, x3, x4, rfl⟩ := list5L h5
      obtain ⟨b, off, hA1, hcl⟩ := hA
      have hAe := hA1 (by simp)
      subst hAe
      exact igoodpct_in b off B x0 x1 x2 x3 x4 c ca cb h4 w (hcl 0 x0 rfl) (hcl 1 x1 rfl) (hcl 2 x2 rfl) (hcl 3 x3 rfl) (hcl 4 x4 rfl) hB
    · have hg : goodC r c = false := by
        cases ho : onceB r with
        | true => exact goodC_many ho h4
        | false => exact goodC_once ho
      rw [hg]
      exact igoodpct_out A B r.length c.length ca cb (.inr ⟨h5, h4⟩) hr hc w
  · rw [goodC_once (once_len h5)]
    exact igoodpct_out A B r.length c.length ca cb (.inl h5) hr hc w
end Go.Proofs.YtnmbkiajkpcmnaaDoor
