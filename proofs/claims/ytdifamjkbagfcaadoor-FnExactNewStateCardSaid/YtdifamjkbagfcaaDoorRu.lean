/- States: marked with what stands there behind. -/
import Derived.Test.YtdifamjkbagfcaaDoorRt
namespace Go.Proofs.YtdifamjkbagfcaaDoor
open Go.RowKit
open Rd Fl

theorem set_other {w : World} {N o M p : Nat} {v u : Value} (h : w.cell? ⟨M, p, none⟩ = some u) (hne : M ≠ N ∨ p ≠ o) : (w.setCell ⟨N, o, none⟩ v).cell? ⟨M, p, none⟩ = some u := by
  rw [World.cell?_setCell_other _ _ _ _ (by intro e; injection e with e1 e2; omega)]
  exact h
/-- five marks -/
def mark5 (w : World) (N o : Nat) (y : Int) : World := ((((w.setCell ⟨N, o, none⟩ (.int .i64 y)).setCell ⟨N, o + 1, none⟩ (.int .i64 (y + 1))).setCell ⟨N, o + 2, none⟩ (.int .i64 (y + 1 + 1))).setCell ⟨N, o + 3, none⟩ (.int .i64 (y + 1 + 1 + 1))).setCell ⟨N, o + 4, none⟩ (.int .i64 (y + 1 + 1 + 1 + 1))
theorem mark5_other {w : World} {N o : Nat} {y : Int} {M p : Nat} {u : Value} (h : w.cell? ⟨M, p, none⟩ = some u) (hne : M ≠ N ∨ p < o ∨ o + 5 ≤ p) : (mark5 w N o y).cell? ⟨M, p, none⟩ = some u := by
  unfold mark5
  exact set_other (set_other (set_other (set_other (set_other h (by omega)) (by omega)) (by omega)) (by omega)) (by omega)
theorem mark5_there {w : World} {N o : Nat} {y : Int} {M p n : Nat} (h : w.there M p n) : (mark5 w N o y).there M p n := there_set (there_set (there_set (there_set (there_set h _ _ _) _ _ _) _ _ _) _ _ _) _ _ _
theorem mark5_size (w : World) (N o : Nat) (y : Int) : (mark5 w N o y).heap.size = w.heap.size := by unfold mark5; simp only [set_size]
theorem mark5_range {w : World} {N o : Nat} (y : Int) {u : Value} (h : w.there N o 6) (h5 : w.cell? ⟨N, o + 5, none⟩ = some u) : (mark5 w N o y).rangeAt N o [.int .i64 y, .int .i64 (y + 1), .int .i64 (y + 2), .int .i64 (y + 3), .int .i64 (y + 4), u] := by
  obtain ⟨x0, x1, x2, x3, x4, x5, ⟨d0, d1, d2, d3, d4, -⟩, -⟩ := six_there h
  unfold mark5
  rw [show y + 1 + 1 = y + 2 by omega, show y + 2 + 1 = y + 3 by omega, show y + 3 + 1 = y + 4 by omega]
  intro j v hv
  match j, hv with
  | 0, hv => simp at hv; subst hv; exact set_other (set_other (set_other (set_other (World.cell?_setCell_same _ _ _ d0) (by omega)) (by omega)) (by omega)) (by omega)
  | 1, hv => simp at hv; subst hv; exact set_other (set_other (set_other (World.cell?_setCell_same _ _ _ (set_other d1 (by omega))) (by omega)) (by omega)) (by omega)
  | 2, hv => simp at hv; subst hv; exact set_other (set_other (World.cell?_setCell_same _ _ _ (set_other (set_other d2 (by omega)) (by omega))) (by omega)) (by omega)
  | 3, hv => simp at hv; subst hv; exact set_other (World.cell?_setCell_same _ _ _ (set_other (set_other (set_other d3 (by omega)) (by omega)) (by omega))) (by omega)
  | 4, hv => simp at hv; subst hv; exact World.cell?_setCell_same _ _ _ (set_other (set_other (set_other (set_other d4 (by omega)) (by omega)) (by omega)) (by omega))
  | 5, hv => simp at hv; subst hv; exact set_other (set_other (set_other (set_other (set_other h5 (by omega)) (by omega)) (by omega)) (by omega)) (by omega)

theorem Edit.mark5 {lo hi : Nat} {a w : World} (h : Edit lo hi a w) (N o : Nat) (y : Int) (h1 : lo ≤ N) (h2 : N < hi) : Edit lo hi a (mark5 w N o y) := ((((h.set _ _ _ h1 h2).set _ _ _ h1 h2).set _ _ _ h1 h2).set _ _ _ h1 h2).set _ _ _ h1 h2

/-- One thread more has been marked. -/
theorem mark_step {wr wx : World} {ts : List ThD} {N lo hi : Nat} {F : Nat → Nat} {j : Nat} {y : Int} (hj : j < ts.length) (hy : y = 1 + tof ts j) (M : Nat) (hM : ts[j].sk.length ≠ 0 → M = F j) (hM0 : ts[j].sk.length = 0 → M = wr.heap.size)
    (hd : ∀ i j (hi : i < ts.length) (hj : j < ts.length), i ≠ j → ts[i].sk.length ≠ 0 → ts[j].sk.length ≠ 0 → F i ≠ F j)
    (hc : ∀ i (h : i < ts.length), ThC wr N lo hi F i ts[i] ∧ (i < j → ThK wr N F i ts[i] (1 + tof ts i)))
    (hx : ∀ t : Nat, t < ts[j].sk.length → wx.cell? ⟨M, t, none⟩ = some (.float .f64 (floatOfInt .f64 (y + 1 + 1 + 1 + 1 + 1 + t)))) (he : Edit M (M + 1) (mark5 wr N (j * 6) y) wx) :
    ∀ i (h : i < ts.length), ThC wx N lo hi F i ts[i] ∧ (i < j + 1 → ThK wx N F i ts[i] (1 + tof ts i)) := by
  have hNM : ∀ {o : Nat} {u : Value}, wr.cell? ⟨N, o, none⟩ = some u → N < M ∨ M + 1 ≤ N := by
    intro o u hu
    have hlt := World.block_lt_of_cell? wr _ hu
    by_cases h0 : ts[j].sk.length = 0
    · rw [hM0 h0]; exact .inl hlt
    · obtain ⟨⟨S, cap, g1, g2, g3⟩, -⟩ := hc j hj
      have := (g2 h0).2.1
      rw [hM h0]; omega
  intro i h
  obtain ⟨⟨S, cap, g1, g2, g3⟩, g4⟩ := hc i h
  refine ⟨⟨S, cap, he.cell (mark5_other g1 (by omega)) (hNM g1), fun hne => ?_, he.th _ _ _ (mark5_there g3)⟩, fun hij => ?_⟩
  · obtain ⟨a1, a2, a3, a4, a5⟩ := g2 hne
    exact ⟨a1, a2, a3, a4, he.th _ _ _ (mark5_there a5)⟩
  · by_cases e : i = j
    · subst e
      have hr := he.range (mark5_range y g3 g1) (hNM g1)
      rw [hy] at hr hx
      refine ⟨S, cap, hr, fun hne => (g2 hne).1, fun t ht => ?_⟩
      have := hx t ht
      rw [hM (by omega)] at this
      rw [this]
      unfold fw
      congr 3
    · obtain ⟨S', cap', k1, k2, k3⟩ := g4 (by omega)
      refine ⟨S', cap', he.range (fun p v hv => mark5_other (k1 p v hv) (.inr (.inl ?_))) (hNM g1), k2, fun t ht => ?_⟩
      · have : p < 6 := by
          have := (List.getElem?_eq_some_iff.1 hv).1
          simpa using this
        omega
      · obtain ⟨a1, a2, a3, a4, a5⟩ := g2 (by omega)
        refine he.cell (mark5_other (k3 t ht) (.inl a2)) ?_
        by_cases h0 : ts[j].sk.length = 0
        · rw [hM0 h0]; exact .inl (World.block_lt_of_cell? wr _ (k3 t ht))
        · have := hd i j h hj e (by omega) h0
          rw [hM h0]; omega

set_option maxRecDepth 20000 in
set_option maxHeartbeats 2000000 in
theorem markths_all (A : Option Addr) (ts : List ThD) (cap N lo hi : Nat) (F : Nat → Nat) (hl : ts.length ≤ 5) (hls : ∀ t ∈ ts, t.sk.length ≤ 8) (hA : ts.length ≠ 0 → A = some ⟨N, 0, none⟩ ∧ lo ≤ N ∧ N < hi) (w : World)
    (hd : ∀ i j (hi : i < ts.length) (hj : j < ts.length), i ≠ j → ts[i].sk.length ≠ 0 → ts[j].sk.length ≠ 0 → F i ≠ F j) (hc : ∀ i (h : i < ts.length), ThC w N lo hi F i ts[i]) :
    Calls Tryd.prog 52 #[.slice A ts.length cap, .int .i64 1] w fun e w' => e = .returned (.int .i64 (1 + tof ts ts.length)) ∧ (∀ i (h : i < ts.length), ThK w' N F i ts[i] (1 + tof ts i)) ∧ Edit lo hi w w' := by
  have hn' : (ts.length : Int) ≤ 5 := by omega
  by_cases he : ts.length = 0
  · have : ts = [] := List.length_eq_zero_iff.1 he
    subst this
    clear hA hc hd
    go_enter Tryd.func52, Tryd.ntmps52
    go_wp2
    go_loop [1, 5] (fun x i => x = .int .i64 1 ∧ i = .int .i64 0) (fun _ _ => 0)
    case atStart => exact ⟨rfl, rfl⟩
    case round =>
      obtain ⟨rfl, rfl⟩ := hrel
      go_wp2
      go_ret
      exact ⟨rfl, Edit.refl _ _ _⟩
  · obtain ⟨hA2, hN1, hN2⟩ := hA he
    subst hA2
    have HC := hide' hc
    have HD := hide' hd
    have HN1 := hide' hN1
    have HN2 := hide' hN2
    have HLS := hide' hls
    have HOS := hide' (fun i h => tof_succ ts i h)
    have HOL := hide' (fun i => tof_le ts hls i)
    have HO0 : tof ts 0 = 0 := rfl
    clear hA he hc hls hd hN1 hN2
    go_enter Tryd.func52, Tryd.ntmps52
    go_wp2
    go_loopw [1, 5] (fun x i wr => ∃ (j : Nat) (y : Int), j ≤ ts.length ∧ i = .int .i64 j ∧ x = .int .i64 y ∧ y = 1 + tof ts j ∧ Hid (∀ i (h : i < ts.length), ThC wr N lo hi F i ts[i] ∧ (i < j → ThK wr N F i ts[i] (1 + tof ts i))) ∧ Hid (Edit lo hi w wr)) (fun _ i _ => ts.length - (intOf i).toNat)
    case atStart => exact ⟨0, 1, Nat.zero_le _, rfl, rfl, by rw [HO0]; rfl, (fun i h => ⟨HC.out i h, fun h => by omega⟩), Edit.refl _ _ _⟩
    case round =>
      obtain ⟨j, y, hj, rfl, rfl, hy, hdo, hed⟩ := hrel
      by_cases hlt : j < ts.length
      · have HOLj := hide' (HOL.out j)
        obtain ⟨⟨S, cp, c5, hS, h6⟩, -⟩ := hdo.out j hlt
        obtain ⟨x0, x1, x2, x3, x4, x5, ⟨d0, d1, d2, d3, d4, -⟩, z0, z1, z2, z3, z4, -⟩ := six_there h6
        have HM := hide' (HLS.out ts[j] (List.getElem_mem hlt))
        have HOSj := hide' (HOS.out j hlt)
        have HY := hide' hy
        have hy0 : 1 ≤ y := by omega
        have hy1 : y ≤ 66 := by have := HOLj.out; omega
        obtain ⟨M, m1, m2, m3⟩ : ∃ M, (ts[j].sk.length ≠ 0 → M = F j ∧ lo ≤ M ∧ M + 1 ≤ hi) ∧ (ts[j].sk.length = 0 → M = wr.heap.size) ∧ wr.there M 0 ts[j].sk.length := by
          by_cases h0 : ts[j].sk.length = 0
          · exact ⟨wr.heap.size, (fun h => absurd h0 h), (fun _ => rfl), fun t ht => absurd ht (by omega)⟩
          · obtain ⟨a1, a2, a3, a4, a5⟩ := hS h0
            exact ⟨F j, (fun _ => ⟨rfl, a3, a4⟩), (fun h => absurd h h0), a5⟩
        have HSM := hide' (fun h => by obtain ⟨a1, -⟩ := hS h; rw [a1, (m1 h).1] : ts[j].sk.length ≠ 0 → S = some ⟨M, 0, none⟩)
        have HNX := hide' (fun (wx : World) hx he => mark_step (wx := wx) hlt hy M (fun h => (m1 h).1) m2 HD.out hdo.out hx he)
        have HEE := hide' (fun (wx : World) (he : Edit M (M + 1) (_root_.Go.Proofs.YtdifamjkbagfcaaDoor.mark5 wr N (j * 6) y) wx) => (show Edit lo hi w wx from by
          refine (hed.out.mark5 N (j * 6) y HN1.out HN2.out).trans ?_
          by_cases h0 : ts[j].sk.length = 0
          · have e := m2 h0
            refine Edit.of_below (he.b.mono ?_) ?_
            · rw [mark5_size, e]; exact Nat.le_refl _
            · rw [mark5_size]; have := World.block_lt_of_cell? wr _ d0; have := HN1.out; simp only at *; omega
          · exact he.mono (m1 h0).2.1 (m1 h0).2.2))
        have HT := hide' m3
        clear hS h6 hy m1 m2 m3
        generalize ts[j].sk.length = n at c5 HM HOSj HSM HNX HT
        have hyb : y + 1 + 1 + 1 + 1 + 1 ≤ 4611686018427387904 := by omega
        go_wp2_with (go_at_call 53; refine (markfls_any _ n _ M _ (by omega) hyb (by have := HM.out; omega) HSM.out _ (there_set (there_set (there_set (there_set (there_set HT.out _ _ _) _ _ _) _ _ _) _ _ _) _ _ _)).mono ?_; rintro e w' ⟨rfl, hx1, he1⟩)
        go_roundw
        case rel =>
          exact ⟨j + 1, y + 1 + 1 + 1 + 1 + 1 + n, by omega, by go_num, rfl, by rw [HOSj.out, HY.out]; omega, HNX.out _ hx1 he1, HEE.out _ he1⟩
        case measure => simp [intOf]; omega
      · have hke : j = ts.length := by omega
        have HY := hide' hy
        clear hy
        go_wp2
        go_ret
        exact ⟨by rw [HY.out, hke]; rfl, (fun i h => (hdo.out i h).2 (by omega)), hed.out⟩
end Go.Proofs.YtdifamjkbagfcaaDoor
