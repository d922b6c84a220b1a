/- Marks: what the exact laws write into a copy of a state, and into a list of ints. -/
import Derived.Test.YtddapifljinjeaaMk
import Derived.Test.YtddapifljinjeaaStE
namespace Go.Proofs.Ytddapifljinjeaa
open Go.RowKit
open Rd Fl

set_option maxRecDepth 20000 in
set_option maxHeartbeats 1000000 in
theorem markfls_any (A : Option Addr) (n cap M : Nat) (k : Int) (h0 : 0 ≤ k) (hk : k ≤ 4611686018427387904) (hn : n ≤ 1048576) (hA : n ≠ 0 → A = some ⟨M, 0, none⟩) (w : World) (hth : w.there M 0 n) :
    Calls Try.prog 43 #[.slice A n cap, .int .i64 k] w fun e w' => e = .returned (.int .i64 (k + n)) ∧ (∀ j : Nat, j < n → w'.cell? ⟨M, j, none⟩ = some (.float .f64 (floatOfInt .f64 (k + j)))) ∧ Edit M (M + 1) w w' := by
  have hn' : (n : Int) ≤ 1048576 := by omega
  by_cases he : n = 0
  · subst he
    clear hA
    go_enter Try.func43, Try.ntmps43
    go_wp2
    go_loop [1, 5] (fun x i => x = .int .i64 k ∧ i = .int .i64 0) (fun _ _ => 0)
    case atStart => exact ⟨rfl, rfl⟩
    case round =>
      obtain ⟨rfl, rfl⟩ := hrel
      go_wp2
      go_ret
      exact ⟨by simp, Edit.refl _ _ _⟩
  · have hA2 := hA he
    subst hA2
    have hst := store_f
    have HTH := hide' hth
    clear hA he hth
    go_enter Try.func43, Try.ntmps43
    go_wp2
    go_loopw [1, 5] (fun x i wr => ∃ (j : Nat) (y : Int), j ≤ n ∧ i = .int .i64 j ∧ x = .int .i64 y ∧ y = k + j ∧ Hid (∀ j' : Nat, j' < j → wr.cell? ⟨M, j', none⟩ = some (.float .f64 (floatOfInt .f64 (k + j')))) ∧ Hid (Edit M (M + 1) w wr)) (fun _ i _ => n - (intOf i).toNat)
    case atStart => exact ⟨0, k, Nat.zero_le _, rfl, rfl, by omega, (fun j hj => by omega), Edit.refl _ _ _⟩
    case round =>
      obtain ⟨j, y, hj, rfl, rfl, hy, hdo, hed⟩ := hrel
      by_cases hlt : j < n
      · have hy0 : 0 ≤ y := by omega
        have hy1 : y ≤ 4611686018431582208 := by omega
        have HY := hide' hy
        clear hy
        have ht := hed.out.th _ _ _ HTH.out j hlt
        obtain ⟨x0, d0⟩ := Option.isSome_iff_exists.1 ht.1
        have z0 := ht.2
        rw [Nat.zero_add] at d0 z0
        have HD := hide' d0
        go_wp2
        go_roundw
        case rel =>
          refine ⟨j + 1, y + 1, by omega, by go_num, by go_num, by have := HY.out; omega, ?_, hed.out.set _ _ _ (Nat.le_refl _) (Nat.lt_succ_self _)⟩
          intro j' hj'
          by_cases e : j' = j
          · subst e
            rw [World.cell?_setCell_same _ _ _ HD.out, HY.out]
          · rw [World.cell?_setCell_other _ _ _ _ (by simp <;> omega)]
            exact hdo.out j' (by omega)
        case measure => simp [intOf]; omega
      · have hke : j = n := by omega
        have HY := hide' hy
        clear hy
        go_wp2
        go_ret
        exact ⟨by rw [HY.out, hke]; rfl, (by rw [← hke]; exact hdo.out), hed.out⟩

set_option maxRecDepth 20000 in
set_option maxHeartbeats 1000000 in
theorem markints_any (A : Option Addr) (n cap M : Nat) (k : Int) (h0 : 0 ≤ k) (hk : k ≤ 4611686018427387904) (hn : n ≤ 1048576) (hA : n ≠ 0 → A = some ⟨M, 0, none⟩) (w : World) (hth : w.there M 0 n) :
    Calls Try.prog 12 #[.slice A n cap, .int .i64 k] w fun e w' => e = .returned (.int .i64 (k + n)) ∧ (∀ j : Nat, j < n → w'.cell? ⟨M, j, none⟩ = some (.int .i64 (k + j))) ∧ Edit M (M + 1) w w' := by
  have hn' : (n : Int) ≤ 1048576 := by omega
  by_cases he : n = 0
  · subst he
    clear hA
    go_enter Try.func12, Try.ntmps12
    go_wp2
    go_loop [1, 5] (fun x i => x = .int .i64 k ∧ i = .int .i64 0) (fun _ _ => 0)
    case atStart => exact ⟨rfl, rfl⟩
    case round =>
      obtain ⟨rfl, rfl⟩ := hrel
      go_wp2
      go_ret
      exact ⟨by simp, Edit.refl _ _ _⟩
  · have hA2 := hA he
    subst hA2
    have HTH := hide' hth
    clear hA he hth
    go_enter Try.func12, Try.ntmps12
    go_wp2
    go_loopw [1, 5] (fun x i wr => ∃ (j : Nat) (y : Int), j ≤ n ∧ i = .int .i64 j ∧ x = .int .i64 y ∧ y = k + j ∧ Hid (∀ j' : Nat, j' < j → wr.cell? ⟨M, j', none⟩ = some (.int .i64 (k + j'))) ∧ Hid (Edit M (M + 1) w wr)) (fun _ i _ => n - (intOf i).toNat)
    case atStart => exact ⟨0, k, Nat.zero_le _, rfl, rfl, by omega, (fun j hj => by omega), Edit.refl _ _ _⟩
    case round =>
      obtain ⟨j, y, hj, rfl, rfl, hy, hdo, hed⟩ := hrel
      by_cases hlt : j < n
      · have hy0 : 0 ≤ y := by omega
        have hy1 : y ≤ 4611686018431582208 := by omega
        have HY := hide' hy
        clear hy
        have ht := hed.out.th _ _ _ HTH.out j hlt
        obtain ⟨x0, d0⟩ := Option.isSome_iff_exists.1 ht.1
        have z0 := ht.2
        rw [Nat.zero_add] at d0 z0
        have HD := hide' d0
        go_wp2
        go_roundw
        case rel =>
          refine ⟨j + 1, y + 1, by omega, by go_num, by go_num, by have := HY.out; omega, ?_, hed.out.set _ _ _ (Nat.le_refl _) (Nat.lt_succ_self _)⟩
          intro j' hj'
          by_cases e : j' = j
          · subst e
            rw [World.cell?_setCell_same _ _ _ HD.out, HY.out]
          · rw [World.cell?_setCell_other _ _ _ _ (by simp <;> omega)]
            exact hdo.out j' (by omega)
        case measure => simp [intOf]; omega
      · have hke : j = n := by omega
        have HY := hide' hy
        clear hy
        go_wp2
        go_ret
        exact ⟨by rw [HY.out, hke]; rfl, (by rw [← hke]; exact hdo.out), hed.out⟩

set_option maxRecDepth 20000 in
set_option maxHeartbeats 1000000 in
theorem heldints_any (A : Option Addr) (n cap M : Nat) (k : Int) (h0 : 0 ≤ k) (hk : k ≤ 4611686018427387904) (hn : n ≤ 1048576) (hA : n ≠ 0 → A = some ⟨M, 0, none⟩) (w : World) (hc : ∀ j : Nat, j < n → w.cell? ⟨M, j, none⟩ = some (.int .i64 (k + j))) :
    Calls Try.prog 13 #[.slice A n cap, .int .i64 k] w fun e w' => e = .returned (.int .i64 (k + n)) ∧ w' = w := by
  have hn' : (n : Int) ≤ 1048576 := by omega
  by_cases he : n = 0
  · subst he
    clear hA
    go_enter Try.func13, Try.ntmps13
    go_wp2
    go_loop [1, 5] (fun x i => x = .int .i64 k ∧ i = .int .i64 0) (fun _ _ => 0)
    case atStart => exact ⟨rfl, rfl⟩
    case round =>
      obtain ⟨rfl, rfl⟩ := hrel
      go_wp2
      go_ret
      exact ⟨by simp, rfl⟩
  · have hA2 := hA he
    subst hA2
    have HC := hide' hc
    clear hA he hc
    go_enter Try.func13, Try.ntmps13
    go_wp2
    go_loop [1, 5] (fun x i => ∃ (j : Nat) (y : Int), j ≤ n ∧ i = .int .i64 j ∧ x = .int .i64 y ∧ y = k + j) (fun _ i => n - (intOf i).toNat)
    case atStart => exact ⟨0, k, Nat.zero_le _, rfl, rfl, by omega⟩
    case round =>
      obtain ⟨j, y, hj, rfl, rfl, hy⟩ := hrel
      by_cases hlt : j < n
      · have hy0 : 0 ≤ y := by omega
        have hy1 : y ≤ 4611686018431582208 := by omega
        have d0 := HC.out j hlt
        rw [← hy] at d0
        have HY := hide' hy
        clear hy
        go_wp2
        go_round
        case rel => exact ⟨j + 1, y + 1, by omega, by go_num, by go_num, by have := HY.out; omega⟩
        case measure => simp [intOf]; omega
      · have hke : j = n := by omega
        have HY := hide' hy
        clear hy
        go_wp2
        go_ret
        exact ⟨by rw [HY.out, hke]; rfl, rfl⟩

/-- A state's lists lie in blocks from N1 on and below hi, and can be written. -/
structure StIn (w : World) (N1 N2 N3 hi : Nat) (s : StD) : Prop where
  t : ∀ i t, s.ts[i]? = some t → ∃ M, N1 < M ∧ M < hi ∧ w.cell? ⟨N1, i * 6 + 5, none⟩ = some (.slice (some ⟨M, 0, none⟩) t.sk.length t.sk.length) ∧ w.there M 0 t.sk.length ∧ w.there N1 (i * 6) 6
  c : w.there N2 0 s.cl.length
  o : w.there N3 0 s.ow.length
  n2 : N1 < N2
  n3 : N2 < N3
  hi : N3 < hi
theorem StOwn.in {w : World} {N1 N2 N3 : Nat} {s : StD} (h : StOwn w N1 N2 N3 s) (h2 : N1 < N2) (h3 : N2 < N3) (h4 : N3 < w.heap.size) : StIn w N1 N2 N3 w.heap.size s := by
  refine ⟨fun i t ht => ?_, h.c.1, h.o.1, h2, h3, h4⟩
  obtain ⟨M, g1, g2, g3, g4, g5⟩ := h.t i t (List.getElem?_eq_some_iff.1 ht).1 ht
  exact ⟨M, g1, g2, (th_range g3).2.2.2.2.2, g4.1, g5⟩
theorem StIn.keep {w w' : World} {N1 N2 N3 hi : Nat} {s : StD} (h : StIn w N1 N2 N3 hi s) (hb : Below w.heap.size w w') : StIn w' N1 N2 N3 hi s := by
  refine ⟨fun i t ht => ?_, there_keep hb h.c, there_keep hb h.o, h.n2, h.n3, h.hi⟩
  obtain ⟨M, g1, g2, g3, g4, g5⟩ := h.t i t ht
  exact ⟨M, g1, g2, keep_cell hb g3, there_keep hb g4, there_keep hb g5⟩
theorem StIn.edit {w w' : World} {N1 N2 N3 hi : Nat} {s : StD} (h : StIn w N1 N2 N3 hi s) {lo up : Nat} (he : Edit lo up w w') (hN : N1 < lo ∨ up ≤ N1) : StIn w' N1 N2 N3 hi s := by
  refine ⟨fun i t ht => ?_, he.th _ _ _ h.c, he.th _ _ _ h.o, h.n2, h.n3, h.hi⟩
  obtain ⟨M, g1, g2, g3, g4, g5⟩ := h.t i t ht
  exact ⟨M, g1, g2, he.cell g3 hN, he.th _ _ _ g4, he.th _ _ _ g5⟩

theorem Edit.set5 {N hi : Nat} {a w : World} (h : Edit N hi a w) (hN : N < hi) (o0 o1 o2 o3 o4 : Nat) (v0 v1 v2 v3 v4 : Value) : Edit N hi a (((((w.setCell ⟨N, o0, none⟩ v0).setCell ⟨N, o1, none⟩ v1).setCell ⟨N, o2, none⟩ v2).setCell ⟨N, o3, none⟩ v3).setCell ⟨N, o4, none⟩ v4) :=
  ((((h.set _ _ _ (Nat.le_refl _) hN).set _ _ _ (Nat.le_refl _) hN).set _ _ _ (Nat.le_refl _) hN).set _ _ _ (Nat.le_refl _) hN).set _ _ _ (Nat.le_refl _) hN

set_option maxRecDepth 20000 in
set_option maxHeartbeats 2000000 in
theorem markths_any (ts : List ThD) (cap N hi : Nat) (k : Int) (h0 : 0 ≤ k) (hk : k ≤ 281474976710656) (hl : ts.length ≤ 1048576) (hls : ∀ t ∈ ts, t.sk.length ≤ 1048576) (w : World) (hN : N < hi)
    (hO : ∀ i t, ts[i]? = some t → ∃ M, N < M ∧ M < hi ∧ w.cell? ⟨N, i * 6 + 5, none⟩ = some (.slice (some ⟨M, 0, none⟩) t.sk.length t.sk.length) ∧ w.there M 0 t.sk.length ∧ w.there N (i * 6) 6) :
    Calls Try.prog 42 #[.slice (some ⟨N, 0, none⟩) ts.length cap, .int .i64 k] w fun e w' => (∃ y : Int, e = .returned (.int .i64 y) ∧ 0 ≤ y ∧ y ≤ k + 1048581 * ts.length) ∧ Edit N hi w w' := by
  have hl' : (ts.length : Int) ≤ 1048576 := by omega
  have HO := hide' (fun i (hi : i < ts.length) => hO i ts[i] (List.getElem?_eq_getElem hi))
  have HLS := hide' hls
  have HN := hide' hN
  clear hO hls hN
  go_enter Try.func42, Try.ntmps42
  go_wp2
  go_loopw [1, 5] (fun x i wr => ∃ (j : Nat) (y : Int), j ≤ ts.length ∧ i = .int .i64 j ∧ x = .int .i64 y ∧ 0 ≤ y ∧ y ≤ k + 1048581 * j ∧ Hid (∀ j' (h : j' < ts.length), ∃ M, wr.cell? ⟨N, j' * 6 + 5, none⟩ = some (.slice (some ⟨M, 0, none⟩) ts[j'].sk.length ts[j'].sk.length) ∧ N < M ∧ M < hi ∧ wr.there M 0 ts[j'].sk.length) ∧ Hid (Edit N hi w wr)) (fun _ i _ => ts.length - (intOf i).toNat)
  case atStart =>
    refine ⟨0, k, Nat.zero_le _, rfl, rfl, by omega, by omega, ?_, Edit.refl _ _ _⟩
    intro j' h
    obtain ⟨M, h1, h2, h3, h4, h5⟩ := HO.out j' h
    exact ⟨M, h3, h1, h2, h4⟩
  case round =>
    obtain ⟨j, y, hj, rfl, rfl, hy0, hy1, hcs, hed⟩ := hrel
    by_cases hlt : j < ts.length
    · obtain ⟨M, c5, m1, m2, ht⟩ := hcs.out j hlt
      obtain ⟨-, -, -, -, -, h5⟩ := HO.out j hlt
      obtain ⟨x0, x1, x2, x3, x4, x5, ⟨d0, d1, d2, d3, d4, -⟩, z0, z1, z2, z3, z4, -⟩ := six_there (hed.out.th _ _ _ h5)
      have HT := hide' ht
      have HM := hide' (HLS.out ts[j] (List.getElem_mem hlt))
      have HM2 := hide' m2
      clear ht h5 m2
      have HNE := hide' (fun (wx : World) (he : Edit M (M + 1) (((((wr.setCell ⟨N, j * 6, none⟩ (.int .i64 y)).setCell ⟨N, j * 6 + 1, none⟩ (.int .i64 (y + 1))).setCell ⟨N, j * 6 + 2, none⟩ (.int .i64 (y + 1 + 1))).setCell ⟨N, j * 6 + 3, none⟩ (.int .i64 (y + 1 + 1 + 1))).setCell ⟨N, j * 6 + 4, none⟩ (.int .i64 (y + 1 + 1 + 1 + 1))) wx) => (show (∀ j' (h : j' < ts.length), ∃ M, wx.cell? ⟨N, j' * 6 + 5, none⟩ = some (.slice (some ⟨M, 0, none⟩) ts[j'].sk.length ts[j'].sk.length) ∧ N < M ∧ M < hi ∧ wx.there M 0 ts[j'].sk.length) from fun j' h => by
        obtain ⟨M', g1, g2, g3, g4⟩ := hcs.out j' h
        refine ⟨M', he.cell ?_ (.inl m1), g2, g3, he.th _ _ _ (there_set (there_set (there_set (there_set (there_set g4 _ _ _) _ _ _) _ _ _) _ _ _) _ _ _)⟩
        rw [World.cell?_setCell_other _ _ _ _ (by simp <;> omega), World.cell?_setCell_other _ _ _ _ (by simp <;> omega), World.cell?_setCell_other _ _ _ _ (by simp <;> omega), World.cell?_setCell_other _ _ _ _ (by simp <;> omega), World.cell?_setCell_other _ _ _ _ (by simp <;> omega)]
        exact g1))
      have HMM := hide' m1
      clear m1
      generalize ts[j].sk.length = n at c5 HT HM
      have hy2 : y ≤ 4611686018427387000 := by omega
      have hyb : y + 1 + 1 + 1 + 1 + 1 ≤ 4611686018427387904 := by omega
      go_wp2_with (go_at_call 43; refine (markfls_any _ n _ M _ (by omega) hyb HM.out (fun _ => rfl) _ (there_set (there_set (there_set (there_set (there_set HT.out _ _ _) _ _ _) _ _ _) _ _ _) _ _ _)).mono ?_; rintro e w' ⟨rfl, -, he1⟩)
      go_roundw
      case rel =>
        refine ⟨j + 1, y + 1 + 1 + 1 + 1 + 1 + n, by omega, by go_num, rfl, by omega, by have := HM.out; omega, HNE.out _ he1, ?_⟩
        exact (hed.out.set5 HN.out _ _ _ _ _ _ _ _ _ _).trans (he1.mono (Nat.le_of_lt HMM.out) HM2.out)
      case measure => simp [intOf]; omega
    · have hke : j = ts.length := by omega
      go_wp2
      go_ret
      exact ⟨⟨y, rfl, hy0, by rw [← hke]; exact hy1⟩, hed.out⟩

set_option maxRecDepth 20000 in
set_option maxHeartbeats 2000000 in
theorem markstate_any (s : StD) (c1 c2 c3 N1 N2 N3 hi : Nat) (k : Int) (h0 : 0 ≤ k) (hk : k ≤ 281474976710656) (hf : StFit s 1048576) (w : World) (hz : hi ≤ w.heap.size) (hS : StIn w N1 N2 N3 hi s) :
    Calls Try.prog 29 #[.agg #[.slice (some ⟨N1, 0, none⟩) s.ts.length c1, .slice (some ⟨N2, 0, none⟩) s.cl.length c2, .slice (some ⟨N3, 0, none⟩) s.ow.length c3, .int .i64 s.ft], .int .i64 k] w fun e w' => (∃ y : Int, e = .returned (.int .i64 y) ∧ 0 ≤ y) ∧ Edit N1 hi w w' := by
  obtain ⟨ts, cl, ow, ft⟩ := s
  simp only at *
  have q1 := hS.n2
  have q2 := hS.n3
  have q3 := hS.hi
  have H1 := hide' (fun w h => markths_any ts c1 N1 hi k h0 hk hf.t hf.k w (by omega) h)
  have H2 := hide' (fun (y : Int) hy0 hy1 w h => markfls_any (some ⟨N2, 0, none⟩) cl.length c2 N2 y hy0 hy1 hf.c (fun _ => rfl) w h)
  have H3 := hide' (fun (y : Int) hy0 hy1 w h => markints_any (some ⟨N3, 0, none⟩) ow.length c3 N3 y hy0 hy1 hf.o (fun _ => rfl) w h)
  have HS := hide' hS
  have hl1 : (ts.length : Int) ≤ 1048576 := by have := hf.t; simp only at this; omega
  have hl2 : (cl.length : Int) ≤ 1048576 := by have := hf.c; simp only at this; omega
  have hl3 : (ow.length : Int) ≤ 1048576 := by have := hf.o; simp only at this; omega
  have Q1 := hide' q1
  have Q2 := hide' q2
  have Q3 := hide' q3
  have HZ := hide' hz
  clear hS hf q1 q2 q3 hz
  generalize hn1 : ts.length = n1 at *
  generalize hn2 : cl.length = n2 at *
  generalize hn3 : ow.length = n3 at *
  go_enter Try.func29, Try.ntmps29
  go_wp2_with fail
  have hbw : Below w.heap.size w (w.alloc (.cells #[.slice (some ⟨N1, 0, none⟩) n1 c1, .slice (some ⟨N2, 0, none⟩) n2 c2, .slice (some ⟨N3, 0, none⟩) n3 c3, .int .i64 ft] 36)) := (Below.refl _ w).up _
  have E0 := hide' (Edit.of_below (lo := N1) (hi := hi) hbw (by have := Q1.out; have := Q2.out; have := Q3.out; have := HZ.out; omega))
  have hbox := sbox_new w (some ⟨N1, 0, none⟩) (some ⟨N2, 0, none⟩) (some ⟨N3, 0, none⟩) n1 c1 n2 c2 n3 c3 ft 36
  have HS1 := hide' (HS.out.keep hbw)
  have hzz : w.heap.size < (w.alloc (.cells #[.slice (some ⟨N1, 0, none⟩) n1 c1, .slice (some ⟨N2, 0, none⟩) n2 c2, .slice (some ⟨N3, 0, none⟩) n3 c3, .int .i64 ft] 36)).heap.size := by simp
  refine (H1.out _ HS1.out.t).mono ?_
  generalize (w.alloc (.cells #[.slice (some ⟨N1, 0, none⟩) n1 c1, .slice (some ⟨N2, 0, none⟩) n2 c2, .slice (some ⟨N3, 0, none⟩) n3 c3, .int .i64 ft] 36)) = w0 at *
  rintro e w1 ⟨⟨y1, rfl, hy0, hy1⟩, he1⟩
  have a0 := he1.cell hbox.c0 (.inr HZ.out)
  have a1 := he1.cell hbox.c1 (.inr HZ.out)
  have a2 := he1.cell hbox.c2 (.inr HZ.out)
  have a3 := he1.cell hbox.c3 (.inr HZ.out)
  have E1 := hide' (E0.out.trans he1)
  have T2 := hide' (he1.th _ _ _ HS1.out.c)
  have T3 := hide' (he1.th _ _ _ HS1.out.o)
  simp only [hn2] at T2
  simp only [hn3] at T3
  clear he1 hbox hbw
  go_wp2_with fail
  refine (H2.out y1 hy0 (by omega) _ T2.out).mono ?_
  rintro e w2 ⟨rfl, -, he2⟩
  have he2' := he2.mono (lo' := N2) (hi' := hi) (Nat.le_refl _) (by have := Q2.out; have := Q3.out; omega)
  have b0 := he2'.cell a0 (.inr HZ.out)
  have b1 := he2'.cell a1 (.inr HZ.out)
  have b2 := he2'.cell a2 (.inr HZ.out)
  have b3 := he2'.cell a3 (.inr HZ.out)
  have E2 := hide' (E1.out.trans (he2'.mono (by have := Q1.out; omega) (Nat.le_refl _)))
  have U3 := hide' (he2.th _ _ _ T3.out)
  clear he2 he2' a0 a1 a2 a3
  go_wp2_with fail
  refine (H3.out (y1 + n2) (by omega) (by omega) _ U3.out).mono ?_
  rintro e w3 ⟨rfl, -, he3⟩
  have E3 := hide' (E2.out.trans (he3.mono (by have := Q1.out; have := Q2.out; omega) (by have := Q3.out; omega)))
  clear he3 b0 b1 b2 b3
  go_wp2_with fail
  go_ret
  exact ⟨⟨_, rfl, by omega⟩, E3.out⟩
end Go.Proofs.Ytddapifljinjeaa
