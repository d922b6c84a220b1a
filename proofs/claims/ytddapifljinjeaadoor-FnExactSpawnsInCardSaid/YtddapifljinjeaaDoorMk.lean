/- Marks: what the exact laws write into a copy of a program. -/
import Derived.Test.YtddapifljinjeaaDoorPrgE
namespace Go.Proofs.YtddapifljinjeaaDoor
open Go.RowKit
open Rd Fl

theorem there_set {w : World} {N o n : Nat} (h : w.there N o n) (M p : Nat) (v : Value) : (w.setCell ⟨M, p, none⟩ v).there N o n := World.there_setCells h M p [v]

/-- Of the blocks that were there only those from lo on and below hi have turned; what could be written still can. -/
structure Edit (lo hi : Nat) (w w' : World) : Prop where
  b : Below lo w w'
  up : ∀ k, hi ≤ k → k < w.heap.size → w'.heap[k]? = w.heap[k]?
  th : ∀ N o n, w.there N o n → w'.there N o n
theorem Edit.refl (lo hi : Nat) (w : World) : Edit lo hi w w := ⟨Below.refl _ _, fun _ _ _ => rfl, fun _ _ _ h => h⟩
theorem Edit.trans {lo hi : Nat} {a b c : World} (h : Edit lo hi a b) (k : Edit lo hi b c) : Edit lo hi a c := ⟨h.b.trans k.b, fun i hi hz => (k.up i hi (Nat.lt_of_lt_of_le hz h.b.size)).trans (h.up i hi hz), fun N o n ht => k.th N o n (h.th N o n ht)⟩
theorem Edit.mono {lo hi lo' hi' : Nat} {w w' : World} (h : Edit lo hi w w') (h1 : lo' ≤ lo) (h2 : hi ≤ hi') : Edit lo' hi' w w' := ⟨h.b.mono h1, fun i hi hz => h.up i (Nat.le_trans h2 hi) hz, h.th⟩
theorem Edit.set {lo hi : Nat} {a w : World} (h : Edit lo hi a w) (N o : Nat) (v : Value) (h1 : lo ≤ N) (h2 : N < hi) : Edit lo hi a (w.setCell ⟨N, o, none⟩ v) :=
  ⟨h.b.setCell (p := ⟨N, o, none⟩) h1 v, fun k hk hz => (Below.heap_setCell _ _ _ _ (by show k ≠ N; omega)).trans (h.up k hk hz), fun M p n ht => there_set (h.th M p n ht) _ _ _⟩
theorem Edit.of_below {lo hi : Nat} {w w' : World} (h : Below w.heap.size w w') (hlo : lo ≤ w.heap.size) : Edit lo hi w w' := ⟨h.mono hlo, fun k _ hz => h.block k hz, fun _ _ _ ht => there_keep h ht⟩
theorem Edit.cell {lo hi : Nat} {w w' : World} (h : Edit lo hi w w') {N o : Nat} {v : Value} (hc : w.cell? ⟨N, o, none⟩ = some v) (hp : N < lo ∨ hi ≤ N) : w'.cell? ⟨N, o, none⟩ = some v := by
  rcases hp with hp | hp
  · exact (h.b.cell (p := ⟨N, o, none⟩) hp).trans hc
  · exact (World.cell?_of_block (w := w) (a := ⟨N, o, none⟩) (h.up N hp (World.block_lt_of_cell? w _ hc))).trans hc
theorem Edit.range {lo hi : Nat} {w w' : World} (h : Edit lo hi w w') {N o : Nat} {cs : List Value} (ht : w.rangeAt N o cs) (hp : N < lo ∨ hi ≤ N) : w'.rangeAt N o cs := fun j v hv => h.cell (ht j v hv) hp

set_option maxRecDepth 20000 in
set_option maxHeartbeats 1000000 in
theorem markops_any (A : Option Addr) (n cap M : Nat) (k : Int) (h0 : 0 ≤ k) (hk : k ≤ 4611686018427387904) (hn : n ≤ 1048576) (hA : n ≠ 0 → A = some ⟨M, 0, none⟩) (w : World) (hth : w.there M 0 (n * 4)) :
    Calls Tryd.prog 32 #[.slice A n cap, .int .i64 k] w fun e w' => e = .returned (.int .i64 (k + 4 * n)) ∧ Edit M (M + 1) w w' := by
  have hn' : (n : Int) ≤ 1048576 := by omega
  by_cases he : n = 0
  · subst he
    clear hA
    go_enter Tryd.func32, Tryd.ntmps32
    go_wp2
    go_loop [1, 5] (fun x i => x = .int .i64 k ∧ i = .int .i64 0) (fun _ _ => 0)
    case atStart => exact ⟨rfl, rfl⟩
    case round =>
      obtain ⟨rfl, rfl⟩ := hrel
      go_wp2
      go_ret
      exact ⟨by simp, Edit.refl _ _ _⟩
  · have hA2 := hA he
    subst hA2
    have hst := store_f
    have HTH := hide' hth
    clear hA he hth
    go_enter Tryd.func32, Tryd.ntmps32
    go_wp2
    go_loopw [1, 5] (fun x i wr => ∃ (j : Nat) (y : Int), j ≤ n ∧ i = .int .i64 j ∧ x = .int .i64 y ∧ y = k + 4 * j ∧ Hid (Edit M (M + 1) w wr)) (fun _ i _ => n - (intOf i).toNat)
    case atStart => exact ⟨0, k, Nat.zero_le _, rfl, rfl, by omega, Edit.refl _ _ _⟩
    case round =>
      obtain ⟨j, y, hj, rfl, rfl, hy, hed⟩ := hrel
      by_cases hlt : j < n
      · have hy0 : 0 ≤ y := by omega
        have hy1 : y ≤ 4611686018431582208 := by omega
        have HY := hide' hy
        clear hy
        obtain ⟨x0, x1, x2, x3, d0, d1, d2, d3, z0, z1, z2, z3⟩ := four_there (there_part (hed.out.th _ _ _ HTH.out) (j * 4) 4 (by omega))
        go_wp2
        go_roundw
        case rel => exact ⟨j + 1, y + 4, by omega, by go_num, by go_num, by have := HY.out; omega, (((hed.out.set _ _ _ (Nat.le_refl _) (Nat.lt_succ_self _)).set _ _ _ (Nat.le_refl _) (Nat.lt_succ_self _)).set _ _ _ (Nat.le_refl _) (Nat.lt_succ_self _)).set _ _ _ (Nat.le_refl _) (Nat.lt_succ_self _)⟩
        case measure => simp [intOf]; omega
      · have hke : j = n := by omega
        have HY := hide' hy
        clear hy
        go_wp2
        go_ret
        exact ⟨by rw [HY.out, hke]; rfl, hed.out⟩

/-- The routines lie at N's cells, each in a block of its own above N and below hi. -/
def OwnIn (w : World) (N hi : Nat) (rs : List (List OpD)) : Prop :=
  ∀ i l, rs[i]? = some l → ∃ M, N < M ∧ M < hi ∧ w.cell? ⟨N, i, none⟩ = some (.slice (some ⟨M, 0, none⟩) l.length l.length) ∧ w.there M 0 (l.length * 4)
theorem OwnTo.in {w : World} {N : Nat} {rs : List (List OpD)} (h : OwnTo w N rs.length rs) : OwnIn w N w.heap.size rs := by
  intro i l hl
  obtain ⟨M, h1, h2, h3, h4⟩ := h i l (List.getElem?_eq_some_iff.1 hl).1 hl
  exact ⟨M, h1, h2, h3, h4.1⟩
theorem OwnIn.keep {w w' : World} {N hi : Nat} {rs : List (List OpD)} (h : OwnIn w N hi rs) (hb : Below w.heap.size w w') : OwnIn w' N hi rs := by
  intro i l hl
  obtain ⟨M, h1, h2, h3, h4⟩ := h i l hl
  exact ⟨M, h1, h2, keep_cell hb h3, there_keep hb h4⟩
theorem OwnIn.edit {w w' : World} {N hi : Nat} {rs : List (List OpD)} (h : OwnIn w N hi rs) {lo up : Nat} (he : Edit lo up w w') (hN : N < lo ∨ up ≤ N) : OwnIn w' N hi rs := by
  intro i l hl
  obtain ⟨M, h1, h2, h3, h4⟩ := h i l hl
  exact ⟨M, h1, h2, he.cell h3 hN, he.th _ _ _ h4⟩

set_option maxRecDepth 20000 in
set_option maxHeartbeats 1000000 in
theorem markopss_any (rs : List (List OpD)) (cap N hi : Nat) (k : Int) (h0 : 0 ≤ k) (hk : k ≤ 1048576) (hl : rs.length ≤ 1048576) (hls : ∀ l ∈ rs, l.length ≤ 1048576) (w : World) (hO : OwnIn w N hi rs) :
    Calls Tryd.prog 22 #[.slice (some ⟨N, 0, none⟩) rs.length cap, .int .i64 k] w fun e w' => (∃ y : Int, e = .returned (.int .i64 y) ∧ 0 ≤ y ∧ y ≤ k + 4194304 * rs.length) ∧ Edit (N + 1) hi w w' := by
  have hl' : (rs.length : Int) ≤ 1048576 := by omega
  have HO := hide' hO
  have HLS := hide' hls
  clear hO hls
  go_enter Tryd.func22, Tryd.ntmps22
  go_wp2
  go_loopw [1, 5] (fun x i wr => ∃ (j : Nat) (y : Int), j ≤ rs.length ∧ i = .int .i64 j ∧ x = .int .i64 y ∧ 0 ≤ y ∧ y ≤ k + 4194304 * j ∧ Hid (Edit (N + 1) hi w wr)) (fun _ i _ => rs.length - (intOf i).toNat)
  case atStart => exact ⟨0, k, Nat.zero_le _, rfl, rfl, by omega, by omega, Edit.refl _ _ _⟩
  case round =>
    obtain ⟨j, y, hj, rfl, rfl, hy0, hy1, hed⟩ := hrel
    by_cases hlt : j < rs.length
    · obtain ⟨M, h1, h2, h3, h4⟩ := HO.out j rs[j] (List.getElem?_eq_getElem hlt)
      have hcell := hed.out.cell h3 (.inl (Nat.lt_succ_self _))
      have HT := hide' (hed.out.th _ _ _ h4)
      have HM := hide' (HLS.out rs[j] (List.getElem_mem hlt))
      clear h3 h4
      generalize rs[j] = l at hcell HT HM
      have hy2 : y ≤ 4611686018427387904 := by omega
      go_wp2_with (go_at_call 32; refine (markops_any _ l.length _ M y hy0 hy2 HM.out (fun _ => rfl) _ HT.out).mono ?_; rintro e w' ⟨rfl, he1⟩)
      go_roundw
      case rel => exact ⟨j + 1, y + 4 * l.length, by omega, by go_num, rfl, by omega, by have := HM.out; omega, hed.out.trans (he1.mono (by omega) (by omega))⟩
      case measure => simp [intOf]; omega
    · have hke : j = rs.length := by omega
      go_wp2
      go_ret
      exact ⟨⟨y, rfl, hy0, by rw [← hke]; exact hy1⟩, hed.out⟩

set_option maxRecDepth 20000 in
set_option maxHeartbeats 1000000 in
theorem markprog_any (cl lk cd : Int) (rs : List (List OpD)) (cap N hi : Nat) (hl : rs.length ≤ 1048576) (hls : ∀ l ∈ rs, l.length ≤ 1048576) (w : World) (hN : N < w.heap.size) (hO : OwnIn w N hi rs) :
    Calls Tryd.prog 10 #[.agg #[.int .i64 cl, .int .i64 lk, .int .i64 cd, .slice (some ⟨N, 0, none⟩) rs.length cap], .int .i64 1] w fun e w' => (∃ y : Int, e = .returned (.int .i64 y) ∧ 0 ≤ y ∧ y ≤ 4398046511105) ∧ Edit (N + 1) hi w w' := by
  have HC := hide' (fun w hR => markopss_any rs cap N hi 1 (by omega) (by omega) hl hls w hR)
  have HO := hide' hO
  have hl' : (rs.length : Int) ≤ 1048576 := by omega
  clear hl hls hO
  go_enter Tryd.func10, Tryd.ntmps10
  go_wp2_with fail
  refine (HC.out _ (HO.out.keep ((Below.refl _ w).up _))).mono ?_
  rintro e w1 ⟨⟨y, rfl, hy0, hy1⟩, he1⟩
  have HE := hide' ((Edit.of_below (lo := N + 1) (hi := hi) ((Below.refl _ w).up _) (by omega)).trans he1)
  have hy2 : y ≤ 4398046511105 := by omega
  clear he1 hy1
  go_wp2_with fail
  go_ret
  exact ⟨⟨y, rfl, hy0, hy2⟩, HE.out⟩
end Go.Proofs.YtddapifljinjeaaDoor
