/- impl.newClocks. -/
import Derived.Test.YtgfnejojjjlloaaQr
import Derived.Test.YtgfnejojjjlloaaQm
namespace Go.Proofs.Ytgfnejojjjlloaa
open Go.RowKit
open Rd Fl

theorem make_intss (n : Nat) (hn : n ≤ 1048576) (w : World) : (Instr.makeSlice 48 (.int .i64 (n : Int)) (.int .i64 (n : Int))).run Try.prog w = .ok (.slice (some ⟨w.heap.size, 0, none⟩) n n) (w.alloc (.cells (madeCells #[.slice none 0 0] n) 41)) := by
  obtain ⟨i, hi, h3, h1, h2⟩ := intsInfo
  have := run_make (P := Try.prog) w 48 41 i _ Try.underlying48 hi h3 .i64 .i64 n n (by omega) (Int.le_refl _) (by rw [h2]; omega) (by omega)
  rw [h1] at this
  simpa [Value.cells] using this
/-- n clocks, cut out of the block M, their heads in the block g -/
structure ClkM (w wr : World) (n M g : Nat) (j : Nat) : Prop where
  b : Below w.heap.size w wr
  m : w.heap.size ≤ M
  mg : M < g
  z : g < wr.heap.size
  tm : wr.there M 0 (n * 5)
  tg : wr.there g 0 n
  c : ∀ k, k < j → wr.cell? ⟨g, k, none⟩ = some (.slice (some ⟨M, k * 5, none⟩) 5 5)
theorem ClkM.keep {w wr wy : World} {n M g j : Nat} (h : ClkM w wr n M g j) (hb : Below wr.heap.size wr wy) : ClkM w wy n M g j :=
  ⟨h.b.trans (hb.mono h.b.size), h.m, h.mg, Nat.lt_of_lt_of_le h.z hb.size, there_keep hb h.tm, there_keep hb h.tg, fun k hk => keep_cell hb (h.c k hk)⟩

set_option maxRecDepth 20000 in
set_option maxHeartbeats 2000000 in
theorem newcl_any (n : Nat) (hn : n ≤ 200) (w : World) :
    Calls Try.prog 61 #[.int .i64 (n : Int)] w fun e w' => e = .returned (.slice (some ⟨w.heap.size + 1, 0, none⟩) n n) ∧ ClkM w w' n w.heap.size (w.heap.size + 1) n := by
  have hn' : (n : Int) ≤ 200 := by omega
  have h1 := make_ints (n * 5) (by omega)
  rw [Int.natCast_mul] at h1
  have hmk : ∀ w, (Instr.makeSlice 41 (.int .i64 ((n : Int) * 5)) (.int .i64 ((n : Int) * 5))).run Try.prog w = .ok (.slice (some ⟨w.heap.size, 0, none⟩) (n * 5) (n * 5)) (w.alloc (.cells (madeCells #[.int .i64 0] (n * 5)) 3)) := h1
  have hmk2 := make_intss n (by omega)
  clear h1
  have HM0 := hide' (show ClkM w ((w.alloc (.cells (madeCells #[.int .i64 0] (n * 5)) 3)).alloc (.cells (madeCells #[.slice none 0 0] n) 41)) n w.heap.size (w.heap.size + 1) 0 from
    ⟨below2 w _ _, Nat.le_refl _, Nat.lt_succ_self _, by simp, there_keep ((Below.refl _ _).up _) (made_there w _ _ _), by
      have := made_there (w.alloc (.cells (madeCells #[.int .i64 0] (n * 5)) 3)) #[.slice none 0 0] n 41
      rw [show (w.alloc (.cells (madeCells #[.int .i64 0] (n * 5)) 3)).heap.size = w.heap.size + 1 by simp] at this
      exact this, fun k hk => by omega⟩)
  go_enter Try.func61, Try.ntmps61
  go_wp2
  go_loopw [15] (fun i wr => ∃ (k : Nat), k ≤ n ∧ i = .int .i64 k ∧ Hid (ClkM w wr n w.heap.size (w.heap.size + 1) k)) (fun i _ => n - (intOf i).toNat)
  case atStart => exact ⟨0, Nat.zero_le _, rfl, HM0.out⟩
  case round =>
    clear HM0
    obtain ⟨k, hk, rfl, hw⟩ := hrel
    by_cases hlt : k < n
    · have hk2 : (k : Int) < n := by omega
      obtain ⟨x0, y0⟩ := hw.out.tg k hlt
      rw [Nat.zero_add] at x0 y0
      obtain ⟨x1, y1⟩ := Option.isSome_iff_exists.1 x0
      have HNX := hide' (show ClkM w (wr.setCell ⟨w.heap.size + 1, k, none⟩ (.slice (some ⟨w.heap.size, k * 5, none⟩) ((k + 1) * 5 - k * 5) ((k + 1) * 5 - k * 5))) n w.heap.size (w.heap.size + 1) (k + 1) from by
        have h := hw.out
        rw [show (k + 1) * 5 - k * 5 = 5 by omega]
        refine ⟨h.b.setCell (p := ⟨w.heap.size + 1, k, none⟩) (by show w.heap.size ≤ w.heap.size + 1; omega) _, h.m, h.mg, by rw [World.size_setCell]; exact h.z, there_set h.tm _ _ _, there_set h.tg _ _ _, fun j hj => ?_⟩
        by_cases e : j = k
        · subst e
          rw [World.cell?_setCell_same _ _ _ y1]
        · rw [World.cell?_setCell_other _ _ _ _ (by simp <;> omega)]
          exact h.c j (by omega))
      go_wp2
      go_roundw
      case rel => exact ⟨k + 1, by omega, by go_num, HNX.out⟩
      case measure => simp [intOf]; omega
    · have hke : k = n := by omega
      subst hke
      go_wp2
      go_ret
      exact ⟨rfl, hw.out⟩
end Go.Proofs.Ytgfnejojjjlloaa
