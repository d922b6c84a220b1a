/- The drawn inputs of chapter 1. -/
import Derived.Test.YtjijinjedeinmaaDoorDraw
namespace Go.Proofs.YtjijinjedeinmaaDoor
open Go.RowKit
open Fl

theorem new_cur (w : World) (a : Option Addr) (len cap : Nat) (t : TypeId) : Cur (w.alloc (.cells #[.slice a len cap, .int .i64 0, .int .u64 0] t)) w.heap.size a len cap 0 := by
  refine ⟨by rw [World.cell?_alloc_new]; rfl, by rw [World.cell?_alloc_new]; rfl, ⟨0, by rw [World.cell?_alloc_new]; rfl⟩, ?_, ?_⟩
  · exact World.frozen?_alloc_new _ _ _ _
  · exact World.frozen?_alloc_new _ _ _ _
theorem new_below (w : World) (o : Obj) : Below w.heap.size w (w.alloc o) := (Below.refl _ w).alloc (Nat.le_refl _) o
theorem new_size (w : World) (o : Obj) : w.heap.size < (w.alloc o).heap.size := by
  show w.heap.size < (w.heap.push o).size
  simp

theorem new_size1 (w : World) (o : Obj) : w.heap.size + 1 = (w.alloc o).heap.size := by
  show _ = (w.heap.push o).size
  simp

set_option maxRecDepth 20000 in
set_option maxHeartbeats 1000000 in
theorem dkind_any (a : Option Addr) (len cap : Nat) (w : World) (hs : Src w w.heap.size a len) :
    Calls Tryd.prog 36 #[.slice a len cap] w fun e w' => (∃ s r, r < 9223372036854775808 ∧ e = .returned (.float .f64 (wd s r))) ∧ Below w.heap.size w w' := by
  have HS := hidec hs
  clear hs
  go_enter Tryd.func36, Tryd.ntmps36
  go_wp2_with fail
  refine (num_any w.heap.size len cap 0 a _ (new_cur w a len cap _) (HS.out.below (new_below w _)) (by omega) (new_size w _)).mono ?_
  rintro e w1 ⟨⟨s, r, hr, rfl⟩, ⟨pos1, hp1, hc1⟩, hb1⟩
  have HR := hidec hr
  clear hr hp1
  go_wp2_with fail
  go_ret
  exact ⟨⟨s, r, HR.out, rfl⟩, (new_below w _).trans hb1⟩

set_option maxRecDepth 20000 in
set_option maxHeartbeats 1000000 in
theorem dtext_any (a : Option Addr) (len cap : Nat) (w : World) (hs : Src w w.heap.size a len) :
    Calls Tryd.prog 10 #[.slice a len cap] w fun e w' => (∃ s r, r < 9223372036854775808 ∧ e = .returned (.float .f64 (wd s r))) ∧ Below w.heap.size w w' := by
  have HS := hidec hs
  clear hs
  go_enter Tryd.func10, Tryd.ntmps10
  go_wp2_with fail
  refine (dkind_any a len cap w HS.out).mono ?_
  rintro e w1 ⟨⟨s, r, hr, rfl⟩, hb1⟩
  have HR := hidec hr
  clear hr
  go_wp2_with fail
  go_ret
  exact ⟨⟨s, r, HR.out, rfl⟩, hb1⟩

end Go.Proofs.YtjijinjedeinmaaDoor
