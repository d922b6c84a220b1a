/- The drawn inputs of chapter 1. -/
import Derived.Test.YtphcfhndgadkgaaDoorDraw
namespace Go.Proofs.YtphcfhndgadkgaaDoor
open Go.RowKit
open Fl

theorem new_cur (w : World) (a : Option Addr) (len cap : Nat) (t : TypeId) : Cur (w.alloc (.cells #[.slice a len cap, .int .i64 0, .int .u64 0] t)) w.heap.size a len cap 0 := by
  refine ⟨by rw [World.cell?_alloc_new]; rfl, by rw [World.cell?_alloc_new]; rfl, ⟨0, by rw [World.cell?_alloc_new]; rfl⟩, ?_, ?_⟩
  · exact World.frozen?_alloc_new _ _ _ _
  · exact World.frozen?_alloc_new _ _ _ _
theorem new_below (w : World) (o : Obj) : Below w.heap.size w (w.alloc o) := (Below.refl _ w).alloc (Nat.le_refl _) o
theorem new_size (w : World) (o : Obj) : w.heap.size < (w.alloc o).heap.size := by
  show w.heap.size < (w.heap.push o).size
  simp

theorem new_size1 (w : World) (o : Obj) : w.heap.size + 1 = (w.alloc o).heap.size := by
  show _ = (w.heap.push o).size
  simp

set_option maxRecDepth 20000 in
set_option maxHeartbeats 1000000 in
theorem dkind_any (a : Option Addr) (len cap : Nat) (w : World) (hs : Src w w.heap.size a len) :
    Calls Tryd.prog 37 #[.slice a len cap] w fun e w' => (∃ s r, r < 9223372036854775808 ∧ e = .returned (.float .f64 (wd s r))) ∧ Below w.heap.size w w' := by
  have HS := hidec hs
  clear hs
  go_enter Tryd.func37, Tryd.ntmps37
  go_wp2_with fail
  refine (num_any w.heap.size len cap 0 a _ (new_cur w a len cap _) (HS.out.below (new_below w _)) (by omega) (new_size w _)).mono ?_
  rintro e w1 ⟨⟨s, r, hr, rfl⟩, ⟨pos1, hp1, hc1⟩, hb1⟩
  have HR := hidec hr
  clear hr hp1
  go_wp2_with fail
  go_ret
  exact ⟨⟨s, r, HR.out, rfl⟩, (new_below w _).trans hb1⟩

set_option maxRecDepth 20000 in
set_option maxHeartbeats 1000000 in
theorem dparts_any (a : Option Addr) (len cap : Nat) (w : World) (hs : Src w w.heap.size a len) :
    Calls Tryd.prog 13 #[.slice a len cap] w fun e w' => (∃ s r, r < 9223372036854775808 ∧ e = .returned (.float .f64 (wd s r))) ∧ Below w.heap.size w w' := by
  have HS := hidec hs
  clear hs
  go_enter Tryd.func13, Tryd.ntmps13
  go_wp2_with fail
  refine (dkind_any a len cap w HS.out).mono ?_
  rintro e w1 ⟨⟨s, r, hr, rfl⟩, hb1⟩
  have HR := hidec hr
  clear hr
  go_wp2_with fail
  go_ret
  exact ⟨⟨s, r, HR.out, rfl⟩, hb1⟩

set_option maxRecDepth 20000 in
set_option maxHeartbeats 1000000 in
theorem dtext_any (a : Option Addr) (len cap : Nat) (w : World) (hs : Src w w.heap.size a len) :
    Calls Tryd.prog 26 #[.slice a len cap] w fun e w' => (∃ s r, r < 9223372036854775808 ∧ e = .returned (.float .f64 (wd s r))) ∧ Below w.heap.size w w' := by
  have HS := hidec hs
  clear hs
  go_enter Tryd.func26, Tryd.ntmps26
  go_wp2_with fail
  refine (dkind_any a len cap w HS.out).mono ?_
  rintro e w1 ⟨⟨s, r, hr, rfl⟩, hb1⟩
  have HR := hidec hr
  clear hr
  go_wp2_with fail
  go_ret
  exact ⟨⟨s, r, HR.out, rfl⟩, hb1⟩

set_option maxRecDepth 20000 in
set_option maxHeartbeats 1000000 in
theorem dsame_any (a : Option Addr) (len cap : Nat) (w : World) (hs : Src w w.heap.size a len) :
    Calls Tryd.prog 32 #[.slice a len cap] w fun e w' => (∃ s r t q, r < 9223372036854775808 ∧ q < 9223372036854775808 ∧ e = .returned (.tuple #[.float .f64 (wd s r), .float .f64 (wd t q)])) ∧ Below w.heap.size w w' := by
  have HS := hidec hs
  clear hs
  go_enter Tryd.func32, Tryd.ntmps32
  go_wp2_with fail
  refine (num_any w.heap.size len cap 0 a _ (new_cur w a len cap _) (HS.out.below (new_below w _)) (by omega) (new_size w _)).mono ?_
  rintro e w1 ⟨⟨s, r, hr, rfl⟩, ⟨pos1, hp1, hc1⟩, hb1⟩
  have HR := hidec hr
  have HP := hidec hp1
  have HB := hidec ((new_below w _).trans hb1)
  have HZ := hidec (Nat.lt_of_lt_of_le (new_size w _) hb1.size)
  clear hr hp1 hb1
  go_wp2_with fail
  refine (one_any w.heap.size len cap pos1 a 3 _ hc1 (HS.out.below HB.out) (by have := HP.out; omega) (by omega) (by omega)).mono ?_
  rintro e w2 ⟨⟨v, rfl⟩, ⟨pos2, hp2, hc2⟩, hb2⟩
  have HP2 := hidec hp2
  have HB2 := hidec (HB.out.trans hb2.below)
  have HZ2 := hidec (show w.heap.size < w2.heap.size by rw [hb2.size]; exact HZ.out)
  clear hp2 hb2
  cases v with
  | true =>
    go_wp2_with fail
    go_ret2
    exact ⟨⟨s, r, s, r, HR.out, HR.out, rfl⟩, HB2.out⟩
  | false =>
    go_wp2_with fail
    refine (num_any w.heap.size len cap pos2 a _ hc2 (HS.out.below HB2.out) (by have := HP.out; have := HP2.out; omega) HZ2.out).mono ?_
    rintro e w3 ⟨⟨t, q, hq, rfl⟩, ⟨pos3, hp3, hc3⟩, hb3⟩
    have HQ := hidec hq
    clear hq hp3
    go_wp2_with fail
    go_ret2
    exact ⟨⟨s, r, t, q, HR.out, HQ.out, rfl⟩, HB2.out.trans hb3⟩

set_option maxRecDepth 20000 in
set_option maxHeartbeats 1000000 in
theorem dcmp_any (a : Option Addr) (len cap : Nat) (w : World) (hs : Src w w.heap.size a len) :
    Calls Tryd.prog 6 #[.slice a len cap] w fun e w' => (∃ s r t q, r < 9223372036854775808 ∧ q < 9223372036854775808 ∧ e = .returned (.tuple #[.float .f64 (wd s r), .float .f64 (wd t q)])) ∧ Below w.heap.size w w' := by
  have HS := hidec hs
  clear hs
  go_enter Tryd.func6, Tryd.ntmps6
  go_wp2_with fail
  refine (dsame_any a len cap w HS.out).mono ?_
  rintro e w1 ⟨⟨s, r, t, q, hr, hq, rfl⟩, hb1⟩
  have HR := hidec hr
  have HQ := hidec hq
  clear hr hq
  go_wp2_with fail
  go_ret2
  exact ⟨⟨s, r, t, q, HR.out, HQ.out, rfl⟩, hb1⟩

set_option maxRecDepth 20000 in
set_option maxHeartbeats 1000000 in
theorem dnumof_any (a : Option Addr) (len cap : Nat) (w : World) (hs : Src w w.heap.size a len) :
    Calls Tryd.prog 21 #[.slice a len cap] w fun e w' => (∃ m x : Int, m.natAbs ≤ 9007199254740993 ∧ -1200 ≤ x ∧ x ≤ 1201 ∧ e = .returned (.tuple #[.int .i64 m, .int .i64 x])) ∧ Below w.heap.size w w' := by
  have HS := hidec hs
  clear hs
  go_enter Tryd.func21, Tryd.ntmps21
  go_wp2_with fail
  refine (among_new w.heap.size len cap 0 3 a [1, -1, 3, 5, -7, 9007199254740991, 9007199254740993, 2, 0] (w.alloc (.cells #[.slice a len cap, .int .i64 0, .int .u64 0] _)) _ (new_size1 w _) (new_cur w a len cap _) (HS.out.below (new_below w _)) (by omega) (new_size w _) (by decide) (by decide)).mono ?_
  rintro e w1 ⟨⟨m, hm, rfl⟩, ⟨pos1, hp1, hc1⟩, hb1⟩
  have hm1 : m.natAbs ≤ 9007199254740993 := by
    simp only [List.mem_cons, List.not_mem_nil, or_false] at hm
    omega
  have HM := hidec hm1
  have HP := hidec hp1
  have HB := hidec ((new_below w _).trans hb1)
  have HZ := hidec (Nat.lt_of_lt_of_le (new_size w _) hb1.size)
  clear hm hm1 hp1 hb1
  go_wp2_with fail
  refine (among_new w.heap.size len cap pos1 3 a [0, 1, -1, 10, -1074, -1075, -1073, 1023, 1024, 971, 970, -1200, 1201] _ _ rfl hc1 (HS.out.below HB.out) (by have := HP.out; omega) HZ.out (by decide) (by decide)).mono ?_
  rintro e w2 ⟨⟨x, hx, rfl⟩, ⟨pos2, hp2, hc2⟩, hb2⟩
  have hx1 : -1200 ≤ x ∧ x ≤ 1201 := by
    simp only [List.mem_cons, List.not_mem_nil, or_false] at hx
    omega
  have HX := hidec hx1
  clear hx hx1 hp2
  go_wp2_with fail
  go_ret2
  exact ⟨⟨m, x, HM.out, HX.out.1, HX.out.2, rfl⟩, HB.out.trans hb2⟩

set_option maxRecDepth 20000 in
set_option maxHeartbeats 1000000 in
theorem dtoix_any (a : Option Addr) (len cap : Nat) (w : World) (hs : Src w w.heap.size a len) :
    Calls Tryd.prog 23 #[.slice a len cap] w fun e w' => (∃ s r, ∃ m : Int, r < 9223372036854775808 ∧ 0 ≤ m ∧ m ≤ 1001 ∧ e = .returned (.tuple #[.float .f64 (wd s r), .int .i64 m])) ∧ Below w.heap.size w w' := by
  have HS := hidec hs
  clear hs
  go_enter Tryd.func23, Tryd.ntmps23
  go_wp2_with fail
  refine (num_any w.heap.size len cap 0 a _ (new_cur w a len cap _) (HS.out.below (new_below w _)) (by omega) (new_size w _)).mono ?_
  rintro e w1 ⟨⟨s, r, hr, rfl⟩, ⟨pos1, hp1, hc1⟩, hb1⟩
  have HR := hidec hr
  have HP := hidec hp1
  have HB := hidec ((new_below w _).trans hb1)
  have HZ := hidec (Nat.lt_of_lt_of_le (new_size w _) hb1.size)
  clear hr hp1 hb1
  go_wp2_with fail
  refine (among_new w.heap.size len cap pos1 3 a [1, 2, 3, 5, 1000, 1001, 0] _ _ rfl hc1 (HS.out.below HB.out) (by have := HP.out; omega) HZ.out (by decide) (by decide)).mono ?_
  rintro e w2 ⟨⟨x, hx, rfl⟩, ⟨pos2, hp2, hc2⟩, hb2⟩
  have hx1 : 0 ≤ x ∧ x ≤ 1001 := by
    simp only [List.mem_cons, List.not_mem_nil, or_false] at hx
    omega
  have HX := hidec hx1
  clear hx hx1 hp2
  go_wp2_with fail
  go_ret2
  exact ⟨⟨s, r, x, HR.out, HX.out.1, HX.out.2, rfl⟩, HB.out.trans hb2⟩
end Go.Proofs.YtphcfhndgadkgaaDoor
