/- Sizes of a program and a state together. -/
import Derived.Test.YtddapifljinjeaaDoorSt
import Derived.Test.YtddapifljinjeaaDoorPrgE
namespace Go.Proofs.YtddapifljinjeaaDoor
open Go.RowKit
open Rd Fl

set_option maxRecDepth 20000 in
set_option maxHeartbeats 1000000 in
theorem szopss_le (R : Option Addr) (rs : List (List OpD)) (cap : Nat) (left : Int) (h0 : 0 ≤ left) (h1 : left ≤ 1048576) (hl : rs.length ≤ 9223372036854775807) (hls : ∀ l ∈ rs, l.length ≤ 9223372036854775807) (w : World) (hR : RoutsAt w R rs) :
    Calls Tryd.prog 13 #[.slice R rs.length cap, .int .i64 left] w fun e w' => (∃ n : Int, e = .returned (.int .i64 n) ∧ -1 ≤ n ∧ n ≤ left ∧ (0 ≤ n → rs.length ≤ 1048576 ∧ ∀ l ∈ rs, l.length ≤ 1048576)) ∧ w' = w := by
  have hl' : (rs.length : Int) ≤ 9223372036854775807 := by omega
  have HLS := hide' hls
  have HR := hide' hR
  clear hls hR hl
  by_cases h : left - rs.length < 0
  · go_enter Tryd.func13, Tryd.ntmps13
    go_wp2
    go_ret
    exact ⟨⟨-1, rfl, by omega, by omega, fun h => by omega⟩, rfl⟩
  · have hn : (rs.length : Int) ≤ 1048576 := by omega
    obtain ⟨b, off, hA, hc⟩ := HR.out
    by_cases he : rs = []
    · subst he
      go_enter Tryd.func13, Tryd.ntmps13
      go_wp2
      go_loop [1, 5] (fun x i => x = .int .i64 left ∧ i = .int .i64 0) (fun _ _ => 0)
      case atStart => exact ⟨by simp, rfl⟩
      case round =>
        obtain ⟨rfl, rfl⟩ := hrel
        go_wp2
        go_ret
        exact ⟨⟨left, rfl, by omega, by omega⟩, rfl⟩
    · have hA2 := hA he
      subst hA2
      have HC := hide' hc
      clear hc hA he HR
      go_enter Tryd.func13, Tryd.ntmps13
      go_wp2
      go_loop [1, 5] (fun x i => ∃ (k : Nat) (y : Int), k ≤ rs.length ∧ i = .int .i64 k ∧ x = .int .i64 y ∧ 0 ≤ y ∧ y ≤ left ∧ Hid (∀ l ∈ rs.take k, l.length ≤ 1048576)) (fun _ i => rs.length - (intOf i).toNat)
      case atStart => exact ⟨0, left - rs.length, Nat.zero_le _, rfl, rfl, by omega, by omega, fun l hl => by cases hl⟩
      case round =>
        obtain ⟨k, y, hk, rfl, rfl, hy0, hy1, HT⟩ := hrel
        by_cases hlt : k < rs.length
        · obtain ⟨A, cp, hcell, -⟩ := HC.out k rs[k] (List.getElem?_eq_getElem hlt)
          have HM := hide' (HLS.out rs[k] (List.getElem_mem hlt))
          have HTS := hide' (List.take_succ_eq_append_getElem hlt)
          generalize rs[k] = l at hcell HM HTS
          go_wp2_with (go_at_call 23; refine (szops_any _ _ _ y hy0 (by omega) HM.out _).mono ?_; rintro e w' ⟨⟨n, rfl, hn1, hn2, hn3⟩, rfl⟩)
          · go_ret
            exact ⟨⟨-1, rfl, by omega, by omega, fun h => by omega⟩, rfl⟩
          · go_round
            case rel =>
              refine ⟨k + 1, n, by omega, by go_num, rfl, by omega, by omega, ?_⟩
              intro x hx
              rw [HTS.out, List.mem_append] at hx
              rcases hx with hx | hx
              · exact HT.out x hx
              · rw [List.mem_singleton] at hx
                subst hx
                have := hn3 (by omega)
                omega
            case measure => simp [intOf]; omega
        · have hke : k = rs.length := by omega
          go_wp2
          go_ret
          refine ⟨⟨y, rfl, by omega, hy1, fun _ => ⟨by omega, fun l hl => HT.out l ?_⟩⟩, rfl⟩
          rw [hke, List.take_length]
          exact hl

set_option maxRecDepth 20000 in
set_option maxHeartbeats 1000000 in
theorem szprog_le (cl lk cd : Int) (R : Option Addr) (rs : List (List OpD)) (cap : Nat) (hl : rs.length ≤ 9223372036854775807) (hls : ∀ l ∈ rs, l.length ≤ 9223372036854775807) (w : World) (hR : RoutsAt w R rs) :
    Calls Tryd.prog 4 #[.agg #[.int .i64 cl, .int .i64 lk, .int .i64 cd, .slice R rs.length cap], .int .i64 1048576] w fun e w' => (∃ n : Int, e = .returned (.int .i64 n) ∧ -1 ≤ n ∧ n ≤ 1048576 ∧ (0 ≤ n → rs.length ≤ 1048576 ∧ ∀ l ∈ rs, l.length ≤ 1048576)) ∧ Below w.heap.size w w' := by
  have HC := hide' (fun w hR => szopss_le R rs cap 1048576 (by omega) (by omega) hl hls w hR)
  have HR := hide' hR
  clear hl hls hR
  go_enter Tryd.func4, Tryd.ntmps4
  go_wp2_with fail
  refine (HC.out _ (HR.out.keep ((Below.refl _ w).up _))).mono ?_
  rintro e w1 ⟨⟨n, rfl, hn1, hn3, hn2⟩, rfl⟩
  have HN := hide' hn2
  clear hn2
  go_wp2_with fail
  · go_ret
    exact ⟨⟨-1, rfl, by omega, by omega, fun h => by omega⟩, (Below.refl _ w).up _⟩
  · go_ret
    exact ⟨⟨n, rfl, hn1, hn3, HN.out⟩, (Below.refl _ w).up _⟩
end Go.Proofs.YtddapifljinjeaaDoor
