/- What NumOf answers, the program's: contracts. -/
import Derived.Test.YtdifamjkbagfcaaDoorNumOf
import Derived.Laws.MathBits
namespace Go.Proofs.YtdifamjkbagfcaaDoor
open Go.RowKit
open Fl

theorem len_fin (X Y b : Nat) (h : X / 2 ^ b = Y) (hY : Y < 256) (h0 : Y ≠ 0) (hb : b ≤ 48) : wrap64 ((b : Int) + wrap64 (bitLen Y : Nat)) = ((bitLen X : Nat) : Int) := by
  have h1 := bitLen_shift X b (by rw [h]; exact h0)
  have h2 := bitLen_le8 Y hY
  rw [h] at h1
  rw [h1]
  unfold wrap64
  omega
theorem len_fin0 (X : Nat) (hY : X < 256) : wrap64 (wrap64 (bitLen X : Nat)) = ((bitLen X : Nat) : Int) := by
  have h2 := bitLen_le8 X hY
  unfold wrap64
  omega

set_option maxRecDepth 100000 in
set_option maxHeartbeats 1000000 in
theorem len64_ttf (X : Nat) (h0 : decide ((4294967296 : Int) ≤ (X : Int)) = true) (h1 : decide ((65536 : Int) ≤ (X : Int) / 4294967296) = true) (h2 : decide ((256 : Int) ≤ (X : Int) / 4294967296 / 65536) = false) (h4 : (X : Int) / 4294967296 / 65536 < 256) (h5 : 0 ≤ (X : Int) / 4294967296 / 65536) (HX : Hid (X < 9007199254740992)) (w : World) :
    Calls Tryd.prog 118 #[.int .u64 X] w fun e w' => e = .returned (.int .i64 (bitLen X)) ∧ w' = w := by
  go_enter Tryd.func118, Tryd.ntmps118
  go_wp2
  go_ret
  refine ⟨?_, rfl⟩
  rw [len8tab_get]
  show Ending.returned (.int .i64 (wrap64 (48 + wrap64 (bitLen (X / 4294967296 / 65536) : Nat)))) = _
  have hX := HX.out
  have g0 := of_decide_eq_true h0
  have g1 := of_decide_eq_true h1
  have g2 := of_decide_eq_false h2
  have := len_fin X (X / 4294967296 / 65536) 48 (by rw [Nat.div_div_eq_div_mul]) (by omega) (by omega) (by omega)
  rw [show (48 : Int) = ((48 : Nat) : Int) from rfl, this]

set_option maxRecDepth 100000 in
set_option maxHeartbeats 1000000 in
theorem len64_tft (X : Nat) (h0 : decide ((4294967296 : Int) ≤ (X : Int)) = true) (h1 : decide ((65536 : Int) ≤ (X : Int) / 4294967296) = false) (h2 : decide ((256 : Int) ≤ (X : Int) / 4294967296) = true) (h4 : (X : Int) / 4294967296 / 256 < 256) (h5 : 0 ≤ (X : Int) / 4294967296 / 256) (HX : Hid (X < 9007199254740992)) (w : World) :
    Calls Tryd.prog 118 #[.int .u64 X] w fun e w' => e = .returned (.int .i64 (bitLen X)) ∧ w' = w := by
  go_enter Tryd.func118, Tryd.ntmps118
  go_wp2
  go_ret
  refine ⟨?_, rfl⟩
  rw [len8tab_get]
  show Ending.returned (.int .i64 (wrap64 (40 + wrap64 (bitLen (X / 4294967296 / 256) : Nat)))) = _
  have hX := HX.out
  have g0 := of_decide_eq_true h0
  have g1 := of_decide_eq_false h1
  have g2 := of_decide_eq_true h2
  have := len_fin X (X / 4294967296 / 256) 40 (by rw [Nat.div_div_eq_div_mul]) (by omega) (by omega) (by omega)
  rw [show (40 : Int) = ((40 : Nat) : Int) from rfl, this]

set_option maxRecDepth 100000 in
set_option maxHeartbeats 1000000 in
theorem len64_tff (X : Nat) (h0 : decide ((4294967296 : Int) ≤ (X : Int)) = true) (h1 : decide ((65536 : Int) ≤ (X : Int) / 4294967296) = false) (h2 : decide ((256 : Int) ≤ (X : Int) / 4294967296) = false) (h4 : (X : Int) / 4294967296 < 256) (h5 : 0 ≤ (X : Int) / 4294967296) (HX : Hid (X < 9007199254740992)) (w : World) :
    Calls Tryd.prog 118 #[.int .u64 X] w fun e w' => e = .returned (.int .i64 (bitLen X)) ∧ w' = w := by
  go_enter Tryd.func118, Tryd.ntmps118
  go_wp2
  go_ret
  refine ⟨?_, rfl⟩
  rw [len8tab_get]
  show Ending.returned (.int .i64 (wrap64 (32 + wrap64 (bitLen (X / 4294967296) : Nat)))) = _
  have hX := HX.out
  have g0 := of_decide_eq_true h0
  have g1 := of_decide_eq_false h1
  have g2 := of_decide_eq_false h2
  have := len_fin X (X / 4294967296) 32 (by rfl) (by omega) (by omega) (by omega)
  rw [show (32 : Int) = ((32 : Nat) : Int) from rfl, this]

set_option maxRecDepth 100000 in
set_option maxHeartbeats 1000000 in
theorem len64_ftt (X : Nat) (h0 : decide ((4294967296 : Int) ≤ (X : Int)) = false) (h1 : decide ((65536 : Int) ≤ (X : Int)) = true) (h2 : decide ((256 : Int) ≤ (X : Int) / 65536) = true) (h4 : (X : Int) / 65536 / 256 < 256) (h5 : 0 ≤ (X : Int) / 65536 / 256) (HX : Hid (X < 9007199254740992)) (w : World) :
    Calls Tryd.prog 118 #[.int .u64 X] w fun e w' => e = .returned (.int .i64 (bitLen X)) ∧ w' = w := by
  go_enter Tryd.func118, Tryd.ntmps118
  go_wp2
  go_ret
  refine ⟨?_, rfl⟩
  rw [len8tab_get]
  show Ending.returned (.int .i64 (wrap64 (24 + wrap64 (bitLen (X / 65536 / 256) : Nat)))) = _
  have hX := HX.out
  have g0 := of_decide_eq_false h0
  have g1 := of_decide_eq_true h1
  have g2 := of_decide_eq_true h2
  have := len_fin X (X / 65536 / 256) 24 (by rw [Nat.div_div_eq_div_mul]) (by omega) (by omega) (by omega)
  rw [show (24 : Int) = ((24 : Nat) : Int) from rfl, this]

set_option maxRecDepth 100000 in
set_option maxHeartbeats 1000000 in
theorem len64_ftf (X : Nat) (h0 : decide ((4294967296 : Int) ≤ (X : Int)) = false) (h1 : decide ((65536 : Int) ≤ (X : Int)) = true) (h2 : decide ((256 : Int) ≤ (X : Int) / 65536) = false) (h4 : (X : Int) / 65536 < 256) (h5 : 0 ≤ (X : Int) / 65536) (HX : Hid (X < 9007199254740992)) (w : World) :
    Calls Tryd.prog 118 #[.int .u64 X] w fun e w' => e = .returned (.int .i64 (bitLen X)) ∧ w' = w := by
  go_enter Tryd.func118, Tryd.ntmps118
  go_wp2
  go_ret
  refine ⟨?_, rfl⟩
  rw [len8tab_get]
  show Ending.returned (.int .i64 (wrap64 (16 + wrap64 (bitLen (X / 65536) : Nat)))) = _
  have hX := HX.out
  have g0 := of_decide_eq_false h0
  have g1 := of_decide_eq_true h1
  have g2 := of_decide_eq_false h2
  have := len_fin X (X / 65536) 16 (by rfl) (by omega) (by omega) (by omega)
  rw [show (16 : Int) = ((16 : Nat) : Int) from rfl, this]

set_option maxRecDepth 100000 in
set_option maxHeartbeats 1000000 in
theorem len64_fft (X : Nat) (h0 : decide ((4294967296 : Int) ≤ (X : Int)) = false) (h1 : decide ((65536 : Int) ≤ (X : Int)) = false) (h2 : decide ((256 : Int) ≤ (X : Int)) = true) (h4 : (X : Int) / 256 < 256) (h5 : 0 ≤ (X : Int) / 256) (HX : Hid (X < 9007199254740992)) (w : World) :
    Calls Tryd.prog 118 #[.int .u64 X] w fun e w' => e = .returned (.int .i64 (bitLen X)) ∧ w' = w := by
  go_enter Tryd.func118, Tryd.ntmps118
  go_wp2
  go_ret
  refine ⟨?_, rfl⟩
  rw [len8tab_get]
  show Ending.returned (.int .i64 (wrap64 (8 + wrap64 (bitLen (X / 256) : Nat)))) = _
  have hX := HX.out
  have g0 := of_decide_eq_false h0
  have g1 := of_decide_eq_false h1
  have g2 := of_decide_eq_true h2
  have := len_fin X (X / 256) 8 (by rfl) (by omega) (by omega) (by omega)
  rw [show (8 : Int) = ((8 : Nat) : Int) from rfl, this]

set_option maxRecDepth 100000 in
set_option maxHeartbeats 1000000 in
theorem len64_fff (X : Nat) (h0 : decide ((4294967296 : Int) ≤ (X : Int)) = false) (h1 : decide ((65536 : Int) ≤ (X : Int)) = false) (h2 : decide ((256 : Int) ≤ (X : Int)) = false) (h4 : (X : Int) < 256) (h5 : 0 ≤ (X : Int)) (HX : Hid (X < 9007199254740992)) (w : World) :
    Calls Tryd.prog 118 #[.int .u64 X] w fun e w' => e = .returned (.int .i64 (bitLen X)) ∧ w' = w := by
  go_enter Tryd.func118, Tryd.ntmps118
  go_wp2
  go_ret
  refine ⟨?_, rfl⟩
  rw [len8tab_get]
  have hX := HX.out
  have := len_fin0 X (by omega)
  first
    | (show Ending.returned (.int .i64 (wrap64 (wrap64 (bitLen X : Nat)))) = _; rw [this])
    | (show Ending.returned (.int .i64 (wrap64 (0 + wrap64 (bitLen X : Nat)))) = _; rw [Int.zero_add, this])

theorem len64_any (X : Nat) (hX : X < 9007199254740992) (w : World) :
    Calls Tryd.prog 118 #[.int .u64 X] w fun e w' => e = .returned (.int .i64 (bitLen X)) ∧ w' = w := by
  by_cases a : (4294967296 : Int) ≤ X
  · by_cases b : (65536 : Int) ≤ (X : Int) / 4294967296
    · exact len64_ttf X (decide_eq_true a) (decide_eq_true b) (decide_eq_false (by omega)) (by omega) (by omega) hX w
    · by_cases c : (256 : Int) ≤ (X : Int) / 4294967296
      · exact len64_tft X (decide_eq_true a) (decide_eq_false b) (decide_eq_true c) (by omega) (by omega) hX w
      · exact len64_tff X (decide_eq_true a) (decide_eq_false b) (decide_eq_false c) (by omega) (by omega) hX w
  · by_cases b : (65536 : Int) ≤ X
    · by_cases c : (256 : Int) ≤ (X : Int) / 65536
      · exact len64_ftt X (decide_eq_false a) (decide_eq_true b) (decide_eq_true c) (by omega) (by omega) hX w
      · exact len64_ftf X (decide_eq_false a) (decide_eq_true b) (decide_eq_false c) (by omega) (by omega) hX w
    · by_cases c : (256 : Int) ≤ X
      · exact len64_fft X (decide_eq_false a) (decide_eq_false b) (decide_eq_true c) (by omega) (by omega) hX w
      · exact len64_fff X (decide_eq_false a) (decide_eq_false b) (decide_eq_false c) (by omega) (by omega) hX w
end Go.Proofs.YtdifamjkbagfcaaDoor
