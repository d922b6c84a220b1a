/- What ReadNum answers of the edges' texts; both sides together. -/
import Derived.Test.YtjijinjedeinmaaDoorReadI
import Derived.Test.YtjijinjedeinmaaDoorLeast
namespace Go.Proofs.YtjijinjedeinmaaDoor
open Go.RowKit
open Rd Fl

theorem neg_one_div : Ieee.double.div 13830554455654793216 0 = some (wd true 9218868437227405312) := by decide +kernel
theorem one_div : Ieee.double.div 4607182418800017408 0 = some (wd false 9218868437227405312) := by decide +kernel
theorem zero_div : Ieee.double.div 0 0 = none := by decide +kernel

theorem run_neg_one_div (w : World) : (binOp .quo 24 (.float .f64 13830554455654793216) (.float .f64 0)).run Tryd.prog w = .ok (.float .f64 (wd true 9218868437227405312)) w :=
  run_float_arith w .quo 24 .f64 _ _ _ neg_one_div
theorem run_one_div0 (w : World) : (binOp .quo 24 (.float .f64 4607182418800017408) (.float .f64 0)).run Tryd.prog w = .ok (.float .f64 (wd false 9218868437227405312)) w :=
  run_float_arith w .quo 24 .f64 _ _ _ one_div
theorem run_zero_div (w : World) : ∃ t q, q < 9223372036854775808 ∧ 9218868437227405312 < q ∧
    (binOp .quo 24 (.float .f64 0) (.float .f64 0)).run Tryd.prog w = .ok (.float .f64 (wd t q)) w.drew := by
  obtain ⟨t, q, h1, h2, h3⟩ := nan_word (w.tape w.drawn (.nanBits .f64 0 0))
  refine ⟨t, q, h1, h2, ?_⟩
  have e : FloatKind.f64.format.div 0 0 = none := zero_div
  have key : (binOp .quo 24 (.float .f64 0) (.float .f64 0)).run Tryd.prog w = .ok (.float .f64 (Question.cut (.nanBits .f64 0 0) (w.tape w.drawn (.nanBits .f64 0 0)))) w.drew := by
    simp [binOp, Op.floatArith, e, Question.forced]
  rw [key, ← h3]
  rfl

/-- Both sides' answers, held against each other: the program's word, and the bool. -/
def AgreeAt (s : ByteArray) (u : Bool) (p : Nat) (b : Bool) : Prop := p < 9223372036854775808 ∧
    (∀ w, Calls Tryd.prog 16 #[.string s] w fun e w' => (∃ t r, r < 9223372036854775808 ∧ e = .returned (.tuple #[.float .f64 (wd t r), .bool b]) ∧ sameB u p t r = true) ∧ ∃ n, w' = w.drewN n) ∧
    (∀ w, Env w → Calls Tryd.prog 12 #[.string s] w fun e w' => e = .returned (.tuple #[.float .f64 (wd u p), .bool b]) ∧ Below w.heap.size w w')
def Agree (s : ByteArray) : Prop := ∃ u p b, AgreeAt s u p b

set_option maxRecDepth 20000 in
set_option maxHeartbeats 1000000 in
theorem agree_nan (s : ByteArray) (n1 : (s.toList == [110, 97, 110]) = true) : AgreeAt s false 9221120237041090561 true := by
  refine ⟨by omega, fun w => ?_, fun w _ => ?_⟩
  · obtain ⟨t, q, h1, h2, hd⟩ := run_zero_div w
    have HS := hide' (show sameB false 9221120237041090561 t q = true by simp [sameB, h2])
    go_enter Tryd.func16, Tryd.ntmps16
    go_wp2_with fail
    go_ret2
    exact ⟨⟨t, q, h1, rfl, HS.out⟩, 1, rfl⟩
  · have hf := run_frombits
    go_enter Tryd.func12, Tryd.ntmps12
    go_wp2
    go_ret2
    exact ⟨rfl, Below.refl _ _⟩

set_option maxRecDepth 20000 in
set_option maxHeartbeats 1000000 in
theorem agree_inf (s : ByteArray) (n1 : (s.toList == [110, 97, 110]) = false) (n2 : (s.toList == [105, 110, 102]) = true) : AgreeAt s false 9218868437227405312 true := by
  refine ⟨by omega, fun w => ?_, fun w _ => ?_⟩
  · have hd := run_one_div0
    go_enter Tryd.func16, Tryd.ntmps16
    go_wp2_with fail
    go_ret2
    exact ⟨⟨false, 9218868437227405312, by omega, rfl, sameB_refl _ _⟩, 0, rfl⟩
  · have hf := run_frombits
    go_enter Tryd.func12, Tryd.ntmps12
    go_wp2
    go_ret2
    exact ⟨rfl, Below.refl _ _⟩

set_option maxRecDepth 20000 in
set_option maxHeartbeats 1000000 in
theorem agree_neginf (s : ByteArray) (n1 : (s.toList == [110, 97, 110]) = false) (n2 : (s.toList == [105, 110, 102]) = false) (n3 : (s.toList == [45, 105, 110, 102]) = true) : AgreeAt s true 9218868437227405312 true := by
  refine ⟨by omega, fun w => ?_, fun w _ => ?_⟩
  · have hd := run_neg_one_div
    go_enter Tryd.func16, Tryd.ntmps16
    go_wp2_with fail
    go_ret2
    exact ⟨⟨true, 9218868437227405312, by omega, rfl, sameB_refl _ _⟩, 0, rfl⟩
  · have hf := run_frombits
    go_enter Tryd.func12, Tryd.ntmps12
    go_wp2
    go_ret2
    exact ⟨rfl, Below.refl _ _⟩

set_option maxRecDepth 20000 in
set_option maxHeartbeats 1000000 in
theorem agree_zero (s : ByteArray) (n1 : (s.toList == [110, 97, 110]) = false) (n2 : (s.toList == [105, 110, 102]) = false) (n3 : (s.toList == [45, 105, 110, 102]) = false) (n4 : (s.toList == [48]) = true) : AgreeAt s false 0 true := by
  refine ⟨by omega, fun w => ?_, fun w _ => ?_⟩
  · go_enter Tryd.func16, Tryd.ntmps16
    go_wp2_with fail
    go_ret2
    exact ⟨⟨false, 0, by omega, rfl, sameB_refl _ _⟩, 0, rfl⟩
  · go_enter Tryd.func12, Tryd.ntmps12
    go_wp2
    go_ret2
    exact ⟨rfl, Below.refl _ _⟩

theorem copy1 : bits .andNot .u64 0 9223372036854775808 = 0 := by decide +kernel
theorem copy2 : bits .and .u64 13830554455654793216 9223372036854775808 = 9223372036854775808 := by decide +kernel
theorem copy3 : bits .or .u64 0 9223372036854775808 = 9223372036854775808 := by decide +kernel
theorem neg_zero (w : World) : (Op.unary .neg (.float .f64 0)).run Tryd.prog w = .ok (.float .f64 (wd true 0)) w := by
  have : Op.negFloat .f64 0 = wd true 0 := by decide +kernel
  simp [Op.unary, this]

set_option maxRecDepth 20000 in
set_option maxHeartbeats 1000000 in
theorem agree_negzero (s : ByteArray) (n1 : (s.toList == [110, 97, 110]) = false) (n2 : (s.toList == [105, 110, 102]) = false) (n3 : (s.toList == [45, 105, 110, 102]) = false) (n4 : (s.toList == [48]) = false) (n5 : (s.toList == [45, 48]) = true) : AgreeAt s true 0 true := by
  refine ⟨by omega, fun w => ?_, fun w _ => ?_⟩
  · have hd := neg_zero
    go_enter Tryd.func16, Tryd.ntmps16
    go_wp2_with fail
    go_ret2
    exact ⟨⟨true, 0, by omega, rfl, sameB_refl _ _⟩, 0, rfl⟩
  · have hf := run_frombits
    have hb := run_bits
    have c1 := copy1
    have c2 := copy2
    have c3 := copy3
    go_enter Tryd.func12, Tryd.ntmps12
    go_wp2
    go_ret2
    exact ⟨rfl, Below.refl _ _⟩

theorem agree_any (s : ByteArray) (hs : s.size ≤ 1048576) : Agree s := by
  cases n1 : (s.toList == [110, 97, 110])
  · cases n2 : (s.toList == [105, 110, 102])
    · cases n3 : (s.toList == [45, 105, 110, 102])
      · cases n4 : (s.toList == [48])
        · cases n5 : (s.toList == [45, 48])
          · obtain ⟨v, b, ⟨t, r, hr, rfl⟩, h1, h2⟩ := read_same s hs ⟨n1, n2, n3, n4, n5⟩
            refine ⟨t, r, b, hr, fun w => (h1 w).mono ?_, h2⟩
            rintro e w' ⟨rfl, hn⟩
            exact ⟨⟨t, r, hr, rfl, sameB_refl _ _⟩, hn⟩
          · exact ⟨_, _, _, agree_negzero s n1 n2 n3 n4 n5⟩
        · exact ⟨_, _, _, agree_zero s n1 n2 n3 n4⟩
      · exact ⟨_, _, _, agree_neginf s n1 n2 n3⟩
    · exact ⟨_, _, _, agree_inf s n1 n2⟩
  · exact ⟨_, _, _, agree_nan s n1⟩
end Go.Proofs.YtjijinjedeinmaaDoor
