/- spec.l2Plain, l2OpText and OpText: contracts. -/
import Derived.Test.YtddapifljinjeaaDoorOps
import Derived.Deep.RegionWith
namespace Go.Proofs.YtddapifljinjeaaDoor
open Go.RowKit
open Rd Fl

def uV (c : Int) : Bool := decide (c = 1)
def uA (c : Int) : Bool := decide (c = 2 ∨ c = 3 ∨ c = 10 ∨ c = 11 ∨ c = 12 ∨ c = 13 ∨ c = 14 ∨ c = 17)
def uB (c : Int) : Bool := decide (c = 16)
/-- whether an op has nothing that is not named -/
def plainB (c a b : Int) (z : Bool) : Bool :=
  decide (1 ≤ c ∧ c ≤ 17) && decide (0 ≤ a ∧ a ≤ 999) && decide (0 ≤ b ∧ b ≤ 999) && (uV c || z) && (uA c || uB c || decide (a = 0)) && (uB c || decide (b = 0))

theorem use_v (c : Int) : ((useT c).toList == [118]) = uV c := by
  unfold useT uV
  rw [ByteArray.toList_eq]
  split
  · rename_i h; rw [h]; rfl
  · rename_i h; rw [decide_eq_false h]
    split
    · rfl
    · split <;> rfl
theorem use_a (c : Int) : ((useT c).toList == [97]) = uA c := by
  unfold useT uA
  rw [ByteArray.toList_eq]
  split
  · rename_i h; rw [h]; rfl
  · split
    · rename_i h; rw [decide_eq_true h]; rfl
    · rename_i h; rw [decide_eq_false h]
      split <;> rfl
theorem use_b (c : Int) : ((useT c).toList == [97, 98]) = uB c := by
  unfold useT uB
  rw [ByteArray.toList_eq]
  split
  · rename_i h; rw [h]; rfl
  · split
    · rename_i h; rw [decide_eq_false (by omega)]; rfl
    · split
      · rename_i h; rw [decide_eq_true h]; rfl
      · rename_i h; rw [decide_eq_false h]; rfl

set_option maxRecDepth 20000 in
set_option maxHeartbeats 2000000 in
theorem plain_any (c a b : Int) (s : Bool) (r : Nat) (hr : r < 9223372036854775808) (w : World) :
    Calls Tryd.prog 33 #[.agg #[.int .i64 c, .int .i64 a, .int .i64 b, .float .f64 (wd s r)]] w fun e w' => e = .returned (.bool (plainB c a b (sameB s r false 0))) ∧ Below w.heap.size w w' := by
  have h0 : (wd false 0 : Nat) = 0 := rfl
  have HS := hide' (l1same_any s false r 0 hr (by omega))
  rw [h0] at HS
  clear h0
  generalize hz : sameB s r false 0 = z at HS
  clear hz
  have v1 := use_v c
  have v2 := use_a c
  have v3 := use_b c
  unfold plainB
  generalize uV c = x1 at v1
  generalize uA c = x2 at v2
  generalize uB c = x3 at v3
  cases z <;> cases x1 <;> cases x2 <;> cases x3
  all_goals
    go_enter Tryd.func33, Tryd.ntmps33
    go_wp2_with (first | (go_at_call 49; refine (uses_any _ _).mono ?_; rintro e w' ⟨rfl, rfl⟩) | (go_at_call 24; refine (l1in_any _ _ _ _).mono ?_; rintro e w' ⟨rfl, rfl⟩) | (go_at_call 50; refine (HS.out _).mono ?_; rintro e w' ⟨rfl, rfl⟩))
    all_goals
      go_ret
      refine ⟨?_, (Below.refl _ _).up _⟩
      clear HS
      simp_all
      all_goals first | rfl | (intros; omega)
end Go.Proofs.YtddapifljinjeaaDoor
