/- Ops: what an op uses, whether it is plain: facts and contracts. -/
import Derived.Test.YtddapifljinjeaaDoorBack
namespace Go.Proofs.YtddapifljinjeaaDoor
open Go.RowKit
open Rd Fl

theorem _root_.Go.RowKit.Below.up {w w' : World} (h : Below w.heap.size w w') (o : Obj) : Below w.heap.size w (w'.alloc o) := h.alloc h.size o

theorem store_f (w : World) (a : Addr) (m : Mode) (k : FloatKind) (n : Nat) : (store a (.float k n) m).run Tryd.prog w = stored Tryd.prog w a (.float k n) m := run_store _ w a _ m rfl

set_option maxHeartbeats 400000 in
theorem toop_any (c a b : Int) (v : Nat) (w : World) :
    Calls Tryd.prog 34 #[.agg #[.int .i64 c, .int .i64 a, .int .i64 b, .float .f64 v]] w fun e w' => e = .returned (.agg #[.int .i64 c, .int .i64 a, .int .i64 b, .float .f64 v]) ∧ Below w.heap.size w w' := by
  have hst := store_f
  go_enter Tryd.func34, Tryd.ntmps34
  go_wp2
  refine bodyPost_ret (v := .agg #[.int .i64 c, .int .i64 a, .int .i64 b, .float .f64 v]) (by simp [results, Tryd.results34, go_sem]) rfl ⟨rfl, ?_⟩
  exact (((Below.refl _ _).up _).up _).up _

/-- what an op uses, as the specification spells it -/
def useT (c : Int) : ByteArray := if c = 1 then ⟨#[118]⟩ else if c = 2 ∨ c = 3 ∨ c = 10 ∨ c = 11 ∨ c = 12 ∨ c = 13 ∨ c = 14 ∨ c = 17 then ⟨#[97]⟩ else if c = 16 then ⟨#[97, 98]⟩ else ⟨#[]⟩

set_option maxHeartbeats 1000000 in
theorem uses_any (c : Int) (w : World) : Calls Tryd.prog 49 #[.int .i64 c] w fun e w' => e = .returned (.string (useT c)) ∧ w' = w := by
  by_cases h : c = 1 ∨ c = 2 ∨ c = 3 ∨ c = 10 ∨ c = 11 ∨ c = 12 ∨ c = 13 ∨ c = 14 ∨ c = 16 ∨ c = 17
  · rcases h with h | h | h | h | h | h | h | h | h | h
    all_goals
      subst h
      go_enter Tryd.func49, Tryd.ntmps49
      go_wp2
      go_ret
      exact ⟨rfl, rfl⟩
  · have e : useT c = ⟨#[]⟩ := by unfold useT; rw [if_neg (by omega), if_neg (by omega), if_neg (by omega)]
    rw [e]
    have h1 : ¬ c = 1 := by omega
    have h2 : ¬ c = 2 := by omega
    have h3 : ¬ c = 3 := by omega
    have h4 : ¬ c = 10 := by omega
    have h5 : ¬ c = 11 := by omega
    have h6 : ¬ c = 12 := by omega
    have h7 : ¬ c = 13 := by omega
    have h8 : ¬ c = 14 := by omega
    have h9 : ¬ c = 17 := by omega
    have h10 : ¬ c = 16 := by omega
    clear h e
    go_enter Tryd.func49, Tryd.ntmps49
    go_wp2
    go_ret
    exact ⟨rfl, rfl⟩
end Go.Proofs.YtddapifljinjeaaDoor
