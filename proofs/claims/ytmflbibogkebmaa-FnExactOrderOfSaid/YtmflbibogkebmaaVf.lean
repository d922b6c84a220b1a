/- An answer that is a list of ints, marked wherever it lies. -/
import Derived.Test.YtmflbibogkebmaaRi
namespace Go.Proofs.Ytmflbibogkebmaa
open Go.RowKit
open Rd Fl

set_option maxHeartbeats 400000 in
theorem markints_none (A : Option Addr) (cap : Nat) (k : Int) (w : World) : Calls Try.prog 16 #[.slice A 0 cap, .int .i64 k] w fun e w' => e = .returned (.int .i64 k) ∧ w' = w := by
  go_enter Try.func16, Try.ntmps16
  go_wp2
  go_loop [1, 5] (fun x i => x = .int .i64 k ∧ i = .int .i64 0) (fun _ _ => 0)
  case atStart => exact ⟨rfl, rfl⟩
  case round =>
    obtain ⟨rfl, rfl⟩ := hrel
    go_wp2
    go_ret
    exact ⟨rfl, rfl⟩
theorem resi_mk {l : List Int} {w : World} {lo hi : Nat} {v : Value} (h : ResI l w lo hi v) : Calls Try.prog 16 #[v, .int .i64 1] w fun e w' => (∃ y : Int, e = .returned (.int .i64 y) ∧ 0 ≤ y ∧ MkdI l w' lo hi v y) ∧ Edit lo hi w w' := by
  by_cases he : l = []
  · subst he
    obtain ⟨A, M, cap, rfl, -, -, -, -⟩ := resi_open h
    refine (markints_none A cap 1 w).mono ?_
    rintro e w' ⟨rfl, rfl⟩
    exact ⟨⟨1, rfl, by omega, ⟨by simp, rfl, A, M, cap, rfl, (fun h => absurd rfl h), fun j hj => absurd hj (by simp)⟩⟩, Edit.refl _ _ _⟩
  · obtain ⟨A, M, cap, -, h1, -, -, -⟩ := resi_open h
    have := h1 (by simpa using he)
    exact resi_mark h (by omega)
end Go.Proofs.Ytmflbibogkebmaa
