/- An op that comes in: its cells. A program that comes in: what lies where. -/
import Derived.Test.YtmflbibogkebmaaFl
import Derived.Test.YtmflbibogkebmaaRows
import Derived.Lib.SmallJoins
import Derived.OpenShut
import Derived.ProofKit
import Derived.Test.YtmflbibogkebmaaPrg
import Derived.Deep.Slices
namespace Go.Proofs.Ytmflbibogkebmaa
open Go.ChangeShapes Go.WideShapes Go.ChangeAt Go.RowKit
open Fl

theorem trod_float {H : Type} {enc : TypeId × Value → H} {P : Program} {w : World} {base : Nat} {spare : Nat → Bool} {held : Bool} {fuel : Nat} {t : TypeId} {cs : List Value} {x : DataW H × List MemPlace} {k : FloatKind}
    (ht : P.underlying t = some (.float k)) (h : DataW.trod enc P w base spare held fuel t cs = some x) : ∃ n, cs = [.float k n] ∧ x = (.lit (.float k n), []) ∧ (Lit.float k n).wf = true := by
  cases fuel with
  | zero => simp [DataW.trod] at h
  | succ m =>
    unfold DataW.trod at h
    rw [ht] at h
    split at h <;> simp_all

theorem ocells3 : Try.prog.cellsOf 3 = 1 := by kernel_rfl
theorem bits_lt {b : Nat} (h : (Lit.float .f64 b).wf = true) : b < 18446744073709551616 := by
  simpa [Lit.wf] using h
theorem takeOne {l : List Value} {i : Nat} {v : Value} (h : (l.drop i).take 1 = [v]) : l[i]? = some v := by
  have := congrArg (·[0]?) h
  simpa [List.getElem?_take, List.getElem?_drop] using this

theorem list4 {l : List Value} {v0 v1 v2 v3 : Value} (hl : l.length = 4) (h0 : l[0]? = some v0) (h1 : l[1]? = some v1) (h2 : l[2]? = some v2) (h3 : l[3]? = some v3) : l = [v0, v1, v2, v3] := by
  match l, hl with
  | [x0, x1, x2, x3], _ =>
    simp at h0 h1 h2 h3
    rw [h0, h1, h2, h3]

end Go.Proofs.Ytmflbibogkebmaa
namespace Go.Proofs.Ytmflbibogkebmaa
open Go.ChangeShapes Go.WideShapes Go.ChangeAt Go.RowKit
open Fl

theorem pcells3 : Try.prog.cellsOf 3 = 1 := by kernel_rfl
/-- What one list that comes in is: a slice's value, and the ops that lie there. -/
def OpsIn (w : World) (v : Value) (l : List OpD) : Prop :=
  ∃ A cap, v = .slice A l.length cap ∧ OpsAt w A l ∧ (∀ o ∈ l, o.r < 9223372036854775808) ∧ l.length ≤ 9223372036854775807

theorem maxLen_le {n : Nat} (h : n ≤ maxLen) : n ≤ 9223372036854775807 := by unfold maxLen at h; omega

theorem getElem?_range_map {α : Type} {n i : Nat} {f : Nat → α} {x : α} (h : ((List.range n).map f)[i]? = some x) : i < n ∧ x = f i := by
  obtain ⟨hi, e⟩ := List.getElem?_eq_some_iff.1 h
  simp at hi e
  exact ⟨hi, e.symm⟩

end Go.Proofs.Ytmflbibogkebmaa
