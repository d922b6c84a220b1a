/- An op that comes in: its cells. -/
import Derived.Test.YtddapifljinjeaaDoorFl
import Derived.Test.YtddapifljinjeaaDoorRows
import Derived.Lib.SmallJoins
import Derived.OpenShut
import Derived.ProofKit
namespace Go.Proofs.YtddapifljinjeaaDoor
open Go.ChangeShapes Go.WideShapes Go.ChangeAt Go.RowKit
open Fl

theorem trod_float {H : Type} {enc : TypeId × Value → H} {P : Program} {w : World} {base : Nat} {spare : Nat → Bool} {held : Bool} {fuel : Nat} {t : TypeId} {cs : List Value} {x : DataW H × List MemPlace} {k : FloatKind}
    (ht : P.underlying t = some (.float k)) (h : DataW.trod enc P w base spare held fuel t cs = some x) : ∃ n, cs = [.float k n] ∧ x = (.lit (.float k n), []) ∧ (Lit.float k n).wf = true := by
  cases fuel with
  | zero => simp [DataW.trod] at h
  | succ m =>
    unfold DataW.trod at h
    rw [ht] at h
    split at h <;> simp_all

theorem ocells3 : Tryd.prog.cellsOf 3 = 1 := by kernel_rfl
theorem ocellsF : Tryd.prog.cellsOf 41 = 1 := by kernel_rfl
theorem bits_lt {b : Nat} (h : (Lit.float .f64 b).wf = true) : b < 18446744073709551616 := by
  simpa [Lit.wf] using h
theorem takeOne {l : List Value} {i : Nat} {v : Value} (h : (l.drop i).take 1 = [v]) : l[i]? = some v := by
  have := congrArg (·[0]?) h
  simpa [List.getElem?_take, List.getElem?_drop] using this

theorem list4 {l : List Value} {v0 v1 v2 v3 : Value} (hl : l.length = 4) (h0 : l[0]? = some v0) (h1 : l[1]? = some v1) (h2 : l[2]? = some v2) (h3 : l[3]? = some v3) : l = [v0, v1, v2, v3] := by
  match l, hl with
  | [x0, x1, x2, x3], _ =>
    simp at h0 h1 h2 h3
    rw [h0, h1, h2, h3]

/-- The four cells of an op that reads as data; the same for both packages' types. -/
theorem op_cells {H : Type} {enc : TypeId × Value → H} {w : World} {base : Nat} {spare : Nat → Bool} {held : Bool} {fuel : Nat} {t : TypeId} {cs : List Value} {x : DataW H × List MemPlace}
    (ht : Tryd.prog.underlying t = Tryd.prog.underlying 65) (hc : Tryd.prog.cellsOf t = 4) (h : DataW.trod enc Tryd.prog w base spare held fuel t cs = some x) :
    ∃ (c a b : Int) (s : Bool) (r : Nat), r < 9223372036854775808 ∧ cs = [.int .i64 c, .int .i64 a, .int .i64 b, .float .f64 (wd s r)] ∧ (Lit.int .i64 c).wf = true ∧ (Lit.int .i64 a).wf = true ∧ (Lit.int .i64 b).wf = true := by
  obtain ⟨y0, y1, y2, y3, n, hx, hl, h0, h1, h2, h3⟩ := Go.Joins.trod_struct4 (ht.trans Tryd.underlying65) h
  obtain ⟨c, e0, _, w0⟩ := DataW.trod_int Tryd.underlying3 h0
  obtain ⟨a, e1, _, w1⟩ := DataW.trod_int Tryd.underlying3 h1
  obtain ⟨b, e2, _, w2⟩ := DataW.trod_int Tryd.underlying3 h2
  obtain ⟨v, e3, _, w3⟩ := trod_float Tryd.underlying41 h3
  rw [ocells3] at e0 e1 e2
  rw [ocellsF] at e3
  rw [hc] at hl
  obtain ⟨s, r, hr, e⟩ := exists_wd v (bits_lt w3)
  subst e
  refine ⟨c, a, b, s, r, hr, ?_, w0, w1, w2⟩
  exact list4 hl (takeOne e0) (takeOne e1) (takeOne e2) (takeOne e3)
end Go.Proofs.YtddapifljinjeaaDoor
