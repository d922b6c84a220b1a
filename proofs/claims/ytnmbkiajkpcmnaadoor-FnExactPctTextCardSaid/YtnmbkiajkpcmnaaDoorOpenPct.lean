/- A schedule by rank that comes in. -/
import Derived.Test.YtnmbkiajkpcmnaaDoorOpenSt
import Derived.Test.YtnmbkiajkpcmnaaDoorPc
import Derived.ChangeSame
namespace Go.Proofs.YtnmbkiajkpcmnaaDoor
open Go.RowKit
open Rd Fl

theorem list2P {l : List Value} {v0 v1 : Value} (hl : l.length = 2) (h0 : l[0]? = some v0) (h1 : l[1]? = some v1) : l = [v0, v1] := by
  match l, hl with
  | [x0, x1], _ => simp at h0 h1; rw [h0, h1]
theorem scellsPct : Tryd.prog.cellsOf 24 = 2 := by kernel_rfl
theorem takeOneP {l : List Value} {i : Nat} {v : Value} (h : (l.drop i).take 1 = [v]) : l[i]? = some v := by
  have := congrArg (·[0]?) h
  simpa [List.getElem?_take, List.getElem?_drop] using this

theorem pct_in {H : Type} {enc : TypeId × Value → H} {w : World} {base : Nat} {spare : Nat → Bool} {held : Bool} {fuel : Nat} {cs : List Value} {x : DataW H × List MemPlace}
    (h : DataW.trod enc Tryd.prog w base spare held fuel 24 cs = some x) :
    ∃ (A B : Option Addr) (r c : List Int) (ca cb : Nat), cs = [.slice A r.length ca, .slice B c.length cb] ∧ LAt iv w A r ∧ LAt iv w B c ∧ r.length ≤ 9223372036854775807 ∧ c.length ≤ 9223372036854775807 := by
  obtain ⟨y0, y1, n, hx, hl, h0, h1⟩ := Go.ChangeShapes.trod_struct2 Tryd.underlying24 h
  obtain ⟨A, r, ca, e1, a1, a2⟩ := ints_in h0
  obtain ⟨B, c, cb, e2, b1, b2⟩ := ints_in h1
  rw [scellsIS] at e1 e2
  rw [scellsPct] at hl
  exact ⟨A, B, r, c, ca, cb, list2P hl (takeOneP e1) (takeOneP e2), a1, b1, a2, b2⟩
end Go.Proofs.YtnmbkiajkpcmnaaDoor
