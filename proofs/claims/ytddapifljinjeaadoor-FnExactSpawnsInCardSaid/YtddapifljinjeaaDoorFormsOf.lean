/- The table of forms, from what is laid to its cells. -/
import Derived.Test.YtddapifljinjeaaDoorOpTi
import Derived.Lib.SmallJoins
import Derived.OpenShut
import Derived.Stop.LaidErr
namespace Go.Proofs.YtddapifljinjeaaDoor
open Go.RowKit
open Rd Fl

theorem gForms : Tryd.prog.globalNamed "loop.example/g00696/impl.opForms" = some 0 := by kernel_rfl
theorem gFormsType : (Tryd.prog.globals[0]?).map (·.type) = some 88 := by kernel_rfl
theorem cellsForm : Tryd.prog.cellsOf 87 = 4 := by kernel_rfl
theorem fcells3 : Tryd.prog.cellsOf 3 = 1 := by kernel_rfl
theorem fcells4 : Tryd.prog.cellsOf 4 = 1 := by kernel_rfl
theorem fcells9 : Tryd.prog.cellsOf 9 = 1 := by kernel_rfl

/-- one row of the table, as data -/
def formD (k : Nat) : DataW Unit := .agg [.lit (.string (formW k).data.toList), .lit (.bool (formV k)), .lit (.int .i64 (formA k)), .lit (.int .i64 (formB k))]
theorem forms_data : (Rows.laid_loop_example_g00696_impl_opForms : DataW Unit) = .agg ((List.range 18).map formD) := rfl

theorem one_of_take {l : List Value} {i : Nat} {v : Value} (h : (l.drop i).take 1 = [v]) : l[i]? = some v := by
  have := congrArg (·[0]?) h
  simpa [List.getElem?_take, List.getElem?_drop] using this

theorem form_row {enc : TypeId × Value → Unit} {w : World} {base : Nat} {sp : Nat → Bool} {held : Bool} {fuel : Nat} {cs : List Value} {p : List MemPlace} (k : Nat)
    (h : DataW.trod enc Tryd.prog w base sp held fuel 87 cs = some (formD k, p)) :
    cs[0]? = some (.string (formW k)) ∧ cs[1]? = some (.bool (formV k)) ∧ cs[2]? = some (.int .i64 (formA k)) ∧ cs[3]? = some (.int .i64 (formB k)) := by
  obtain ⟨y0, y1, y2, y3, n, hx, hl, h0, h1, h2, h3⟩ := Go.Joins.trod_struct4 Tryd.underlying87 h
  obtain ⟨s, e0, hs, _⟩ := DataW.trod_string Tryd.underlying9 h0
  obtain ⟨v, e1, hv⟩ := DataW.trod_bool Tryd.underlying4 h1
  obtain ⟨a, e2, ha, _⟩ := DataW.trod_int Tryd.underlying3 h2
  obtain ⟨b, e3, hb, _⟩ := DataW.trod_int Tryd.underlying3 h3
  subst hs hv ha hb
  simp only [formD, Prod.mk.injEq, DataW.agg.injEq, List.cons.injEq, DataW.lit.injEq, Lit.string.injEq, Lit.bool.injEq, Lit.int.injEq, true_and, and_true] at hx
  obtain ⟨⟨q0, q1, q2, q3⟩, -⟩ := hx
  rw [q1, q2, q3, ba_eq q0]
  rw [fcells9] at e0
  rw [fcells4] at e1
  rw [fcells3] at e2 e3
  exact ⟨one_of_take e0, one_of_take e1, one_of_take e2, one_of_take e3⟩

theorem forms_of {W : World} {rest : List (String × DataW Unit)} (h : laidMet Tryd.prog (("loop.example/g00696/impl.opForms", Rows.laid_loop_example_g00696_impl_opForms) :: rest) W) : Forms W := by
  obtain ⟨ps, ⟨g', t', cs, fuel, p, q, hg', ht', hvar, hd, _, _⟩, _⟩ := h
  obtain rfl := Option.some.inj (gForms.symm.trans hg')
  obtain rfl := Option.some.inj (gFormsType.symm.trans ht')
  obtain ⟨xs, m, _, hx, hl, hlen, hf⟩ := DataW.trod_array Tryd.underlying88 hd
  rw [forms_data] at hx
  have hxs : xs.map (·.1) = (List.range 18).map formD := by
    have := congrArg Prod.fst hx
    simpa using this.symm
  intro k hk
  have hk' : k < 18 := by omega
  have hfk := hf k hk'
  obtain ⟨x, hxk⟩ : ∃ x, xs[k]? = some x := ⟨_, List.getElem?_eq_getElem (by omega)⟩
  have hx1 : x.1 = formD k := by
    have := congrArg (·[k]?) hxs
    simp [hxk, hk'] at this
    exact this
  rw [hxk, cellsForm, show x = (formD k, x.2) by rw [← hx1]] at hfk
  obtain ⟨r0, r1, r2, r3⟩ := form_row k hfk
  have at_cell : ∀ j v, j < 4 → ((cs.toList.drop (k * 4)).take 4)[j]? = some v → W.cell? ⟨0, k * 4 + j, none⟩ = some v := by
    intro j v hj h
    rw [World.var?_cell gForms hvar, ← h, List.getElem?_take_of_lt hj, List.getElem?_drop, Array.getElem?_toList]
  exact ⟨at_cell 0 _ (by omega) r0, at_cell 1 _ (by omega) r1, at_cell 2 _ (by omega) r2, at_cell 3 _ (by omega) r3⟩
end Go.Proofs.YtddapifljinjeaaDoor
