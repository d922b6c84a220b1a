/- Programs in memory: what lies where; the sizes that the exact laws reckon. -/
import Derived.Test.YtmflbibogkebmaaOps
import Derived.Deep.MidRow
import Derived.Laws.MakeOwn
namespace Go.Proofs.Ytmflbibogkebmaa
open Go.RowKit
open Rd Fl

/-- an op's data -/
structure OpD where
  c : Int
  a : Int
  b : Int
  s : Bool
  r : Nat
def OpD.cells (o : OpD) : List Value := [.int .i64 o.c, .int .i64 o.a, .int .i64 o.b, .float .f64 (wd o.s o.r)]
/-- The ops l lie from A on. -/
def OpsAt (w : World) (A : Option Addr) (l : List OpD) : Prop :=
  ∃ b off, (l ≠ [] → A = some ⟨b, off, none⟩) ∧ ∀ i o, l[i]? = some o → w.rangeAt b (off + i * 4) o.cells
/-- The routines rs lie from R on. -/
def RoutsAt (w : World) (R : Option Addr) (rs : List (List OpD)) : Prop :=
  ∃ b off, (rs ≠ [] → R = some ⟨b, off, none⟩) ∧ ∀ i l, rs[i]? = some l → ∃ A cap, w.cell? ⟨b, off + i, none⟩ = some (.slice A l.length cap) ∧ OpsAt w A l

theorem keep_cell {w w' : World} (hb : Below w.heap.size w w') {a : Addr} {v : Value} (hc : w.cell? a = some v) : w'.cell? a = some v := (hb.cell (World.block_lt_of_cell? w a hc)).trans hc
theorem range_keep {w w' : World} (hb : Below w.heap.size w w') {b o : Nat} {cs : List Value} (h : w.rangeAt b o cs) : w'.rangeAt b o cs := fun j v hv => keep_cell hb (h j v hv)
theorem OpsAt.keep {w w' : World} {A : Option Addr} {l : List OpD} (h : OpsAt w A l) (hb : Below w.heap.size w w') : OpsAt w' A l := by
  obtain ⟨b, off, h1, h2⟩ := h
  exact ⟨b, off, h1, fun i o hi => range_keep hb (h2 i o hi)⟩
theorem RoutsAt.keep {w w' : World} {R : Option Addr} {rs : List (List OpD)} (h : RoutsAt w R rs) (hb : Below w.heap.size w w') : RoutsAt w' R rs := by
  obtain ⟨b, off, h1, h2⟩ := h
  refine ⟨b, off, h1, fun i l hi => ?_⟩
  obtain ⟨A, cap, h3, h4⟩ := h2 i l hi
  exact ⟨A, cap, keep_cell hb h3, h4.keep hb⟩
theorem op_range {w : World} {b o : Nat} {x : OpD} (h : w.rangeAt b o x.cells) : w.cell? ⟨b, o, none⟩ = some (.int .i64 x.c) ∧ w.cell? ⟨b, o + 1, none⟩ = some (.int .i64 x.a) ∧ w.cell? ⟨b, o + 2, none⟩ = some (.int .i64 x.b) ∧ w.cell? ⟨b, o + 3, none⟩ = some (.float .f64 (wd x.s x.r)) :=
  ⟨h 0 _ rfl, h 1 _ rfl, h 2 _ rfl, h 3 _ rfl⟩

end Go.Proofs.Ytmflbibogkebmaa
