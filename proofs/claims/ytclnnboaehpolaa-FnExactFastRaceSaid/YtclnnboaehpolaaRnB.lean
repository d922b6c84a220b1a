/- Events: marked with what stands there behind, and held; runs in memory: sizes. -/
import Derived.Test.YtclnnboaehpolaaRnA
namespace Go.Proofs.Ytclnnboaehpolaa
open Go.RowKit
open Rd Fl

theorem cell_other {w : World} {N o M p : Nat} {v u : Value} (h : w.cell? ⟨M, p, none⟩ = some u) (hne : M ≠ N ∨ p ≠ o) : (w.setCell ⟨N, o, none⟩ v).cell? ⟨M, p, none⟩ = some u := by
  rw [World.cell?_setCell_other _ _ _ _ (by intro e; injection e with e1 e2; omega)]
  exact h
/-- an event's marks from y on -/
def evK (y : Int) : List Value := [.int .i64 y, .int .i64 (y + 1), .int .i64 (y + 1 + 1), .int .i64 (y + 1 + 1 + 1), .int .i64 (y + 1 + 1 + 1 + 1)]

/-- a run's data -/
structure RunD where
  cd : Int
  tr : List EvD
  pk : List Int
  en : StD
/-- A run's lists lie there. -/
structure RunAt (w : World) (E P T C O : Option Addr) (r : RunD) : Prop where
  e : EvsAt w E r.tr
  p : LAt iv w P r.pk
  s : StAt w T C O r.en
theorem RunAt.keep {w w' : World} {E P T C O : Option Addr} {r : RunD} (h : RunAt w E P T C O r) (hb : Below w.heap.size w w') : RunAt w' E P T C O r := ⟨h.e.keep hb, h.p.keep hb, h.s.keep hb⟩
structure RunFit (r : RunD) (m : Nat) : Prop where
  e : r.tr.length ≤ m
  p : r.pk.length ≤ m
  s : StFit r.en m
/-- A run lies boxed at block N. -/
structure RBox (N : Nat) (cd : Int) (E : Option Addr) (n4 k4 : Nat) (P : Option Addr) (n5 k5 : Nat) (T C O : Option Addr) (n1 k1 n2 k2 n3 k3 : Nat) (ft : Int) (w : World) : Prop where
  c0 : w.cell? ⟨N, 0, none⟩ = some (.int .i64 cd)
  c1 : w.cell? ⟨N, 1, none⟩ = some (.slice E n4 k4)
  c2 : w.cell? ⟨N, 2, none⟩ = some (.slice P n5 k5)
  c3 : w.cell? ⟨N, 3, none⟩ = some (.slice T n1 k1)
  c4 : w.cell? ⟨N, 4, none⟩ = some (.slice C n2 k2)
  c5 : w.cell? ⟨N, 5, none⟩ = some (.slice O n3 k3)
  c6 : w.cell? ⟨N, 6, none⟩ = some (.int .i64 ft)
theorem RBox.keep {N : Nat} {cd : Int} {E : Option Addr} {n4 k4 : Nat} {P : Option Addr} {n5 k5 : Nat} {T C O : Option Addr} {n1 k1 n2 k2 n3 k3 : Nat} {ft : Int} {w w' : World} (h : RBox N cd E n4 k4 P n5 k5 T C O n1 k1 n2 k2 n3 k3 ft w) (hb : Below w.heap.size w w') : RBox N cd E n4 k4 P n5 k5 T C O n1 k1 n2 k2 n3 k3 ft w' :=
  ⟨keep_cell hb h.c0, keep_cell hb h.c1, keep_cell hb h.c2, keep_cell hb h.c3, keep_cell hb h.c4, keep_cell hb h.c5, keep_cell hb h.c6⟩
theorem RBox.edit {N : Nat} {cd : Int} {E : Option Addr} {n4 k4 : Nat} {P : Option Addr} {n5 k5 : Nat} {T C O : Option Addr} {n1 k1 n2 k2 n3 k3 : Nat} {ft : Int} {w w' : World} (h : RBox N cd E n4 k4 P n5 k5 T C O n1 k1 n2 k2 n3 k3 ft w) {a b : Nat} (he : Edit a b w w') (hp : N < a ∨ b ≤ N) : RBox N cd E n4 k4 P n5 k5 T C O n1 k1 n2 k2 n3 k3 ft w' :=
  ⟨he.cell h.c0 hp, he.cell h.c1 hp, he.cell h.c2 hp, he.cell h.c3 hp, he.cell h.c4 hp, he.cell h.c5 hp, he.cell h.c6 hp⟩
theorem rbox_new (w : World) (cd : Int) (E : Option Addr) (n4 k4 : Nat) (P : Option Addr) (n5 k5 : Nat) (T C O : Option Addr) (n1 k1 n2 k2 n3 k3 : Nat) (ft : Int) (t : TypeId) : RBox w.heap.size cd E n4 k4 P n5 k5 T C O n1 k1 n2 k2 n3 k3 ft (w.alloc (.cells #[.int .i64 cd, .slice E n4 k4, .slice P n5 k5, .slice T n1 k1, .slice C n2 k2, .slice O n3 k3, .int .i64 ft] t)) := by
  refine ⟨?_, ?_, ?_, ?_, ?_, ?_, ?_⟩ <;> (rw [World.cell?_alloc_new]; rfl)

end Go.Proofs.Ytclnnboaehpolaa
