/- States in memory: what lies where; the sizes that the exact laws reckon. -/
import Derived.Test.YtgfnejojjjlloaaPrgC
namespace Go.Proofs.Ytgfnejojjjlloaa
open Go.RowKit
open Rd Fl

/-- The values of l lie from A on, one a cell. -/
def LAt {α : Type} (f : α → Value) (w : World) (A : Option Addr) (l : List α) : Prop :=
  ∃ b off, (l ≠ [] → A = some ⟨b, off, none⟩) ∧ ∀ i x, l[i]? = some x → w.cell? ⟨b, off + i, none⟩ = some (f x)
def fv (x : Bool × Nat) : Value := .float .f64 (wd x.1 x.2)
def iv (x : Int) : Value := .int .i64 x
theorem LAt.keep {α : Type} {f : α → Value} {w w' : World} {A : Option Addr} {l : List α} (h : LAt f w A l) (hb : Below w.heap.size w w') : LAt f w' A l := by
  obtain ⟨b, off, h1, h2⟩ := h
  exact ⟨b, off, h1, fun i o hi => keep_cell hb (h2 i o hi)⟩

/-- a thread's data -/
structure ThD where
  rt : Int
  pc : Int
  st : Int
  cd : Int
  lk : Int
  sk : List (Bool × Nat)
def ThD.cells (t : ThD) (S : Option Addr) (cap : Nat) : List Value := [.int .i64 t.rt, .int .i64 t.pc, .int .i64 t.st, .int .i64 t.cd, .int .i64 t.lk, .slice S t.sk.length cap]
/-- The threads ts lie from A on. -/
def ThsAt (w : World) (A : Option Addr) (ts : List ThD) : Prop :=
  ∃ b off, (ts ≠ [] → A = some ⟨b, off, none⟩) ∧ ∀ i t, ts[i]? = some t → ∃ S cap, w.rangeAt b (off + i * 6) (t.cells S cap) ∧ LAt fv w S t.sk
theorem ThsAt.keep {w w' : World} {A : Option Addr} {l : List ThD} (h : ThsAt w A l) (hb : Below w.heap.size w w') : ThsAt w' A l := by
  obtain ⟨b, off, h1, h2⟩ := h
  refine ⟨b, off, h1, fun i t hi => ?_⟩
  obtain ⟨S, cap, h3, h4⟩ := h2 i t hi
  exact ⟨S, cap, range_keep hb h3, h4.keep hb⟩
theorem th_range {w : World} {b o : Nat} {t : ThD} {S : Option Addr} {cap : Nat} (h : w.rangeAt b o (t.cells S cap)) : w.cell? ⟨b, o, none⟩ = some (.int .i64 t.rt) ∧ w.cell? ⟨b, o + 1, none⟩ = some (.int .i64 t.pc) ∧ w.cell? ⟨b, o + 2, none⟩ = some (.int .i64 t.st) ∧ w.cell? ⟨b, o + 3, none⟩ = some (.int .i64 t.cd) ∧ w.cell? ⟨b, o + 4, none⟩ = some (.int .i64 t.lk) ∧ w.cell? ⟨b, o + 5, none⟩ = some (.slice S t.sk.length cap) :=
  ⟨h 0 _ rfl, h 1 _ rfl, h 2 _ rfl, h 3 _ rfl, h 4 _ rfl, h 5 _ rfl⟩

/-- a state's data -/
structure StD where
  ts : List ThD
  cl : List (Bool × Nat)
  ow : List Int
  ft : Int
structure StFit (s : StD) (m : Nat) : Prop where
  t : s.ts.length ≤ m
  k : ∀ t ∈ s.ts, t.sk.length ≤ m
  c : s.cl.length ≤ m
  o : s.ow.length ≤ m
/-- The lists of a state lie there. -/
structure StAt (w : World) (T C O : Option Addr) (s : StD) : Prop where
  t : ThsAt w T s.ts
  c : LAt fv w C s.cl
  o : LAt iv w O s.ow
theorem StAt.keep {w w' : World} {T C O : Option Addr} {s : StD} (h : StAt w T C O s) (hb : Below w.heap.size w w') : StAt w' T C O s := ⟨h.t.keep hb, h.c.keep hb, h.o.keep hb⟩
/-- A state lies boxed at block N. -/
structure SBox (N : Nat) (T C O : Option Addr) (n1 k1 n2 k2 n3 k3 : Nat) (ft : Int) (w : World) : Prop where
  c0 : w.cell? ⟨N, 0, none⟩ = some (.slice T n1 k1)
  c1 : w.cell? ⟨N, 1, none⟩ = some (.slice C n2 k2)
  c2 : w.cell? ⟨N, 2, none⟩ = some (.slice O n3 k3)
  c3 : w.cell? ⟨N, 3, none⟩ = some (.int .i64 ft)
theorem SBox.keep {N : Nat} {T C O : Option Addr} {n1 k1 n2 k2 n3 k3 : Nat} {ft : Int} {w w' : World} (h : SBox N T C O n1 k1 n2 k2 n3 k3 ft w) (hb : Below w.heap.size w w') : SBox N T C O n1 k1 n2 k2 n3 k3 ft w' :=
  ⟨keep_cell hb h.c0, keep_cell hb h.c1, keep_cell hb h.c2, keep_cell hb h.c3⟩
theorem sbox_new (w : World) (T C O : Option Addr) (n1 k1 n2 k2 n3 k3 : Nat) (ft : Int) (t : TypeId) : SBox w.heap.size T C O n1 k1 n2 k2 n3 k3 ft (w.alloc (.cells #[.slice T n1 k1, .slice C n2 k2, .slice O n3 k3, .int .i64 ft] t)) := by
  refine ⟨?_, ?_, ?_, ?_⟩ <;> (rw [World.cell?_alloc_new]; rfl)

end Go.Proofs.Ytgfnejojjjlloaa
