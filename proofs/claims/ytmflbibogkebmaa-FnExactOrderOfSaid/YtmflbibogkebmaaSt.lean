/- States in memory: what lies where; the sizes that the exact laws reckon. States: copies of the exact laws. States: the copy of a whole state. States: the copy as a struct. -/
import Derived.Test.YtmflbibogkebmaaPrgC
namespace Go.Proofs.Ytmflbibogkebmaa
open Go.RowKit
open Rd Fl

/-- The values of l lie from A on, one a cell. -/
def LAt {α : Type} (f : α → Value) (w : World) (A : Option Addr) (l : List α) : Prop :=
  ∃ b off, (l ≠ [] → A = some ⟨b, off, none⟩) ∧ ∀ i x, l[i]? = some x → w.cell? ⟨b, off + i, none⟩ = some (f x)
def fv (x : Bool × Nat) : Value := .float .f64 (wd x.1 x.2)
def iv (x : Int) : Value := .int .i64 x
theorem LAt.keep {α : Type} {f : α → Value} {w w' : World} {A : Option Addr} {l : List α} (h : LAt f w A l) (hb : Below w.heap.size w w') : LAt f w' A l := by
  obtain ⟨b, off, h1, h2⟩ := h
  exact ⟨b, off, h1, fun i o hi => keep_cell hb (h2 i o hi)⟩

/-- a thread's data -/
structure ThD where
  rt : Int
  pc : Int
  st : Int
  cd : Int
  lk : Int
  sk : List (Bool × Nat)
def ThD.cells (t : ThD) (S : Option Addr) (cap : Nat) : List Value := [.int .i64 t.rt, .int .i64 t.pc, .int .i64 t.st, .int .i64 t.cd, .int .i64 t.lk, .slice S t.sk.length cap]
/-- The threads ts lie from A on. -/
def ThsAt (w : World) (A : Option Addr) (ts : List ThD) : Prop :=
  ∃ b off, (ts ≠ [] → A = some ⟨b, off, none⟩) ∧ ∀ i t, ts[i]? = some t → ∃ S cap, w.rangeAt b (off + i * 6) (t.cells S cap) ∧ LAt fv w S t.sk
theorem ThsAt.keep {w w' : World} {A : Option Addr} {l : List ThD} (h : ThsAt w A l) (hb : Below w.heap.size w w') : ThsAt w' A l := by
  obtain ⟨b, off, h1, h2⟩ := h
  refine ⟨b, off, h1, fun i t hi => ?_⟩
  obtain ⟨S, cap, h3, h4⟩ := h2 i t hi
  exact ⟨S, cap, range_keep hb h3, h4.keep hb⟩
theorem th_range {w : World} {b o : Nat} {t : ThD} {S : Option Addr} {cap : Nat} (h : w.rangeAt b o (t.cells S cap)) : w.cell? ⟨b, o, none⟩ = some (.int .i64 t.rt) ∧ w.cell? ⟨b, o + 1, none⟩ = some (.int .i64 t.pc) ∧ w.cell? ⟨b, o + 2, none⟩ = some (.int .i64 t.st) ∧ w.cell? ⟨b, o + 3, none⟩ = some (.int .i64 t.cd) ∧ w.cell? ⟨b, o + 4, none⟩ = some (.int .i64 t.lk) ∧ w.cell? ⟨b, o + 5, none⟩ = some (.slice S t.sk.length cap) :=
  ⟨h 0 _ rfl, h 1 _ rfl, h 2 _ rfl, h 3 _ rfl, h 4 _ rfl, h 5 _ rfl⟩

/-- a state's data -/
structure StD where
  ts : List ThD
  cl : List (Bool × Nat)
  ow : List Int
  ft : Int
structure StFit (s : StD) (m : Nat) : Prop where
  t : s.ts.length ≤ m
  k : ∀ t ∈ s.ts, t.sk.length ≤ m
  c : s.cl.length ≤ m
  o : s.ow.length ≤ m
/-- The lists of a state lie there. -/
structure StAt (w : World) (T C O : Option Addr) (s : StD) : Prop where
  t : ThsAt w T s.ts
  c : LAt fv w C s.cl
  o : LAt iv w O s.ow
theorem StAt.keep {w w' : World} {T C O : Option Addr} {s : StD} (h : StAt w T C O s) (hb : Below w.heap.size w w') : StAt w' T C O s := ⟨h.t.keep hb, h.c.keep hb, h.o.keep hb⟩
/-- A state lies boxed at block N. -/
structure SBox (N : Nat) (T C O : Option Addr) (n1 k1 n2 k2 n3 k3 : Nat) (ft : Int) (w : World) : Prop where
  c0 : w.cell? ⟨N, 0, none⟩ = some (.slice T n1 k1)
  c1 : w.cell? ⟨N, 1, none⟩ = some (.slice C n2 k2)
  c2 : w.cell? ⟨N, 2, none⟩ = some (.slice O n3 k3)
  c3 : w.cell? ⟨N, 3, none⟩ = some (.int .i64 ft)
theorem SBox.keep {N : Nat} {T C O : Option Addr} {n1 k1 n2 k2 n3 k3 : Nat} {ft : Int} {w w' : World} (h : SBox N T C O n1 k1 n2 k2 n3 k3 ft w) (hb : Below w.heap.size w w') : SBox N T C O n1 k1 n2 k2 n3 k3 ft w' :=
  ⟨keep_cell hb h.c0, keep_cell hb h.c1, keep_cell hb h.c2, keep_cell hb h.c3⟩
theorem sbox_new (w : World) (T C O : Option Addr) (n1 k1 n2 k2 n3 k3 : Nat) (ft : Int) (t : TypeId) : SBox w.heap.size T C O n1 k1 n2 k2 n3 k3 ft (w.alloc (.cells #[.slice T n1 k1, .slice C n2 k2, .slice O n3 k3, .int .i64 ft] t)) := by
  refine ⟨?_, ?_, ?_, ?_⟩ <;> (rw [World.cell?_alloc_new]; rfl)

end Go.Proofs.Ytmflbibogkebmaa
namespace Go.Proofs.Ytmflbibogkebmaa
open Go.RowKit
open Rd Fl

/-- The values of l lie in a block of their own. -/
def LOwn {α : Type} (f : α → Value) (w : World) (M : Nat) (l : List α) : Prop := w.there M 0 l.length ∧ ∀ i x, l[i]? = some x → w.cell? ⟨M, i, none⟩ = some (f x)
theorem LOwn.at {α : Type} {f : α → Value} {w : World} {M : Nat} {l : List α} (h : LOwn f w M l) : LAt f w (some ⟨M, 0, none⟩) l := ⟨M, 0, fun _ => rfl, fun i o ho => by rw [Nat.zero_add]; exact h.2 i o ho⟩
theorem LOwn.keep {α : Type} {f : α → Value} {w w' : World} {M : Nat} {l : List α} (h : LOwn f w M l) (hb : Below w.heap.size w w') : LOwn f w' M l := ⟨there_keep hb h.1, fun i o ho => keep_cell hb (h.2 i o ho)⟩
theorem LOwn.sets {α : Type} {f : α → Value} {w : World} {M : Nat} {l : List α} (h : LOwn f w M l) (N o : Nat) (vs : List Value) (hne : M ≠ N) : LOwn f (w.setCells N o vs) M l :=
  ⟨World.there_setCells h.1 N o vs, fun i x hx => by
    have h2 : w.rangeAt M i [f x] := fun j v hv => by
      cases j with
      | zero => simp only [List.getElem?_cons_zero, Option.some.injEq] at hv; subst hv; exact h.2 i x hx
      | succ j => simp at hv
    exact World.rangeAt_setCells_apart h2 N o vs (.inl hne) 0 _ rfl⟩
theorem LOwn.set {α : Type} {f : α → Value} {w : World} {M : Nat} {l : List α} (h : LOwn f w M l) (N o : Nat) (v : Value) (hne : M ≠ N) : LOwn f (w.setCell ⟨N, o, none⟩ v) M l := h.sets N o [v] hne

/-- The first k values have been copied. -/
structure CopTo {α : Type} (f : α → Value) (w wr : World) (l : List α) (k : Nat) : Prop where
  z : w.heap.size < wr.heap.size
  th : wr.there w.heap.size 0 l.length
  c : ∀ i x, i < k → l[i]? = some x → wr.cell? ⟨w.heap.size, i, none⟩ = some (f x)
  b : Below w.heap.size w wr
theorem CopTo.step {α : Type} {f : α → Value} {w wr : World} {l : List α} {k : Nat} {x : α} (h : CopTo f w wr l k) (hk : k < l.length) (hx : l[k]? = some x) : CopTo f w (wr.setCell ⟨w.heap.size, k, none⟩ (f x)) l (k + 1) := by
  refine ⟨by rw [set_size]; exact h.z, World.there_setCells h.th _ _ [_], fun i y hi hy => ?_, h.b.setCell (p := ⟨w.heap.size, k, none⟩) (Nat.le_refl _) _⟩
  by_cases e : i = k
  · subst e
    rw [hx] at hy
    cases hy
    obtain ⟨y, hy⟩ := Option.isSome_iff_exists.1 (h.th i hk).1
    rw [Nat.zero_add] at hy
    exact World.cell?_setCell_same _ _ _ hy
  · rw [World.cell?_setCell_other _ _ _ _ (by simp <;> omega)]
    exact h.c i y (by omega) hy
theorem CopTo.own {α : Type} {f : α → Value} {w wr : World} {l : List α} {k : Nat} (h : CopTo f w wr l k) (hk : k = l.length) : LOwn f wr w.heap.size l :=
  ⟨h.th, fun i x hx => h.c i x (by have := (List.getElem?_eq_some_iff.1 hx).1; omega) hx⟩
theorem CopTo.cell {α : Type} {f : α → Value} {w wr : World} {l : List α} {k : Nat} (h : CopTo f w wr l k) (hk : k < l.length) : ∃ y, wr.cell? ⟨w.heap.size, k, none⟩ = some y ∧ wr.frozen? ⟨w.heap.size, k, none⟩ = false := by
  obtain ⟨y, hy⟩ := Option.isSome_iff_exists.1 (h.th k hk).1
  have hz := (h.th k hk).2
  rw [Nat.zero_add] at hy hz
  exact ⟨y, hy, hz⟩

theorem inSize : (Try.prog.info? 3).map (·.size) = some 1 := by kernel_rfl
theorem inBytes : (Try.prog.info? 3).map (·.bytes) = some 8 := by kernel_rfl
theorem inZero : (Try.prog.info? 3).bind (·.zero) = some (.int .i64 0) := by kernel_rfl
theorem make_ints (n : Nat) (hn : n ≤ 1048576) (w : World) : (Instr.makeSlice 24 (.int .i64 (n : Int)) (.int .i64 (n : Int))).run Try.prog w = .ok (.slice (some ⟨w.heap.size, 0, none⟩) n n) (w.alloc (.cells (madeCells #[.int .i64 0] n) 3)) := by
  cases hi : Try.prog.info? 3 with
  | none => have := inSize; rw [hi] at this; cases this
  | some i =>
    have h1 : i.size = 1 := by have := inSize; rw [hi] at this; simpa using this
    have h2 : i.bytes = 8 := by have := inBytes; rw [hi] at this; simpa using this
    have h3 : i.zero = some (.int .i64 0) := by have := inZero; rw [hi] at this; simpa using this
    have := run_make (P := Try.prog) w 24 3 i _ Try.underlying24 hi h3 .i64 .i64 n n (by omega) (Int.le_refl _) (by rw [h2]; omega) (by omega)
    rw [h1] at this
    simpa [Value.cells] using this
end Go.Proofs.Ytmflbibogkebmaa
namespace Go.Proofs.Ytmflbibogkebmaa
open Go.RowKit
open Rd Fl

theorem below_set {B : Nat} {a w : World} (h : Below B a w) (N o : Nat) (v : Value) (hN : B ≤ N) : Below B a (w.setCell ⟨N, o, none⟩ v) := h.setCell (p := ⟨N, o, none⟩) hN v

/-- The first k threads lie at N, their stacks in blocks of their own behind it. -/
def ThOwn (w : World) (N k : Nat) (ts : List ThD) : Prop :=
  ∀ i t, i < k → ts[i]? = some t → ∃ M, N < M ∧ M < w.heap.size ∧ w.rangeAt N (i * 6) (t.cells (some ⟨M, 0, none⟩) t.sk.length) ∧ LOwn fv w M t.sk ∧ w.there N (i * 6) 6
theorem ThOwn.keep {w w' : World} {N k : Nat} {ts : List ThD} (h : ThOwn w N k ts) (hb : Below w.heap.size w w') : ThOwn w' N k ts := by
  intro i l hi hl
  obtain ⟨M, h1, h2, h3, h4, h5⟩ := h i l hi hl
  exact ⟨M, h1, Nat.lt_of_lt_of_le h2 hb.size, range_keep hb h3, h4.keep hb, there_keep hb h5⟩
theorem ThOwn.setc {w : World} {N k : Nat} {ts : List ThD} (h : ThOwn w N k ts) (b o : Nat) (v : Value) (hb : b < N) : ThOwn (w.setCell ⟨b, o, none⟩ v) N k ts := by
  intro i l hi hl
  obtain ⟨M, h1, h2, h3, h4, h5⟩ := h i l hi hl
  exact ⟨M, h1, by rw [set_size]; exact h2, World.rangeAt_setCells_apart h3 b o [v] (.inl (by omega)), h4.set _ _ _ (by omega), World.there_setCells h5 b o [v]⟩
theorem ThOwn.at {w : World} {N : Nat} {ts : List ThD} (h : ThOwn w N ts.length ts) : ThsAt w (some ⟨N, 0, none⟩) ts := by
  refine ⟨N, 0, fun _ => rfl, fun i t ht => ?_⟩
  obtain ⟨M, h1, h2, h3, h4, -⟩ := h i t (List.getElem?_eq_some_iff.1 ht).1 ht
  exact ⟨_, _, by rw [Nat.zero_add]; exact h3, h4.at⟩

/-- The first k threads have been copied. -/
structure ThTo (w wr : World) (ts : List ThD) (k : Nat) : Prop where
  z : w.heap.size < wr.heap.size
  th : wr.there w.heap.size 0 (ts.length * 6)
  o : ThOwn wr w.heap.size k ts
  b : Below w.heap.size w wr
theorem ThTo.step {w wr w1 : World} {ts : List ThD} {k : Nat} {t : ThD} {M : Nat} (h : ThTo w wr ts k) (hk : k < ts.length) (ht : ts[k]? = some t) (hM : wr.heap.size ≤ M) (hM2 : M < w1.heap.size) (ho : LOwn fv w1 M t.sk) (hb1 : Below wr.heap.size wr w1) :
    ThTo w (w1.setCells w.heap.size (k * 6) (t.cells (some ⟨M, 0, none⟩) t.sk.length)) ts (k + 1) := by
  have hz := h.z
  have hth1 := there_keep hb1 h.th
  refine ⟨by rw [cells_size]; have := hb1.size; omega, World.there_setCells hth1 _ _ _, fun i x hi hx => ?_, below_cells (h.b.trans (hb1.mono (by omega))) (Nat.le_refl _) _ _⟩
  by_cases e : i = k
  · subst e
    rw [ht] at hx
    cases hx
    exact ⟨M, by omega, by rw [cells_size]; omega, World.rangeAt_setCells_same w1 _ _ _ (there_part hth1 _ _ (by show i * 6 + 6 ≤ _; omega)), ho.sets _ _ _ (by omega), World.there_setCells (there_part hth1 _ _ (by omega)) _ _ _⟩
  · obtain ⟨M', g1, g2, g3, g4, g5⟩ := (h.o.keep hb1) i x (by omega) hx
    exact ⟨M', g1, by rw [cells_size]; exact g2, World.rangeAt_setCells_apart g3 _ _ _ (.inr (.inl (by show i * 6 + 6 ≤ _; omega))), g4.sets _ _ _ (by omega), World.there_setCells g5 _ _ _⟩
theorem six_there {w : World} {N j : Nat} (h : w.there N j 6) : ∃ x0 x1 x2 x3 x4 x5, (w.cell? ⟨N, j, none⟩ = some x0 ∧ w.cell? ⟨N, j + 1, none⟩ = some x1 ∧ w.cell? ⟨N, j + 2, none⟩ = some x2 ∧ w.cell? ⟨N, j + 3, none⟩ = some x3 ∧ w.cell? ⟨N, j + 4, none⟩ = some x4 ∧ w.cell? ⟨N, j + 5, none⟩ = some x5) ∧ w.frozen? ⟨N, j, none⟩ = false ∧ w.frozen? ⟨N, j + 1, none⟩ = false ∧ w.frozen? ⟨N, j + 2, none⟩ = false ∧ w.frozen? ⟨N, j + 3, none⟩ = false ∧ w.frozen? ⟨N, j + 4, none⟩ = false ∧ w.frozen? ⟨N, j + 5, none⟩ = false := by
  have h0 := h 0 (by omega)
  have h1 := h 1 (by omega)
  have h2 := h 2 (by omega)
  have h3 := h 3 (by omega)
  have h4 := h 4 (by omega)
  have h5 := h 5 (by omega)
  obtain ⟨x0, e0⟩ := Option.isSome_iff_exists.1 h0.1
  obtain ⟨x1, e1⟩ := Option.isSome_iff_exists.1 h1.1
  obtain ⟨x2, e2⟩ := Option.isSome_iff_exists.1 h2.1
  obtain ⟨x3, e3⟩ := Option.isSome_iff_exists.1 h3.1
  obtain ⟨x4, e4⟩ := Option.isSome_iff_exists.1 h4.1
  obtain ⟨x5, e5⟩ := Option.isSome_iff_exists.1 h5.1
  exact ⟨x0, x1, x2, x3, x4, x5, ⟨e0, e1, e2, e3, e4, e5⟩, h0.2, h1.2, h2.2, h3.2, h4.2, h5.2⟩

end Go.Proofs.Ytmflbibogkebmaa
namespace Go.Proofs.Ytmflbibogkebmaa
open Go.RowKit
open Rd Fl

/-- A state's lists lie in blocks of their own. -/
structure StOwn (w : World) (N1 N2 N3 : Nat) (s : StD) : Prop where
  t : ThOwn w N1 s.ts.length s.ts
  c : LOwn fv w N2 s.cl
  o : LOwn iv w N3 s.ow
theorem StOwn.keep {w w' : World} {N1 N2 N3 : Nat} {s : StD} (h : StOwn w N1 N2 N3 s) (hb : Below w.heap.size w w') : StOwn w' N1 N2 N3 s := ⟨h.t.keep hb, h.c.keep hb, h.o.keep hb⟩
theorem StOwn.at {w : World} {N1 N2 N3 : Nat} {s : StD} (h : StOwn w N1 N2 N3 s) : StAt w (some ⟨N1, 0, none⟩) (some ⟨N2, 0, none⟩) (some ⟨N3, 0, none⟩) s := ⟨h.t.at, h.c.at, h.o.at⟩

end Go.Proofs.Ytmflbibogkebmaa
