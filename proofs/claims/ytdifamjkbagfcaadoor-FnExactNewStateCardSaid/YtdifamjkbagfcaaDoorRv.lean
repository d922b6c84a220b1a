/- Answers that are states: kept, compared, marked, held. -/
import Derived.Test.YtdifamjkbagfcaaDoorRu
import Derived.Test.YtdifamjkbagfcaaDoorRg
import Derived.Test.YtdifamjkbagfcaaDoorStF
namespace Go.Proofs.YtdifamjkbagfcaaDoor
open Go.RowKit
open Rd Fl

/-- A list's block: the list lies there whole, or it is empty. -/
def Blk {α : Type} (f : α → Value) (l : List α) (w : World) (lo hi : Nat) (A : Option Addr) (M : Nat) : Prop := l.length ≠ 0 → A = some ⟨M, 0, none⟩ ∧ lo ≤ M ∧ M < hi ∧ M < w.heap.size ∧ LOwn f w M l
theorem Blk.at {α : Type} {f : α → Value} {l : List α} {w : World} {lo hi : Nat} {A : Option Addr} {M : Nat} (h : Blk f l w lo hi A M) : LAt f w A l := by
  by_cases he : l = []
  · subst he; exact ⟨0, 0, fun h => absurd rfl h, fun i x hx => by cases hx⟩
  · have hl : l.length ≠ 0 := fun h => he (List.length_eq_zero_iff.1 h)
    obtain ⟨rfl, -, -, -, h5⟩ := h hl
    exact h5.at
theorem Blk.keep {α : Type} {f : α → Value} {l : List α} {w w' : World} {lo hi : Nat} {A : Option Addr} {M : Nat} (h : Blk f l w lo hi A M) (hb : Below w.heap.size w w') : Blk f l w' lo hi A M := fun hl => by
  obtain ⟨h1, h2, h3, h4, h5⟩ := h hl
  exact ⟨h1, h2, h3, Nat.lt_of_lt_of_le h4 hb.size, h5.keep hb⟩
theorem Blk.edit {α : Type} {f : α → Value} {l : List α} {w w' : World} {lo hi : Nat} {A : Option Addr} {M : Nat} (h : Blk f l w lo hi A M) {a b : Nat} (he : Edit a b w w') (hp : b ≤ lo ∨ hi ≤ a) : Blk f l w' lo hi A M := fun hl => by
  obtain ⟨h1, h2, h3, h4, h5⟩ := h hl
  refine ⟨h1, h2, h3, Nat.lt_of_lt_of_le h4 he.b.size, lown_block h5 ?_⟩
  rcases hp with hp | hp
  · exact he.up M (by omega) h4
  · exact he.b.block M (by omega)
theorem Blk.less {α : Type} {f : α → Value} {l : List α} {w : World} {lo lo' hi hi' : Nat} {A : Option Addr} {M : Nat} (h : Blk f l w lo hi A M) (h1 : lo' ≤ lo) (h2 : hi ≤ hi') : Blk f l w lo' hi' A M := fun hl => by
  obtain ⟨g1, g2, g3, g4, g5⟩ := h hl
  exact ⟨g1, by omega, by omega, g4, g5⟩

/-- The blocks of a state. -/
structure StB (s : StD) (w : World) (lo hi : Nat) (T C O : Option Addr) (N1 N2 N3 : Nat) (F : Nat → Nat) : Prop where
  t : s.ts.length ≠ 0 → T = some ⟨N1, 0, none⟩ ∧ lo ≤ N1 ∧ N1 < hi
  k : ∀ i (h : i < s.ts.length), ∃ S cap, w.rangeAt N1 (i * 6) (s.ts[i].cells S cap) ∧ w.there N1 (i * 6) 6 ∧ Blk fv s.ts[i].sk w lo hi S (F i) ∧ (s.ts[i].sk.length ≠ 0 → F i ≠ N1)
  c : Blk fv s.cl w lo hi C N2
  o : Blk iv s.ow w lo hi O N3
  d : ∀ i j (hi : i < s.ts.length) (hj : j < s.ts.length), i ≠ j → s.ts[i].sk.length ≠ 0 → s.ts[j].sk.length ≠ 0 → F i ≠ F j
  e12 : s.ts.length ≠ 0 → s.cl.length ≠ 0 → N1 ≠ N2
  e13 : s.ts.length ≠ 0 → s.ow.length ≠ 0 → N1 ≠ N3
  e23 : s.cl.length ≠ 0 → s.ow.length ≠ 0 → N2 ≠ N3
  f2 : ∀ i (h : i < s.ts.length), s.ts[i].sk.length ≠ 0 → s.cl.length ≠ 0 → F i ≠ N2
  f3 : ∀ i (h : i < s.ts.length), s.ts[i].sk.length ≠ 0 → s.ow.length ≠ 0 → F i ≠ N3
theorem StB.keep {s : StD} {w w' : World} {lo hi : Nat} {T C O : Option Addr} {N1 N2 N3 : Nat} {F : Nat → Nat} (h : StB s w lo hi T C O N1 N2 N3 F) (hb : Below w.heap.size w w') : StB s w' lo hi T C O N1 N2 N3 F := by
  refine ⟨h.t, fun i hi => ?_, h.c.keep hb, h.o.keep hb, h.d, h.e12, h.e13, h.e23, h.f2, h.f3⟩
  obtain ⟨S, cap, h1, h2, h3, h4⟩ := h.k i hi
  exact ⟨S, cap, range_keep hb h1, there_keep hb h2, h3.keep hb, h4⟩
theorem StB.edit {s : StD} {w w' : World} {lo hi : Nat} {T C O : Option Addr} {N1 N2 N3 : Nat} {F : Nat → Nat} (h : StB s w lo hi T C O N1 N2 N3 F) {a b : Nat} (he : Edit a b w w') (hp : b ≤ lo ∨ hi ≤ a) : StB s w' lo hi T C O N1 N2 N3 F := by
  refine ⟨h.t, fun i hi => ?_, h.c.edit he hp, h.o.edit he hp, h.d, h.e12, h.e13, h.e23, h.f2, h.f3⟩
  obtain ⟨S, cap, h1, h2, h3, h4⟩ := h.k i hi
  obtain ⟨-, t2, t3⟩ := h.t (by omega)
  exact ⟨S, cap, he.range h1 (by omega), he.th _ _ _ h2, h3.edit he hp, h4⟩
theorem StB.less {s : StD} {w : World} {lo hi lo' hi' : Nat} {T C O : Option Addr} {N1 N2 N3 : Nat} {F : Nat → Nat} (h : StB s w lo hi T C O N1 N2 N3 F) (h1 : lo' ≤ lo) (h2 : hi ≤ hi') : StB s w lo' hi' T C O N1 N2 N3 F := by
  refine ⟨fun hn => ?_, fun i hi => ?_, h.c.less h1 h2, h.o.less h1 h2, h.d, h.e12, h.e13, h.e23, h.f2, h.f3⟩
  · obtain ⟨t1, t2, t3⟩ := h.t hn
    exact ⟨t1, by omega, by omega⟩
  · obtain ⟨S, cap, g1, g2, g3, g4⟩ := h.k i hi
    exact ⟨S, cap, g1, g2, g3.less h1 h2, g4⟩
theorem StB.at {s : StD} {w : World} {lo hi : Nat} {T C O : Option Addr} {N1 N2 N3 : Nat} {F : Nat → Nat} (h : StB s w lo hi T C O N1 N2 N3 F) : StAt w T C O s := by
  refine ⟨⟨N1, 0, fun hn => ?_, fun i t ht => ?_⟩, h.c.at, h.o.at⟩
  · exact (h.t (fun e => hn (List.length_eq_zero_iff.1 e))).1
  · obtain ⟨hi, rfl⟩ := List.getElem?_eq_some_iff.1 ht
    obtain ⟨S, cap, h1, -, h3, -⟩ := h.k i hi
    exact ⟨S, cap, by rw [Nat.zero_add]; exact h1, h3.at⟩

/-- The state s is what v tells, in blocks from lo on and below hi. -/
structure ResS (s : StD) (w : World) (lo hi : Nat) (v : Value) : Prop where
  r : ∃ T C O N1 N2 N3 F k1 k2 k3, v = .agg #[.slice T s.ts.length k1, .slice C s.cl.length k2, .slice O s.ow.length k3, .int .i64 s.ft] ∧ StB s w lo hi T C O N1 N2 N3 F
  n : s.ts.length ≤ 5 ∧ (∀ t ∈ s.ts, t.sk.length ≤ 8) ∧ s.cl.length ≤ 4 ∧ s.ow.length ≤ 4
  m : StNums s
theorem ress_keep {s : StD} {w w' : World} {lo hi : Nat} {v : Value} (h : ResS s w lo hi v) (hb : Below w.heap.size w w') : ResS s w' lo hi v := by
  obtain ⟨T, C, O, N1, N2, N3, F, k1, k2, k3, h1, h2⟩ := h.r
  exact ⟨⟨T, C, O, N1, N2, N3, F, k1, k2, k3, h1, h2.keep hb⟩, h.n, h.m⟩
theorem ress_less {s : StD} {w : World} {lo lo' hi : Nat} {v : Value} (h : ResS s w lo hi v) (hb : lo' ≤ lo) : ResS s w lo' hi v := by
  obtain ⟨T, C, O, N1, N2, N3, F, k1, k2, k3, h1, h2⟩ := h.r
  exact ⟨⟨T, C, O, N1, N2, N3, F, k1, k2, k3, h1, h2.less hb (Nat.le_refl _)⟩, h.n, h.m⟩
theorem ress_more {s : StD} {w : World} {lo hi hi' : Nat} {v : Value} (h : ResS s w lo hi v) (hb : hi ≤ hi') : ResS s w lo hi' v := by
  obtain ⟨T, C, O, N1, N2, N3, F, k1, k2, k3, h1, h2⟩ := h.r
  exact ⟨⟨T, C, O, N1, N2, N3, F, k1, k2, k3, h1, h2.less (Nat.le_refl _) hb⟩, h.n, h.m⟩
theorem ress_edit {s : StD} {w w' : World} {lo hi : Nat} {v : Value} (h : ResS s w lo hi v) {a b : Nat} (he : Edit a b w w') (hp : b ≤ lo ∨ hi ≤ a) : ResS s w' lo hi v := by
  obtain ⟨T, C, O, N1, N2, N3, F, k1, k2, k3, h1, h2⟩ := h.r
  exact ⟨⟨T, C, O, N1, N2, N3, F, k1, k2, k3, h1, h2.edit he hp⟩, h.n, h.m⟩
theorem ress_eq {s : StD} {w : World} {lo hi lo' hi' : Nat} {v u : Value} (h : ResS s w lo hi v) (h' : ResS s w lo' hi' u) : Calls Tryd.prog 21 #[v, u] w fun e w' => e = .returned (.bool true) ∧ Below w.heap.size w w' := by
  obtain ⟨T, C, O, N1, N2, N3, F, k1, k2, k3, rfl, h2⟩ := h.r
  obtain ⟨T', C', O', N1', N2', N3', F', k1', k2', k3', rfl, h2'⟩ := h'.r
  obtain ⟨n1, n2, n3, n4⟩ := h.n
  exact eqstate_any s T C O T' C' O' k1 k2 k3 k1' k2' k3' ⟨by omega, fun t ht => by have := n2 t ht; omega, by omega, by omega⟩ h.m w h2.at h2'.at
end Go.Proofs.YtdifamjkbagfcaaDoor
