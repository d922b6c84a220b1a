/- impl.ClocksOf. -/
import Derived.Test.YtmflbibogkebmaaQs
import Derived.Test.YtmflbibogkebmaaQe
namespace Go.Proofs.Ytmflbibogkebmaa
open Go.RowKit
open Rd Fl

/-- the clocks below j are there, and the five numbers f lie at N -/
structure ClkN (w wr : World) (l : List EvD) (n M g N : Nat) (j : Nat) (f : Nat → Nat) : Prop where
  k : ClkM w wr n M g n
  gN : g < N
  z : N < wr.heap.size
  tn : wr.there N 0 5
  d : ∀ i, i < j → ∀ t : Nat, t < 5 → wr.cell? ⟨M, i * 5 + t, none⟩ = some (.int .i64 ((clk l i (t : Int) : Nat) : Int))
  f : ∀ t, t < 5 → wr.cell? ⟨N, t, none⟩ = some (.int .i64 (f t))
theorem ClkN.keep {w wr wy : World} {l : List EvD} {n M g N j : Nat} {f : Nat → Nat} (h : ClkN w wr l n M g N j f) (hb : Below wr.heap.size wr wy) : ClkN w wy l n M g N j f :=
  ⟨h.k.keep hb, h.gN, Nat.lt_of_lt_of_le h.z hb.size, there_keep hb h.tn, fun i hi t ht => keep_cell hb (h.d i hi t ht), fun t ht => keep_cell hb (h.f t ht)⟩
/-- only the five numbers have turned -/
theorem ClkN.edit {w wr wy : World} {l : List EvD} {n M g N j : Nat} {f f' : Nat → Nat} (h : ClkN w wr l n M g N j f) (he : Edit N (N + 1) wr wy) (hf : ∀ t, t < 5 → wy.cell? ⟨N, t, none⟩ = some (.int .i64 (f' t))) : ClkN w wy l n M g N j f' := by
  have h1 := h.gN
  have h2 := h.k.mg
  have h3 := h.k.m
  refine ⟨⟨h.k.b.trans (he.b.mono (by omega)), h.k.m, h.k.mg, Nat.lt_of_lt_of_le h.k.z he.b.size, he.th _ _ _ h.k.tm, he.th _ _ _ h.k.tg, fun k hk => he.cell (h.k.c k hk) (by omega)⟩, h.gN, Nat.lt_of_lt_of_le h.z he.b.size, he.th _ _ _ h.tn, fun i hi t ht => he.cell (h.d i hi t ht) (by omega), hf⟩
theorem edit_cells (N : Nat) : ∀ (cs : List Value) (o : Nat) (w : World), Edit N (N + 1) w (w.setCells N o cs)
  | [], _, _ => Edit.refl _ _ _
  | v :: cs, o, w => ((Edit.refl N (N + 1) w).set N o v (Nat.le_refl _) (Nat.lt_succ_self _)).trans (edit_cells N cs (o + 1) _)
theorem five_cells {w : World} {N : Nat} (h : w.there N 0 5) (cs : List Value) (hn : cs.length = 5) (t : Nat) (v : Value) (hv : cs[t]? = some v) : (w.setCells N 0 cs).cell? ⟨N, t, none⟩ = some v := by
  have ht := (List.getElem?_eq_some_iff.1 hv).1
  have := World.cell?_setCells_in N cs 0 w (fun j hj => (h j (by omega)).1) t ht
  rw [Nat.zero_add] at this
  rw [this, ← hv, List.getElem?_eq_getElem ht]

end Go.Proofs.Ytmflbibogkebmaa
