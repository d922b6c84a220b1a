/- impl.LayersOf. -/
import Derived.Test.YtbaknjfaplmaiaaRbb
import Derived.Test.YtbaknjfaplmaiaaQf
import Derived.Test.YtbaknjfaplmaiaaQm
namespace Go.Proofs.Ytbaknjfaplmaiaa
open Go.RowKit
open Rd Fl

theorem there_low {B : Nat} {w w' : World} (hb : Below B w w') {N o n : Nat} (hN : N < B) (h : w.there N o n) : w'.there N o n := by
  intro j hj
  obtain ⟨h1, h2⟩ := h j hj
  obtain ⟨v, hv⟩ := Option.isSome_iff_exists.1 h1
  exact ⟨by rw [cellB hb hN hv]; rfl, (hb.frozen (p := ⟨N, o + j, none⟩) hN).trans h2⟩
/-- the layers of the places, F, lie in the block L, and the lists behind it -/
structure LayI (w wr : World) (l : List EvD) (L : Nat) (v : Value) (rvs : List Value) (ls : List (List Int)) (F : Nat → Nat) : Prop where
  b : Below w.heap.size w wr
  l0 : w.heap.size ≤ L
  z : L + 1 ≤ wr.heap.size
  t : wr.there L 0 l.length
  c : ∀ t, t < l.length → wr.cell? ⟨L, t, none⟩ = some (.int .i64 (F t))
  m : LayM wr (L + 1) v rvs ls
theorem LayI.keep {w wr wy : World} {l : List EvD} {L : Nat} {v : Value} {rvs : List Value} {ls : List (List Int)} {F : Nat → Nat} (h : LayI w wr l L v rvs ls F) (hb : Below wr.heap.size wr wy) : LayI w wy l L v rvs ls F :=
  ⟨h.b.trans (hb.mono h.b.size), h.l0, Nat.le_trans h.z hb.size, there_keep hb h.t, fun t ht => keep_cell hb (h.c t ht), h.m.keep hb⟩
theorem LayI.set {w wr : World} {l : List EvD} {L : Nat} {v : Value} {rvs : List Value} {ls : List (List Int)} {F : Nat → Nat} (h : LayI w wr l L v rvs ls F) (k : Nat) (hk : k < l.length) (n : Nat) : LayI w (wr.setCell ⟨L, k, none⟩ (.int .i64 (n : Int))) l L v rvs ls (fun t => if t = k then n else F t) := by
  have hl0 := h.l0
  refine ⟨h.b.setCell (p := ⟨L, k, none⟩) (by show w.heap.size ≤ L; omega) _, h.l0, by rw [World.size_setCell]; exact h.z, there_set h.t _ _ _, fun t ht => ?_, h.m.low L k _ (Nat.lt_succ_self _)⟩
  by_cases e : t = k
  · subst e
    rw [World.cell?_setCell_same _ _ _ (h.c t hk), if_pos rfl]
  · rw [World.cell?_setCell_other _ _ _ _ (by simp <;> omega), if_neg e]
    exact h.c t ht
theorem LayI.cong {w wr : World} {l : List EvD} {L : Nat} {v : Value} {rvs : List Value} {ls ls' : List (List Int)} {F F' : Nat → Nat} (h : LayI w wr l L v rvs ls F) (hl : ls = ls') (hF : ∀ t, t < l.length → F t = F' t) : LayI w wr l L v rvs ls' F' :=
  ⟨h.b, h.l0, h.z, h.t, fun t ht => by rw [← hF t ht]; exact h.c t ht, hl ▸ h.m⟩
theorem LayI.more {w wr w2 w3 : World} {l : List EvD} {L : Nat} {v v' : Value} {rvs : List Value} {ls : List (List Int)} {F : Nat → Nat} (h : LayI w wr l L v rvs ls F) (hb : Below wr.heap.size wr w2) (hown : w3.ownsRow (L + 1) 37 1 v' (ls.length + 1) (rvs ++ [.slice none 0 0])) (hg : w2.grownBy w3 v.ownBlock) : LayI w w3 l L v' (rvs ++ [.slice none 0 0]) (ls ++ [[]]) F := by
  have h2 := h.keep hb
  have hz := h2.z
  have hl0 := h.l0
  have hbb : Below (L + 1) w2 w3 := Below.grown (Below.refl (L + 1) w2) hg h2.z (own_base' h2.m.top)
  exact ⟨h2.b.trans (hbb.mono (by omega)), h.l0, Nat.le_trans hz hg.size, there_low hbb (Nat.lt_succ_self L) h2.t, fun t ht => cellB hbb (Nat.lt_succ_self L) (h2.c t ht), h.m.more hb hown hg⟩
theorem LayI.push {w wr w3 : World} {l : List EvD} {L : Nat} {v u u' : Value} {rvs : List Value} {ls : List (List Int)} {F : Nat → Nat} (h : LayI w wr l L v rvs ls F) {k : Nat} {x : List Int} (a : Int) (hu : rvs[k]? = some u) (hx : ls[k]? = some x) (hown : w3.ownsRow (L + 1) 3 1 u' (x.length + 1) (x.map iv ++ [iv a])) (hg : wr.grownBy w3 u.ownBlock)
    (hblk : u'.ownBlock = u.ownBlock ∨ u'.ownBlock = some wr.heap.size) {g : Nat} (hv : v.ownBlock = some g) : LayI w (w3.setCell ⟨g, k, none⟩ u') l L v (rvs.set k u') (ls.set k (x ++ [a])) F := by
  have hz := h.z
  have hl0 := h.l0
  have hbb : Below (L + 1) wr w3 := Below.grown (Below.refl (L + 1) wr) hg h.z (own_base' (h.m.row k u x hu hx))
  have hgl := (own_blk h.m.top hv).2.1
  have hb2 : Below (L + 1) wr (w3.setCell ⟨g, k, none⟩ u') := hbb.setCell (p := ⟨g, k, none⟩) hgl u'
  exact ⟨h.b.trans (hb2.mono (by omega)), h.l0, by rw [World.size_setCell]; exact Nat.le_trans hz hg.size, there_low hb2 (Nat.lt_succ_self L) h.t, fun t ht => cellB hb2 (Nat.lt_succ_self L) (h.c t ht), h.m.push a hu hx hown hg hblk hv⟩
end Go.Proofs.Ytbaknjfaplmaiaa
