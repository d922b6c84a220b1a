/- spec.l1Put: a number put into a list that rises. spec.l1Put at a list that is there. spec.l1Put at any list of its own. -/
import Derived.Test.YtclnnboaehpolaaRi
import Derived.Test.YtclnnboaehpolaaSpD
import Derived.Maps.AppendAt
namespace Go.Proofs.Ytclnnboaehpolaa
open Go.RowKit
open Rd Fl

theorem own_cells {w : World} {B : Nat} {g cap : Nat} {l : List Int} (h : w.ownsRow B 3 1 (.slice (some ⟨g, 0, none⟩) l.length cap) l.length (l.map iv)) : ∀ j (hj : j < l.length), w.cell? ⟨g, j, none⟩ = some (.int .i64 l[j]) := by
  intro j hj
  have hk := h.cellAt j (by omega)
  rw [hk, List.getElem?_map, List.getElem?_eq_getElem hj]; rfl

theorem one_iv (n : Int) : ∀ u ∈ [iv n], u.oneCell' = true := by
  intro u hu
  rw [List.mem_singleton] at hu
  subst hu
  rfl
theorem one_new (w : World) (n : Int) : ∀ j u, [iv n][j]? = some u → (w.alloc (.cells #[.int .i64 n] 3)).cell? ((⟨w.heap.size, 0, none⟩ : Addr).add j) = some u := cell_one_new w (iv n) 3

theorem iv_one (l : List Int) : ∀ u ∈ l.map iv, u.oneCell' = true := by
  intro u hu
  obtain ⟨x, -, rfl⟩ := List.mem_map.1 hu
  rfl
theorem iv_news {w : World} {g : Nat} {l : List Int} (hc : ∀ j (hj : j < l.length), w.cell? ⟨g, j, none⟩ = some (.int .i64 l[j])) (k m : Nat) : ∀ j u, (((l.drop k).take m).map iv)[j]? = some u → w.cell? ((⟨g, k, none⟩ : Addr).add j) = some u := by
  intro j u hu
  rw [List.getElem?_map] at hu
  cases hx : ((l.drop k).take m)[j]? with
  | none => rw [hx] at hu; cases hu
  | some x =>
    rw [hx] at hu
    have hu' : iv x = u := by simpa using hu
    have hjm : j < m := by
      have := (List.getElem?_eq_some_iff.1 hx).1
      simp at this; omega
    rw [List.getElem?_take_of_lt hjm, List.getElem?_drop] at hx
    obtain ⟨h1, h2⟩ := List.getElem?_eq_some_iff.1 hx
    have := hc (k + j) h1
    rw [h2] at this
    rw [← hu']
    rw [Addr.add_lit]; exact this
end Go.Proofs.Ytclnnboaehpolaa
namespace Go.Proofs.Ytclnnboaehpolaa
open Go.RowKit
open Rd Fl

end Go.Proofs.Ytclnnboaehpolaa
namespace Go.Proofs.Ytclnnboaehpolaa
open Go.RowKit
open Rd Fl

/-- What the rounds keep. -/
structure Rsp (w : World) (v : Value) (l : List Int) (wr : World) : Prop where
  b : Below w.heap.size w wr
  o : wr.ownsRow w.heap.size 3 1 v l.length (l.map iv)
theorem Rsp.keep {w : World} {v : Value} {l : List Int} {wr wx : World} (h : Rsp w v l wr) (hb : Below wr.heap.size wr wx) : Rsp w v l wx := ⟨h.b.trans (hb.mono h.b.size), own_keep h.o hb⟩

end Go.Proofs.Ytclnnboaehpolaa
