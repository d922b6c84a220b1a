/- The drawn texts: spec.l1Cur's of. -/
import Derived.Test.YtjijinjedeinmaaDoorDraws
namespace Go.Proofs.YtjijinjedeinmaaDoor
open Go.RowKit
open Fl

set_option maxRecDepth 20000 in
set_option maxHeartbeats 1000000 in
theorem of_any (N lb len cap pos : Nat) (a : Option Addr) (xs : List ByteArray) (w : World) (h : Cur w N a len cap pos) (hs : Src w N a len) (hpos : pos ≤ 2000000) (hx : ∀ i v, xs[i]? = some v → w.cell? ⟨lb, i, none⟩ = some (.string v)) (hlb : lb ≠ N) (hl : 1 ≤ xs.length) (hl2 : xs.length ≤ 1000) :
    Calls Tryd.prog 52 #[.pointer (some ⟨N, 0, none⟩), .slice (some ⟨lb, 0, none⟩) xs.length xs.length] w fun e w' => (∃ v, v ∈ xs ∧ e = .returned (.string v)) ∧ (∃ pos', pos' ≤ pos + 2 ∧ Cur w' N a len cap pos') ∧ Off N w w' := by
  have HC := hidec h
  have HS := hidec hs
  have HP := hidec hpos
  have HX := hidec hx
  have HL := hidec hlb
  have h1 : (1 : Int) ≤ xs.length := by omega
  have h2 : (xs.length : Int) ≤ 1000 := by omega
  have HK := hidec (fun w h hs => pick_any N len cap pos a (xs.length : Int) w h hs hpos h1 (by omega))
  clear h hs hpos hx hlb
  go_enter Tryd.func52, Tryd.ntmps52
  go_wp2_with fail
  refine (HK.out _ HC.out HS.out).mono ?_
  rintro e w1 ⟨⟨v1, rfl, hv1, hv2⟩, hc1, hb1⟩
  obtain ⟨j, rfl⟩ : ∃ j : Nat, v1 = j := ⟨v1.toNat, by omega⟩
  have hj : j < xs.length := by omega
  have hcell : w1.cell? ⟨lb, j, none⟩ = some (.string xs[j]) := (hb1.cell (p := ⟨lb, j, none⟩) HL.out).trans (HX.out j _ (List.getElem?_eq_getElem hj))
  clear hl hl2
  go_wp2_with fail
  go_ret
  exact ⟨⟨xs[j], List.getElem_mem hj, rfl⟩, hc1, hb1⟩

theorem texts_at (w : World) (xs : List ByteArray) (t : TypeId) : ∀ i v, xs[i]? = some v → (w.alloc (.cells (xs.map Value.string).toArray t)).cell? ⟨w.heap.size, i, none⟩ = some (.string v) := by
  intro i v h
  rw [World.cell?_alloc_new]
  simp [h]

/-- A text of a list that has just been laid. -/
theorem of_new (N len cap pos : Nat) (t : TypeId) (a : Option Addr) (xs : List ByteArray) (w : World) (lb : Nat) (hlb : lb = w.heap.size) (h : Cur w N a len cap pos) (hs : Src w N a len) (hpos : pos ≤ 2000000) (hN : N < w.heap.size) (hl : 1 ≤ xs.length) (hl2 : xs.length ≤ 1000) :
    Calls Tryd.prog 52 #[.pointer (some ⟨N, 0, none⟩), .slice (some ⟨lb, 0, none⟩) xs.length xs.length] (w.alloc (.cells (xs.map Value.string).toArray t)) fun e w' => (∃ v, v ∈ xs ∧ e = .returned (.string v)) ∧ (∃ pos', pos' ≤ pos + 2 ∧ Cur w' N a len cap pos') ∧ Below N w w' := by
  subst hlb
  have hb : Below N w (w.alloc (.cells (xs.map Value.string).toArray t)) := (Below.refl N w).alloc (by omega) _
  refine (of_any N w.heap.size len cap pos a xs _ (h.alloc hN _) (hs.below hb) hpos (texts_at w xs t) (by omega) hl hl2).mono ?_
  rintro e w' ⟨h1, h2, h3⟩
  exact ⟨h1, h2, hb.trans h3.below⟩
end Go.Proofs.YtjijinjedeinmaaDoor
