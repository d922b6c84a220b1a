/- A region that draws its order and whose calls make memory: one walk, in a class of worlds, serves all orders. -/
import Derived.Test.YtdifamjkbagfcaaDoorNum
import Derived.BigQuiet
namespace Go.Proofs.YtdifamjkbagfcaaDoor
open Go.RowKit

/-- A world in which all that W holds lies as in W. -/
structure BW (W : World) where
  w : World
  h : Below W.heap.size W w

theorem BW.ne (W : World) : Nonempty (BW W) := ⟨⟨W, Below.refl _ _⟩⟩
theorem BW.cell {W : World} {b o : Nat} {v : Value} (h : W.cell? ⟨b, o, none⟩ = some v) (x : BW W) : x.w.cell? ⟨b, o, none⟩ = some v :=
  (x.h.cell (World.block_lt_of_cell? W _ h)).trans h

theorem bw_of {P : Program} {f : FuncId} {args : Array Value} {W : World} {x : BW W} {v : Value}
    (h : Calls P f args x.w fun e w' => e = .returned v ∧ Below x.w.heap.size x.w w') : Calls P f args x.w fun e w'' => e = .returned v ∧ ∃ y : BW W, w'' = y.w :=
  h.mono fun _ w1 ⟨he, hb⟩ => ⟨he, ⟨w1, x.h.trans (hb.mono x.h.size)⟩, rfl⟩

theorem wp_region_bw {P : Program} {id : Nat} {Q : Exit → Act → World → Prop} {a : Act} {W : World} {l : List Oper} (hm : P.follows .mixedOrders = true) (hB : Region.lexB .any l.toArray = true)
    (h : wpQuiet P l.toArray (fun w' => ∃ x : BW W, w' = x.w) (fun a' => ∀ w', (∃ x : BW W, w' = x.w) → Q .normal a' w') l a) : (Code.region id l.toArray true).wp P Q a W :=
  wp_region_quiet (C := fun w' => ∃ x : BW W, w' = x.w) hm hB ⟨⟨_, (Below.refl _ W).drew⟩, rfl⟩ h

end Go.Proofs.YtdifamjkbagfcaaDoor
