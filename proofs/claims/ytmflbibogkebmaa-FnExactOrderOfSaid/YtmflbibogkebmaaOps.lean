/- Ops: what an op uses, whether it is plain: facts and contracts. -/
import Derived.Test.YtmflbibogkebmaaBack
namespace Go.Proofs.Ytmflbibogkebmaa
open Go.RowKit
open Rd Fl

theorem _root_.Go.RowKit.Below.up {w w' : World} (h : Below w.heap.size w w') (o : Obj) : Below w.heap.size w (w'.alloc o) := h.alloc h.size o

theorem store_f (w : World) (a : Addr) (m : Mode) (k : FloatKind) (n : Nat) : (store a (.float k n) m).run Try.prog w = stored Try.prog w a (.float k n) m := run_store _ w a _ m rfl

/-- what an op uses, as the specification spells it -/
def useT (c : Int) : ByteArray := if c = 1 then ⟨#[118]⟩ else if c = 2 ∨ c = 3 ∨ c = 10 ∨ c = 11 ∨ c = 12 ∨ c = 13 ∨ c = 14 ∨ c = 17 then ⟨#[97]⟩ else if c = 16 then ⟨#[97, 98]⟩ else ⟨#[]⟩

end Go.Proofs.Ytmflbibogkebmaa
