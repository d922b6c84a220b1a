/- FnExactGoodState walked. -/
import Derived.Test.YtdifamjkbagfcaaDoorStK
import Derived.Test.YtdifamjkbagfcaaDoorStL
import Derived.Test.YtdifamjkbagfcaaDoorStF
import Derived.Deep.DeepCutAuto
namespace Go.Proofs.YtdifamjkbagfcaaDoor
open Go.RowKit
open Rd Fl

/-- A program and a state lie boxed, and all that lay below lies there. -/
structure Two (w : World) (cl lk cd : Int) (R : Option Addr) (n cap : Nat) (T C O : Option Addr) (n1 k1 n2 k2 n3 k3 : Nat) (ft : Int) (wx : World) : Prop where
  p : PBox w.heap.size cl lk cd R n cap wx
  s : SBox (w.heap.size + 1) T C O n1 k1 n2 k2 n3 k3 ft wx
  b : Below w.heap.size w wx
theorem Two.keep {w : World} {cl lk cd : Int} {R : Option Addr} {n cap : Nat} {T C O : Option Addr} {n1 k1 n2 k2 n3 k3 : Nat} {ft : Int} {wx wy : World} (h : Two w cl lk cd R n cap T C O n1 k1 n2 k2 n3 k3 ft wx) (hb : Below wx.heap.size wx wy) : Two w cl lk cd R n cap T C O n1 k1 n2 k2 n3 k3 ft wy := ⟨h.p.keep hb, h.s.keep hb, h.b.trans (hb.mono h.b.size)⟩
theorem two_new (w : World) (cl lk cd : Int) (R : Option Addr) (n cap : Nat) (T C O : Option Addr) (n1 k1 n2 k2 n3 k3 : Nat) (ft : Int) (t u : TypeId) : Two w cl lk cd R n cap T C O n1 k1 n2 k2 n3 k3 ft ((w.alloc (.cells #[.int .i64 cl, .int .i64 lk, .int .i64 cd, .slice R n cap] t)).alloc (.cells #[.slice T n1 k1, .slice C n2 k2, .slice O n3 k3, .int .i64 ft] u)) := by
  have hq := sbox_new (w.alloc (.cells #[.int .i64 cl, .int .i64 lk, .int .i64 cd, .slice R n cap] t)) T C O n1 k1 n2 k2 n3 k3 ft u
  rw [show (w.alloc (.cells #[.int .i64 cl, .int .i64 lk, .int .i64 cd, .slice R n cap] t)).heap.size = w.heap.size + 1 by simp] at hq
  exact ⟨(pbox_new w cl lk cd R n cap t).keep ((Below.refl _ _).up _), hq, ((Below.refl _ w).up _).up _⟩

end Go.Proofs.YtdifamjkbagfcaaDoor
