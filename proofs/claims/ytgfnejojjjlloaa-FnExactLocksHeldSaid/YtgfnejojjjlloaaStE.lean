/- States: the copy as a struct. -/
import Derived.Test.YtgfnejojjjlloaaStD
namespace Go.Proofs.Ytgfnejojjjlloaa
open Go.RowKit
open Rd Fl

/-- A state's lists lie in blocks of their own. -/
structure StOwn (w : World) (N1 N2 N3 : Nat) (s : StD) : Prop where
  t : ThOwn w N1 s.ts.length s.ts
  c : LOwn fv w N2 s.cl
  o : LOwn iv w N3 s.ow
theorem StOwn.keep {w w' : World} {N1 N2 N3 : Nat} {s : StD} (h : StOwn w N1 N2 N3 s) (hb : Below w.heap.size w w') : StOwn w' N1 N2 N3 s := ⟨h.t.keep hb, h.c.keep hb, h.o.keep hb⟩
theorem StOwn.at {w : World} {N1 N2 N3 : Nat} {s : StD} (h : StOwn w N1 N2 N3 s) : StAt w (some ⟨N1, 0, none⟩) (some ⟨N2, 0, none⟩) (some ⟨N3, 0, none⟩) s := ⟨h.t.at, h.c.at, h.o.at⟩

end Go.Proofs.Ytgfnejojjjlloaa
