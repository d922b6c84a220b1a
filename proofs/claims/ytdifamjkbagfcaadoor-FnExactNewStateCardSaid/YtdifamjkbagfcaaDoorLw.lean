/- What the walks over the exact laws of a program and a state carry along. -/
import Derived.Test.YtdifamjkbagfcaaDoorMl
import Derived.Test.YtdifamjkbagfcaaDoorGoodStateW
namespace Go.Proofs.YtdifamjkbagfcaaDoor
open Go.RowKit
open Rd Fl

theorem PBox.edit {N : Nat} {cl lk cd : Int} {R : Option Addr} {n cap : Nat} {w w' : World} (h : PBox N cl lk cd R n cap w) {a b : Nat} (he : Edit a b w w') (hp : N < a ∨ b ≤ N) : PBox N cl lk cd R n cap w' := ⟨he.cell h.c0 hp, he.cell h.c1 hp, he.cell h.c2 hp, he.cell h.c3 hp⟩
theorem SBox.edit {N : Nat} {T C O : Option Addr} {n1 k1 n2 k2 n3 k3 : Nat} {ft : Int} {w w' : World} (h : SBox N T C O n1 k1 n2 k2 n3 k3 ft w) {a b : Nat} (he : Edit a b w w') (hp : N < a ∨ b ≤ N) : SBox N T C O n1 k1 n2 k2 n3 k3 ft w' := ⟨he.cell h.c0 hp, he.cell h.c1 hp, he.cell h.c2 hp, he.cell h.c3 hp⟩
theorem Two.edit {w : World} {cl lk cd : Int} {R : Option Addr} {n cap : Nat} {T C O : Option Addr} {n1 k1 n2 k2 n3 k3 : Nat} {ft : Int} {wx wy : World} (h : Two w cl lk cd R n cap T C O n1 k1 n2 k2 n3 k3 ft wx) {a b : Nat} (he : Edit a b wx wy) (hp : w.heap.size + 2 ≤ a) : Two w cl lk cd R n cap T C O n1 k1 n2 k2 n3 k3 ft wy := ⟨h.p.edit he (.inl (by omega)), h.s.edit he (.inl (by omega)), h.b.trans (he.b.mono (by omega))⟩

/-- The arguments' boxes, the copies that were handed in (a program at N, boxed at X; a state at M1, M2, M3, boxed at Y), and in which order they lie. -/
structure Lx (w : World) (cl lk cd : Int) (R : Option Addr) (rs : List (List OpD)) (cap : Nat) (T C O : Option Addr) (s : StD) (n1 k1 n2 k2 n3 k3 : Nat) (ft : Int) (N hp X M1 M2 M3 hs Y : Nat) (wx : World) : Prop where
  t : Two w cl lk cd R rs.length cap T C O n1 k1 n2 k2 n3 k3 ft wx
  x : PBox X cl lk cd (some ⟨N, 0, none⟩) rs.length rs.length wx
  y : SBox Y (some ⟨M1, 0, none⟩) (some ⟨M2, 0, none⟩) (some ⟨M3, 0, none⟩) n1 n1 n2 n2 n3 n3 ft wx
  o : OwnIn wx N hp rs
  s : StIn wx M1 M2 M3 hs s
  q1 : w.heap.size + 2 ≤ N
  q2 : N < hp
  q3 : hp ≤ X
  q4 : X < M1
  q5 : hs ≤ Y
theorem Lx.m {w : World} {cl lk cd : Int} {R : Option Addr} {rs : List (List OpD)} {cap : Nat} {T C O : Option Addr} {s : StD} {n1 k1 n2 k2 n3 k3 : Nat} {ft : Int} {N hp X M1 M2 M3 hs Y : Nat} {wx : World} (h : Lx w cl lk cd R rs cap T C O s n1 k1 n2 k2 n3 k3 ft N hp X M1 M2 M3 hs Y wx) : M1 < hs := by have := h.s.n2; have := h.s.n3; have := h.s.hi; omega
theorem Lx.z {w : World} {cl lk cd : Int} {R : Option Addr} {rs : List (List OpD)} {cap : Nat} {T C O : Option Addr} {s : StD} {n1 k1 n2 k2 n3 k3 : Nat} {ft : Int} {N hp X M1 M2 M3 hs Y : Nat} {wx : World} (h : Lx w cl lk cd R rs cap T C O s n1 k1 n2 k2 n3 k3 ft N hp X M1 M2 M3 hs Y wx) : Y < wx.heap.size := World.block_lt_of_cell? wx _ h.y.c0
theorem Lx.keep {w : World} {cl lk cd : Int} {R : Option Addr} {rs : List (List OpD)} {cap : Nat} {T C O : Option Addr} {s : StD} {n1 k1 n2 k2 n3 k3 : Nat} {ft : Int} {N hp X M1 M2 M3 hs Y : Nat} {wx wy : World} (h : Lx w cl lk cd R rs cap T C O s n1 k1 n2 k2 n3 k3 ft N hp X M1 M2 M3 hs Y wx) (hb : Below wx.heap.size wx wy) : Lx w cl lk cd R rs cap T C O s n1 k1 n2 k2 n3 k3 ft N hp X M1 M2 M3 hs Y wy :=
  ⟨h.t.keep hb, h.x.keep hb, h.y.keep hb, h.o.keep hb, h.s.keep hb, h.q1, h.q2, h.q3, h.q4, h.q5⟩
theorem Lx.editP {w : World} {cl lk cd : Int} {R : Option Addr} {rs : List (List OpD)} {cap : Nat} {T C O : Option Addr} {s : StD} {n1 k1 n2 k2 n3 k3 : Nat} {ft : Int} {N hp X M1 M2 M3 hs Y : Nat} {wx wy : World} (h : Lx w cl lk cd R rs cap T C O s n1 k1 n2 k2 n3 k3 ft N hp X M1 M2 M3 hs Y wx) (he : Edit (N + 1) hp wx wy) : Lx w cl lk cd R rs cap T C O s n1 k1 n2 k2 n3 k3 ft N hp X M1 M2 M3 hs Y wy := by
  have a1 := h.q1; have a2 := h.q2; have a3 := h.q3; have a4 := h.q4; have a5 := h.q5; have a6 := h.m
  exact ⟨h.t.edit he (by omega), h.x.edit he (.inr (by omega)), h.y.edit he (.inr (by omega)), h.o.edit he (.inl (by omega)), h.s.edit he (.inr (by omega)), a1, a2, a3, a4, a5⟩
theorem Lx.editS {w : World} {cl lk cd : Int} {R : Option Addr} {rs : List (List OpD)} {cap : Nat} {T C O : Option Addr} {s : StD} {n1 k1 n2 k2 n3 k3 : Nat} {ft : Int} {N hp X M1 M2 M3 hs Y : Nat} {wx wy : World} (h : Lx w cl lk cd R rs cap T C O s n1 k1 n2 k2 n3 k3 ft N hp X M1 M2 M3 hs Y wx) (he : Edit M1 hs wx wy) : Two w cl lk cd R rs.length cap T C O n1 k1 n2 k2 n3 k3 ft wy := by
  have a1 := h.q1; have a2 := h.q2; have a3 := h.q3; have a4 := h.q4
  exact h.t.edit he (by omega)
end Go.Proofs.YtdifamjkbagfcaaDoor
