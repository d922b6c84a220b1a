/- Who waits for whom: the specification's side. -/
import Derived.Test.YtdifamjkbagfcaaDoorEo
import Derived.Test.YtdifamjkbagfcaaDoorStJ
namespace Go.Proofs.YtdifamjkbagfcaaDoor
open Go.RowKit
open Rd Fl

/-- A program, a state and a thread lie boxed, and all that lay below lies there. -/
structure Thr (w : World) (cl lk cd : Int) (R : Option Addr) (n cap : Nat) (T C O : Option Addr) (n1 k1 n2 k2 n3 k3 : Nat) (ft : Int) (r0 r1 r2 r3 r4 : Int) (S : Option Addr) (m kp : Nat) (wx : World) : Prop where
  p : PBox w.heap.size cl lk cd R n cap wx
  s : SBox (w.heap.size + 1) T C O n1 k1 n2 k2 n3 k3 ft wx
  t : TBox (w.heap.size + 1 + 1) r0 r1 r2 r3 r4 S m kp wx
  b : Below w.heap.size w wx
theorem Thr.keep {w : World} {cl lk cd : Int} {R : Option Addr} {n cap : Nat} {T C O : Option Addr} {n1 k1 n2 k2 n3 k3 : Nat} {ft : Int} {r0 r1 r2 r3 r4 : Int} {S : Option Addr} {m kp : Nat} {wx wy : World} (h : Thr w cl lk cd R n cap T C O n1 k1 n2 k2 n3 k3 ft r0 r1 r2 r3 r4 S m kp wx) (hb : Below wx.heap.size wx wy) : Thr w cl lk cd R n cap T C O n1 k1 n2 k2 n3 k3 ft r0 r1 r2 r3 r4 S m kp wy := ⟨h.p.keep hb, h.s.keep hb, h.t.keep hb, h.b.trans (hb.mono h.b.size)⟩
def thrW (w : World) (cl lk cd : Int) (R : Option Addr) (n cap : Nat) (T C O : Option Addr) (n1 k1 n2 k2 n3 k3 : Nat) (ft : Int) (r0 r1 r2 r3 r4 : Int) (S : Option Addr) (m kp : Nat) : World := ((w.alloc (.cells #[.int .i64 cl, .int .i64 lk, .int .i64 cd, .slice R n cap] 30)).alloc (.cells #[.slice T n1 k1, .slice C n2 k2, .slice O n3 k3, .int .i64 ft] 43)).alloc (.cells #[.int .i64 r0, .int .i64 r1, .int .i64 r2, .int .i64 r3, .int .i64 r4, .slice S m kp] 88)
theorem thr_new (w : World) (cl lk cd : Int) (R : Option Addr) (n cap : Nat) (T C O : Option Addr) (n1 k1 n2 k2 n3 k3 : Nat) (ft : Int) (r0 r1 r2 r3 r4 : Int) (S : Option Addr) (m kp : Nat) : Thr w cl lk cd R n cap T C O n1 k1 n2 k2 n3 k3 ft r0 r1 r2 r3 r4 S m kp (thrW w cl lk cd R n cap T C O n1 k1 n2 k2 n3 k3 ft r0 r1 r2 r3 r4 S m kp) := by
  have hq := tbox_new (stW w cl lk cd R n cap T C O n1 k1 n2 k2 n3 k3 ft) r0 r1 r2 r3 r4 S m kp 88
  rw [show (stW w cl lk cd R n cap T C O n1 k1 n2 k2 n3 k3 ft).heap.size = w.heap.size + 1 + 1 by unfold stW; simp] at hq
  exact ⟨(stW_p w cl lk cd R n cap T C O n1 k1 n2 k2 n3 k3 ft).keep ((Below.refl _ _).up _), (stW_s w cl lk cd R n cap T C O n1 k1 n2 k2 n3 k3 ft).keep ((Below.refl _ _).up _), hq, below3 w _ _ _⟩

set_option maxRecDepth 20000 in
set_option maxHeartbeats 2000000 in
theorem l3blocks_woken (cl lk cd : Int) (R : Option Addr) (n cap : Nat) (T C : Option Addr) (bo oo : Nat) (n1 k1 n2 k2 n3 k3 : Nat) (ft : Int) (r0 r1 r3 : Int) (l : Nat) (hl : (l : Int) < n3) (S : Option Addr) (m kp : Nat) (x : Int) (w : World) (hc : w.cell? ⟨bo, oo + l, none⟩ = some (.int .i64 x)) :
    Calls Tryd.prog 66 #[.agg #[.int .i64 cl, .int .i64 lk, .int .i64 cd, .slice R n cap], .agg #[.slice T n1 k1, .slice C n2 k2, .slice (some ⟨bo, oo, none⟩) n3 k3, .int .i64 ft], .agg #[.int .i64 r0, .int .i64 r1, .int .i64 4, .int .i64 r3, .int .i64 (l : Int), .slice S m kp]] w fun e w' => e = .returned (.int .i64 x) ∧ Below w.heap.size w w' := by
  have hc2 : (thrW w cl lk cd R n cap T C (some ⟨bo, oo, none⟩) n1 k1 n2 k2 n3 k3 ft r0 r1 4 r3 l S m kp).cell? ⟨bo, oo + l, none⟩ = some (.int .i64 x) := keep_cell (below3 w _ _ _) hc
  unfold thrW at hc2
  have h0 : (0 : Int) ≤ l := by omega
  go_enter Tryd.func66, Tryd.ntmps66
  go_wp2_with fail
  go_ret
  exact ⟨rfl, below3 w _ _ _⟩

set_option maxRecDepth 20000 in
set_option maxHeartbeats 2000000 in
theorem l3blocks_no (cl lk cd : Int) (R : Option Addr) (n cap : Nat) (T C O : Option Addr) (n1 k1 n2 k2 n3 k3 : Nat) (ft : Int) (r0 r1 r2 r3 r4 : Int) (S : Option Addr) (m kp : Nat) (c a b : Int) (v : Nat) (ok : Bool) (h4 : ¬ r2 = 4) (hno : ¬ r2 = 1 ∨ (r2 = 1 ∧ ok = false) ∨ (r2 = 1 ∧ ok = true ∧ ¬ c = 12 ∧ ¬ c = 15)) (w : World)
    (HN : Calls Tryd.prog 93 #[.agg #[.int .i64 cl, .int .i64 lk, .int .i64 cd, .slice R n cap], .agg #[.int .i64 r0, .int .i64 r1, .int .i64 r2, .int .i64 r3, .int .i64 r4, .slice S m kp]] (thrW w cl lk cd R n cap T C O n1 k1 n2 k2 n3 k3 ft r0 r1 r2 r3 r4 S m kp) fun e w' => e = .returned (.tuple #[.agg #[.int .i64 c, .int .i64 a, .int .i64 b, .float .f64 v], .bool ok]) ∧ Below (thrW w cl lk cd R n cap T C O n1 k1 n2 k2 n3 k3 ft r0 r1 r2 r3 r4 S m kp).heap.size (thrW w cl lk cd R n cap T C O n1 k1 n2 k2 n3 k3 ft r0 r1 r2 r3 r4 S m kp) w') :
    Calls Tryd.prog 66 #[.agg #[.int .i64 cl, .int .i64 lk, .int .i64 cd, .slice R n cap], .agg #[.slice T n1 k1, .slice C n2 k2, .slice O n3 k3, .int .i64 ft], .agg #[.int .i64 r0, .int .i64 r1, .int .i64 r2, .int .i64 r3, .int .i64 r4, .slice S m kp]] w fun e w' => e = .returned (.int .i64 (-1)) ∧ Below w.heap.size w w' := by
  have HT := hide' (thr_new w cl lk cd R n cap T C O n1 k1 n2 k2 n3 k3 ft r0 r1 r2 r3 r4 S m kp)
  have HN' := hide' HN
  clear HN
  have hst := store_f
  rcases hno with h1 | ⟨rfl, rfl⟩ | ⟨rfl, rfl, hc1, hc2⟩
  all_goals
    go_enter Tryd.func66, Tryd.ntmps66
    go_wp2_with (go_at_call 93; refine HN'.out.mono ?_; rintro e w1 ⟨rfl, hb1⟩; have T1 := hide' (HT.out.keep hb1); obtain ⟨q0, q1, q2, q3, q4, q5⟩ := T1.out.t; have z1 : w.heap.size + 1 + 1 < w1.heap.size := World.block_lt_of_cell? w1 _ q0)
    go_ret
    exact ⟨rfl, T1.out.b.up _⟩

set_option maxRecDepth 20000 in
set_option maxHeartbeats 2000000 in
theorem l3blocks_lock (cl lk cd : Int) (R : Option Addr) (n cap : Nat) (T C : Option Addr) (bo oo : Nat) (n1 k1 n2 k2 n3 k3 : Nat) (ft : Int) (r0 r1 r3 r4 : Int) (S : Option Addr) (m kp : Nat) (a : Nat) (b : Int) (v : Nat) (ha : (a : Int) < n3) (x : Int) (w : World) (hc : w.cell? ⟨bo, oo + a, none⟩ = some (.int .i64 x))
    (HN : Calls Tryd.prog 93 #[.agg #[.int .i64 cl, .int .i64 lk, .int .i64 cd, .slice R n cap], .agg #[.int .i64 r0, .int .i64 r1, .int .i64 1, .int .i64 r3, .int .i64 r4, .slice S m kp]] (thrW w cl lk cd R n cap T C (some ⟨bo, oo, none⟩) n1 k1 n2 k2 n3 k3 ft r0 r1 1 r3 r4 S m kp) fun e w' => e = .returned (.tuple #[.agg #[.int .i64 12, .int .i64 (a : Int), .int .i64 b, .float .f64 v], .bool true]) ∧ Below (thrW w cl lk cd R n cap T C (some ⟨bo, oo, none⟩) n1 k1 n2 k2 n3 k3 ft r0 r1 1 r3 r4 S m kp).heap.size (thrW w cl lk cd R n cap T C (some ⟨bo, oo, none⟩) n1 k1 n2 k2 n3 k3 ft r0 r1 1 r3 r4 S m kp) w') :
    Calls Tryd.prog 66 #[.agg #[.int .i64 cl, .int .i64 lk, .int .i64 cd, .slice R n cap], .agg #[.slice T n1 k1, .slice C n2 k2, .slice (some ⟨bo, oo, none⟩) n3 k3, .int .i64 ft], .agg #[.int .i64 r0, .int .i64 r1, .int .i64 1, .int .i64 r3, .int .i64 r4, .slice S m kp]] w fun e w' => e = .returned (.int .i64 x) ∧ Below w.heap.size w w' := by
  have HT := hide' (thr_new w cl lk cd R n cap T C (some ⟨bo, oo, none⟩) n1 k1 n2 k2 n3 k3 ft r0 r1 1 r3 r4 S m kp)
  have HN' := hide' HN
  have HC := hide' hc
  clear HN hc
  have hst := store_f
  have h0 : (0 : Int) ≤ a := by omega
  go_enter Tryd.func66, Tryd.ntmps66
  go_wp2_with (go_at_call 93; refine HN'.out.mono ?_; rintro e w1 ⟨rfl, hb1⟩; have T1 := hide' (HT.out.keep hb1); obtain ⟨q0, q1, q2, q3, q4, q5⟩ := T1.out.t; obtain ⟨s0, s1, s2, s3⟩ := T1.out.s; have z1 : w.heap.size + 1 + 1 < w1.heap.size := World.block_lt_of_cell? w1 _ q0; have z2 : w.heap.size + 1 < w1.heap.size := World.block_lt_of_cell? w1 _ s0; have c1 := keep_cell T1.out.b HC.out; have z3 : bo < w1.heap.size := World.block_lt_of_cell? w1 _ c1)
  go_ret
  exact ⟨rfl, T1.out.b.up _⟩

set_option maxRecDepth 20000 in
set_option maxHeartbeats 2000000 in
theorem l3blocks_join (cl lk cd : Int) (R : Option Addr) (n cap : Nat) (T C O : Option Addr) (n1 k1 n2 k2 n3 k3 : Nat) (ft : Int) (r0 r1 r3 r4 : Int) (S : Option Addr) (m kp : Nat) (a b : Int) (v : Nat) (j : Int) (hj : j < 0) (w : World)
    (HN : Calls Tryd.prog 93 #[.agg #[.int .i64 cl, .int .i64 lk, .int .i64 cd, .slice R n cap], .agg #[.int .i64 r0, .int .i64 r1, .int .i64 1, .int .i64 r3, .int .i64 r4, .slice S m kp]] (thrW w cl lk cd R n cap T C O n1 k1 n2 k2 n3 k3 ft r0 r1 1 r3 r4 S m kp) fun e w' => e = .returned (.tuple #[.agg #[.int .i64 15, .int .i64 a, .int .i64 b, .float .f64 v], .bool true]) ∧ Below (thrW w cl lk cd R n cap T C O n1 k1 n2 k2 n3 k3 ft r0 r1 1 r3 r4 S m kp).heap.size (thrW w cl lk cd R n cap T C O n1 k1 n2 k2 n3 k3 ft r0 r1 1 r3 r4 S m kp) w')
    (HJ : ∀ wx, Below w.heap.size w wx → Calls Tryd.prog 94 #[.agg #[.slice T n1 k1, .slice C n2 k2, .slice O n3 k3, .int .i64 ft], .agg #[.int .i64 r0, .int .i64 r1, .int .i64 1, .int .i64 r3, .int .i64 r4, .slice S m kp]] wx fun e w' => e = .returned (.int .i64 j) ∧ Below wx.heap.size wx w') :
    Calls Tryd.prog 66 #[.agg #[.int .i64 cl, .int .i64 lk, .int .i64 cd, .slice R n cap], .agg #[.slice T n1 k1, .slice C n2 k2, .slice O n3 k3, .int .i64 ft], .agg #[.int .i64 r0, .int .i64 r1, .int .i64 1, .int .i64 r3, .int .i64 r4, .slice S m kp]] w fun e w' => e = .returned (.int .i64 (-1)) ∧ Below w.heap.size w w' := by
  have HT := hide' (thr_new w cl lk cd R n cap T C O n1 k1 n2 k2 n3 k3 ft r0 r1 1 r3 r4 S m kp)
  have HN' := hide' HN
  have HJ' := hide' HJ
  clear HN HJ
  have hst := store_f
  go_enter Tryd.func66, Tryd.ntmps66
  go_wp2_with (first | (go_at_call 93; refine HN'.out.mono ?_; rintro e w1 ⟨rfl, hb1⟩; have T1 := hide' (HT.out.keep hb1); obtain ⟨q0, q1, q2, q3, q4, q5⟩ := T1.out.t; obtain ⟨s0, s1, s2, s3⟩ := T1.out.s; have z1 : w.heap.size + 1 + 1 < w1.heap.size := World.block_lt_of_cell? w1 _ q0; have z2 : w.heap.size + 1 < w1.heap.size := World.block_lt_of_cell? w1 _ s0) | (go_at_call 94; refine (HJ'.out _ (T1.out.b.up _)).mono ?_; rintro e w2 ⟨rfl, hb2⟩; have B2 := hide' ((T1.out.b.up _).trans (hb2.mono (T1.out.b.up _).size))))
  go_ret
  exact ⟨rfl, B2.out⟩

set_option maxRecDepth 20000 in
set_option maxHeartbeats 2000000 in
theorem l3blocks_joined (cl lk cd : Int) (R : Option Addr) (n cap : Nat) (bt ot : Nat) (C O : Option Addr) (n1 k1 n2 k2 n3 k3 : Nat) (ft : Int) (r0 r1 r3 r4 : Int) (S : Option Addr) (m kp : Nat) (a b : Int) (v : Nat) (j : Nat) (hj : (j : Int) < n1) (st : Int) (w : World) (hs : w.cell? ⟨bt, ot + j * 6 + 2, none⟩ = some (.int .i64 st))
    (HN : Calls Tryd.prog 93 #[.agg #[.int .i64 cl, .int .i64 lk, .int .i64 cd, .slice R n cap], .agg #[.int .i64 r0, .int .i64 r1, .int .i64 1, .int .i64 r3, .int .i64 r4, .slice S m kp]] (thrW w cl lk cd R n cap (some ⟨bt, ot, none⟩) C O n1 k1 n2 k2 n3 k3 ft r0 r1 1 r3 r4 S m kp) fun e w' => e = .returned (.tuple #[.agg #[.int .i64 15, .int .i64 a, .int .i64 b, .float .f64 v], .bool true]) ∧ Below (thrW w cl lk cd R n cap (some ⟨bt, ot, none⟩) C O n1 k1 n2 k2 n3 k3 ft r0 r1 1 r3 r4 S m kp).heap.size (thrW w cl lk cd R n cap (some ⟨bt, ot, none⟩) C O n1 k1 n2 k2 n3 k3 ft r0 r1 1 r3 r4 S m kp) w')
    (HJ : ∀ wx, Below w.heap.size w wx → Calls Tryd.prog 94 #[.agg #[.slice (some ⟨bt, ot, none⟩) n1 k1, .slice C n2 k2, .slice O n3 k3, .int .i64 ft], .agg #[.int .i64 r0, .int .i64 r1, .int .i64 1, .int .i64 r3, .int .i64 r4, .slice S m kp]] wx fun e w' => e = .returned (.int .i64 (j : Int)) ∧ Below wx.heap.size wx w') :
    Calls Tryd.prog 66 #[.agg #[.int .i64 cl, .int .i64 lk, .int .i64 cd, .slice R n cap], .agg #[.slice (some ⟨bt, ot, none⟩) n1 k1, .slice C n2 k2, .slice O n3 k3, .int .i64 ft], .agg #[.int .i64 r0, .int .i64 r1, .int .i64 1, .int .i64 r3, .int .i64 r4, .slice S m kp]] w fun e w' => e = .returned (.int .i64 (if st = 2 then -1 else j)) ∧ Below w.heap.size w w' := by
  have HT := hide' (thr_new w cl lk cd R n cap (some ⟨bt, ot, none⟩) C O n1 k1 n2 k2 n3 k3 ft r0 r1 1 r3 r4 S m kp)
  have HN' := hide' HN
  have HJ' := hide' HJ
  have HS := hide' hs
  clear HN HJ hs
  have hst := store_f
  have h0 : (0 : Int) ≤ j := by omega
  by_cases h2 : st = 2
  all_goals
    first | subst h2 | rw [if_neg h2]
    go_enter Tryd.func66, Tryd.ntmps66
    go_wp2_with (first | (go_at_call 93; refine HN'.out.mono ?_; rintro e w1 ⟨rfl, hb1⟩; have T1 := hide' (HT.out.keep hb1); obtain ⟨q0, q1, q2, q3, q4, q5⟩ := T1.out.t; obtain ⟨s0, s1, s2, s3⟩ := T1.out.s; have z1 : w.heap.size + 1 + 1 < w1.heap.size := World.block_lt_of_cell? w1 _ q0; have z2 : w.heap.size + 1 < w1.heap.size := World.block_lt_of_cell? w1 _ s0) | (go_at_call 94; refine (HJ'.out _ (T1.out.b.up _)).mono ?_; rintro e w2 ⟨rfl, hb2⟩; have B2 := hide' ((T1.out.b.up _).trans (hb2.mono (T1.out.b.up _).size)); clear q0 q1 q2 q3 q4 q5 s0 s1 s2 s3; obtain ⟨s0, s1, s2, s3⟩ := (T1.out.keep (((Below.refl _ _).up _).trans (hb2.mono (by simp)))).s; have c1 := keep_cell B2.out HS.out))
    go_ret
    exact ⟨rfl, B2.out⟩
end Go.Proofs.YtdifamjkbagfcaaDoor
