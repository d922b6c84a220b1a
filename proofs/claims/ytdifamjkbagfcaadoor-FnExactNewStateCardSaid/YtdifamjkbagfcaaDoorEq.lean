/- Who waits for whom: the code's side. -/
import Derived.Test.YtdifamjkbagfcaaDoorEp
namespace Go.Proofs.YtdifamjkbagfcaaDoor
open Go.RowKit
open Rd Fl

theorem six_range {w : World} {b o : Nat} {r0 r1 r2 r3 r4 : Int} {S : Option Addr} {m kp : Nat} (h : w.rangeAt b o [.int .i64 r0, .int .i64 r1, .int .i64 r2, .int .i64 r3, .int .i64 r4, .slice S m kp]) : w.cell? ⟨b, o, none⟩ = some (.int .i64 r0) ∧ w.cell? ⟨b, o + 1, none⟩ = some (.int .i64 r1) ∧ w.cell? ⟨b, o + 2, none⟩ = some (.int .i64 r2) ∧ w.cell? ⟨b, o + 3, none⟩ = some (.int .i64 r3) ∧ w.cell? ⟨b, o + 4, none⟩ = some (.int .i64 r4) ∧ w.cell? ⟨b, o + 5, none⟩ = some (.slice S m kp) :=
  ⟨h 0 _ rfl, h 1 _ rfl, h 2 _ rfl, h 3 _ rfl, h 4 _ rfl, h 5 _ rfl⟩

set_option maxRecDepth 20000 in
set_option maxHeartbeats 2000000 in
theorem waitson_woken (cl lk cd : Int) (R : Option Addr) (n cap : Nat) (bt ot : Nat) (C  : Option Addr) (n1 k1 n2 k2 n3 k3 : Nat) (ft : Int) (bo oo : Nat) (t : Nat) (ht : (t : Int) < n1) (r0 r1 r3 : Int) (l : Nat) (hl : (l : Int) < n3) (S : Option Addr) (m kp : Nat) (x : Int) (w : World) (hc : w.cell? ⟨bo, oo + l, none⟩ = some (.int .i64 x)) (hr : w.rangeAt bt (ot + t * 6) [.int .i64 r0, .int .i64 r1, .int .i64 4, .int .i64 r3, .int .i64 (l : Int), .slice S m kp]) :
    Calls Tryd.prog 65 #[.agg #[.int .i64 cl, .int .i64 lk, .int .i64 cd, .slice R n cap], .agg #[.slice (some ⟨bt, ot, none⟩) n1 k1, .slice C n2 k2, .slice (some ⟨bo, oo, none⟩) n3 k3, .int .i64 ft], .int .i64 (t : Int)] w fun e w' => e = .returned (.int .i64 x) ∧ Below w.heap.size w w' := by
  have hc2 : (thrW w cl lk cd R n cap (some ⟨bt, ot, none⟩) C (some ⟨bo, oo, none⟩) n1 k1 n2 k2 n3 k3 ft r0 r1 4 r3 l S m kp).cell? ⟨bo, oo + l, none⟩ = some (.int .i64 x) := keep_cell (below3 w _ _ _) hc
  unfold thrW at hc2
  have h0 : (0 : Int) ≤ l := by omega
  have h00 : (0 : Int) ≤ t := by omega
  obtain ⟨t0, t1, t2, t3, t4, t5⟩ := six_range (range_keep (stW_below w cl lk cd R n cap (some ⟨bt, ot, none⟩) C (some ⟨bo, oo, none⟩) n1 k1 n2 k2 n3 k3 ft) hr)
  unfold stW at t0 t1 t2 t3 t4 t5
  clear hr
  go_enter Tryd.func65, Tryd.ntmps65
  go_wp2_with fail
  go_ret
  exact ⟨rfl, below3 w _ _ _⟩

set_option maxRecDepth 20000 in
set_option maxHeartbeats 2000000 in
theorem waitson_other (cl lk cd : Int) (R : Option Addr) (n cap : Nat) (bt ot : Nat) (C O : Option Addr) (n1 k1 n2 k2 n3 k3 : Nat) (ft : Int) (t : Nat) (ht : (t : Int) < n1) (r0 r1 r2 r3 r4 : Int) (S : Option Addr) (m kp : Nat) (h4 : ¬ r2 = 4) (h1 : ¬ r2 = 1) (w : World) (hr : w.rangeAt bt (ot + t * 6) [.int .i64 r0, .int .i64 r1, .int .i64 r2, .int .i64 r3, .int .i64 r4, .slice S m kp]) :
    Calls Tryd.prog 65 #[.agg #[.int .i64 cl, .int .i64 lk, .int .i64 cd, .slice R n cap], .agg #[.slice (some ⟨bt, ot, none⟩) n1 k1, .slice C n2 k2, .slice O n3 k3, .int .i64 ft], .int .i64 (t : Int)] w fun e w' => e = .returned (.int .i64 (-1)) ∧ Below w.heap.size w w' := by
  have h00 : (0 : Int) ≤ t := by omega
  obtain ⟨t0, t1, t2, t3, t4, t5⟩ := six_range (range_keep (stW_below w cl lk cd R n cap (some ⟨bt, ot, none⟩) C O n1 k1 n2 k2 n3 k3 ft) hr)
  unfold stW at t0 t1 t2 t3 t4 t5
  clear hr
  go_enter Tryd.func65, Tryd.ntmps65
  go_wp2_with fail
  go_ret
  exact ⟨rfl, below3 w _ _ _⟩

set_option maxRecDepth 20000 in
set_option maxHeartbeats 2000000 in
theorem waitson_no (cl lk cd : Int) (R : Option Addr) (n cap : Nat) (bt ot : Nat) (C O : Option Addr) (n1 k1 n2 k2 n3 k3 : Nat) (ft : Int) (t : Nat) (ht : (t : Int) < n1) (r0 r1 r3 r4 : Int) (S : Option Addr) (m kp : Nat) (c a b : Int) (v : Nat) (ok : Bool) (hc1 : ¬ c = 12) (hc2 : ¬ c = 15) (w : World) (hr : w.rangeAt bt (ot + t * 6) [.int .i64 r0, .int .i64 r1, .int .i64 1, .int .i64 r3, .int .i64 r4, .slice S m kp])
    (HN : Calls Tryd.prog 91 #[.agg #[.int .i64 cl, .int .i64 lk, .int .i64 cd, .slice R n cap], .agg #[.int .i64 r0, .int .i64 r1, .int .i64 1, .int .i64 r3, .int .i64 r4, .slice S m kp]] (thrW w cl lk cd R n cap (some ⟨bt, ot, none⟩) C O n1 k1 n2 k2 n3 k3 ft r0 r1 1 r3 r4 S m kp) fun e w' => e = .returned (.tuple #[.agg #[.int .i64 c, .int .i64 a, .int .i64 b, .float .f64 v], .bool ok]) ∧ Below (thrW w cl lk cd R n cap (some ⟨bt, ot, none⟩) C O n1 k1 n2 k2 n3 k3 ft r0 r1 1 r3 r4 S m kp).heap.size (thrW w cl lk cd R n cap (some ⟨bt, ot, none⟩) C O n1 k1 n2 k2 n3 k3 ft r0 r1 1 r3 r4 S m kp) w') :
    Calls Tryd.prog 65 #[.agg #[.int .i64 cl, .int .i64 lk, .int .i64 cd, .slice R n cap], .agg #[.slice (some ⟨bt, ot, none⟩) n1 k1, .slice C n2 k2, .slice O n3 k3, .int .i64 ft], .int .i64 (t : Int)] w fun e w' => e = .returned (.int .i64 (-1)) ∧ Below w.heap.size w w' := by
  have HT := hide' (thr_new w cl lk cd R n cap (some ⟨bt, ot, none⟩) C O n1 k1 n2 k2 n3 k3 ft r0 r1 1 r3 r4 S m kp)
  have HN' := hide' HN
  clear HN
  have hst := store_f
  have h00 : (0 : Int) ≤ t := by omega
  obtain ⟨t0, t1, t2, t3, t4, t5⟩ := six_range (range_keep (stW_below w cl lk cd R n cap (some ⟨bt, ot, none⟩) C O n1 k1 n2 k2 n3 k3 ft) hr)
  unfold stW at t0 t1 t2 t3 t4 t5
  clear hr
  go_enter Tryd.func65, Tryd.ntmps65
  go_wp2_with (go_at_call 91; refine HN'.out.mono ?_; rintro e w1 ⟨rfl, hb1⟩; have T1 := hide' (HT.out.keep hb1); clear t0 t1 t2 t3 t4 t5; obtain ⟨q0, q1, q2, q3, q4, q5⟩ := T1.out.t; obtain ⟨s0, s1, s2, s3⟩ := T1.out.s; have z1 : w.heap.size + 1 + 1 < w1.heap.size := World.block_lt_of_cell? w1 _ q0; have z2 : w.heap.size + 1 < w1.heap.size := World.block_lt_of_cell? w1 _ s0)
  go_ret
  exact ⟨rfl, T1.out.b.up _⟩

set_option maxRecDepth 20000 in
set_option maxHeartbeats 2000000 in
theorem waitson_lock (cl lk cd : Int) (R : Option Addr) (n cap : Nat) (bt ot : Nat) (C  : Option Addr) (n1 k1 n2 k2 n3 k3 : Nat) (ft : Int) (bo oo : Nat) (t : Nat) (ht : (t : Int) < n1) (r0 r1 r3 r4 : Int) (S : Option Addr) (m kp : Nat) (a : Nat) (b : Int) (v : Nat) (ha : (a : Int) < n3) (x : Int) (w : World) (hc : w.cell? ⟨bo, oo + a, none⟩ = some (.int .i64 x)) (hr : w.rangeAt bt (ot + t * 6) [.int .i64 r0, .int .i64 r1, .int .i64 1, .int .i64 r3, .int .i64 r4, .slice S m kp])
    (HN : Calls Tryd.prog 91 #[.agg #[.int .i64 cl, .int .i64 lk, .int .i64 cd, .slice R n cap], .agg #[.int .i64 r0, .int .i64 r1, .int .i64 1, .int .i64 r3, .int .i64 r4, .slice S m kp]] (thrW w cl lk cd R n cap (some ⟨bt, ot, none⟩) C (some ⟨bo, oo, none⟩) n1 k1 n2 k2 n3 k3 ft r0 r1 1 r3 r4 S m kp) fun e w' => e = .returned (.tuple #[.agg #[.int .i64 12, .int .i64 (a : Int), .int .i64 b, .float .f64 v], .bool true]) ∧ Below (thrW w cl lk cd R n cap (some ⟨bt, ot, none⟩) C (some ⟨bo, oo, none⟩) n1 k1 n2 k2 n3 k3 ft r0 r1 1 r3 r4 S m kp).heap.size (thrW w cl lk cd R n cap (some ⟨bt, ot, none⟩) C (some ⟨bo, oo, none⟩) n1 k1 n2 k2 n3 k3 ft r0 r1 1 r3 r4 S m kp) w') :
    Calls Tryd.prog 65 #[.agg #[.int .i64 cl, .int .i64 lk, .int .i64 cd, .slice R n cap], .agg #[.slice (some ⟨bt, ot, none⟩) n1 k1, .slice C n2 k2, .slice (some ⟨bo, oo, none⟩) n3 k3, .int .i64 ft], .int .i64 (t : Int)] w fun e w' => e = .returned (.int .i64 x) ∧ Below w.heap.size w w' := by
  have HT := hide' (thr_new w cl lk cd R n cap (some ⟨bt, ot, none⟩) C (some ⟨bo, oo, none⟩) n1 k1 n2 k2 n3 k3 ft r0 r1 1 r3 r4 S m kp)
  have HN' := hide' HN
  have HC := hide' hc
  clear HN hc
  have hst := store_f
  have h0 : (0 : Int) ≤ a := by omega
  have h00 : (0 : Int) ≤ t := by omega
  obtain ⟨t0, t1, t2, t3, t4, t5⟩ := six_range (range_keep (stW_below w cl lk cd R n cap (some ⟨bt, ot, none⟩) C (some ⟨bo, oo, none⟩) n1 k1 n2 k2 n3 k3 ft) hr)
  unfold stW at t0 t1 t2 t3 t4 t5
  clear hr
  go_enter Tryd.func65, Tryd.ntmps65
  go_wp2_with (go_at_call 91; refine HN'.out.mono ?_; rintro e w1 ⟨rfl, hb1⟩; have T1 := hide' (HT.out.keep hb1); clear t0 t1 t2 t3 t4 t5; obtain ⟨q0, q1, q2, q3, q4, q5⟩ := T1.out.t; obtain ⟨s0, s1, s2, s3⟩ := T1.out.s; have z1 : w.heap.size + 1 + 1 < w1.heap.size := World.block_lt_of_cell? w1 _ q0; have z2 : w.heap.size + 1 < w1.heap.size := World.block_lt_of_cell? w1 _ s0; have c1 := keep_cell T1.out.b HC.out; have z3 : bo < w1.heap.size := World.block_lt_of_cell? w1 _ c1)
  go_ret
  exact ⟨rfl, T1.out.b.up _⟩

set_option maxRecDepth 20000 in
set_option maxHeartbeats 2000000 in
theorem waitson_join (cl lk cd : Int) (R : Option Addr) (n cap : Nat) (bt ot : Nat) (C O : Option Addr) (n1 k1 n2 k2 n3 k3 : Nat) (ft : Int) (t : Nat) (ht : (t : Int) < n1) (r0 r1 r3 r4 : Int) (S : Option Addr) (m kp : Nat) (a b : Int) (v : Nat) (j : Int) (w : World) (hr : w.rangeAt bt (ot + t * 6) [.int .i64 r0, .int .i64 r1, .int .i64 1, .int .i64 r3, .int .i64 r4, .slice S m kp])
    (HN : Calls Tryd.prog 91 #[.agg #[.int .i64 cl, .int .i64 lk, .int .i64 cd, .slice R n cap], .agg #[.int .i64 r0, .int .i64 r1, .int .i64 1, .int .i64 r3, .int .i64 r4, .slice S m kp]] (thrW w cl lk cd R n cap (some ⟨bt, ot, none⟩) C O n1 k1 n2 k2 n3 k3 ft r0 r1 1 r3 r4 S m kp) fun e w' => e = .returned (.tuple #[.agg #[.int .i64 15, .int .i64 a, .int .i64 b, .float .f64 v], .bool true]) ∧ Below (thrW w cl lk cd R n cap (some ⟨bt, ot, none⟩) C O n1 k1 n2 k2 n3 k3 ft r0 r1 1 r3 r4 S m kp).heap.size (thrW w cl lk cd R n cap (some ⟨bt, ot, none⟩) C O n1 k1 n2 k2 n3 k3 ft r0 r1 1 r3 r4 S m kp) w')
    (HJ : ∀ wx, Below w.heap.size w wx → Calls Tryd.prog 92 #[.agg #[.slice (some ⟨bt, ot, none⟩) n1 k1, .slice C n2 k2, .slice O n3 k3, .int .i64 ft], .slice S m kp] wx fun e w' => e = .returned (.int .i64 j) ∧ Below wx.heap.size wx w') :
    Calls Tryd.prog 65 #[.agg #[.int .i64 cl, .int .i64 lk, .int .i64 cd, .slice R n cap], .agg #[.slice (some ⟨bt, ot, none⟩) n1 k1, .slice C n2 k2, .slice O n3 k3, .int .i64 ft], .int .i64 (t : Int)] w fun e w' => e = .returned (.int .i64 j) ∧ Below w.heap.size w w' := by
  have HT := hide' (thr_new w cl lk cd R n cap (some ⟨bt, ot, none⟩) C O n1 k1 n2 k2 n3 k3 ft r0 r1 1 r3 r4 S m kp)
  have HN' := hide' HN
  have HJ' := hide' HJ
  clear HN HJ
  have hst := store_f
  have h00 : (0 : Int) ≤ t := by omega
  obtain ⟨t0, t1, t2, t3, t4, t5⟩ := six_range (range_keep (stW_below w cl lk cd R n cap (some ⟨bt, ot, none⟩) C O n1 k1 n2 k2 n3 k3 ft) hr)
  unfold stW at t0 t1 t2 t3 t4 t5
  clear hr
  go_enter Tryd.func65, Tryd.ntmps65
  go_wp2_with (first | (go_at_call 91; refine HN'.out.mono ?_; rintro e w1 ⟨rfl, hb1⟩; have T1 := hide' (HT.out.keep hb1); clear t0 t1 t2 t3 t4 t5; obtain ⟨q0, q1, q2, q3, q4, q5⟩ := T1.out.t; obtain ⟨s0, s1, s2, s3⟩ := T1.out.s; have z1 : w.heap.size + 1 + 1 < w1.heap.size := World.block_lt_of_cell? w1 _ q0; have z2 : w.heap.size + 1 < w1.heap.size := World.block_lt_of_cell? w1 _ s0) | (go_at_call 92; refine (HJ'.out _ (T1.out.b.up _)).mono ?_; rintro e w2 ⟨rfl, hb2⟩; have B2 := hide' ((T1.out.b.up _).trans (hb2.mono (T1.out.b.up _).size))))
  go_ret
  exact ⟨rfl, B2.out⟩
end Go.Proofs.YtdifamjkbagfcaaDoor
