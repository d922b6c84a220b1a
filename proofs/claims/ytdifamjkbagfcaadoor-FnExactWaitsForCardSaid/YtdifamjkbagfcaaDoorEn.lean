/- Who waits for whom: a thread's next op, and the thread that a join names: contracts of both sides. -/
import Derived.Test.YtdifamjkbagfcaaDoorRg
import Derived.Test.YtdifamjkbagfcaaDoorStE
import Derived.Test.YtdifamjkbagfcaaDoorIndex
import Derived.BigQuiet
import Derived.Deep.RegionWith
namespace Go.Proofs.YtdifamjkbagfcaaDoor
open Go.RowKit
open Rd Fl

set_option maxRecDepth 20000 in
set_option maxHeartbeats 2000000 in
theorem l3next_end (cl lk cd : Int) (b off n cap a : Nat) (ha : (a : Int) < n) (pc : Nat) (r2 r3 r4 : Int) (S : Option Addr) (m kp : Nat) (A : Option Addr) (cp : Nat) (w : World) (hc : w.cell? ⟨b, off + a, none⟩ = some (.slice A pc cp)) :
    Calls Tryd.prog 93 #[.agg #[.int .i64 cl, .int .i64 lk, .int .i64 cd, .slice (some ⟨b, off, none⟩) n cap], .agg #[.int .i64 (a : Int), .int .i64 (pc : Int), .int .i64 r2, .int .i64 r3, .int .i64 r4, .slice S m kp]] w fun e w' => e = .returned (.tuple #[.agg #[.int .i64 0, .int .i64 0, .int .i64 0, .float .f64 0], .bool false]) ∧ Below w.heap.size w w' := by
  have hc2 : ((((w.alloc (.cells #[.int .i64 cl, .int .i64 lk, .int .i64 cd, .slice (some ⟨b, off, none⟩) n cap] 30)).alloc (.cells #[.int .i64 (a : Int), .int .i64 (pc : Int), .int .i64 r2, .int .i64 r3, .int .i64 r4, .slice S m kp] 88))).alloc (.cells #[.int .i64 0, .int .i64 0, .int .i64 0, .float .f64 0] 77)).cell? ⟨b, off + a, none⟩ = some (.slice A pc cp) := keep_cell (below3 w _ _ _) hc
  have ha0 : (0 : Int) ≤ a := by omega
  have hst := store_f
  go_enter Tryd.func93, Tryd.ntmps93
  go_wp2_with fail
  refine bodyPost_ret (v := .tuple #[.agg #[.int .i64 0, .int .i64 0, .int .i64 0, .float .f64 0], .bool false]) (by simp [results, Tryd.results93, go_sem]) rfl ⟨rfl, ?_⟩
  repeat refine below_set ?_ _ _ _ (by omega)
  exact below3 w _ _ _

set_option maxRecDepth 20000 in
set_option maxHeartbeats 2000000 in
theorem l3next_op (cl lk cd : Int) (b off n cap a : Nat) (ha : (a : Int) < n) (pc long : Nat) (hpc : (pc : Int) < long) (r2 r3 r4 : Int) (S : Option Addr) (m kp : Nat) (b2 off2 cp : Nat) (o : OpD) (w : World) (hc : w.cell? ⟨b, off + a, none⟩ = some (.slice (some ⟨b2, off2, none⟩) long cp)) (ho : w.rangeAt b2 (off2 + pc * 4) o.cells) :
    Calls Tryd.prog 93 #[.agg #[.int .i64 cl, .int .i64 lk, .int .i64 cd, .slice (some ⟨b, off, none⟩) n cap], .agg #[.int .i64 (a : Int), .int .i64 (pc : Int), .int .i64 r2, .int .i64 r3, .int .i64 r4, .slice S m kp]] w fun e w' => e = .returned (.tuple #[.agg #[.int .i64 o.c, .int .i64 o.a, .int .i64 o.b, .float .f64 (wd o.s o.r)], .bool true]) ∧ Below w.heap.size w w' := by
  have hbw := below3 w (.cells #[.int .i64 cl, .int .i64 lk, .int .i64 cd, .slice (some ⟨b, off, none⟩) n cap] 30) (.cells #[.int .i64 (a : Int), .int .i64 (pc : Int), .int .i64 r2, .int .i64 r3, .int .i64 r4, .slice S m kp] 88) (.cells #[.int .i64 0, .int .i64 0, .int .i64 0, .float .f64 0] 77)
  have hc2 := keep_cell hbw hc
  obtain ⟨d0, d1, d2, d3⟩ := op_range (range_keep hbw ho)
  have ha0 : (0 : Int) ≤ a := by omega
  have hp0 : (0 : Int) ≤ pc := by omega
  have hst := store_f
  clear hbw
  obtain ⟨oc, oa, ob, os, or⟩ := o
  go_enter Tryd.func93, Tryd.ntmps93
  go_wp2_with fail
  refine bodyPost_ret (v := .tuple #[.agg #[.int .i64 oc, .int .i64 oa, .int .i64 ob, .float .f64 (wd os or)], .bool true]) (by simp [results, Tryd.results93, go_sem]) rfl ⟨rfl, ?_⟩
  repeat refine below_set ?_ _ _ _ (by omega)
  exact below3 w _ _ _

set_option maxRecDepth 20000 in
set_option maxHeartbeats 2000000 in
theorem nextop_end (cl lk cd : Int) (b off n cap a : Nat) (ha : (a : Int) < n) (pc : Nat) (r2 r3 r4 : Int) (S : Option Addr) (m kp : Nat) (A : Option Addr) (cp : Nat) (w : World) (hc : w.cell? ⟨b, off + a, none⟩ = some (.slice A pc cp)) :
    Calls Tryd.prog 91 #[.agg #[.int .i64 cl, .int .i64 lk, .int .i64 cd, .slice (some ⟨b, off, none⟩) n cap], .agg #[.int .i64 (a : Int), .int .i64 (pc : Int), .int .i64 r2, .int .i64 r3, .int .i64 r4, .slice S m kp]] w fun e w' => e = .returned (.tuple #[.agg #[.int .i64 0, .int .i64 0, .int .i64 0, .float .f64 0], .bool false]) ∧ Below w.heap.size w w' := by
  have hc2 : ((((w.alloc (.cells #[.int .i64 cl, .int .i64 lk, .int .i64 cd, .slice (some ⟨b, off, none⟩) n cap] 30)).alloc (.cells #[.int .i64 (a : Int), .int .i64 (pc : Int), .int .i64 r2, .int .i64 r3, .int .i64 r4, .slice S m kp] 88))).alloc (.cells #[.int .i64 0, .int .i64 0, .int .i64 0, .float .f64 0] 77)).cell? ⟨b, off + a, none⟩ = some (.slice A pc cp) := keep_cell (below3 w _ _ _) hc
  have ha0 : (0 : Int) ≤ a := by omega
  have hst := store_f
  go_enter Tryd.func91, Tryd.ntmps91
  go_wp2_with fail
  refine bodyPost_ret (v := .tuple #[.agg #[.int .i64 0, .int .i64 0, .int .i64 0, .float .f64 0], .bool false]) (by simp [results, Tryd.results91, go_sem]) rfl ⟨rfl, ?_⟩
  repeat refine below_set ?_ _ _ _ (by omega)
  exact below3 w _ _ _

set_option maxRecDepth 20000 in
set_option maxHeartbeats 2000000 in
theorem nextop_op (cl lk cd : Int) (b off n cap a : Nat) (ha : (a : Int) < n) (pc long : Nat) (hpc : (pc : Int) < long) (r2 r3 r4 : Int) (S : Option Addr) (m kp : Nat) (b2 off2 cp : Nat) (o : OpD) (w : World) (hc : w.cell? ⟨b, off + a, none⟩ = some (.slice (some ⟨b2, off2, none⟩) long cp)) (ho : w.rangeAt b2 (off2 + pc * 4) o.cells) :
    Calls Tryd.prog 91 #[.agg #[.int .i64 cl, .int .i64 lk, .int .i64 cd, .slice (some ⟨b, off, none⟩) n cap], .agg #[.int .i64 (a : Int), .int .i64 (pc : Int), .int .i64 r2, .int .i64 r3, .int .i64 r4, .slice S m kp]] w fun e w' => e = .returned (.tuple #[.agg #[.int .i64 o.c, .int .i64 o.a, .int .i64 o.b, .float .f64 (wd o.s o.r)], .bool true]) ∧ Below w.heap.size w w' := by
  have hbw := below3 w (.cells #[.int .i64 cl, .int .i64 lk, .int .i64 cd, .slice (some ⟨b, off, none⟩) n cap] 30) (.cells #[.int .i64 (a : Int), .int .i64 (pc : Int), .int .i64 r2, .int .i64 r3, .int .i64 r4, .slice S m kp] 88) (.cells #[.int .i64 0, .int .i64 0, .int .i64 0, .float .f64 0] 77)
  have hc2 := keep_cell hbw hc
  obtain ⟨d0, d1, d2, d3⟩ := op_range (range_keep hbw ho)
  have ha0 : (0 : Int) ≤ a := by omega
  have hp0 : (0 : Int) ≤ pc := by omega
  have hst := store_f
  clear hbw
  obtain ⟨oc, oa, ob, os, or⟩ := o
  go_enter Tryd.func91, Tryd.ntmps91
  go_wp2_with fail
  refine bodyPost_ret (v := .tuple #[.agg #[.int .i64 oc, .int .i64 oa, .int .i64 ob, .float .f64 (wd os or)], .bool true]) (by simp [results, Tryd.results91, go_sem]) rfl ⟨rfl, ?_⟩
  repeat refine below_set ?_ _ _ _ (by omega)
  exact below3 w _ _ _
end Go.Proofs.YtdifamjkbagfcaaDoor
