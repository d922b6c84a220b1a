/- Who waits for whom: the thread that a join names: contracts of both sides. -/
import Derived.Test.YtdifamjkbagfcaaDoorEn
namespace Go.Proofs.YtdifamjkbagfcaaDoor
open Go.RowKit
open Rd Fl

theorem ti_lt {s : Bool} {r : Nat} {m : Int} (h : tiB s r m = true) : ∃ k : Nat, tiN s r m = k ∧ (k : Int) < m := by
  refine ⟨val r / 2 ^ E, by unfold tiN; rw [if_pos h], ?_⟩
  unfold tiB at h
  rw [Bool.and_eq_true, decide_eq_true_eq] at h
  obtain ⟨⟨h1, h2, h3, h4, h5⟩, -⟩ := h
  have : val r / 2 ^ E < m.toNat := (Nat.div_lt_iff_lt_mul (Nat.two_pow_pos _)).2 h5
  omega

/-- the thread that the last number tells, -1 where it tells none -/
def joinN (n : Nat) (sk : List (Bool × Nat)) : Int := match sk.getLast? with | none => -1 | some x => if tiB x.1 x.2 n = true then tiN x.1 x.2 n else -1

set_option maxRecDepth 20000 in
set_option maxHeartbeats 2000000 in
theorem l3joins_none (T C O : Option Addr) (n1 k1 n2 k2 n3 k3 : Nat) (ft : Int) (r0 r1 r2 r3 r4 : Int) (S : Option Addr) (kp : Nat) (w : World) :
    Calls Tryd.prog 94 #[.agg #[.slice T n1 k1, .slice C n2 k2, .slice O n3 k3, .int .i64 ft], .agg #[.int .i64 r0, .int .i64 r1, .int .i64 r2, .int .i64 r3, .int .i64 r4, .slice S 0 kp]] w fun e w' => e = .returned (.int .i64 (-1)) ∧ Below w.heap.size w w' := by
  go_enter Tryd.func94, Tryd.ntmps94
  go_wp2_with fail
  go_ret
  exact ⟨rfl, below2 w _ _⟩

set_option maxRecDepth 20000 in
set_option maxHeartbeats 2000000 in
theorem l3joins_some (T C O : Option Addr) (n1 k1 n2 k2 n3 k3 : Nat) (ft : Int) (r0 r1 r2 r3 r4 : Int) (b off m kp : Nat) (hm : (m : Int) ≤ 8) (s : Bool) (r : Nat) (hr : r < 9223372036854775808) (w : World) (hc : w.cell? ⟨b, off + m, none⟩ = some (.float .f64 (wd s r))) :
    Calls Tryd.prog 94 #[.agg #[.slice T n1 k1, .slice C n2 k2, .slice O n3 k3, .int .i64 ft], .agg #[.int .i64 r0, .int .i64 r1, .int .i64 r2, .int .i64 r3, .int .i64 r4, .slice (some ⟨b, off, none⟩) (m + 1) kp]] w fun e w' => e = .returned (.int .i64 (if tiB s r n1 = true then tiN s r n1 else -1)) ∧ Below w.heap.size w w' := by
  have hbw := below2 w (.cells #[.slice T n1 k1, .slice C n2 k2, .slice O n3 k3, .int .i64 ft] 43) (.cells #[.int .i64 r0, .int .i64 r1, .int .i64 r2, .int .i64 r3, .int .i64 r4, .slice (some ⟨b, off, none⟩) (m + 1) kp] 88)
  have hc2 := keep_cell hbw hc
  clear hbw hc
  have HT := hide' (fun w => stoix_any s r hr n1 w)
  clear hr
  generalize tiN s r n1 = k at HT
  have hm1 : ((m + 1 : Nat) : Int) - 1 = m := by omega
  have hm2 : ¬ ((m + 1 : Nat) : Int) = 0 := by omega
  cases hb : tiB s r n1
  all_goals
    rw [hb] at HT
    clear hb
    go_enter Tryd.func94, Tryd.ntmps94
    go_wp2_with fail
    go_quiet ((go_at_call 122; exact Calls.quiet_of_same (HT.out _)))
    go_wp2_with fail
    go_ret
    exact ⟨rfl, below_draws (below2 w _ _) _⟩

set_option maxRecDepth 20000 in
set_option maxHeartbeats 2000000 in
theorem joinson_none (T C O : Option Addr) (n1 k1 n2 k2 n3 k3 : Nat) (ft : Int) (S : Option Addr) (kp : Nat) (w : World) :
    Calls Tryd.prog 92 #[.agg #[.slice T n1 k1, .slice C n2 k2, .slice O n3 k3, .int .i64 ft], .slice S 0 kp] w fun e w' => e = .returned (.int .i64 (-1)) ∧ Below w.heap.size w w' := by
  go_enter Tryd.func92, Tryd.ntmps92
  go_wp2_with fail
  go_ret
  exact ⟨rfl, (Below.refl _ w).up _⟩

set_option maxRecDepth 20000 in
set_option maxHeartbeats 2000000 in
theorem joinson_no (T C O : Option Addr) (n1 k1 n2 k2 n3 k3 : Nat) (ft : Int) (b off m kp : Nat) (hm : (m : Int) ≤ 8) (s : Bool) (r : Nat) (hr : r < 9223372036854775808) (hb : tiB s r n1 = false) (w : World) (hc : w.cell? ⟨b, off + m, none⟩ = some (.float .f64 (wd s r))) :
    Calls Tryd.prog 92 #[.agg #[.slice T n1 k1, .slice C n2 k2, .slice O n3 k3, .int .i64 ft], .slice (some ⟨b, off, none⟩) (m + 1) kp] w fun e w' => e = .returned (.int .i64 (-1)) ∧ Below w.heap.size w w' := by
  have hc2 : (w.alloc (.cells #[.slice T n1 k1, .slice C n2 k2, .slice O n3 k3, .int .i64 ft] 43)).cell? ⟨b, off + m, none⟩ = some (.float .f64 (wd s r)) := keep_cell ((Below.refl _ w).up _) hc
  clear hc
  have HT := hide' (fun w => itoix_any s r hr n1 w)
  rw [hb] at HT
  clear hr hb
  have hm1 : ((m + 1 : Nat) : Int) - 1 = m := by omega
  have hm2 : ¬ ((m + 1 : Nat) : Int) = 0 := by omega
  go_enter Tryd.func92, Tryd.ntmps92
  go_wp2_with fail
  go_quiet ((go_at_call 121; exact Calls.quiet_of_same (HT.out _)))
  go_wp2_with fail
  go_ret
  exact ⟨rfl, below_draws ((Below.refl _ w).up _) _⟩

set_option maxRecDepth 20000 in
set_option maxHeartbeats 2000000 in
theorem joinson_yes (bt ot : Nat) (C O : Option Addr) (n1 k1 n2 k2 n3 k3 : Nat) (ft : Int) (b off m kp : Nat) (hm : (m : Int) ≤ 8) (s : Bool) (r : Nat) (hr : r < 9223372036854775808) (hb : tiB s r n1 = true) (k : Nat) (hk : tiN s r n1 = k) (hkn : (k : Int) < n1) (st : Int) (w : World) (hc : w.cell? ⟨b, off + m, none⟩ = some (.float .f64 (wd s r))) (hst : w.cell? ⟨bt, ot + k * 6 + 2, none⟩ = some (.int .i64 st)) :
    Calls Tryd.prog 92 #[.agg #[.slice (some ⟨bt, ot, none⟩) n1 k1, .slice C n2 k2, .slice O n3 k3, .int .i64 ft], .slice (some ⟨b, off, none⟩) (m + 1) kp] w fun e w' => e = .returned (.int .i64 (if st = 2 then -1 else k)) ∧ Below w.heap.size w w' := by
  have hc2 : (w.alloc (.cells #[.slice (some ⟨bt, ot, none⟩) n1 k1, .slice C n2 k2, .slice O n3 k3, .int .i64 ft] 43)).cell? ⟨b, off + m, none⟩ = some (.float .f64 (wd s r)) := keep_cell ((Below.refl _ w).up _) hc
  have hs2 : (w.alloc (.cells #[.slice (some ⟨bt, ot, none⟩) n1 k1, .slice C n2 k2, .slice O n3 k3, .int .i64 ft] 43)).cell? ⟨bt, ot + k * 6 + 2, none⟩ = some (.int .i64 st) := keep_cell ((Below.refl _ w).up _) hst
  clear hc hst
  have HT := hide' (fun w => itoix_any s r hr n1 w)
  rw [hb, hk] at HT
  clear hr hb hk
  have hm1 : ((m + 1 : Nat) : Int) - 1 = m := by omega
  have hm2 : ¬ ((m + 1 : Nat) : Int) = 0 := by omega
  have hk0 : (0 : Int) ≤ k := by omega
  by_cases h2 : st = 2
  · subst h2
    go_enter Tryd.func92, Tryd.ntmps92
    go_wp2_with fail
    go_quiet ((go_at_call 121; exact Calls.quiet_of_same (HT.out _)))
    go_wp2_with fail
    go_ret
    exact ⟨rfl, below_draws ((Below.refl _ w).up _) _⟩
  · rw [if_neg h2]
    go_enter Tryd.func92, Tryd.ntmps92
    go_wp2_with fail
    go_quiet ((go_at_call 121; exact Calls.quiet_of_same (HT.out _)))
    go_wp2_with fail
    go_ret
    exact ⟨rfl, below_draws ((Below.refl _ w).up _) _⟩
end Go.Proofs.YtdifamjkbagfcaaDoor
