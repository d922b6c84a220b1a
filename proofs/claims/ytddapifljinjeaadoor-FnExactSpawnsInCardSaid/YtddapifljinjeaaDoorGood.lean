/- impl.goodOp: contract. -/
import Derived.Test.YtddapifljinjeaaDoorOps
import Derived.Deep.QuietTactic
import Derived.BigQuiet
namespace Go.Proofs.YtddapifljinjeaaDoor
open Go.RowKit
open Rd Fl

/-- A row of the table of forms: the word, whether V is named, what A and B name. -/
structure Form (w : World) (k : Nat) (W : ByteArray) (v : Bool) (fa fb : Nat) : Prop where
  word : w.cell? ⟨0, k * 4, none⟩ = some (.string W)
  v : w.cell? ⟨0, k * 4 + 1, none⟩ = some (.bool v)
  a : w.cell? ⟨0, k * 4 + 2, none⟩ = some (.int .i64 (fa : Int))
  b : w.cell? ⟨0, k * 4 + 3, none⟩ = some (.int .i64 (fb : Int))

theorem below_dr {N : Nat} {w w' : World} (h : Below N w w') (n : Nat) : Below N w (w'.drewN n) := ⟨h.os, h.tape, h.output, h.size, h.block⟩

/-- what goodOp answers of a code that there is -/
def goodB (a b : Int) (z v : Bool) (ea eb : Int) : Bool := (v || z) && decide (0 ≤ a ∧ a < ea) && decide (0 ≤ b ∧ b < eb)

set_option maxRecDepth 20000 in
set_option maxHeartbeats 1000000 in
theorem goodop_out (c a b : Int) (v : Nat) (E : Array Value) (w : World) (h : c < 1 ∨ 17 < c) :
    Calls Tryd.prog 36 #[.agg #[.int .i64 c, .int .i64 a, .int .i64 b, .float .f64 v], .agg E] w fun e w' => e = .returned (.bool false) ∧ Below w.heap.size w w' := by
  rcases h with h | h
  · go_enter Tryd.func36, Tryd.ntmps36
    go_wp2
    go_ret
    exact ⟨rfl, ((Below.refl _ _).up _).up _⟩
  · have h1 : ¬ c < 1 := by omega
    go_enter Tryd.func36, Tryd.ntmps36
    go_wp2
    go_ret
    exact ⟨rfl, ((Below.refl _ _).up _).up _⟩

set_option maxRecDepth 20000 in
set_option maxHeartbeats 2000000 in
theorem goodop_1 (k : Nat) (hk1 : 1 ≤ k) (hk : k ≤ 17) (a b : Int) (s : Bool) (r : Nat) (hr : r < 9223372036854775808) (E : Array Value) (W : ByteArray) (v : Bool) (fa fb : Nat) (ea eb : Int) (hE : E.size = 6) (hfa : fa < 6) (hfb : fb < 6) (hea : E[fa]? = some (.int .i64 ea)) (heb : E[fb]? = some (.int .i64 eb)) (w : World) (hF : Form w k W v fa fb) (hvz : v = true ∨ (v = false ∧ sameB s r false 0 = true)) (ha : ¬ 0 ≤ a) :
    Calls Tryd.prog 36 #[.agg #[.int .i64 k, .int .i64 a, .int .i64 b, .float .f64 (wd s r)], .agg E] w fun e w' => e = .returned (.bool false) ∧ Below w.heap.size w w' := by
  obtain ⟨f0, f1, f2, f3⟩ := hF
  have hsz : 0 < w.heap.size := World.block_lt_of_cell? w _ f0
  have k1 : (1 : Int) ≤ k := by omega
  have k2 : (k : Int) ≤ 17 := by omega
  have a6 : (fa : Int) < 6 := by omega
  have b6 : (fb : Int) < 6 := by omega
  have h0 : (wd false 0 : Nat) = 0 := rfl
  have HS := hide' (isame_any s false r 0 hr (by omega))
  rw [h0] at HS
  have hE1 := hE
  have hea1 := hea
  have heb1 := heb
  clear h0 hk1 hk hfa hfb hE hea heb
  generalize hz : sameB s r false 0 = z at HS hvz
  clear hz
  have ha' : decide (0 ≤ a) = false := by simpa using ha
  clear ha
  rcases hvz with rfl | ⟨rfl, rfl⟩
  all_goals
    go_enter Tryd.func36, Tryd.ntmps36
    go_wp2_with (go_at_call 51; refine (HS.out _).mono ?_; rintro e w' ⟨rfl, rfl⟩)
    go_quiet (fail)
    go_wp2
    go_ret
    exact ⟨rfl, below_dr ((((Below.refl _ _).up _).up _).up _) _⟩

set_option maxRecDepth 20000 in
set_option maxHeartbeats 2000000 in
theorem goodop_2 (k : Nat) (hk1 : 1 ≤ k) (hk : k ≤ 17) (a b : Int) (s : Bool) (r : Nat) (hr : r < 9223372036854775808) (E : Array Value) (W : ByteArray) (v : Bool) (fa fb : Nat) (ea eb : Int) (hE : E.size = 6) (hfa : fa < 6) (hfb : fb < 6) (hea : E[fa]? = some (.int .i64 ea)) (heb : E[fb]? = some (.int .i64 eb)) (w : World) (hF : Form w k W v fa fb) (hvz : v = true ∨ (v = false ∧ sameB s r false 0 = true)) (ha : 0 ≤ a) (ha2 : ¬ a < ea) :
    Calls Tryd.prog 36 #[.agg #[.int .i64 k, .int .i64 a, .int .i64 b, .float .f64 (wd s r)], .agg E] w fun e w' => e = .returned (.bool false) ∧ Below w.heap.size w w' := by
  obtain ⟨f0, f1, f2, f3⟩ := hF
  have hsz : 0 < w.heap.size := World.block_lt_of_cell? w _ f0
  have k1 : (1 : Int) ≤ k := by omega
  have k2 : (k : Int) ≤ 17 := by omega
  have a6 : (fa : Int) < 6 := by omega
  have b6 : (fb : Int) < 6 := by omega
  have h0 : (wd false 0 : Nat) = 0 := rfl
  have HS := hide' (isame_any s false r 0 hr (by omega))
  rw [h0] at HS
  have hE1 := hE
  have hea1 := hea
  have heb1 := heb
  clear h0 hk1 hk hfa hfb hE hea heb
  generalize hz : sameB s r false 0 = z at HS hvz
  clear hz
  have ha' : decide (a < ea) = false := by simpa using ha2
  clear ha2
  rcases hvz with rfl | ⟨rfl, rfl⟩
  all_goals
    go_enter Tryd.func36, Tryd.ntmps36
    go_wp2_with (go_at_call 51; refine (HS.out _).mono ?_; rintro e w' ⟨rfl, rfl⟩)
    go_quiet (fail)
    go_wp2
    go_ret
    exact ⟨rfl, below_dr ((((Below.refl _ _).up _).up _).up _) _⟩

set_option maxRecDepth 20000 in
set_option maxHeartbeats 2000000 in
theorem goodop_3 (k : Nat) (hk1 : 1 ≤ k) (hk : k ≤ 17) (a b : Int) (s : Bool) (r : Nat) (hr : r < 9223372036854775808) (E : Array Value) (W : ByteArray) (v : Bool) (fa fb : Nat) (ea eb : Int) (hE : E.size = 6) (hfa : fa < 6) (hfb : fb < 6) (hea : E[fa]? = some (.int .i64 ea)) (heb : E[fb]? = some (.int .i64 eb)) (w : World) (hF : Form w k W v fa fb) (hvz : v = true ∨ (v = false ∧ sameB s r false 0 = true)) (ha : 0 ≤ a) (ha2 : a < ea) (hb : ¬ 0 ≤ b) :
    Calls Tryd.prog 36 #[.agg #[.int .i64 k, .int .i64 a, .int .i64 b, .float .f64 (wd s r)], .agg E] w fun e w' => e = .returned (.bool false) ∧ Below w.heap.size w w' := by
  obtain ⟨f0, f1, f2, f3⟩ := hF
  have hsz : 0 < w.heap.size := World.block_lt_of_cell? w _ f0
  have k1 : (1 : Int) ≤ k := by omega
  have k2 : (k : Int) ≤ 17 := by omega
  have a6 : (fa : Int) < 6 := by omega
  have b6 : (fb : Int) < 6 := by omega
  have h0 : (wd false 0 : Nat) = 0 := rfl
  have HS := hide' (isame_any s false r 0 hr (by omega))
  rw [h0] at HS
  have hE1 := hE
  have hea1 := hea
  have heb1 := heb
  clear h0 hk1 hk hfa hfb hE hea heb
  generalize hz : sameB s r false 0 = z at HS hvz
  clear hz
  have hb' : decide (0 ≤ b) = false := by simpa using hb
  clear hb
  rcases hvz with rfl | ⟨rfl, rfl⟩
  all_goals
    go_enter Tryd.func36, Tryd.ntmps36
    go_wp2_with (go_at_call 51; refine (HS.out _).mono ?_; rintro e w' ⟨rfl, rfl⟩)
    go_quiet (fail)
    go_wp2
    go_ret
    exact ⟨rfl, below_dr ((((Below.refl _ _).up _).up _).up _) _⟩

set_option maxRecDepth 20000 in
set_option maxHeartbeats 2000000 in
theorem goodop_4 (k : Nat) (hk1 : 1 ≤ k) (hk : k ≤ 17) (a b : Int) (s : Bool) (r : Nat) (hr : r < 9223372036854775808) (E : Array Value) (W : ByteArray) (v : Bool) (fa fb : Nat) (ea eb : Int) (hE : E.size = 6) (hfa : fa < 6) (hfb : fb < 6) (hea : E[fa]? = some (.int .i64 ea)) (heb : E[fb]? = some (.int .i64 eb)) (w : World) (hF : Form w k W v fa fb) (hvz : v = true ∨ (v = false ∧ sameB s r false 0 = true)) (ha : 0 ≤ a) (ha2 : a < ea) (hb : 0 ≤ b) :
    Calls Tryd.prog 36 #[.agg #[.int .i64 k, .int .i64 a, .int .i64 b, .float .f64 (wd s r)], .agg E] w fun e w' => e = .returned (.bool (decide (b < eb))) ∧ Below w.heap.size w w' := by
  obtain ⟨f0, f1, f2, f3⟩ := hF
  have hsz : 0 < w.heap.size := World.block_lt_of_cell? w _ f0
  have k1 : (1 : Int) ≤ k := by omega
  have k2 : (k : Int) ≤ 17 := by omega
  have a6 : (fa : Int) < 6 := by omega
  have b6 : (fb : Int) < 6 := by omega
  have h0 : (wd false 0 : Nat) = 0 := rfl
  have HS := hide' (isame_any s false r 0 hr (by omega))
  rw [h0] at HS
  have hE1 := hE
  have hea1 := hea
  have heb1 := heb
  clear h0 hk1 hk hfa hfb hE hea heb
  generalize hz : sameB s r false 0 = z at HS hvz
  clear hz
  rcases hvz with rfl | ⟨rfl, rfl⟩
  all_goals
    go_enter Tryd.func36, Tryd.ntmps36
    go_wp2_with (go_at_call 51; refine (HS.out _).mono ?_; rintro e w' ⟨rfl, rfl⟩)
    go_quiet (fail)
    go_wp2
    go_ret
    exact ⟨rfl, below_dr ((((Below.refl _ _).up _).up _).up _) _⟩

set_option maxRecDepth 20000 in
set_option maxHeartbeats 1000000 in
theorem goodop_in (k : Nat) (hk1 : 1 ≤ k) (hk : k ≤ 17) (a b : Int) (s : Bool) (r : Nat) (hr : r < 9223372036854775808) (E : Array Value) (W : ByteArray) (v : Bool) (fa fb : Nat) (ea eb : Int) (hE : E.size = 6) (hfa : fa < 6) (hfb : fb < 6) (hea : E[fa]? = some (.int .i64 ea)) (heb : E[fb]? = some (.int .i64 eb)) (w : World) (hF : Form w k W v fa fb) :
    Calls Tryd.prog 36 #[.agg #[.int .i64 k, .int .i64 a, .int .i64 b, .float .f64 (wd s r)], .agg E] w fun e w' => e = .returned (.bool (goodB a b (sameB s r false 0) v ea eb)) ∧ Below w.heap.size w w' := by
  by_cases hvz : v = false ∧ sameB s r false 0 = false
  · obtain ⟨rfl, hz⟩ := hvz
    obtain ⟨f0, f1, f2, f3⟩ := hF
    have hsz : 0 < w.heap.size := World.block_lt_of_cell? w _ f0
    have k1 : (1 : Int) ≤ k := by omega
    have k2 : (k : Int) ≤ 17 := by omega
    have a6 : (fa : Int) < 6 := by omega
    have b6 : (fb : Int) < 6 := by omega
    have h0 : (wd false 0 : Nat) = 0 := rfl
    have HS := hide' (isame_any s false r 0 hr (by omega))
    rw [h0] at HS
    clear h0 hk1 hk hfa hfb
    rw [hz] at HS ⊢
    clear hz
    go_enter Tryd.func36, Tryd.ntmps36
    go_wp2_with (go_at_call 51; refine (HS.out _).mono ?_; rintro e w' ⟨rfl, rfl⟩)
    go_ret
    exact ⟨rfl, (((Below.refl _ _).up _).up _).up _⟩
  · have hvz2 : v = true ∨ (v = false ∧ sameB s r false 0 = true) := by
      cases v
      · right
        refine ⟨rfl, ?_⟩
        cases h : sameB s r false 0
        · exact absurd ⟨rfl, h⟩ hvz
        · rfl
      · exact .inl rfl
    have hg : goodB a b (sameB s r false 0) v ea eb = (decide (0 ≤ a ∧ a < ea) && decide (0 ≤ b ∧ b < eb)) := by
      unfold goodB
      rcases hvz2 with rfl | ⟨rfl, h⟩
      · simp
      · rw [h]; simp
    rw [hg]
    by_cases ha : 0 ≤ a
    · by_cases ha2 : a < ea
      · by_cases hb : 0 ≤ b
        · rw [show (decide (0 ≤ a ∧ a < ea) && decide (0 ≤ b ∧ b < eb)) = decide (b < eb) by simp [ha, ha2, hb]]
          exact goodop_4 k hk1 hk a b s r hr E W v fa fb ea eb hE hfa hfb hea heb w hF hvz2 ha ha2 hb
        · rw [show (decide (0 ≤ a ∧ a < ea) && decide (0 ≤ b ∧ b < eb)) = false by simp [hb]]
          exact goodop_3 k hk1 hk a b s r hr E W v fa fb ea eb hE hfa hfb hea heb w hF hvz2 ha ha2 hb
      · rw [show (decide (0 ≤ a ∧ a < ea) && decide (0 ≤ b ∧ b < eb)) = false by simp [ha2]]
        exact goodop_2 k hk1 hk a b s r hr E W v fa fb ea eb hE hfa hfb hea heb w hF hvz2 ha ha2
    · rw [show (decide (0 ≤ a ∧ a < ea) && decide (0 ≤ b ∧ b < eb)) = false by simp [ha]]
      exact goodop_1 k hk1 hk a b s r hr E W v fa fb ea eb hE hfa hfb hea heb w hF hvz2 ha
end Go.Proofs.YtddapifljinjeaaDoor
