/- Good programs: what both sides ask of an op. -/
import Derived.Test.YtddapifljinjeaaDoorPrgE
import Derived.Test.YtddapifljinjeaaDoorOpTi
namespace Go.Proofs.YtddapifljinjeaaDoor
open Go.RowKit
open Rd Fl

/-- what the specification asks of an op within a program -/
def withinB (cl lk cd n long : Int) (c a b : Int) : Bool :=
  if c = 2 ∨ c = 3 then decide (a < cl) else if c = 10 ∨ c = 11 then decide (a ≤ long) else if c = 12 ∨ c = 13 then decide (a < lk) else if c = 14 then decide (a < n) else if c = 16 then decide (a < cd) && decide (b < lk) else if c = 17 then decide (a < cd) else true
def specOK (cl lk cd n long : Int) (o : OpD) : Bool := plainB o.c o.a o.b (sameB o.s o.r false 0) && withinB cl lk cd n long o.c o.a o.b

set_option maxRecDepth 20000 in
set_option maxHeartbeats 4000000 in
theorem l2op_any (cl lk cd : Int) (R : Option Addr) (n cap : Nat) (long : Int) (o : OpD) (hr : o.r < 9223372036854775808) (w : World) :
    Calls Tryd.prog 25 #[.agg #[.int .i64 cl, .int .i64 lk, .int .i64 cd, .slice R n cap], .int .i64 long, .agg #[.int .i64 o.c, .int .i64 o.a, .int .i64 o.b, .float .f64 (wd o.s o.r)]] w fun e w' => e = .returned (.bool (specOK cl lk cd n long o)) ∧ Below w.heap.size w w' := by
  obtain ⟨c, a, b, s, r⟩ := o
  have HP := hide' (fun w => plain_any c a b s r hr w)
  unfold specOK
  simp only
  cases hp : plainB c a b (sameB s r false 0)
  · rw [hp] at HP
    go_enter Tryd.func25, Tryd.ntmps25
    go_wp2_with (go_at_call 33; refine (HP.out _).mono ?_; rintro e w1 ⟨rfl, hb1⟩)
    go_ret
    exact ⟨rfl, (((Below.refl _ w).up _).up _).trans (hb1.mono (by simp; omega))⟩
  · rw [hp] at HP
    have hc : 1 ≤ c ∧ c ≤ 17 := by
      unfold plainB at hp
      simp only [Bool.and_eq_true, decide_eq_true_eq] at hp
      exact hp.1.1.1.1.1
    clear hp hr
    rcases (by omega : c = 1 ∨ c = 2 ∨ c = 3 ∨ c = 4 ∨ c = 5 ∨ c = 6 ∨ c = 7 ∨ c = 8 ∨ c = 9 ∨ c = 10 ∨ c = 11 ∨ c = 12 ∨ c = 13 ∨ c = 14 ∨ c = 15 ∨ c = 16 ∨ c = 17) with h | h | h | h | h | h | h | h | h | h | h | h | h | h | h | h | h
    all_goals
      subst h
      clear hc
    case inr.inr.inr.inr.inr.inr.inr.inr.inr.inr.inr.inr.inr.inr.inr.inl =>
      by_cases ha : a < cd
      · go_enter Tryd.func25, Tryd.ntmps25
        go_wp2_with (go_at_call 33; refine (HP.out _).mono ?_; rintro e w1 ⟨rfl, hb1⟩; obtain ⟨hc1, hf1⟩ := bcell hb1)
        go_ret
        exact ⟨by simp [withinB, ha], (((Below.refl _ w).up _).up _).trans (hb1.mono (by simp; omega))⟩
      · have ha' : decide (a < cd) = false := by simpa using ha
        rw [show withinB cl lk cd n long 16 a b = false by simp [withinB, ha]]
        clear ha
        go_enter Tryd.func25, Tryd.ntmps25
        go_wp2_with (go_at_call 33; refine (HP.out _).mono ?_; rintro e w1 ⟨rfl, hb1⟩; obtain ⟨hc1, hf1⟩ := bcell hb1)
        go_ret
        exact ⟨rfl, (((Below.refl _ w).up _).up _).trans (hb1.mono (by simp; omega))⟩
    all_goals
      go_enter Tryd.func25, Tryd.ntmps25
      go_wp2_with (go_at_call 33; refine (HP.out _).mono ?_; rintro e w1 ⟨rfl, hb1⟩; obtain ⟨hc1, hf1⟩ := bcell hb1)
      go_ret
      exact ⟨by simp [withinB], (((Below.refl _ w).up _).up _).trans (hb1.mono (by simp; omega))⟩

/-- the ends that go for a program -/
def endsP (cl lk cd n long : Int) : Array Value := #[.int .i64 1, .int .i64 cl, .int .i64 (long + 1), .int .i64 lk, .int .i64 n, .int .i64 cd]
set_option maxRecDepth 20000 in
set_option maxHeartbeats 1000000 in
theorem endsp_any (cl lk cd : Int) (R : Option Addr) (n cap long : Nat) (hl : long ≤ 1048576) (w : World) :
    Calls Tryd.prog 35 #[.agg #[.int .i64 cl, .int .i64 lk, .int .i64 cd, .slice R n cap], .int .i64 (long : Int)] w fun e w' => e = .returned (.agg (endsP cl lk cd n long)) ∧ Below w.heap.size w w' := by
  have hl' : (long : Int) ≤ 1048576 := by omega
  go_enter Tryd.func35, Tryd.ntmps35
  go_wp2
  refine bodyPost_ret (v := .agg (endsP cl lk cd n long)) (by simp [results, Tryd.results35, go_sem, endsP]) rfl ⟨rfl, ?_⟩
  exact ((Below.refl _ w).up _).up _

/-- A program lies boxed at block N. -/
structure PBox (N : Nat) (cl lk cd : Int) (R : Option Addr) (n cap : Nat) (w : World) : Prop where
  c0 : w.cell? ⟨N, 0, none⟩ = some (.int .i64 cl)
  c1 : w.cell? ⟨N, 1, none⟩ = some (.int .i64 lk)
  c2 : w.cell? ⟨N, 2, none⟩ = some (.int .i64 cd)
  c3 : w.cell? ⟨N, 3, none⟩ = some (.slice R n cap)
theorem PBox.keep {N : Nat} {cl lk cd : Int} {R : Option Addr} {n cap : Nat} {w w' : World} (h : PBox N cl lk cd R n cap w) (hb : Below w.heap.size w w') : PBox N cl lk cd R n cap w' :=
  ⟨keep_cell hb h.c0, keep_cell hb h.c1, keep_cell hb h.c2, keep_cell hb h.c3⟩
theorem pbox_new (w : World) (cl lk cd : Int) (R : Option Addr) (n cap : Nat) (t : TypeId) : PBox w.heap.size cl lk cd R n cap (w.alloc (.cells #[.int .i64 cl, .int .i64 lk, .int .i64 cd, .slice R n cap] t)) := by
  refine ⟨?_, ?_, ?_, ?_⟩ <;> (rw [World.cell?_alloc_new]; rfl)

/-- what the specification asks of a routine -/
def routS (cl lk cd n : Int) (l : List OpD) : Bool := l.all (specOK cl lk cd n l.length) && decide (l.length ≤ 24)
def headB (cl lk cd n : Int) : Bool := decide (0 ≤ cl ∧ cl ≤ 4) && decide (0 ≤ lk ∧ lk ≤ 4) && decide (0 ≤ cd ∧ cd ≤ 2) && decide (1 ≤ n ∧ n ≤ 4)
def goodS (cl lk cd : Int) (rs : List (List OpD)) : Bool := headB cl lk cd rs.length && rs.all (routS cl lk cd rs.length)

theorem all_false_at {α : Type} {p : α → Bool} {l : List α} {k : Nat} (h : k < l.length) (hp : p l[k] = false) : l.all p = false := by
  rw [Bool.eq_false_iff]
  intro h2
  have := List.all_eq_true.1 h2 _ (List.getElem_mem h)
  rw [hp] at this
  cases this
theorem all_take_succ {α : Type} {p : α → Bool} {l : List α} {k : Nat} (h : k < l.length) (h1 : ∀ x ∈ l.take k, p x = true) (h2 : p l[k] = true) : ∀ x ∈ l.take (k + 1), p x = true := by
  intro x hx
  rw [List.take_succ_eq_append_getElem h, List.mem_append] at hx
  rcases hx with hx | hx
  · exact h1 x hx
  · rw [List.mem_singleton] at hx; rw [hx]; exact h2
theorem all_take_all {α : Type} {p : α → Bool} {l : List α} (h1 : ∀ x ∈ l.take l.length, p x = true) : l.all p = true := by
  rw [List.take_length] at h1
  exact List.all_eq_true.2 h1

end Go.Proofs.YtddapifljinjeaaDoor
