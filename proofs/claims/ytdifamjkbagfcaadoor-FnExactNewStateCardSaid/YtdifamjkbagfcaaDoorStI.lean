/- Good states: the code's side, a thread. -/
import Derived.Test.YtdifamjkbagfcaaDoorStH
namespace Go.Proofs.YtdifamjkbagfcaaDoor
open Go.RowKit
open Rd Fl

set_option maxRecDepth 20000 in
set_option maxHeartbeats 2000000 in
theorem goodth_out (cl lk cd : Int) (R : Option Addr) (n cap : Nat) (r0 r1 r2 r3 r4 : Int) (S : Option Addr) (m kp : Nat) (h : r0 < 0 ∨ (0 ≤ r0 ∧ (n : Int) ≤ r0) ∨ (0 ≤ r0 ∧ r0 < n ∧ (8 : Int) < m)) (w : World) :
    Calls Tryd.prog 90 #[.agg #[.int .i64 cl, .int .i64 lk, .int .i64 cd, .slice R n cap], .agg #[.int .i64 r0, .int .i64 r1, .int .i64 r2, .int .i64 r3, .int .i64 r4, .slice S m kp]] w fun e w' => e = .returned (.bool false) ∧ Below w.heap.size w w' := by
  rcases h with h1 | ⟨h1, h2⟩ | ⟨h1, h2, h3⟩
  all_goals
    go_enter Tryd.func90, Tryd.ntmps90
    go_wp2_with fail
    go_ret
    exact ⟨rfl, ((Below.refl _ w).up _).up _⟩

theorem threst_ways (lk cd r1 r2 r3 r4 : Int) (long : Nat) : r1 < 0 ∨ (0 ≤ r1 ∧ (long : Int) < r1) ∨ (0 ≤ r1 ∧ r1 ≤ (long : Int) ∧ (r2 < 1 ∨ 4 < r2)) ∨
    (0 ≤ r1 ∧ r1 ≤ (long : Int) ∧ (r2 = 1 ∨ r2 = 2) ∧ r3 ≠ -1) ∨ (0 ≤ r1 ∧ r1 ≤ (long : Int) ∧ (r2 = 1 ∨ r2 = 2) ∧ r3 = -1) ∨
    (0 ≤ r1 ∧ r1 ≤ (long : Int) ∧ (r2 = 3 ∨ r2 = 4) ∧ r3 < 0) ∨ (0 ≤ r1 ∧ r1 ≤ (long : Int) ∧ (r2 = 3 ∨ r2 = 4) ∧ 0 ≤ r3 ∧ cd ≤ r3) ∨
    (0 ≤ r1 ∧ r1 ≤ (long : Int) ∧ (r2 = 3 ∨ r2 = 4) ∧ 0 ≤ r3 ∧ r3 < cd ∧ r4 < 0) ∨ (0 ≤ r1 ∧ r1 ≤ (long : Int) ∧ (r2 = 3 ∨ r2 = 4) ∧ 0 ≤ r3 ∧ r3 < cd ∧ 0 ≤ r4 ∧ lk ≤ r4) ∨ (0 ≤ r1 ∧ r1 ≤ (long : Int) ∧ (r2 = 3 ∨ r2 = 4) ∧ 0 ≤ r3 ∧ r3 < cd ∧ 0 ≤ r4 ∧ r4 < lk) := by
  by_cases a : r1 < 0
  · exact .inl a
  · have a' : 0 ≤ r1 := by omega
    by_cases b : (long : Int) < r1
    · exact .inr (.inl ⟨a', b⟩)
    · have b' : r1 ≤ (long : Int) := by omega
      rcases (by omega : (r2 < 1 ∨ 4 < r2) ∨ (r2 = 1 ∨ r2 = 2) ∨ (r2 = 3 ∨ r2 = 4)) with h | h | h
      · exact .inr (.inr (.inl ⟨a', b', h⟩))
      · by_cases c : r3 = -1
        · exact .inr (.inr (.inr (.inr (.inl ⟨a', b', h, c⟩))))
        · exact .inr (.inr (.inr (.inl ⟨a', b', h, c⟩)))
      · by_cases c : r3 < 0
        · exact .inr (.inr (.inr (.inr (.inr (.inl ⟨a', b', h, c⟩)))))
        · by_cases d : cd ≤ r3
          · exact .inr (.inr (.inr (.inr (.inr (.inr (.inl ⟨a', b', h, by omega, d⟩))))))
          · by_cases e : r4 < 0
            · exact .inr (.inr (.inr (.inr (.inr (.inr (.inr (.inl ⟨a', b', h, by omega, by omega, e⟩)))))))
            · by_cases f : lk ≤ r4
              · exact .inr (.inr (.inr (.inr (.inr (.inr (.inr (.inr (.inl ⟨a', b', h, by omega, by omega, by omega, f⟩))))))))
              · exact .inr (.inr (.inr (.inr (.inr (.inr (.inr (.inr (.inr ⟨a', b', h, by omega, by omega, by omega, by omega⟩))))))))

def inRestB (lk cd : Int) (long : Nat) (r1 r2 r3 r4 : Int) : Bool := decide (1 ≤ r2 ∧ r2 ≤ 4) && (decide (0 ≤ r1 ∧ r1 ≤ (long : Int)) && restB lk cd r2 r3 r4)

set_option maxRecDepth 20000 in
set_option maxHeartbeats 4000000 in
theorem goodth_in (cl lk cd : Int) (b off : Nat) (n cap : Nat) (k : Nat) (hk : (k : Int) < n) (r1 r2 r3 r4 : Int) (S : Option Addr) (m kp : Nat) (hm : (m : Int) ≤ 8) (A : Option Addr) (long cp : Nat)
    (w : World) (hc : w.cell? ⟨b, off + k, none⟩ = some (.slice A long cp)) :
    Calls Tryd.prog 90 #[.agg #[.int .i64 cl, .int .i64 lk, .int .i64 cd, .slice (some ⟨b, off, none⟩) n cap], .agg #[.int .i64 (k : Int), .int .i64 r1, .int .i64 r2, .int .i64 r3, .int .i64 r4, .slice S m kp]] w fun e w' => e = .returned (.bool (inRestB lk cd long r1 r2 r3 r4)) ∧ Below w.heap.size w w' := by
  have hc2 : ((w.alloc (.cells #[.int .i64 cl, .int .i64 lk, .int .i64 cd, .slice (some ⟨b, off, none⟩) n cap] 30)).alloc (.cells #[.int .i64 (k : Int), .int .i64 r1, .int .i64 r2, .int .i64 r3, .int .i64 r4, .slice S m kp] 88)).cell? ⟨b, off + k, none⟩ = some (.slice A long cp) := keep_cell (((Below.refl _ w).up _).up _) hc
  rcases threst_ways lk cd r1 r2 r3 r4 long with h1 | ⟨h1, h2⟩ | ⟨h1, h2, h3 | h3⟩ | ⟨h1, h2, rfl | rfl, h4⟩ | ⟨h1, h2, rfl | rfl, rfl⟩ | ⟨h1, h2, rfl | rfl, h4⟩ | ⟨h1, h2, rfl | rfl, h4, h5⟩ | ⟨h1, h2, rfl | rfl, h4, h5, h6⟩ | ⟨h1, h2, rfl | rfl, h4, h5, h6, h7⟩ | ⟨h1, h2, rfl | rfl, h4, h5, h6, h7⟩
  all_goals
    go_enter Tryd.func90, Tryd.ntmps90
    go_wp2_with fail
    go_quiet (fail)
    go_wp2_with fail
    go_ret
    refine ⟨?_, below_draws (((Below.refl _ w).up _).up _) _⟩
    unfold inRestB restB
    first
      | rfl
      | (simp; done)
      | (refine congrArg (fun b => Ending.returned (Value.bool b)) (?_ : _ = _); rw [Bool.eq_iff_iff]; simp <;> omega)

theorem goodth_any (cl lk cd : Int) (R : Option Addr) (rs : List (List OpD)) (cap : Nat) (t : ThD) (S : Option Addr) (kp : Nat) (w : World) (hR : RoutsAt w R rs) :
    Calls Tryd.prog 90 #[.agg #[.int .i64 cl, .int .i64 lk, .int .i64 cd, .slice R rs.length cap], .agg #[.int .i64 t.rt, .int .i64 t.pc, .int .i64 t.st, .int .i64 t.cd, .int .i64 t.lk, .slice S t.sk.length kp]] w fun e w' => e = .returned (.bool (thB lk cd rs t)) ∧ Below w.heap.size w w' := by
  obtain ⟨r0, r1, r2, r3, r4, sk⟩ := t
  simp only
  by_cases hA : 0 ≤ r0 ∧ r0 < (rs.length : Int)
  · by_cases hC : sk.length ≤ 8
    · obtain ⟨k, rfl⟩ : ∃ k : Nat, r0 = k := ⟨r0.toNat, by omega⟩
      have hk : k < rs.length := by omega
      obtain ⟨b, off, rfl, h2⟩ := routs_at hR (by intro h; rw [h] at hk; simp at hk)
      obtain ⟨A, cp, h3, -⟩ := h2 k hk
      have hA' : 0 ≤ (k : Int) ∧ (k : Int) ≤ (rs.length : Int) - 1 := by omega
      have e : thB lk cd rs ⟨k, r1, r2, r3, r4, sk⟩ = inRestB lk cd rs[k].length r1 r2 r3 r4 := by
        unfold thB inRestB
        simp only [decide_eq_true hA', decide_eq_true hC, Int.toNat_natCast, List.getD_eq_getElem?_getD, List.getElem?_eq_getElem hk, Option.getD_some, Bool.true_and, Bool.and_true, Bool.and_assoc]
      rw [e]
      exact goodth_in cl lk cd b off rs.length cap k (by omega) r1 r2 r3 r4 S sk.length kp (by omega) A rs[k].length cp w h3
    · have e : thB lk cd rs ⟨r0, r1, r2, r3, r4, sk⟩ = false := by unfold thB; simp only [decide_eq_false hC, Bool.and_false, Bool.false_and]
      rw [e]
      exact goodth_out cl lk cd R rs.length cap r0 r1 r2 r3 r4 S sk.length kp (.inr (.inr ⟨hA.1, hA.2, by omega⟩)) w
  · have hA' : ¬ (0 ≤ r0 ∧ r0 ≤ (rs.length : Int) - 1) := by omega
    have e : thB lk cd rs ⟨r0, r1, r2, r3, r4, sk⟩ = false := by unfold thB; simp only [decide_eq_false hA', Bool.false_and]
    rw [e]
    exact goodth_out cl lk cd R rs.length cap r0 r1 r2 r3 r4 S sk.length kp (by omega) w
end Go.Proofs.YtdifamjkbagfcaaDoor
