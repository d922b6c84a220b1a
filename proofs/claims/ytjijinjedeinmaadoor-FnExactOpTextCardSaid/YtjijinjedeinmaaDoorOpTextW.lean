/- The law FnExactOpText: the walk. -/
import Derived.Test.YtjijinjedeinmaaDoorFormsOf
namespace Go.Proofs.YtjijinjedeinmaaDoor
open Go.RowKit
open Rd Fl

theorem plain_out (c a b : Int) (z : Bool) (h : c < 1 ∨ 17 < c) : plainB c a b z = false := by
  unfold plainB
  rw [decide_eq_false (by omega : ¬ (1 ≤ c ∧ c ≤ 17))]
  rfl

/-- Both sides tell the same text and bool. -/
theorem optext_both (c a b : Int) (s : Bool) (r : Nat) (hr : r < 9223372036854775808) : ∃ (X : ByteArray) (q : Bool),
    (∀ w, Calls Tryd.prog 22 #[.agg #[.int .i64 c, .int .i64 a, .int .i64 b, .float .f64 (wd s r)]] w fun e w' => e = .returned (.tuple #[.string X, .bool q]) ∧ Below w.heap.size w w') ∧
    (∀ w, EnvT w → Forms w → Calls Tryd.prog 24 #[.agg #[.int .i64 c, .int .i64 a, .int .i64 b, .float .f64 (wd s r)]] w fun e w' => e = .returned (.tuple #[.string X, .bool q]) ∧ Below w.heap.size w w') := by
  by_cases hc : c < 1 ∨ 17 < c
  · exact ⟨⟨#[]⟩, false, sopText_no c a b s r hr (plain_out c a b _ hc), fun w _ _ => iopText_out c a b _ hc w⟩
  · obtain ⟨k, rfl⟩ : ∃ k : Nat, c = k := ⟨c.toNat, by omega⟩
    have hk1 : 1 ≤ k := by omega
    have hk : k ≤ 17 := by omega
    cases hp : plainB k a b (sameB s r false 0)
    · exact ⟨⟨#[]⟩, false, sopText_no k a b s r hr hp, fun w _ hF => iopText_no k hk1 hk a b s r hr hp w hF⟩
    · obtain ⟨T, u, p, hT, hST, hIT, -, -⟩ := text_of s r hr
      exact ⟨_, true, sopText_yes k a b s r hr (formW k) T (words_at k hk).1 (words_at k hk).2 hT hST hp, fun w hE hF => iopText_yes k hk1 hk a b s r hr T hT hIT hp w hE hF⟩

set_option maxRecDepth 20000 in
set_option maxHeartbeats 1000000 in
theorem law_optext (c a b : Int) (s : Bool) (r : Nat) (hr : r < 9223372036854775808) (w : World) (hE : EnvT w) (hF : Forms w) :
    Calls Tryd.prog 5 #[.agg #[.int .i64 c, .int .i64 a, .int .i64 b, .float .f64 (wd s r)]] w fun e w' => e = .returned (.bool true) ∧ Below w.heap.size w w' := by
  obtain ⟨X, q, hS, hI⟩ := optext_both c a b s r hr
  have HS := hide' hS
  have HI := hide' hI
  have HE := hide' hE
  have HF := hide' hF
  have hx : (X.toList != X.toList) = false := by simp
  clear hS hI hE hF hr
  go_enter Tryd.func5, Tryd.ntmps5
  go_wp2_with fail
  refine (toop_any c a b (wd s r) _).mono ?_
  rintro e w1 ⟨rfl, hb1⟩
  have HB1 := hide' (((Below.refl _ w).up _).trans (hb1.mono (by simp)))
  have HX1 := hide' ((box_new w c a b (wd s r) 43).above hb1)
  clear hb1
  go_wp2_with fail
  refine (HS.out _).mono ?_
  rintro e w2 ⟨rfl, hb2⟩
  have HB2 := hide' (HB1.out.trans (hb2.mono HB1.out.size))
  obtain ⟨c0, c1, c2, c3⟩ := HX1.out.above hb2
  clear hb2 HX1
  go_wp2_with fail
  refine (toop_any c a b (wd s r) _).mono ?_
  rintro e w3 ⟨rfl, hb3⟩
  have HB3 := hide' (HB2.out.trans (hb3.mono HB2.out.size))
  clear hb3 c0 c1 c2 c3
  go_wp2_with fail
  refine (HI.out _ (HE.out.below HB3.out) (HF.out.below HB3.out)).mono ?_
  rintro e w4 ⟨rfl, hb4⟩
  have HB4 := hide' (HB3.out.trans (hb4.mono HB3.out.size))
  clear hb4
  cases q
  all_goals
    go_wp2_with fail
    go_ret
    exact ⟨rfl, HB4.out⟩
end Go.Proofs.YtjijinjedeinmaaDoor
