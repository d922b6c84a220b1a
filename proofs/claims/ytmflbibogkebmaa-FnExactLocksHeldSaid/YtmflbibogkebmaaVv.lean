/- LocksHeld: both sides. -/
import Derived.Test.YtmflbibogkebmaaVs
import Derived.Test.YtmflbibogkebmaaVf
namespace Go.Proofs.Ytmflbibogkebmaa
open Go.RowKit Go.Maps
open Rd Fl

def okLH (l : List EvD) (a : Int) : Bool := goodTr l && decide (0 ≤ a ∧ a < l.length)
def heldL (l : List EvD) (a : Int) : List Int := if okLH l a = true then heldN l a.toNat else []
theorem heldN_short {l : List EvD} (hg : goodTr l = true) {i : Nat} (hi : i < l.length) : (heldN l i).length ≤ 1000 := by
  have := heldN_len l i
  have := good_len hg
  omega

set_option maxRecDepth 20000 in
set_option maxHeartbeats 4000000 in
theorem islheld_any (hsort : SortSays) (hnil : SortNil) (A : Option Addr) (l : List EvD) (cap : Nat) (a : Int) (hcap : l.length ≤ cap) (hl : l.length ≤ 1048576) (w : World) (hA : EvsAt w A l) :
    Calls Try.prog 12 #[.slice A l.length cap, .int .i64 a] w fun e w' => (∃ v, e = .returned (.tuple #[v, .bool (okLH l a)]) ∧ ResI (heldL l a) w' w.heap.size w'.heap.size v) ∧ Below w.heap.size w w' := by
  have HG := hide' (igoodtr_any A l cap hl w hA)
  have hl' : (l.length : Int) ≤ 1048576 := by omega
  unfold heldL okLH
  cases hg : goodTr l
  · rw [hg] at HG
    rw [Bool.false_and, if_neg (by simp)]
    clear hg hA
    go_enter Try.func12, Try.ntmps12
    go_wp2_with (go_at_call 38; refine HG.out.mono ?_; rintro e w1 ⟨rfl, hb1⟩)
    go_ret2
    exact ⟨⟨_, rfl, resi_of (World.ownsRow_nil _ _ _ _) (by simp)⟩, hb1⟩
  · rw [hg] at HG
    by_cases h0 : a < 0
    · rw [decide_eq_false (show ¬ (0 ≤ a ∧ a < (l.length : Int)) by omega), Bool.true_and, if_neg (by simp)]
      have h1 : decide (a < 0) = true := decide_eq_true h0
      clear hg hA
      go_enter Try.func12, Try.ntmps12
      go_wp2_with (go_at_call 38; refine HG.out.mono ?_; rintro e w1 ⟨rfl, hb1⟩)
      go_ret2
      exact ⟨⟨_, rfl, resi_of (World.ownsRow_nil _ _ _ _) (by simp)⟩, hb1⟩
    · by_cases h2 : a < l.length
      · rw [decide_eq_true (show (0 ≤ a ∧ a < (l.length : Int)) by omega), Bool.true_and, if_pos rfl]
        obtain ⟨i, rfl⟩ := Int.eq_ofNat_of_zero_le (show 0 ≤ a by omega)
        have hi : i < l.length := by omega
        have HB := hide' (fun w hA => locksby_any hsort hnil A l cap hcap hg i hi w hA)
        have HN := hide' (heldN_short hg hi)
        have HA := hide' hA
        have h3 : ¬ ((i : Int) < 0) := by omega
        have h4 : ¬ ((i : Int) ≥ (l.length : Int)) := by omega
        rw [show ((i : Int)).toNat = i by omega]
        clear hg hA hsort hnil
        go_enter Try.func12, Try.ntmps12
        go_wp2_with (first
          | (go_at_call 38; refine HG.out.mono ?_; rintro e w1 ⟨rfl, hb1⟩)
          | (go_at_call 39; refine (HB.out _ (HA.out.keep hb1)).mono ?_; rintro e w2 ⟨⟨v, rfl, ho⟩, hb2⟩))
        go_ret2
        exact ⟨⟨_, rfl, resi_less (resi_of ho HN.out) hb1.size⟩, hb1.trans (hb2.mono hb1.size)⟩
      · rw [decide_eq_false (show ¬ (0 ≤ a ∧ a < (l.length : Int)) by omega), Bool.true_and, if_neg (by simp)]
        have h3 : ¬ (a < 0) := h0
        have h4 : a ≥ (l.length : Int) := by omega
        clear hg hA
        go_enter Try.func12, Try.ntmps12
        go_wp2_with (go_at_call 38; refine HG.out.mono ?_; rintro e w1 ⟨rfl, hb1⟩)
        go_ret2
        exact ⟨⟨_, rfl, resi_of (World.ownsRow_nil _ _ _ _) (by simp)⟩, hb1⟩

set_option maxRecDepth 20000 in
set_option maxHeartbeats 4000000 in
theorem slheld_any (A : Option Addr) (l : List EvD) (cap : Nat) (a : Int) (hcap : l.length ≤ cap) (hl : l.length ≤ 1048576) (w : World) (hA : EvsAt w A l) :
    Calls Try.prog 10 #[.slice A l.length cap, .int .i64 a] w fun e w' => (∃ v, e = .returned (.tuple #[v, .bool (okLH l a)]) ∧ ResI (heldL l a) w' w.heap.size w'.heap.size v) ∧ Below w.heap.size w w' := by
  have HG := hide' (l6trace_any A l cap hl w hA)
  have hl' : (l.length : Int) ≤ 1048576 := by omega
  have HI : Hid (∀ w, Calls Try.prog 35 #[.int .i64 a, .int .i64 0, .int .i64 ((l.length : Int) - 1)] w fun e w' => e = .returned (.bool (inR 0 ((l.length : Int) - 1) a)) ∧ w' = w) := fun w => l1in_any a 0 ((l.length : Int) - 1) w
  unfold heldL okLH
  cases hg : goodTr l
  · rw [hg] at HG
    rw [Bool.false_and, if_neg (by simp)]
    clear hg hA
    go_enter Try.func10, Try.ntmps10
    go_wp2_with (go_at_call 34; refine HG.out.mono ?_; rintro e w1 ⟨rfl, hb1⟩)
    go_ret2
    exact ⟨⟨_, rfl, resi_of (World.ownsRow_nil _ _ _ _) (by simp)⟩, hb1⟩
  · rw [hg] at HG
    by_cases h2 : 0 ≤ a ∧ a < (l.length : Int)
    · rw [decide_eq_true h2, Bool.true_and, if_pos rfl]
      obtain ⟨i, rfl⟩ := Int.eq_ofNat_of_zero_le (show 0 ≤ a by omega)
      have hi : i < l.length := by omega
      have HB := hide' (fun w hA => l7held_any A l cap hcap hg i hi w hA)
      have HN := hide' (heldN_short hg hi)
      have HA := hide' hA
      have hin : inR 0 ((l.length : Int) - 1) (i : Int) = true := by unfold inR; exact decide_eq_true (by omega)
      rw [hin] at HI
      rw [show ((i : Int)).toNat = i by omega]
      clear hg hA hin
      go_enter Try.func10, Try.ntmps10
      go_wp2_with (first
        | (go_at_call 34; refine HG.out.mono ?_; rintro e w1 ⟨rfl, hb1⟩)
        | (go_at_call 35; refine (HI.out _).mono ?_; rintro e w2 ⟨rfl, rfl⟩)
        | (go_at_call 36; refine (HB.out _ (HA.out.keep hb1)).mono ?_; rintro e w3 ⟨v, rfl, ho⟩))
      go_ret2
      exact ⟨⟨_, rfl, resi_less (resi_of ho.o HN.out) hb1.size⟩, hb1.trans (ho.b.mono hb1.size)⟩
    · rw [decide_eq_false h2, Bool.true_and, if_neg (by simp)]
      have hin : inR 0 ((l.length : Int) - 1) a = false := by unfold inR; exact decide_eq_false (by omega)
      rw [hin] at HI
      clear hg hA hin
      go_enter Try.func10, Try.ntmps10
      go_wp2_with (first
        | (go_at_call 34; refine HG.out.mono ?_; rintro e w1 ⟨rfl, hb1⟩)
        | (go_at_call 35; refine (HI.out _).mono ?_; rintro e w2 ⟨rfl, rfl⟩))
      go_ret2
      exact ⟨⟨_, rfl, resi_of (World.ownsRow_nil _ _ _ _) (by simp)⟩, hb1⟩
end Go.Proofs.Ytmflbibogkebmaa
