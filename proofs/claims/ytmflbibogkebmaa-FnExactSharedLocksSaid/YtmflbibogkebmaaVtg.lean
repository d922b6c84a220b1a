/- SharedLocks: both sides. -/
import Derived.Test.YtmflbibogkebmaaVtc
import Derived.Test.YtmflbibogkebmaaVtf
import Derived.Test.YtmflbibogkebmaaVh
namespace Go.Proofs.Ytmflbibogkebmaa
open Go.RowKit Go.Maps
open Rd Fl

theorem sharedN_yes {t : List EvD} (h : goodTr t = true) : sharedN t = (cellsTo t t.length).map (shRow t) := by unfold sharedN; rw [if_pos h]
theorem sharedN_no {t : List EvD} (h : goodTr t = false) : sharedN t = [] := by unfold sharedN; rw [if_neg (by rw [h]; simp)]
theorem resq_nilS (w : World) (lo hi : Nat) : ResQ [] w lo hi (.slice none 0 0) :=
  ⟨⟨none, 0, 0, fun _ => 0, fun _ => 0, fun _ => 0, rfl, (fun h => absurd rfl h), (fun i h => absurd h (by simp)), (fun i j _ h => absurd h (by simp))⟩, by simp, fun l hl => by cases hl⟩
theorem shared_res {t : List EvD} (hg : goodTr t = true) {w w' : World} {v : Value} {rvs : List Value} (h : LayM w' w.heap.size v rvs ((cellsTo t t.length).map (shRow t))) : ResQ (sharedN t) w' w.heap.size w'.heap.size v := by
  have h1 := sharedN_len t
  have h2 := sharedN_short t
  have h3 := sharedN_ne t
  rw [sharedN_yes hg] at h1 h2 h3 ⊢
  exact h.res h1 h2 h3

set_option maxRecDepth 20000 in
set_option maxHeartbeats 4000000 in
theorem ishared_any (A : Option Addr) (l : List EvD) (cap : Nat) (hcap : l.length ≤ cap) (hl : l.length ≤ 1048576) (w : World) (hA : EvsAt w A l) :
    Calls Try.prog 19 #[.slice A l.length cap] w fun e w' => (∃ v, e = .returned (.tuple #[v, .bool (goodTr l)]) ∧ ResQ (sharedN l) w' w.heap.size w'.heap.size v) ∧ Below w.heap.size w w' := by
  have HG := hide' (igoodtr_any A l cap hl w hA)
  cases hg : goodTr l
  · rw [sharedN_no hg]
    rw [hg] at HG
    clear hg hA
    go_enter Try.func19, Try.ntmps19
    go_wp2_with (go_at_call 38; refine HG.out.mono ?_; rintro e w1 ⟨rfl, hb1⟩)
    go_ret2
    exact ⟨⟨_, rfl, resq_nilS _ _ _⟩, hb1⟩
  · by_cases hne : l = []
    · subst hne
      have hmm := @run_makeMap Try.prog
      rw [hg] at HG
      have HRK := hide' (fun b n f hn w hm => rkeysl_any sort_says sort_nil b n f hn w hm)
      clear hA
      go_enter Try.func19, Try.ntmps19
      go_wp2_with (go_at_call 38; refine HG.out.mono ?_; rintro e w1 ⟨rfl, hb1⟩)
      have B2 := hide' (hb1.up (.map #[] 0))
      have HM := hide' (mapv_made w1)
      clear hb1
      go_loopw [20] (fun x wr => x = .int .i64 0 ∧ wr = w1.alloc (.map #[] 0)) (fun _ _ => 0)
      case atStart => exact ⟨rfl, rfl⟩
      case round =>
        obtain ⟨rfl, rfl⟩ := hrel
        have HO := hide' (HRK.out w1.heap.size 0 _ (by omega) _ HM.out)
        go_wp2_with (go_at_call 48; refine HO.out.mono ?_; rintro e w5 ⟨⟨v, ks, rfl, hl', hris, hkeys, hwf, hown⟩, hb5⟩; have e1 : ks = [] := List.length_eq_zero_iff.1 (by omega); subst e1; obtain ⟨A5, M5, cap5, rfl, -, -, -, -⟩ := resi_open (resi_of hown (by simp)); have B5 := hide' (B2.out.trans (hb5.mono B2.out.size)))
        go_loopw [11, 49] (fun v x wr => v = .slice none 0 0 ∧ x = .int .i64 0 ∧ wr = w5) (fun _ _ _ => 0)
        case atStart => exact ⟨rfl, rfl, rfl⟩
        case round =>
          obtain ⟨rfl, rfl, rfl⟩ := hrel
          go_wp2_with fail
          go_ret2
          exact ⟨⟨_, rfl, resq_nilS _ _ _⟩, B5.out⟩
    · refine (ishared_yes sort_says sort_nil A l cap hcap hg hne w hA).mono ?_
      rintro e w' ⟨v, rvs, rfl, hb, hlay⟩
      exact ⟨⟨v, rfl, shared_res hg hlay⟩, hb⟩

set_option maxRecDepth 20000 in
set_option maxHeartbeats 4000000 in
theorem sshared_any (A : Option Addr) (l : List EvD) (cap : Nat) (hcap : l.length ≤ cap) (hl : l.length ≤ 1048576) (w : World) (hA : EvsAt w A l) :
    Calls Try.prog 18 #[.slice A l.length cap] w fun e w' => (∃ v, e = .returned (.tuple #[v, .bool (goodTr l)]) ∧ ResQ (sharedN l) w' w.heap.size w'.heap.size v) ∧ Below w.heap.size w w' := by
  have HG := hide' (l6trace_any A l cap hl w hA)
  cases hg : goodTr l
  · rw [sharedN_no hg]
    rw [hg] at HG
    clear hg hA
    go_enter Try.func18, Try.ntmps18
    go_wp2_with (go_at_call 34; refine HG.out.mono ?_; rintro e w1 ⟨rfl, hb1⟩)
    go_ret2
    exact ⟨⟨_, rfl, resq_nilS _ _ _⟩, hb1⟩
  · by_cases hne : l = []
    · subst hne
      rw [hg] at HG
      clear hA
      go_enter Try.func18, Try.ntmps18
      go_wp2_with (go_at_call 34; refine HG.out.mono ?_; rintro e w1 ⟨rfl, hb1⟩)
      go_loopw [4, 23] (fun v x wr => v = .slice none 0 0 ∧ x = .int .i64 0 ∧ wr = w1) (fun _ _ _ => 0)
      case atStart => exact ⟨rfl, rfl, rfl⟩
      case round =>
        obtain ⟨rfl, rfl, rfl⟩ := hrel
        go_wp2_with fail
        have B1 := hide' hb1
        clear hb1
        go_loopw [7, 36] (fun v x wr => v = .slice none 0 0 ∧ x = .int .i64 0 ∧ Hid (Below w.heap.size w wr)) (fun _ _ _ => 0)
        case atStart => exact ⟨rfl, rfl, B1.out⟩
        case round =>
          obtain ⟨rfl, rfl, hb⟩ := hrel
          go_wp2_with fail
          go_ret2
          exact ⟨⟨_, rfl, resq_nilS _ _ _⟩, hb.out⟩
    · refine (sshared_yes A l cap hcap hg hne w hA).mono ?_
      rintro e w' ⟨v, rvs, rfl, hb, hlay⟩
      exact ⟨⟨v, rfl, shared_res hg hlay⟩, hb⟩
end Go.Proofs.Ytmflbibogkebmaa
