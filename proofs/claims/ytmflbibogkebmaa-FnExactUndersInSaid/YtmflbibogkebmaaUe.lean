/- spec.UndersIn at any trace. -/
import Derived.Test.YtmflbibogkebmaaUd
namespace Go.Proofs.Ytmflbibogkebmaa
open Go.RowKit Go.Maps
open Rd Fl

theorem UdR.res {w wr : World} {v : Value} {ls : List UnD} (h : UdR w wr v ls) (hn : ls.length ≤ 50000) : ResU ls wr w.heap.size wr.heap.size v := resu_of h.o hn
set_option maxRecDepth 20000 in
set_option maxHeartbeats 4000000 in
theorem l8unders_any (A : Option Addr) (l : List EvD) (cap : Nat) (hcap : l.length ≤ cap) (hg : goodTr l = true) (w : World) (hA : EvsAt w A l) :
    Calls Try.prog 49 #[.slice A l.length cap] w fun e w' => ∃ v, e = .returned v ∧ UdR w w' v (undTo l l.length) := by
  by_cases hne : l = []
  · subst hne
    clear hA hg hcap
    go_enter Try.func49, Try.ntmps49
    go_wp2_with fail
    go_loopw [3, 11] (fun v x wr => v = .slice none 0 0 ∧ x = .int .i64 0 ∧ wr = w) (fun _ _ _ => 0)
    case atStart => exact ⟨rfl, rfl, rfl⟩
    case round =>
      obtain ⟨rfl, rfl, rfl⟩ := hrel
      go_wp2_with fail
      go_ret
      exact ⟨_, rfl, udr_nil _⟩
  · exact l8unders_yes A l cap hcap hg hne w hA
set_option maxRecDepth 20000 in
set_option maxHeartbeats 4000000 in
theorem sunders_any (A : Option Addr) (l : List EvD) (cap : Nat) (hcap : l.length ≤ cap) (hl : l.length ≤ 1048576) (w : World) (hA : EvsAt w A l) :
    Calls Try.prog 23 #[.slice A l.length cap] w fun e w' => (∃ v, e = .returned (.tuple #[v, .bool (goodTr l)]) ∧ ResU (undersN l) w' w.heap.size w'.heap.size v) ∧ Below w.heap.size w w' := by
  have HG := hide' (l6trace_any A l cap hl w hA)
  have HN := hide' (show (undersN l).length ≤ 50000 by have := undersN_len l; omega)
  cases hg : goodTr l
  · have hu : undersN l = [] := by unfold undersN; rw [if_neg (by rw [hg]; simp)]
    rw [hu]
    rw [hg] at HG
    clear hg hA HN hu
    go_enter Try.func23, Try.ntmps23
    go_wp2_with (go_at_call 34; refine HG.out.mono ?_; rintro e w1 ⟨rfl, hb1⟩)
    go_ret2
    exact ⟨⟨_, rfl, resu_of (World.ownsRow_nil _ _ _ _) (by simp)⟩, hb1⟩
  · have hu : undersN l = undTo l l.length := by unfold undersN; rw [if_pos hg]
    have HU := hide' (fun w1 (hb : Below w.heap.size w w1) => l8unders_any A l cap hcap hg w1 (hA.keep hb))
    rw [hg] at HG
    rw [hu] at HN ⊢
    clear hg hA hu
    go_enter Try.func23, Try.ntmps23
    go_wp2_with (first
      | (go_at_call 34; refine HG.out.mono ?_; rintro e w1 ⟨rfl, hb1⟩)
      | (go_at_call 49; refine (HU.out _ hb1).mono ?_; rintro e w2 ⟨v2, rfl, hr2⟩))
    go_ret2
    exact ⟨⟨_, rfl, resu_less (hr2.res HN.out) hb1.size⟩, hb1.trans (hr2.b.mono hb1.size)⟩
end Go.Proofs.Ytmflbibogkebmaa
