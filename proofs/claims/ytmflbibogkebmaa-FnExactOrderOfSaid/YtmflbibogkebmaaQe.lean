/- A step right ahead, and good traces: both sides answer one thing. Good traces: both sides; clocks held against each other: both sides. -/
import Derived.Test.YtmflbibogkebmaaQb
import Derived.Test.YtmflbibogkebmaaQc
import Derived.Test.YtmflbibogkebmaaQd
namespace Go.Proofs.Ytmflbibogkebmaa
open Go.RowKit
open Rd Fl

theorem b_eq {g : Bool} {P : Prop} {x y : Int} (h : g = true ↔ P) (k : P ↔ x = y) : g = (x == y) := by
  rw [Bool.eq_iff_iff, beq_iff_eq, h, k]
theorem b_no {g : Bool} {P : Prop} (h : g = true ↔ P) (k : ¬ P) : g = false := by
  rw [Bool.eq_false_iff]; exact fun e => k (h.1 e)

end Go.Proofs.Ytmflbibogkebmaa
namespace Go.Proofs.Ytmflbibogkebmaa
open Go.RowKit
open Rd Fl

theorem alt_succ {α : Type} {p : α → Bool} {l : List α} {k : Nat} (h : k < l.length) (h1 : ∀ x ∈ l.take k, p x = true) (h2 : p l[k] = true) : ∀ x ∈ l.take (k + 1), p x = true := by
  rw [List.take_succ_eq_append_getElem h]
  intro x hx
  rw [List.mem_append, List.mem_singleton] at hx
  rcases hx with hx | rfl
  · exact h1 x hx
  · exact h2
theorem alt_all {α : Type} {p : α → Bool} {l : List α} (h1 : ∀ x ∈ l.take l.length, p x = true) : l.all p = true := by
  rw [List.take_length] at h1
  exact List.all_eq_true.2 h1
theorem alf_at {α : Type} {p : α → Bool} {l : List α} {k : Nat} (h : k < l.length) (h2 : p l[k] = false) : l.all p = false := by
  rw [Bool.eq_false_iff]
  intro e
  have := List.all_eq_true.1 e l[k] (List.getElem_mem h)
  rw [h2] at this; cases this

set_option maxRecDepth 20000 in
set_option maxHeartbeats 2000000 in
theorem l6trace_any (A : Option Addr) (l : List EvD) (cap : Nat) (hl : l.length ≤ 1048576) (w : World) (hA : EvsAt w A l) :
    Calls Try.prog 34 #[.slice A l.length cap] w fun e w' => e = .returned (.bool (goodTr l)) ∧ Below w.heap.size w w' := by
  have hl' : (l.length : Int) ≤ 1048576 := by omega
  have HGT : Hid (∀ b, decide ((l.length : Int) ≤ 200) = b → l.all goodEv = true → goodTr l = b) := by
    intro b hb h
    unfold goodTr
    rw [h, Bool.and_true, ← hb]
    rw [Bool.eq_iff_iff, decide_eq_true_eq, decide_eq_true_eq]; omega
  have HGF : Hid (l.all goodEv = false → goodTr l = false) := by
    intro h; unfold goodTr; rw [h, Bool.and_false]
  obtain ⟨b, off, hA1, hc⟩ := hA
  by_cases he : l = []
  · subst he
    have HN := hide' (HGT.out true rfl rfl)
    clear hc hA1 HGT HGF
    go_enter Try.func34, Try.ntmps34
    go_wp2
    go_loop [7] (fun i => i = .int .i64 0) (fun _ => 0)
    case atStart => rfl
    case round =>
      subst hrel
      go_wp2
      go_ret
      exact ⟨by rw [HN.out]; rfl, Below.refl _ _⟩
  · have hA2 := hA1 he
    subst hA2
    have HC := hide' (fun i (hi : i < l.length) => hc i l[i] (List.getElem?_eq_getElem hi))
    clear hc hA1 he
    go_enter Try.func34, Try.ntmps34
    go_wp2
    go_loopw [7] (fun i wr => ∃ k : Nat, k ≤ l.length ∧ i = .int .i64 k ∧ Hid (∀ o ∈ l.take k, goodEv o = true) ∧ Hid (Below w.heap.size w wr)) (fun i _ => l.length - (intOf i).toNat)
    case atStart => exact ⟨0, Nat.zero_le _, rfl, (fun o ho => by cases ho), Below.refl _ _⟩
    case round =>
      obtain ⟨k, hk, rfl, hdo, hbw⟩ := hrel
      by_cases hlt : k < l.length
      · obtain ⟨c0, c1, c2, c3, c4⟩ := ev_range (range_keep hbw.out (HC.out k hlt))
        have HOS := hide' (fun h => alt_succ (p := goodEv) hlt hdo.out h)
        have HOF := hide' (fun h => HGF.out (alf_at (p := goodEv) hlt h))
        generalize l[k] = o at c0 c1 c2 c3 c4 HOS HOF
        have HCL := hide' (fun w => l6event_any o w)
        obtain ⟨r0, r1, r2, r3, r4⟩ := o
        simp only at HCL
        cases hok : goodEv ⟨r0, r1, r2, r3, r4⟩
        · rw [hok] at HCL
          have HNO := hide' (HOF.out hok)
          clear hok HOS HOF HGT HGF
          go_wp2_with (go_at_call 66; refine (HCL.out _).mono ?_; rintro e w2 ⟨rfl, hb2⟩)
          go_ret
          exact ⟨by rw [HNO.out]; rfl, (hbw.out.up _).trans (hb2.mono (by have := hbw.out.size; simp; omega))⟩
        · rw [hok] at HCL
          have HO := hide' (HOS.out hok)
          clear hok HOS HOF
          go_wp2_with (go_at_call 66; refine (HCL.out _).mono ?_; rintro e w2 ⟨rfl, hb2⟩)
          go_roundw
          case rel => exact ⟨k + 1, by omega, by go_num, HO.out, (hbw.out.up _).trans (hb2.mono (by have := hbw.out.size; simp; omega))⟩
          case measure => simp [intOf]; omega
      · have hke : k = l.length := by omega
        subst hke
        obtain ⟨g, hg⟩ : ∃ g, decide ((l.length : Int) ≤ 200) = g := ⟨_, rfl⟩
        have HNO := hide' (HGT.out g hg (alt_all hdo.out))
        go_wp2_with fail
        go_ret
        exact ⟨by rw [HNO.out]; rfl, hbw.out⟩

set_option maxRecDepth 20000 in
set_option maxHeartbeats 2000000 in
theorem igoodtr_any (A : Option Addr) (l : List EvD) (cap : Nat) (hl : l.length ≤ 1048576) (w : World) (hA : EvsAt w A l) :
    Calls Try.prog 38 #[.slice A l.length cap] w fun e w' => e = .returned (.bool (goodTr l)) ∧ Below w.heap.size w w' := by
  have hl' : (l.length : Int) ≤ 1048576 := by omega
  by_cases h2 : l.length ≤ 200
  · have hd : decide ((200 : Int) < l.length) = false := decide_eq_false (by omega)
    have HGT : Hid (l.all goodEv = true → goodTr l = true) := by
      intro h
      unfold goodTr
      rw [h, decide_eq_true h2]; rfl
    have HGF : Hid (l.all goodEv = false → goodTr l = false) := by
      intro h; unfold goodTr; rw [h, Bool.and_false]
    clear h2
    obtain ⟨b, off, hA1, hc⟩ := hA
    by_cases he : l = []
    · subst he
      have HN := hide' (HGT.out rfl)
      clear hc hA1 HGT HGF
      go_enter Try.func38, Try.ntmps38
      go_wp2
      go_loop [10] (fun i => i = .int .i64 0) (fun _ => 0)
      case atStart => rfl
      case round =>
        subst hrel
        go_wp2
        go_ret
        exact ⟨by rw [HN.out]; rfl, Below.refl _ _⟩
    · have hA2 := hA1 he
      subst hA2
      have HC := hide' (fun i (hi : i < l.length) => hc i l[i] (List.getElem?_eq_getElem hi))
      clear hc hA1 he
      go_enter Try.func38, Try.ntmps38
      go_wp2
      go_loopw [10] (fun i wr => ∃ k : Nat, k ≤ l.length ∧ i = .int .i64 k ∧ Hid (∀ o ∈ l.take k, goodEv o = true) ∧ Hid (Below w.heap.size w wr)) (fun i _ => l.length - (intOf i).toNat)
      case atStart => exact ⟨0, Nat.zero_le _, rfl, (fun o ho => by cases ho), Below.refl _ _⟩
      case round =>
        obtain ⟨k, hk, rfl, hdo, hbw⟩ := hrel
        by_cases hlt : k < l.length
        · obtain ⟨c0, c1, c2, c3, c4⟩ := ev_range (range_keep hbw.out (HC.out k hlt))
          have HOS := hide' (fun h => alt_succ (p := goodEv) hlt hdo.out h)
          have HOF := hide' (fun h => HGF.out (alf_at (p := goodEv) hlt h))
          generalize l[k] = o at c0 c1 c2 c3 c4 HOS HOF
          have HCL := hide' (fun w => igoodev_any o w)
          obtain ⟨r0, r1, r2, r3, r4⟩ := o
          simp only at HCL
          cases hok : goodEv ⟨r0, r1, r2, r3, r4⟩
          · rw [hok] at HCL
            have HNO := hide' (HOF.out hok)
            clear hok HOS HOF HGT HGF
            go_wp2_with (go_at_call 68; refine (HCL.out _).mono ?_; rintro e w2 ⟨rfl, hb2⟩)
            go_ret
            exact ⟨by rw [HNO.out]; rfl, (hbw.out.up _).trans (hb2.mono (by have := hbw.out.size; simp; omega))⟩
          · rw [hok] at HCL
            have HO := hide' (HOS.out hok)
            clear hok HOS HOF
            go_wp2_with (go_at_call 68; refine (HCL.out _).mono ?_; rintro e w2 ⟨rfl, hb2⟩)
            go_roundw
            case rel => exact ⟨k + 1, by omega, by go_num, HO.out, (hbw.out.up _).trans (hb2.mono (by have := hbw.out.size; simp; omega))⟩
            case measure => simp [intOf]; omega
        · have hke : k = l.length := by omega
          subst hke
          have HNO := hide' (HGT.out (alt_all hdo.out))
          go_wp2_with fail
          go_ret
          exact ⟨by rw [HNO.out]; rfl, hbw.out⟩
  · have hd : decide ((200 : Int) < l.length) = true := decide_eq_true (by omega)
    have HNO : Hid (goodTr l = false) := by unfold Hid goodTr; rw [decide_eq_false h2]; rfl
    clear h2 hA
    go_enter Try.func38, Try.ntmps38
    go_wp2_with fail
    go_ret
    exact ⟨by rw [HNO.out]; rfl, Below.refl _ _⟩

end Go.Proofs.Ytmflbibogkebmaa
