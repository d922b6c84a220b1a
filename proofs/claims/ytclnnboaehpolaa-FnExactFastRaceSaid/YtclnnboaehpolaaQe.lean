/- A step right ahead, and good traces: both sides answer one thing. Good traces: both sides; clocks held against each other: both sides. -/
import Derived.Test.YtclnnboaehpolaaQb
import Derived.Test.YtclnnboaehpolaaQc
import Derived.Test.YtclnnboaehpolaaQd
namespace Go.Proofs.Ytclnnboaehpolaa
open Go.RowKit
open Rd Fl

theorem b_eq {g : Bool} {P : Prop} {x y : Int} (h : g = true ↔ P) (k : P ↔ x = y) : g = (x == y) := by
  rw [Bool.eq_iff_iff, beq_iff_eq, h, k]
theorem b_no {g : Bool} {P : Prop} (h : g = true ↔ P) (k : ¬ P) : g = false := by
  rw [Bool.eq_false_iff]; exact fun e => k (h.1 e)

theorem right_both (a b : EvD) (ha : goodEv a = true) (hb : goodEv b = true) (w : World) :
    (Calls Try.prog 26 #[.agg #[.int .i64 a.th, .int .i64 a.kd, .int .i64 a.ob, .int .i64 a.lk, .int .i64 a.pc], .agg #[.int .i64 b.th, .int .i64 b.kd, .int .i64 b.ob, .int .i64 b.lk, .int .i64 b.pc]] w fun r w' => r = .returned (.bool (rightB a b)) ∧ Below w.heap.size w w') ∧
    (Calls Try.prog 23 #[.agg #[.int .i64 a.th, .int .i64 a.kd, .int .i64 a.ob, .int .i64 a.lk, .int .i64 a.pc], .agg #[.int .i64 b.th, .int .i64 b.kd, .int .i64 b.ob, .int .i64 b.lk, .int .i64 b.pc]] w fun r w' => r = .returned (.bool (rightB a b)) ∧ Below w.heap.size w w') := by
  obtain ⟨a0, a1, a2, a3, a4⟩ := a
  obtain ⟨b0, b1, b2, b3, b4⟩ := b
  have hA := goodev_all ha
  have hB := goodev_all hb
  simp only at hA hB
  obtain ⟨-, -, -, -, -, -, -, -, -, -, ho, hl⟩ := hA
  obtain ⟨-, -, -, -, -, -, -, -, -, -, ho', hl'⟩ := hB
  clear ha hb
  have j5 : a1 = 5 → 0 ≤ a2 := fun h => by omega
  have j8 : a1 = 8 → 0 ≤ a3 := fun h => by omega
  have j4 : b1 = 4 → 0 ≤ b2 := fun h => by omega
  have j9 : b1 = 9 → 0 ≤ b3 := fun h => by omega
  clear ho hl ho' hl'
  have hg : rightB ⟨a0, a1, a2, a3, a4⟩ ⟨b0, b1, b2, b3, b4⟩ = true ↔ (a0 = b0 ∨ (a1 = 5 ∧ b1 = 4 ∧ a2 = b2) ∨ (a1 = 5 ∧ b1 = 9 ∧ a2 = b3) ∨ (a1 = 8 ∧ b1 = 4 ∧ a3 = b2) ∨ (a1 = 8 ∧ b1 = 9 ∧ a3 = b3) ∨ (a1 = 6 ∧ a2 = b0) ∨ (a1 = 11 ∧ b1 = 7 ∧ b2 = a0) ∨ (a1 = 10 ∧ b1 = 9 ∧ b0 = a3)) := by
    unfold rightB; rw [decide_eq_true_eq]
  simp only
  generalize rightB ⟨a0, a1, a2, a3, a4⟩ ⟨b0, b1, b2, b3, b4⟩ = g at hg
  have HG := hide' hg
  clear hg
  by_cases e0 : a0 = b0
  · have : g = true := HG.out.2 (.inl e0)
    subst this
    exact right_same a0 a1 a2 a3 a4 b0 b1 b2 b3 b4 w (by rw [beq_iff_eq]; exact e0)
  · have n0 : (a0 == b0) = false := by rw [beq_eq_false_iff_ne]; exact e0
    have hz2 := gv_tk (-2) (-3) a1 a2 a3 b1 b2 b3 (by omega) (by omega) (.inl (by omega)) j5 j8 j4 j9
    constructor
    · by_cases L : (a1 = 5 ∧ b1 = 4 ∧ a2 = b2) ∨ (a1 = 5 ∧ b1 = 9 ∧ a2 = b3) ∨ (a1 = 8 ∧ b1 = 4 ∧ a3 = b2) ∨ (a1 = 8 ∧ b1 = 9 ∧ a3 = b3)
      · rw [decide_eq_true L] at hz2
        refine l6right_w a0 a1 a2 a3 a4 b0 b1 b2 b3 b4 g true w n0 hz2 (.inl ⟨rfl, HG.out.2 ?_⟩)
        rcases L with L | L | L | L
        · exact .inr (.inl L)
        · exact .inr (.inr (.inl L))
        · exact .inr (.inr (.inr (.inl L)))
        · exact .inr (.inr (.inr (.inr (.inl L))))
      · rw [decide_eq_false L] at hz2
        have hg' : g = true ↔ ((a1 = 6 ∧ a2 = b0) ∨ (a1 = 11 ∧ b1 = 7 ∧ b2 = a0) ∨ (a1 = 10 ∧ b1 = 9 ∧ b0 = a3)) := by
          rw [HG.out]
          constructor
          · rintro (h | h | h | h | h | h)
            · exact absurd h e0
            · exact absurd (.inl h) L
            · exact absurd (.inr (.inl h)) L
            · exact absurd (.inr (.inr (.inl h))) L
            · exact absurd (.inr (.inr (.inr h))) L
            · exact h
          · exact fun h => .inr (.inr (.inr (.inr (.inr h))))
        refine l6right_w a0 a1 a2 a3 a4 b0 b1 b2 b3 b4 g false w n0 hz2 (.inr ?_)
        have HQ := hide' hg'
        clear hg' L hz2 j5 j8 j4 j9
        by_cases e6 : a1 = 6
        · exact .inl ⟨rfl, by simp [e6], b_eq HQ.out (by omega)⟩
        · have n6 : (a1 == 6) = false := by simp [e6]
          refine .inr ?_
          by_cases e11 : a1 = 11
          · by_cases e7 : b1 = 7
            · exact .inr (.inl ⟨rfl, n6, by simp [e11], by simp [e7], b_eq HQ.out (by omega)⟩)
            · exact .inl ⟨rfl, n6, by simp [e11], by simp [e7], b_no HQ.out (by omega)⟩
          · have n11 : (a1 == 11) = false := by simp [e11]
            refine .inr (.inr ?_)
            by_cases e10 : a1 = 10
            · by_cases e9 : b1 = 9
              · exact .inr (.inl ⟨rfl, n6, n11, by simp [e10], by simp [e9], b_eq HQ.out (by omega)⟩)
              · exact .inl ⟨rfl, n6, n11, by simp [e10], by simp [e9], b_no HQ.out (by omega)⟩
            · exact .inr (.inr ⟨rfl, n6, n11, by simp [e10], b_no HQ.out (by omega)⟩)
    · by_cases e58 : a1 = 5 ∨ a1 = 8
      · have hz1 := gv_tk (-1) (-1) a1 a2 a3 b1 b2 b3 (by omega) (by omega) (.inr e58) j5 j8 j4 j9
        have : g = decide ((a1 = 5 ∧ b1 = 4 ∧ a2 = b2) ∨ (a1 = 5 ∧ b1 = 9 ∧ a2 = b3) ∨ (a1 = 8 ∧ b1 = 4 ∧ a3 = b2) ∨ (a1 = 8 ∧ b1 = 9 ∧ a3 = b3)) := by
          rw [Bool.eq_iff_iff, decide_eq_true_eq, HG.out]
          constructor
          · rintro (h | h | h | h | h | h)
            · exact absurd h e0
            · exact .inl h
            · exact .inr (.inl h)
            · exact .inr (.inr (.inl h))
            · exact .inr (.inr (.inr h))
            · clear hz2 hz1; omega
          · rintro (h | h | h | h)
            · exact .inr (.inl h)
            · exact .inr (.inr (.inl h))
            · exact .inr (.inr (.inr (.inl h)))
            · exact .inr (.inr (.inr (.inr (.inl h))))
        rw [← this] at hz1
        refine rightah_lock a0 a1 a2 a3 a4 b0 b1 b2 b3 b4 g w n0 hz1 ?_
        rcases e58 with e | e
        · exact .inl (by simp [e])
        · exact .inr ⟨by simp [e], by simp [e]⟩
      · have hg' : g = true ↔ ((a1 = 6 ∧ a2 = b0) ∨ (a1 = 11 ∧ b1 = 7 ∧ b2 = a0) ∨ (a1 = 10 ∧ b1 = 9 ∧ b0 = a3)) := by
          rw [HG.out]
          constructor
          · rintro (h | h | h | h | h | h)
            · exact absurd h e0
            · exact absurd (.inl h.1) e58
            · exact absurd (.inl h.1) e58
            · exact absurd (.inr h.1) e58
            · exact absurd (.inr h.1) e58
            · exact h
          · exact fun h => .inr (.inr (.inr (.inr (.inr h))))
        refine rightah_rest a0 a1 a2 a3 a4 b0 b1 b2 b3 b4 g w n0 (by rw [beq_eq_false_iff_ne]; omega) (by rw [beq_eq_false_iff_ne]; omega) ?_
        have HQ := hide' hg'
        clear hg' hz2 j5 j8 j4 j9
        by_cases e6 : a1 = 6
        · exact .inl ⟨by simp [e6], b_eq HQ.out (by omega)⟩
        · have n6 : (a1 == 6) = false := by simp [e6]
          refine .inr ?_
          by_cases e11 : a1 = 11
          · by_cases e7 : b1 = 7
            · exact .inr (.inl ⟨n6, by simp [e11], by simp [e7], b_eq HQ.out (by omega)⟩)
            · exact .inl ⟨n6, by simp [e11], by simp [e7], b_no HQ.out (by omega)⟩
          · have n11 : (a1 == 11) = false := by simp [e11]
            refine .inr (.inr ?_)
            by_cases e10 : a1 = 10
            · by_cases e9 : b1 = 9
              · exact .inr (.inl ⟨n6, n11, by simp [e10], by simp [e9], b_eq HQ.out (by omega)⟩)
              · exact .inl ⟨n6, n11, by simp [e10], by simp [e9], b_no HQ.out (by omega)⟩
            · exact .inr (.inr ⟨n6, n11, by simp [e10], b_no HQ.out (by omega)⟩)
end Go.Proofs.Ytclnnboaehpolaa
namespace Go.Proofs.Ytclnnboaehpolaa
open Go.RowKit
open Rd Fl

theorem alt_succ {α : Type} {p : α → Bool} {l : List α} {k : Nat} (h : k < l.length) (h1 : ∀ x ∈ l.take k, p x = true) (h2 : p l[k] = true) : ∀ x ∈ l.take (k + 1), p x = true := by
  rw [List.take_succ_eq_append_getElem h]
  intro x hx
  rw [List.mem_append, List.mem_singleton] at hx
  rcases hx with hx | rfl
  · exact h1 x hx
  · exact h2
theorem alt_all {α : Type} {p : α → Bool} {l : List α} (h1 : ∀ x ∈ l.take l.length, p x = true) : l.all p = true := by
  rw [List.take_length] at h1
  exact List.all_eq_true.2 h1
theorem alf_at {α : Type} {p : α → Bool} {l : List α} {k : Nat} (h : k < l.length) (h2 : p l[k] = false) : l.all p = false := by
  rw [Bool.eq_false_iff]
  intro e
  have := List.all_eq_true.1 e l[k] (List.getElem_mem h)
  rw [h2] at this; cases this

set_option maxRecDepth 20000 in
set_option maxHeartbeats 2000000 in
theorem l6trace_any (A : Option Addr) (l : List EvD) (cap : Nat) (hl : l.length ≤ 1048576) (w : World) (hA : EvsAt w A l) :
    Calls Try.prog 9 #[.slice A l.length cap] w fun e w' => e = .returned (.bool (goodTr l)) ∧ Below w.heap.size w w' := by
  have hl' : (l.length : Int) ≤ 1048576 := by omega
  have HGT : Hid (∀ b, decide ((l.length : Int) ≤ 200) = b → l.all goodEv = true → goodTr l = b) := by
    intro b hb h
    unfold goodTr
    rw [h, Bool.and_true, ← hb]
    rw [Bool.eq_iff_iff, decide_eq_true_eq, decide_eq_true_eq]; omega
  have HGF : Hid (l.all goodEv = false → goodTr l = false) := by
    intro h; unfold goodTr; rw [h, Bool.and_false]
  obtain ⟨b, off, hA1, hc⟩ := hA
  by_cases he : l = []
  · subst he
    have HN := hide' (HGT.out true rfl rfl)
    clear hc hA1 HGT HGF
    go_enter Try.func9, Try.ntmps9
    go_wp2
    go_loop [7] (fun i => i = .int .i64 0) (fun _ => 0)
    case atStart => rfl
    case round =>
      subst hrel
      go_wp2
      go_ret
      exact ⟨by rw [HN.out]; rfl, Below.refl _ _⟩
  · have hA2 := hA1 he
    subst hA2
    have HC := hide' (fun i (hi : i < l.length) => hc i l[i] (List.getElem?_eq_getElem hi))
    clear hc hA1 he
    go_enter Try.func9, Try.ntmps9
    go_wp2
    go_loopw [7] (fun i wr => ∃ k : Nat, k ≤ l.length ∧ i = .int .i64 k ∧ Hid (∀ o ∈ l.take k, goodEv o = true) ∧ Hid (Below w.heap.size w wr)) (fun i _ => l.length - (intOf i).toNat)
    case atStart => exact ⟨0, Nat.zero_le _, rfl, (fun o ho => by cases ho), Below.refl _ _⟩
    case round =>
      obtain ⟨k, hk, rfl, hdo, hbw⟩ := hrel
      by_cases hlt : k < l.length
      · obtain ⟨c0, c1, c2, c3, c4⟩ := ev_range (range_keep hbw.out (HC.out k hlt))
        have HOS := hide' (fun h => alt_succ (p := goodEv) hlt hdo.out h)
        have HOF := hide' (fun h => HGF.out (alf_at (p := goodEv) hlt h))
        generalize l[k] = o at c0 c1 c2 c3 c4 HOS HOF
        have HCL := hide' (fun w => l6event_any o w)
        obtain ⟨r0, r1, r2, r3, r4⟩ := o
        simp only at HCL
        cases hok : goodEv ⟨r0, r1, r2, r3, r4⟩
        · rw [hok] at HCL
          have HNO := hide' (HOF.out hok)
          clear hok HOS HOF HGT HGF
          go_wp2_with (go_at_call 19; refine (HCL.out _).mono ?_; rintro e w2 ⟨rfl, hb2⟩)
          go_ret
          exact ⟨by rw [HNO.out]; rfl, (hbw.out.up _).trans (hb2.mono (by have := hbw.out.size; simp; omega))⟩
        · rw [hok] at HCL
          have HO := hide' (HOS.out hok)
          clear hok HOS HOF
          go_wp2_with (go_at_call 19; refine (HCL.out _).mono ?_; rintro e w2 ⟨rfl, hb2⟩)
          go_roundw
          case rel => exact ⟨k + 1, by omega, by go_num, HO.out, (hbw.out.up _).trans (hb2.mono (by have := hbw.out.size; simp; omega))⟩
          case measure => simp [intOf]; omega
      · have hke : k = l.length := by omega
        subst hke
        obtain ⟨g, hg⟩ : ∃ g, decide ((l.length : Int) ≤ 200) = g := ⟨_, rfl⟩
        have HNO := hide' (HGT.out g hg (alt_all hdo.out))
        go_wp2_with fail
        go_ret
        exact ⟨by rw [HNO.out]; rfl, hbw.out⟩

set_option maxRecDepth 20000 in
set_option maxHeartbeats 2000000 in
theorem igoodtr_any (A : Option Addr) (l : List EvD) (cap : Nat) (hl : l.length ≤ 1048576) (w : World) (hA : EvsAt w A l) :
    Calls Try.prog 21 #[.slice A l.length cap] w fun e w' => e = .returned (.bool (goodTr l)) ∧ Below w.heap.size w w' := by
  have hl' : (l.length : Int) ≤ 1048576 := by omega
  by_cases h2 : l.length ≤ 200
  · have hd : decide ((200 : Int) < l.length) = false := decide_eq_false (by omega)
    have HGT : Hid (l.all goodEv = true → goodTr l = true) := by
      intro h
      unfold goodTr
      rw [h, decide_eq_true h2]; rfl
    have HGF : Hid (l.all goodEv = false → goodTr l = false) := by
      intro h; unfold goodTr; rw [h, Bool.and_false]
    clear h2
    obtain ⟨b, off, hA1, hc⟩ := hA
    by_cases he : l = []
    · subst he
      have HN := hide' (HGT.out rfl)
      clear hc hA1 HGT HGF
      go_enter Try.func21, Try.ntmps21
      go_wp2
      go_loop [10] (fun i => i = .int .i64 0) (fun _ => 0)
      case atStart => rfl
      case round =>
        subst hrel
        go_wp2
        go_ret
        exact ⟨by rw [HN.out]; rfl, Below.refl _ _⟩
    · have hA2 := hA1 he
      subst hA2
      have HC := hide' (fun i (hi : i < l.length) => hc i l[i] (List.getElem?_eq_getElem hi))
      clear hc hA1 he
      go_enter Try.func21, Try.ntmps21
      go_wp2
      go_loopw [10] (fun i wr => ∃ k : Nat, k ≤ l.length ∧ i = .int .i64 k ∧ Hid (∀ o ∈ l.take k, goodEv o = true) ∧ Hid (Below w.heap.size w wr)) (fun i _ => l.length - (intOf i).toNat)
      case atStart => exact ⟨0, Nat.zero_le _, rfl, (fun o ho => by cases ho), Below.refl _ _⟩
      case round =>
        obtain ⟨k, hk, rfl, hdo, hbw⟩ := hrel
        by_cases hlt : k < l.length
        · obtain ⟨c0, c1, c2, c3, c4⟩ := ev_range (range_keep hbw.out (HC.out k hlt))
          have HOS := hide' (fun h => alt_succ (p := goodEv) hlt hdo.out h)
          have HOF := hide' (fun h => HGF.out (alf_at (p := goodEv) hlt h))
          generalize l[k] = o at c0 c1 c2 c3 c4 HOS HOF
          have HCL := hide' (fun w => igoodev_any o w)
          obtain ⟨r0, r1, r2, r3, r4⟩ := o
          simp only at HCL
          cases hok : goodEv ⟨r0, r1, r2, r3, r4⟩
          · rw [hok] at HCL
            have HNO := hide' (HOF.out hok)
            clear hok HOS HOF HGT HGF
            go_wp2_with (go_at_call 27; refine (HCL.out _).mono ?_; rintro e w2 ⟨rfl, hb2⟩)
            go_ret
            exact ⟨by rw [HNO.out]; rfl, (hbw.out.up _).trans (hb2.mono (by have := hbw.out.size; simp; omega))⟩
          · rw [hok] at HCL
            have HO := hide' (HOS.out hok)
            clear hok HOS HOF
            go_wp2_with (go_at_call 27; refine (HCL.out _).mono ?_; rintro e w2 ⟨rfl, hb2⟩)
            go_roundw
            case rel => exact ⟨k + 1, by omega, by go_num, HO.out, (hbw.out.up _).trans (hb2.mono (by have := hbw.out.size; simp; omega))⟩
            case measure => simp [intOf]; omega
        · have hke : k = l.length := by omega
          subst hke
          have HNO := hide' (HGT.out (alt_all hdo.out))
          go_wp2_with fail
          go_ret
          exact ⟨by rw [HNO.out]; rfl, hbw.out⟩
  · have hd : decide ((200 : Int) < l.length) = true := decide_eq_true (by omega)
    have HNO : Hid (goodTr l = false) := by unfold Hid goodTr; rw [decide_eq_false h2]; rfl
    clear h2 hA
    go_enter Try.func21, Try.ntmps21
    go_wp2_with fail
    go_ret
    exact ⟨by rw [HNO.out]; rfl, Below.refl _ _⟩

end Go.Proofs.Ytclnnboaehpolaa
