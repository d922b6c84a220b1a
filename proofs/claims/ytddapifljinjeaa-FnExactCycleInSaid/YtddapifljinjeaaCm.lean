/- Cycles: which pairs are good, by the code. -/
import Derived.Test.YtddapifljinjeaaCi
namespace Go.Proofs.Ytddapifljinjeaa
open Go.RowKit
open Rd Fl

theorem two_of {l : List Int} (h : l.length = 2) : ∃ x y, l = [x, y] := by
  match l, h with
  | [x, y], _ => exact ⟨x, y, rfl⟩

set_option maxRecDepth 20000 in
set_option maxHeartbeats 4000000 in
theorem goodpairs_any (R : Option Addr) (es : List (List Int)) (cap : Nat) (hl : es.length ≤ 1048576) (hls : ∀ l ∈ es, l.length ≤ 1048576) (w : World) (hR : IssAt w R es) :
    Calls Try.prog 32 #[.slice R es.length cap] w fun e w' => e = .returned (.bool (goodE es)) ∧ Below w.heap.size w w' := by
  have hl' : (es.length : Int) ≤ 1048576 := by omega
  obtain ⟨b, off, hA1, hc⟩ := hR
  have HA := hide' hA1
  have HC := hide' (fun i (hi : i < es.length) => hc i es[i] (List.getElem?_eq_getElem hi))
  have HLS := hide' (fun i (hi : i < es.length) => hls es[i] (List.getElem_mem hi))
  have HGD := hide' (goodE_def es)
  have HTS := hide' (fun k (h : k < es.length) (h1 : ∀ x ∈ es.take k, okP x = true) (h2 : okP es[k] = true) => allC_succ (p := okP) h h1 h2)
  have HNO := hide' (fun k (h : k < es.length) (h2 : okP es[k] = false) => allC_no (p := okP) h h2)
  have HAL := hide' (fun (h1 : ∀ x ∈ es.take es.length, okP x = true) => allC_all (p := okP) h1)
  clear hc hA1 hls hl
  by_cases h100 : es.length ≤ 100
  · have h' : (es.length : Int) ≤ 100 := by omega
    have HD := hide' (decide_eq_true h100)
    go_enter Try.func32, Try.ntmps32
    go_wp2
    go_loopw [10] (fun i wr => ∃ k : Nat, k ≤ es.length ∧ i = .int .i64 k ∧ Hid (∀ x ∈ es.take k, okP x = true) ∧ Hid (Below w.heap.size w wr)) (fun i _ => es.length - (intOf i).toNat)
    case atStart => exact ⟨0, Nat.zero_le _, rfl, (fun x hx => by cases hx), Below.refl _ _⟩
    case round =>
      obtain ⟨k, hk, rfl, hlow, hb⟩ := hrel
      by_cases hlt : k < es.length
      · have hA2 := HA.out (fun e => by rw [e] at hlt; simp at hlt)
        subst hA2
        obtain ⟨A, cp, c0, b2, off2, h1, h2⟩ := HC.out k hlt
        have c1 := keep_cell hb.out c0
        have HL := hide' (HLS.out k hlt)
        have HT := hide' (HTS.out k hlt hlow.out)
        have HN := hide' (HNO.out k hlt)
        clear c0
        generalize es[k] = l at c1 HL HT HN h1 h2
        have hll : (l.length : Int) ≤ 1048576 := by have := HL.out; omega
        by_cases h2' : l.length = 2
        · obtain ⟨x, y, rfl⟩ := two_of h2'
          have hA := h1 (by simp)
          subst hA
          have d0 : wr.cell? ⟨b2, off2, none⟩ = some (.int .i64 x) := by have := keep_cell hb.out (h2 0 x rfl); simpa [iv] using this
          have d1 : wr.cell? ⟨b2, off2 + 1, none⟩ = some (.int .i64 y) := keep_cell hb.out (h2 1 y rfl)
          clear h1 h2
          simp only [List.length_cons, List.length_nil] at c1
          by_cases hyx : y < x
          · have hxy : ¬ x < y := by omega
            by_cases hm : y < 0
            · have e2 : okP [x, y] = false := by simp [okP]; omega
              have HZ := hide' (HN.out e2)
              clear HT HN e2
              go_wp2_with fail
              go_quiet (fail)
              go_wp2_with fail
              go_ret
              exact ⟨by rw [HGD.out, HZ.out]; rfl, below_draws hb.out _⟩
            · have g1 : decide (y < 0) = false := decide_eq_false hm
              by_cases hx : 100 ≤ x
              · have e2 : okP [x, y] = false := by simp [okP]; omega
                have HZ := hide' (HN.out e2)
                clear HT HN e2
                go_wp2_with fail
                go_quiet (fail)
                go_wp2_with fail
                go_ret
                exact ⟨by rw [HGD.out, HZ.out]; rfl, below_draws hb.out _⟩
              · have g2 : decide (100 ≤ x) = false := decide_eq_false hx
                have e2 : okP [x, y] = true := by simp [okP]; omega
                have HZ := hide' (HT.out e2)
                clear HT HN e2
                go_wp2_with fail
                go_quiet (fail)
                go_wp2_with fail
                go_roundw
                case rel => exact ⟨k + 1, by omega, by go_num, HZ.out, below_draws hb.out _⟩
                case measure => simp [intOf]; omega
          · by_cases hxy : x < y
            · have hdone := hxy
              clear hdone
              by_cases hm : x < 0
              · have e2 : okP [x, y] = false := by simp [okP]; omega
                have HZ := hide' (HN.out e2)
                clear HT HN e2
                go_wp2_with fail
                go_quiet (fail)
                go_wp2_with fail
                go_ret
                exact ⟨by rw [HGD.out, HZ.out]; rfl, below_draws hb.out _⟩
              · have g1 : decide (x < 0) = false := decide_eq_false hm
                by_cases hx : 100 ≤ y
                · have e2 : okP [x, y] = false := by simp [okP]; omega
                  have HZ := hide' (HN.out e2)
                  clear HT HN e2
                  go_wp2_with fail
                  go_quiet (fail)
                  go_wp2_with fail
                  go_ret
                  exact ⟨by rw [HGD.out, HZ.out]; rfl, below_draws hb.out _⟩
                · have g2 : decide (100 ≤ y) = false := decide_eq_false hx
                  have e2 : okP [x, y] = true := by simp [okP]; omega
                  have HZ := hide' (HT.out e2)
                  clear HT HN e2
                  go_wp2_with fail
                  go_quiet (fail)
                  go_wp2_with fail
                  go_roundw
                  case rel => exact ⟨k + 1, by omega, by go_num, HZ.out, below_draws hb.out _⟩
                  case measure => simp [intOf]; omega
            · have hxe : y = x := by omega
              subst hxe
              by_cases hm : y < 0
              · have e2 : okP [y, y] = false := by simp [okP]; omega
                have HZ := hide' (HN.out e2)
                clear HT HN e2
                go_wp2_with fail
                go_quiet (fail)
                go_wp2_with fail
                go_ret
                exact ⟨by rw [HGD.out, HZ.out]; rfl, below_draws hb.out _⟩
              · have g1 : decide (y < 0) = false := decide_eq_false hm
                by_cases hx : 100 ≤ y
                · have e2 : okP [y, y] = false := by simp [okP]; omega
                  have HZ := hide' (HN.out e2)
                  clear HT HN e2
                  go_wp2_with fail
                  go_quiet (fail)
                  go_wp2_with fail
                  go_ret
                  exact ⟨by rw [HGD.out, HZ.out]; rfl, below_draws hb.out _⟩
                · have g2 : decide (100 ≤ y) = false := decide_eq_false hx
                  have e2 : okP [y, y] = true := by simp [okP]; omega
                  have HZ := hide' (HT.out e2)
                  clear HT HN e2
                  go_wp2_with fail
                  go_quiet (fail)
                  go_wp2_with fail
                  go_roundw
                  case rel => exact ⟨k + 1, by omega, by go_num, HZ.out, below_draws hb.out _⟩
                  case measure => simp [intOf]; omega
        · have e2 : okP l = false := by unfold okP; rw [decide_eq_false h2', Bool.false_and]
          have h3 : ((l.length : Int) != 2) = true := by simp; omega
          have HZ := hide' (HN.out e2)
          clear HT HN e2 h1 h2
          go_wp2_with fail
          go_quiet (fail)
          go_wp2_with fail
          go_ret
          exact ⟨by rw [HGD.out, HZ.out]; rfl, below_draws hb.out _⟩
      · have hke : k = es.length := by omega
        subst hke
        have HZ := hide' (HAL.out hlow.out)
        go_wp2_with fail
        go_ret
        exact ⟨by rw [HGD.out, HZ.out, HD.out]; rfl, hb.out⟩
  · have h' : ¬ (es.length : Int) ≤ 100 := by omega
    have HD := hide' (decide_eq_false h100)
    go_enter Try.func32, Try.ntmps32
    go_wp2_with fail
    go_ret
    exact ⟨by rw [HGD.out, HD.out, Bool.and_false]; rfl, Below.refl _ _⟩
end Go.Proofs.Ytddapifljinjeaa
