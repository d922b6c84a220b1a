/- Cycles: the nearest behind a number. -/
import Derived.Test.YtddapifljinjeaaCi
import Derived.Deep.MidRow
namespace Go.Proofs.Ytddapifljinjeaa
open Go.RowKit
open Rd Fl

/-- what an array of 100 ints says of a number -/
def farD (d : List Int) (x : Int) : Int := if 0 ≤ x ∧ x < 100 then d.getD x.toNat 0 else -1
theorem farD_at {d : List Int} (hd : d.length = 100) {x : Nat} (h : x < 100) : d[x]? = some (farD d x) := by
  unfold farD
  rw [if_pos (by omega), Int.toNat_natCast, List.getD_eq_getElem?_getD, List.getElem?_eq_getElem (by omega)]
  rfl
def NB (F : List (Int × Int)) (far : Int → Int) (a v : Int) : Prop := (v = -1 ∧ ∀ b, (a, b) ∈ F → far b = -1) ∨ ((0 ≤ v ∧ v < 100) ∧ Near F far a v)
theorem nb_skip {F : List (Int × Int)} {far : Int → Int} {a v : Int} (h : NB F far a v) (p : Int × Int) (hp : p.1 ≠ a ∨ far p.2 = -1) : NB (F ++ [p]) far a v := by
  rcases h with ⟨h1, h2⟩ | ⟨h1, h2⟩
  · refine .inl ⟨h1, fun b hb => ?_⟩
    rcases List.mem_append.1 hb with hb | hb
    · exact h2 b hb
    · have e : (a, b) = p := by simpa using hb
      subst e
      rcases hp with hp | hp
      · exact absurd rfl hp
      · exact hp
  · refine .inr ⟨h1, by simp [h2.mem], h2.ne, fun b hb hf => ?_⟩
    rcases List.mem_append.1 hb with hb | hb
    · exact h2.min b hb hf
    · have e : (a, b) = p := by simpa using hb
      subst e
      rcases hp with hp | hp
      · exact absurd rfl hp
      · exact absurd hp hf
theorem nb_first {F : List (Int × Int)} {far : Int → Int} {a b : Int} (h2 : ∀ b, (a, b) ∈ F → far b = -1) (hb : 0 ≤ b ∧ b < 100) (hf : far b ≠ -1) : NB (F ++ [(a, b)]) far a b := by
  refine .inr ⟨hb, by simp, hf, fun c hc hcf => ?_⟩
  rcases List.mem_append.1 hc with hc | hc
  · exact absurd (h2 c hc) hcf
  · have e : c = b := by simpa using hc
    subst e
    exact .inr ⟨rfl, Int.le_refl _⟩
theorem nb_less {F : List (Int × Int)} {far : Int → Int} {a b v : Int} (h2 : Near F far a v) (hb : 0 ≤ b ∧ b < 100) (hf : far b ≠ -1) (hl : far b < far v ∨ (far b = far v ∧ b < v)) : NB (F ++ [(a, b)]) far a b := by
  refine .inr ⟨hb, by simp, hf, fun c hc hcf => ?_⟩
  rcases List.mem_append.1 hc with hc | hc
  · have := h2.min c hc hcf
    omega
  · have e : c = b := by simpa using hc
    subst e
    exact .inr ⟨rfl, Int.le_refl _⟩
theorem nb_keep {F : List (Int × Int)} {far : Int → Int} {a b v : Int} (hv : 0 ≤ v ∧ v < 100) (h2 : Near F far a v) (hl : ¬ (far b < far v ∨ (far b = far v ∧ b < v))) : NB (F ++ [(a, b)]) far a v := by
  refine .inr ⟨hv, by simp [h2.mem], h2.ne, fun c hc hcf => ?_⟩
  rcases List.mem_append.1 hc with hc | hc
  · exact h2.min c hc hcf
  · have e : c = b := by simpa using hc
    subst e
    omega
theorem arr_cell (w : World) (d : List Int) (hd : d.length = 100) (t : TypeId) {x : Nat} (h : x < 100) : (w.alloc (.cells (d.map iv).toArray t)).cell? ⟨w.heap.size, x, none⟩ = some (.int .i64 (farD d x)) := by
  have h1 := farD_at hd h
  rw [World.cell?_alloc_at _ _ _ _ rfl]
  simp [h1, iv]

set_option maxRecDepth 20000 in
set_option maxHeartbeats 4000000 in
theorem nearest_any (R : Option Addr) (E : List (Int × Int)) (cap : Nat) (hl : E.length ≤ 100) (hE : ∀ p ∈ E, (0 ≤ p.1 ∧ p.1 < 100) ∧ (0 ≤ p.2 ∧ p.2 < 100)) (d : List Int) (hd : d.length = 100) (a : Int) (w : World) (hR : PrsAt w R E) :
    Calls Try.prog 47 #[.slice R E.length cap, .agg (d.map iv).toArray, .int .i64 a] w fun e w' => (∃ v : Int, e = .returned (.int .i64 v) ∧ NB E (farD d) a v) ∧ Below w.heap.size w w' := by
  have hl' : (E.length : Int) ≤ 100 := by omega
  have W1 := hide' ((Below.refl _ w).up (.cells (d.map iv).toArray 76))
  obtain ⟨b, off, hA1, hc⟩ := hR
  have HA := hide' hA1
  have HC := hide' hc
  have HEB := hide' (fun i (h : i < E.length) => hE E[i] (List.getElem_mem h))
  have HTS := hide' (fun k (h : k < E.length) => List.take_succ_eq_append_getElem h)
  have HTL := hide' (List.take_length (l := E))
  have HCE := hide' (fun x (h : x < 100) => arr_cell w d hd 76 (x := x) h)
  have HLE := hide' (show (d.map iv).toArray.size = 100 by simp [hd])
  clear hc hA1 hE hl hd
  generalize hf : farD d = far at *
  clear hf
  generalize (d.map iv).toArray = arr at *
  go_enter Try.func47, Try.ntmps47
  go_wp2_with fail
  have hW0 : Below w.heap.size w (w.alloc (.cells arr 76)) := W1.out
  have hZ0 : (w.alloc (.cells arr 76)).heap.size = w.heap.size + 1 := by simp
  have HZ := hide' hZ0
  have HW := hide' hW0
  clear hZ0 hW0 W1
  go_loopw [7, 13] (fun v i wr => ∃ (j : Nat) (y : Int), j ≤ E.length ∧ i = .int .i64 j ∧ v = .int .i64 y ∧ Hid (NB (E.take j) far a y) ∧ Hid (Below (w.alloc (.cells arr 76)).heap.size (w.alloc (.cells arr 76)) wr)) (fun _ i _ => E.length - (intOf i).toNat)
  case atStart => exact ⟨0, -1, Nat.zero_le _, rfl, rfl, .inl ⟨rfl, fun b hb => by cases hb⟩, Below.refl _ _⟩
  case round =>
    obtain ⟨j, y, hj, rfl, rfl, hnb, hb⟩ := hrel
    by_cases hjl : j < E.length
    · have hA2 := HA.out (fun e => by rw [e] at hjl; simp at hjl)
      subst hA2
      obtain ⟨b2, off2, cap2, d0, d1, d2⟩ := HC.out j hjl
      have c0 := keep_cell hb.out (keep_cell HW.out d0)
      have c1 := keep_cell hb.out (keep_cell HW.out d1)
      have c2 := keep_cell hb.out (keep_cell HW.out d2)
      have HT := hide' (HTS.out j hjl)
      obtain ⟨⟨p1, p2⟩, p3, p4⟩ := HEB.out j hjl
      clear d0 d1 d2
      generalize E[j] = p at c0 c1 c2 HT p1 p2 p3 p4
      obtain ⟨pa, pb⟩ := p
      simp only at c0 c1 c2 p1 p2 p3 p4
      obtain ⟨q, rfl⟩ := Int.eq_ofNat_of_zero_le p3
      have hq : q < 100 := by omega
      have cq := keep_cell hb.out (HCE.out q hq)
      by_cases hpa : pa = a
      · subst hpa
        by_cases hfq : far q = -1
        · have HS := hide' (show NB (E.take (j + 1)) far pa y by rw [HT.out]; exact nb_skip hnb.out (pa, (q : Int)) (.inr hfq))
          rw [hfq] at cq
          go_wp2_with fail
          go_roundw
          case rel => exact ⟨j + 1, y, by omega, by go_num, rfl, HS.out, hb.out⟩
          case measure => simp [intOf]; omega
        · have hfq' : (far q == -1) = false := by simp [hfq]
          by_cases hy : y = -1
          · subst hy
            have HS := hide' (show NB (E.take (j + 1)) far pa q by
              rw [HT.out]
              rcases hnb.out with ⟨-, h⟩ | ⟨h, -⟩
              · exact nb_first h ⟨p3, p4⟩ hfq
              · omega)
            go_wp2_with fail
            go_quiet (fail)
            go_wp2_with fail
            go_roundw
            case rel => exact ⟨j + 1, q, by omega, by go_num, rfl, HS.out, below_draws hb.out _⟩
            case measure => simp [intOf]; omega
          · obtain ⟨hy0, hy1, hnr⟩ : 0 ≤ y ∧ y < 100 ∧ Near (E.take j) far pa y := by
              rcases hnb.out with ⟨h, -⟩ | ⟨h, h2⟩
              · exact absurd h hy
              · exact ⟨h.1, h.2, h2⟩
            have HNR := hide' hnr
            obtain ⟨m, rfl⟩ := Int.eq_ofNat_of_zero_le hy0
            have hm : m < 100 := by omega
            have cm := keep_cell hb.out (HCE.out m hm)
            have hy' : ((m : Int) == -1) = false := by simp [hy]
            have HLS := hide' (fun h => nb_less HNR.out ⟨p3, p4⟩ hfq h)
            have HKP := hide' (fun h => nb_keep (b := (q : Int)) ⟨hy0, hy1⟩ HNR.out h)
            rw [← HT.out] at HLS HKP
            clear hnr HT
            generalize far q = fq at cq hfq hfq' HLS HKP
            generalize far m = fm at cm HLS HKP
            by_cases h1 : fq < fm
            · have HS := hide' (HLS.out (.inl h1))
              have g1 : decide (fq < fm) = true := decide_eq_true h1
              go_wp2_with fail
              go_quiet (fail)
              go_wp2_with fail
              go_roundw
              case rel => exact ⟨j + 1, q, by omega, by go_num, rfl, HS.out, below_draws hb.out _⟩
              case measure => simp [intOf]; omega
            · have g1 : decide (fq < fm) = false := decide_eq_false h1
              by_cases h2 : fq = fm
              · subst h2
                by_cases h3 : (q : Int) < m
                · have HS := hide' (HLS.out (.inr ⟨rfl, h3⟩))
                  go_wp2_with fail
                  go_quiet (fail)
                  go_wp2_with fail
                  go_roundw
                  case rel => exact ⟨j + 1, q, by omega, by go_num, rfl, HS.out, below_draws hb.out _⟩
                  case measure => simp [intOf]; omega
                · have HS := hide' (HKP.out (by omega))
                  have g3 : decide ((q : Int) < m) = false := decide_eq_false h3
                  go_wp2_with fail
                  go_quiet (fail)
                  go_wp2_with fail
                  go_roundw
                  case rel => exact ⟨j + 1, m, by omega, by go_num, rfl, HS.out, below_draws hb.out _⟩
                  case measure => simp [intOf]; omega
              · have HS := hide' (HKP.out (by omega))
                have g2 : (fq == fm) = false := by simp [h2]
                go_wp2_with fail
                go_quiet (fail)
                go_wp2_with fail
                go_roundw
                case rel => exact ⟨j + 1, m, by omega, by go_num, rfl, HS.out, below_draws hb.out _⟩
                case measure => simp [intOf]; omega
      · have HS := hide' (show NB (E.take (j + 1)) far a y by rw [HT.out]; exact nb_skip hnb.out (pa, (q : Int)) (.inl hpa))
        have hpa' : (pa != a) = true := by simp [hpa]
        go_wp2_with fail
        go_roundw
        case rel => exact ⟨j + 1, y, by omega, by go_num, rfl, HS.out, hb.out⟩
        case measure => simp [intOf]; omega
    · have hje : j = E.length := by omega
      subst hje
      have HS := hide' (show NB E far a y by have := hnb.out; rw [HTL.out] at this; exact this)
      go_wp2_with fail
      go_ret
      exact ⟨⟨y, rfl, HS.out⟩, HW.out.trans (hb.out.mono (by have := HZ.out; omega))⟩
end Go.Proofs.Ytddapifljinjeaa
