/- SideBySide: the specification's side. -/
import Derived.Test.YtiabocbabpcofaaQx
namespace Go.Proofs.Ytiabocbabpcofaa
open Go.RowKit
open Rd Fl

set_option maxRecDepth 20000 in
set_option maxHeartbeats 8000000 in
theorem sside_any (A : Option Addr) (l : List EvD) (cap : Nat) (hl : l.length ≤ 1048576) (w : World) (hA : EvsAt w A l) :
    Calls Try.prog 28 #[.slice A l.length cap] w fun e w' => (∃ v, e = .returned (.tuple #[v, .bool (goodTr l)]) ∧ ResQ (sideN l) w' w.heap.size w'.heap.size v) ∧ Below w.heap.size w w' := by
  have HG := hide' (l6trace_any A l cap hl w hA)
  have HA := hide' hA
  have HQ := hide' (sideN_len l)
  have HQ2 := hide' (sideN_two l)
  unfold sideN at HQ HQ2 ⊢
  cases hg : goodTr l
  · rw [hg] at HG
    rw [if_neg (by simp)]
    clear hg HQ HQ2 hA
    go_enter Try.func28, Try.ntmps28
    go_wp2_with fail
    refine HG.out.mono ?_
    rintro e w1 ⟨rfl, hb1⟩
    go_wp2_with fail
    go_ret2
    exact ⟨⟨_, rfl, resq_nil _ _ _ _ _⟩, hb1⟩
  · rw [hg] at HG HQ HQ2
    rw [if_pos rfl] at HQ HQ2 ⊢
    obtain ⟨i0, hi, hz0, hz1, hz2⟩ := intsInfo
    have h200 := good_len hg
    have hn' : (l.length : Int) ≤ 200 := by omega
    by_cases he : l = []
    · subst he
      have HM := hide' (fun w => l6ahead_nil A cap w)
      clear hg hA HA hl
      go_enter Try.func28, Try.ntmps28
      go_wp2_with (first | (go_at_call 30; refine HG.out.mono ?_; rintro e w1 ⟨rfl, hb1⟩; have B1 := hide' hb1) | (go_at_call 41; refine (HM.out _).mono ?_; rintro e w2 ⟨g, rfl, hb2⟩; have B2 := hide' (B1.out.trans (hb2.mono B1.out.size))))
      go_loop [5, 15] (fun v i => v = .slice none 0 0 ∧ i = .int .i64 0) (fun _ _ => 0)
      case atStart => exact ⟨rfl, rfl⟩
      case round =>
        obtain ⟨rfl, rfl⟩ := hrel
        go_wp2_with fail
        go_ret2
        exact ⟨⟨_, rfl, resq_nil _ _ _ _ _⟩, B2.out⟩
    · have HM := hide' (fun w hA => l6ahead_any A l cap hg he w hA)
      have HS := hide' (fun i j h hp => prTo_yes (p := fun i j => !ahB l i j) (i := i) (j := j) h hp)
      have HN := hide' (fun i j hp => prTo_no (p := fun i j => !ahB l i j) (i := i) (j := j) hp)
      have HL0 := hide' (fun i => prTo_low (fun i j => !ahB l i j) i (i + 1) (Nat.le_refl _))
      have HLA := hide' (fun k => prAll_len (fun i j => !ahB l i j) l.length k)
      have HLT := hide' (fun i j => prTo_len (fun i j => !ahB l i j) i j)
      generalize hp : (fun i j => !ahB l i j) = p at HQ HQ2 HS HN HL0 HLA HLT
      clear hp hg hl hA he
      go_enter Try.func28, Try.ntmps28
      go_wp2_with (first | (go_at_call 30; refine HG.out.mono ?_; rintro e w1 ⟨rfl, hb1⟩; have B1 := hide' hb1) | (go_at_call 41; refine (HM.out _ (HA.out.keep B1.out)).mono ?_; rintro e w2 ⟨g, rfl, hm⟩; have M2 := hide' hm; have B2 := hide' (B1.out.trans (hm.b.mono B1.out.size))))
      clear hb1 hm HG HM HA
      go_loopw [5, 15] (fun v i wr => ∃ (k : Nat) (Ms : List Nat), k ≤ l.length ∧ i = .int .i64 k ∧ Hid (PrR w2 wr (prAll p l.length k) v Ms)) (fun _ i _ => l.length - (intOf i).toNat)
      case atStart => exact ⟨0, [], Nat.zero_le _, rfl, ⟨Below.refl _ _, rowss_nil _ _⟩⟩
      case round =>
        obtain ⟨k, Ms, hk, rfl, hrnd⟩ := hrel
        by_cases hlt : k < l.length
        · have HLAk := hide' (Nat.le_trans (HLA.out k) (Nat.mul_le_mul (show k ≤ 200 by omega) h200))
          have hk2 : (k : Int) < l.length := by omega
          obtain ⟨wo, hwo⟩ : ∃ wo, wo = wr := ⟨_, rfl⟩
          rw [← hwo] at hrnd
          have HR0 := hide' (show PrR w2 wr (prAll p l.length k ++ prTo p k (k + 1)) _ Ms by rw [HL0.out, List.append_nil, ← hwo]; exact hrnd.out)
          clear hrnd hwo
          go_wp2_with fail
          go_loopw [5, 7] (fun v i wr => ∃ (j : Nat) (Ms : List Nat), k + 1 ≤ j ∧ j ≤ l.length ∧ i = .int .i64 j ∧ Hid (PrR w2 wr (prAll p l.length k ++ prTo p k j) v Ms)) (fun _ i _ => l.length - (intOf i).toNat)
          case atStart => exact ⟨k + 1, Ms, Nat.le_refl _, hlt, by simp, HR0.out⟩
          case round =>
            clear HR0
            obtain ⟨j, Ns, hj1, hj2, rfl, hrnd⟩ := hrel
            by_cases hjl : j < l.length
            · have HSj := hide' (HS.out k j (by omega))
              have HNj := hide' (HN.out k j)
              have HL := hide' (show (prAll p l.length k ++ prTo p k j).length ≤ 40200 by rw [List.length_append]; have := HLAk.out; have := HLT.out k j; omega)
              obtain ⟨R, -, -, r3, r4⟩ := M2.out.r j hjl
              have c0 := keep_cell hrnd.out.b r3
              have c1 := keep_cell hrnd.out.b (r4 k hlt)
              have hj3 : (j : Int) < l.length := by omega
              have j0 : 0 ≤ (j : Int) := by omega
              have HEN := hide' (fun h => show prAll p l.length k ++ prTo p k (j + 1) = prAll p l.length k ++ prTo p k j by rw [HNj.out h])
              have HES := hide' (fun h => show prAll p l.length k ++ prTo p k (j + 1) = prAll p l.length k ++ prTo p k j ++ [[(k : Int), (j : Int)]] by rw [HSj.out h, List.append_assoc])
              clear HNj HSj r3 r4
              generalize hls : prAll p l.length k ++ prTo p k j = ls at *
              clear hls
              generalize ahB l k j = gb at c1 HEN HES
              cases gb
              · have HE := hide' (HES.out rfl)
                clear HEN HES
                go_wp2_with (first
                  | (at_builtin; refine wpList_append_own_at _ rfl _ _ 29 rfl w2.heap.size 38 i0 (.slice none 0 0) 1 24 Try.underlying29 hi hz0 hz1 hz2 rfl (by decide) _ _ _ rfl ((hrnd.out.r.o.alloc _).alloc _) ⟨wr.heap.size + 1, 0, none⟩ 1 1 [slV wr.heap.size [(k : Int), (j : Int)]] rfl rfl ?c1 ?c2 ?c3 ?c4 ?c5 ?_)
                  | go_in)
                case c1 =>
                  intro j u hj
                  match j, hj with
                  | 0, hj => simp at hj; subst hj; simp [slV, Addr.add]
                case c2 => intro u hu; simp at hu; subst hu; rfl
                case c3 => unfold maxLen; have := HL.out; omega
                case c4 => have := HL.out; omega
                case c5 => have := hrnd.out.b.size; simp; omega
                intro v' w3 hown3 hgrow _ hblk
                have R6 := hide' (hrnd.out.snoc (k : Int) (j : Int) hown3 hgrow hblk)
                clear hown3 hgrow hblk
                go_wp2_with fail
                go_roundw
                case rel => exact ⟨j + 1, _, by omega, by omega, by go_num, by rw [HE.out]; exact R6.out⟩
                case measure => simp [intOf]; omega
              · have HE := hide' (HEN.out rfl)
                clear HEN HES HL
                go_wp2_with fail
                go_roundw
                case rel => exact ⟨j + 1, Ns, by omega, by omega, by go_num, by rw [HE.out]; exact hrnd.out⟩
                case measure => simp [intOf]; omega
            · have hje : j = l.length := by omega
              subst hje
              have HE := hide' (show PrR w2 wr (prAll p l.length (k + 1)) _ Ns from hrnd.out)
              go_wp2_with fail
              go_roundw
              case rel => exact ⟨k + 1, Ns, by omega, by go_num, HE.out⟩
              case measure => simp [intOf]; omega
        · have hke : k = l.length := by omega
          subst hke
          go_wp2_with fail
          go_ret2
          exact ⟨⟨_, rfl, resq_less (resq_rowss hrnd.out.r HQ.out HQ2.out) B2.out.size⟩, B2.out.trans (hrnd.out.b.mono B2.out.size)⟩
end Go.Proofs.Ytiabocbabpcofaa
