/- NextAfter: both sides. -/
import Derived.Test.YtiabocbabpcofaaQk
namespace Go.Proofs.Ytiabocbabpcofaa
open Go.RowKit
open Rd Fl

theorem box_new (w : World) (v : Value) (t : TypeId) : (w.alloc (.cells #[v] t)).cell? ⟨w.heap.size, 0, none⟩ = some v := by
  rw [World.cell?_alloc_new]; rfl

set_option maxRecDepth 20000 in
set_option maxHeartbeats 4000000 in
theorem inext_any (A : Option Addr) (l : List EvD) (cap : Nat) (hl : l.length ≤ 1048576) (w : World) (hA : EvsAt w A l) :
    Calls Try.prog 15 #[.slice A l.length cap] w fun e w' => (∃ v, e = .returned (.tuple #[v, .bool (goodTr l)]) ∧ ResQ (nextN l) w' w.heap.size w'.heap.size v) ∧ Below w.heap.size w w' := by
  have hmf : ∀ (fn : Fn) (first cap : Array Value) (w : World), (Instr.makeFunc fn first cap).run Try.prog w = .ok (.func fn first cap) w := fun _ _ _ _ => rfl
  have B0 := hide' ((Below.refl w.heap.size w).up (.cells #[.slice A l.length cap] 25))
  have HA := hide' hA
  have HG := hide' (fun w hA => igoodtr_any A l cap hl w hA)
  have HB0 := hide' (box_new w (.slice A l.length cap) 25)
  have HQ := hide' (nextN_len l)
  have HQ2 := hide' (nextN_two l)
  unfold nextN at HQ HQ2 ⊢
  clear hA
  cases hg : goodTr l
  · rw [hg] at HG
    clear hg HQ HQ2
    go_enter Try.func15, Try.ntmps15
    go_wp2_with (go_at_call 12; refine (HG.out _ (HA.out.keep B0.out)).mono ?_; rintro e w1 ⟨rfl, hb1⟩)
    go_ret2
    exact ⟨⟨_, rfl, resq_rowss (rowss_nil _ _) (by simp) (fun l hl => by cases hl)⟩, B0.out.trans (hb1.mono B0.out.size)⟩
  · rw [hg] at HG HQ HQ2
    rw [if_pos rfl] at HQ HQ2 ⊢
    have h200 := good_len hg
    have hn' : (l.length : Int) ≤ 200 := by omega
    have HC := hide' (fun i j hi hj wx hB hA => inext1_any w.heap.size A l cap hg i j hi hj wx hB hA)
    have HP := hide' (fun B w hC => pairsw_next l.length B (rgt l) h200 w hC)
    clear hg hl h200
    go_enter Try.func15, Try.ntmps15
    go_wp2_with (go_at_call 12; refine (HG.out _ (HA.out.keep B0.out)).mono ?_; rintro e w1 ⟨rfl, hb1⟩; have c1 := keep_cell hb1 HB0.out)
    have B1 := hide' (B0.out.trans (hb1.mono B0.out.size))
    have C1 := hide' c1
    clear B0 HB0 hb1 c1 HG
    refine (HP.out w.heap.size w1 (fun i j hij hj wx hbx => HC.out i j (by omega) hj wx (keep_cell hbx C1.out) (HA.out.keep (B1.out.trans (hbx.mono B1.out.size))))).mono ?_
    rintro e w2 ⟨⟨v, Ms, rfl, hr⟩, hb2⟩
    have R2 := hide' (resq_less (resq_rowss hr HQ.out HQ2.out) B1.out.size)
    have B2 := hide' (B1.out.trans (hb2.mono B1.out.size))
    clear hr hb2 B1 C1
    go_wp2_with fail
    go_ret2
    exact ⟨⟨_, rfl, R2.out⟩, B2.out⟩

set_option maxRecDepth 20000 in
set_option maxHeartbeats 8000000 in
theorem snext_any (A : Option Addr) (l : List EvD) (cap : Nat) (hl : l.length ≤ 1048576) (w : World) (hA : EvsAt w A l) :
    Calls Try.prog 14 #[.slice A l.length cap] w fun e w' => (∃ v, e = .returned (.tuple #[v, .bool (goodTr l)]) ∧ ResQ (nextN l) w' w.heap.size w'.heap.size v) ∧ Below w.heap.size w w' := by
  have HG := hide' (l6trace_any A l cap hl w hA)
  have HQ := hide' (nextN_len l)
  have HQ2 := hide' (nextN_two l)
  unfold nextN at HQ HQ2 ⊢
  cases hg : goodTr l
  · rw [hg] at HG
    clear hg HQ HQ2
    go_enter Try.func14, Try.ntmps14
    go_wp2_with fail
    refine HG.out.mono ?_
    rintro e w1 ⟨rfl, hb1⟩
    go_wp2_with fail
    go_ret2
    exact ⟨⟨_, rfl, resq_rowss (rowss_nil _ _) (by simp) (fun l hl => by cases hl)⟩, hb1⟩
  · rw [hg] at HG HQ HQ2
    rw [if_pos rfl] at HQ HQ2 ⊢
    obtain ⟨i0, hi, hz0, hz1, hz2⟩ := intsInfo
    have h200 := good_len hg
    have hn' : (l.length : Int) ≤ 200 := by omega
    have HRB := hide' (fun (i j : Nat) (hi : i < l.length) (hj : j < l.length) w => (show Calls Try.prog 34 _ w _ from by rw [rgt_get hi hj]; exact (right_both l[i] l[j] (good_ev hg hi) (good_ev hg hj) w).1 : Calls Try.prog 34 #[.agg #[.int .i64 l[i].th, .int .i64 l[i].kd, .int .i64 l[i].ob, .int .i64 l[i].lk, .int .i64 l[i].pc], .agg #[.int .i64 l[j].th, .int .i64 l[j].kd, .int .i64 l[j].ob, .int .i64 l[j].lk, .int .i64 l[j].pc]] w fun r w' => r = .returned (.bool (rgt l i j)) ∧ Below w.heap.size w w'))
    have HS := hide' (fun i j h hp => prTo_yes (p := rgt l) (i := i) (j := j) h hp)
    have HN := hide' (fun i j hp => prTo_no (p := rgt l) (i := i) (j := j) hp)
    have HL0 := hide' (fun i => prTo_low (rgt l) i (i + 1) (Nat.le_refl _))
    have HLA := hide' (fun k => prAll_len (rgt l) l.length k)
    have HLT := hide' (fun i j => prTo_len (rgt l) i j)
    generalize hp : rgt l = p at *
    clear hp hg hl
    obtain ⟨b, off, hA1, hc⟩ := hA
    by_cases he : l = []
    · subst he
      clear hc hA1 HRB HS HN HL0 HLA HLT
      go_enter Try.func14, Try.ntmps14
      go_wp2_with fail
      refine HG.out.mono ?_
      rintro e w1 ⟨rfl, hb1⟩
      go_wp2_with fail
      go_loop [4, 12] (fun v i => v = .slice none 0 0 ∧ i = .int .i64 0) (fun _ _ => 0)
      case atStart => exact ⟨rfl, rfl⟩
      case round =>
        obtain ⟨rfl, rfl⟩ := hrel
        go_wp2_with fail
        go_ret2
        exact ⟨⟨_, rfl, resq_rowss (ls := prAll p 0 0) (rowss_nil _ _) HQ.out HQ2.out⟩, hb1⟩
    · have hA2 := hA1 he
      subst hA2
      have HCE := hide' (fun i (hi : i < l.length) => hc i l[i] (List.getElem?_eq_getElem hi))
      clear hc hA1 he
      go_enter Try.func14, Try.ntmps14
      go_wp2_with fail
      refine HG.out.mono ?_
      rintro e w1 ⟨rfl, hb1⟩
      have B1 := hide' hb1
      clear hb1 HG
      go_wp2_with fail
      go_loopw [4, 12] (fun v i wr => ∃ (k : Nat) (Ms : List Nat), k ≤ l.length ∧ i = .int .i64 k ∧ Hid (PrR w wr (prAll p l.length k) v Ms)) (fun _ i _ => l.length - (intOf i).toNat)
      case atStart => exact ⟨0, [], Nat.zero_le _, rfl, ⟨B1.out, rowss_nil _ _⟩⟩
      case round =>
        obtain ⟨k, Ms, hk, rfl, hrnd⟩ := hrel
        by_cases hlt : k < l.length
        · have HLAk := hide' (Nat.le_trans (HLA.out k) (Nat.mul_le_mul (show k ≤ 200 by omega) h200))
          have hk2 : (k : Int) < l.length := by omega
          obtain ⟨wo, hwo⟩ : ∃ wo, wo = wr := ⟨_, rfl⟩
          rw [← hwo] at hrnd
          have HR0 := hide' (show PrR w wr (prAll p l.length k ++ prTo p k (k + 1)) _ Ms by rw [HL0.out, List.append_nil, ← hwo]; exact hrnd.out)
          clear hrnd hwo
          go_wp2_with fail
          go_loopw [4, 6] (fun v i wr => ∃ (j : Nat) (Ms : List Nat), k + 1 ≤ j ∧ j ≤ l.length ∧ i = .int .i64 j ∧ Hid (PrR w wr (prAll p l.length k ++ prTo p k j) v Ms)) (fun _ i _ => l.length - (intOf i).toNat)
          case atStart => exact ⟨k + 1, Ms, Nat.le_refl _, hlt, by simp, HR0.out⟩
          case round =>
            clear HR0
            obtain ⟨j, Ns, hj1, hj2, rfl, hrnd⟩ := hrel
            by_cases hjl : j < l.length
            · have HSj := hide' (HS.out k j (by omega))
              have HNj := hide' (HN.out k j)
              have HL := hide' (show (prAll p l.length k ++ prTo p k j).length ≤ 40200 by rw [List.length_append]; have := HLAk.out; have := HLT.out k j; omega)
              obtain ⟨c0, c1, c2, c3, c4⟩ := ev_range (range_keep hrnd.out.b (HCE.out k hlt))
              obtain ⟨d0, d1, d2, d3, d4⟩ := ev_range (range_keep hrnd.out.b (HCE.out j hjl))
              have HCL := hide' (HRB.out k j hlt hjl)
              generalize l[k] = x at c0 c1 c2 c3 c4 HCL
              generalize l[j] = y at d0 d1 d2 d3 d4 HCL
              obtain ⟨r0, r1, r2, r3, r4⟩ := x
              obtain ⟨s0, s1, s2, s3, s4⟩ := y
              simp only at c0 c1 c2 c3 c4 d0 d1 d2 d3 d4 HCL
              generalize hpg : p k j = g at HCL HSj HNj
              clear hpg
              have hj3 : (j : Int) < l.length := by omega
              have j0 : 0 ≤ (j : Int) := by omega
              go_wp2_with fail
              go_cut [31] (fun t wx => t = .bool g ∧ Hid (PrR w wx (prAll p l.length k ++ prTo p k j) u4 Ns))
              case first =>
                go_region_with (go_at_call 34; refine (HCL.out _).mono ?_; rintro e w3 ⟨rfl, hb3⟩)
                all_goals
                  go_wp2_with fail
                  go_meet
                  exact ⟨rfl, hrnd.out.keep (first_below (Below.refl _ _) hb3)⟩
              case rest =>
                obtain ⟨rfl, R5⟩ := hcut
                clear c0 c1 c2 c3 c4 d0 d1 d2 d3 d4 HCL hrnd
                have HEN := hide' (fun h => show prAll p l.length k ++ prTo p k (j + 1) = prAll p l.length k ++ prTo p k j by rw [HNj.out h])
                have HES := hide' (fun h => show prAll p l.length k ++ prTo p k (j + 1) = prAll p l.length k ++ prTo p k j ++ [[(k : Int), (j : Int)]] by rw [HSj.out h, List.append_assoc])
                clear HNj HSj
                generalize hls : prAll p l.length k ++ prTo p k j = ls at *
                clear hls
                cases g
                · have HE := hide' (HEN.out rfl)
                  clear HEN HES HL
                  go_wp2_with fail
                  go_roundw
                  case rel => exact ⟨j + 1, Ns, by omega, by omega, by go_num, by rw [HE.out]; exact R5.out⟩
                  case measure => simp [intOf]; omega
                · have HE := hide' (HES.out rfl)
                  clear HEN HES
                  go_wp2_with (first
                    | (at_builtin; refine wpList_append_own_at _ rfl _ _ 29 rfl w.heap.size 38 i0 (.slice none 0 0) 1 24 Try.underlying29 hi hz0 hz1 hz2 rfl (by decide) _ _ _ rfl ((R5.out.r.o.alloc _).alloc _) ⟨wc.heap.size + 1, 0, none⟩ 1 1 [slV wc.heap.size [(k : Int), (j : Int)]] rfl rfl ?c1 ?c2 ?c3 ?c4 ?c5 ?_)
                    | go_in)
                  case c1 =>
                    intro j u hj
                    match j, hj with
                    | 0, hj => simp at hj; subst hj; simp [slV, Addr.add]
                  case c2 => intro u hu; simp at hu; subst hu; rfl
                  case c3 => unfold maxLen; have := HL.out; omega
                  case c4 => have := HL.out; omega
                  case c5 => have := R5.out.b.size; simp; omega
                  intro v' w3 hown3 hgrow _ hblk
                  have R6 := hide' (R5.out.snoc (k : Int) (j : Int) hown3 hgrow hblk)
                  clear hown3 hgrow hblk
                  go_wp2_with fail
                  go_roundw
                  case rel => exact ⟨j + 1, _, by omega, by omega, by go_num, by rw [HE.out]; exact R6.out⟩
                  case measure => simp [intOf]; omega
            · have hje : j = l.length := by omega
              subst hje
              have HE := hide' (show PrR w wr (prAll p l.length (k + 1)) _ Ns from hrnd.out)
              go_wp2_with fail
              go_roundw
              case rel => exact ⟨k + 1, Ns, by omega, by go_num, HE.out⟩
              case measure => simp [intOf]; omega
        · have hke : k = l.length := by omega
          subst hke
          go_wp2_with fail
          go_ret2
          exact ⟨⟨_, rfl, resq_rowss hrnd.out.r HQ.out HQ2.out⟩, hrnd.out.b⟩
end Go.Proofs.Ytiabocbabpcofaa
