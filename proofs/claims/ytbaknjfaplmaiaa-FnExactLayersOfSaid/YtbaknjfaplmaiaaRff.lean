/- The specification's layers, walked. -/
import Derived.Test.YtbaknjfaplmaiaaRee
import Derived.Test.YtbaknjfaplmaiaaQn
namespace Go.Proofs.Ytbaknjfaplmaiaa
open Go.RowKit
open Rd Fl

set_option maxHeartbeats 400000 in
theorem l1most_any (a b : Int) (w : World) : Calls Try.prog 24 #[.int .i64 a, .int .i64 b] w fun e w' => e = .returned (.int .i64 (if b < a then a else b)) ∧ w' = w := by
  by_cases h : b < a
  · rw [if_pos h]
    go_enter Try.func24, Try.ntmps24
    go_wp2
    go_ret
    exact ⟨rfl, rfl⟩
  · rw [if_neg h]
    go_enter Try.func24, Try.ntmps24
    go_wp2
    go_ret
    exact ⟨rfl, rfl⟩
theorem top_all (l : List EvD) (j : Nat) : topF (fun m => ahB l m j) (lyr l) j = lyr l j := by
  rw [← lyr_all l j, lay_eq (ahB l) j]
  exact topF_cong fun i _ => (lyr_all l i).symm
def lenV : Value → Nat
  | .slice _ n _ => n
  | _ => 0

set_option maxRecDepth 20000 in
set_option maxHeartbeats 16000000 in
theorem slayers_yes (A : Option Addr) (l : List EvD) (cap : Nat) (hg : goodTr l = true) (hne : l ≠ []) (w : World) (hA : EvsAt w A l) :
    Calls Try.prog 7 #[.slice A l.length cap] w fun e w' => ∃ v w2 L rvs F, e = .returned (.tuple #[v, .bool true]) ∧ Below w.heap.size w w2 ∧ LayI w2 w' l L v rvs (laysTo l l.length) F := by
  obtain ⟨i0, hi0, hz0, hz1, hz2⟩ := intsInfo
  obtain ⟨i1, hi1, hy0, hy1, hy2⟩ := inInfo
  have h200 := good_len hg
  have hn' : (l.length : Int) ≤ 200 := by omega
  have HG := hide' (l6trace_any A l cap (by omega) w hA)
  have HMA := hide' (fun w hA => l6ahead_any A l cap hg hne w hA)
  have HA := hide' hA
  have hmk := make_ints l.length (by omega)
  rw [hg] at HG
  clear hg hA hne
  go_enter Try.func7, Try.ntmps7
  go_wp2_with (first | (go_at_call 22; refine HG.out.mono ?_; rintro e w1 ⟨rfl, hb1⟩; have B1 := hide' hb1) | (go_at_call 23; refine (HMA.out _ (HA.out.keep B1.out)).mono ?_; rintro e w2 ⟨g, rfl, hm⟩; have M2 := hide' hm; have B2 := hide' (B1.out.trans (hm.b.mono B1.out.size))))
  have K0 := hide' (show LayI w2 (w2.alloc (.cells (madeCells #[.int .i64 0] l.length) 3)) l w2.heap.size (.slice none 0 0) [] (laysTo l 0) (FL l (ahB l) 0 0) from
    ⟨(Below.refl _ _).up _, Nat.le_refl _, by simp, made_there w2 _ _ _, fun t ht => by rw [made_at w2 _ _ t _ ht]; unfold FL; rw [if_neg (by omega)]; split <;> rfl, laym_nil _ _⟩)
  clear HG hb1 hm B1 HMA HA
  generalize hL : w2.heap.size = L at *
  go_loopw [6, 19] (fun v i wr => ∃ (j : Nat) (rvs : List Value), j ≤ l.length ∧ i = .int .i64 j ∧ Hid (LayI w2 wr l L v rvs (laysTo l j) (FL l (ahB l) j 0))) (fun _ i _ => l.length - (intOf i).toNat)
  case atStart => exact ⟨0, [], Nat.zero_le _, rfl, K0.out⟩
  case round =>
    clear K0
    obtain ⟨j, rvs, hj, rfl, hk⟩ := hrel
    by_cases hlt : j < l.length
    · have hj2 : (j : Int) < l.length := by omega
      have hj5 : j ≤ 200 := by omega
      obtain ⟨R, -, -, r3, r4⟩ := M2.out.r j hlt
      have R3 := hide' r3
      have R4 := hide' r4
      clear r3 r4
      have HK0 := hk
      go_wp2_with fail
      go_loopw [8] (fun i' wr => ∃ (i : Nat), i ≤ j ∧ i' = .int .i64 i ∧ Hid (LayI w2 wr l L u6 rvs (laysTo l j) (FL l (ahB l) j i))) (fun i' _ => j - (intOf i').toNat)
      case atStart => exact ⟨0, Nat.zero_le _, rfl, HK0.out⟩
      case round =>
        clear HK0 hk
        obtain ⟨i, hi, rfl, hk⟩ := hrel
        by_cases hil : i < j
        · have hi2 : (i : Int) < j := by omega
          have hi3 : (i : Int) < l.length := by omega
          have d0 := keep_cell hk.out.b R3.out
          have d1 := keep_cell hk.out.b (R4.out i (by omega))
          have HNO := hide' (fun h t => FL_no (l := l) (p := ahB l) (j := j) (i := i) h t)
          have HYE := hide' (fun h t => FL_yes (l := l) (p := ahB l) (j := j) (i := i) h t)
          generalize hgr : ahB l i j = gr at d1 HNO HYE
          clear hgr
          cases gr
          · have KK := hide' (hk.out.cong rfl (fun t _ => (HNO.out rfl t).symm))
            clear HNO HYE hk
            go_wp2_with fail
            go_roundw
            case rel => exact ⟨i + 1, by omega, by go_num, KK.out⟩
            case measure => simp [intOf]; omega
          · have HYE2 := hide' (HYE.out rfl)
            clear HNO HYE
            have e0 := hk.out.c j hlt
            have e1 := hk.out.c i (by omega)
            rw [show FL l (ahB l) j i i = lyr l i from FL_low hil] at e1
            have e2 := (hk.out.t j hlt).2
            rw [Nat.zero_add] at e2
            have hfa := FL_le (l := l) (p := ahB l) (t := j) hi hj5
            have hfb : lyr l i ≤ 200 := by have := lyr_j l i; omega
            have HSET := hide' (fun (n : Nat) (hn : (n : Int) = if ((lyr l i : Nat) + 1 : Int) < (FL l (ahB l) j i j : Nat) then ((FL l (ahB l) j i j : Nat) : Int) else ((lyr l i : Nat) + 1 : Int)) => (hk.out.set j hlt n).cong (F' := FL l (ahB l) j (i + 1)) rfl (fun t _ => by
              rw [← HYE2.out t]
              have : n = max (FL l (ahB l) j i j) (lyr l i + 1) := by split at hn <;> omega
              rw [this]))
            have HMO := hide' (fun w => l1most_any ((FL l (ahB l) j i j : Nat) : Int) ((lyr l i : Nat) + 1 : Int) w)
            generalize FL l (ahB l) j i j = fa at e0 hfa HSET HMO
            generalize lyr l i = fb at e1 hfb HSET HMO
            clear HYE2 hk
            obtain ⟨mm, hmm⟩ : ∃ mm : Nat, (mm : Int) = if ((fb : Nat) + 1 : Int) < (fa : Nat) then ((fa : Nat) : Int) else ((fb : Nat) + 1 : Int) := by
              by_cases h : ((fb : Nat) + 1 : Int) < (fa : Nat)
              · exact ⟨fa, by rw [if_pos h]⟩
              · exact ⟨fb + 1, by rw [if_neg h]; omega⟩
            rw [← hmm] at HMO
            have HS2 := hide' (HSET.out mm hmm)
            clear HSET hmm
            have hwr : IntKind.i64.wrap ((fb : Int) + 1) = (fb : Int) + 1 := by rw [IntKind.wrap_i64]; omega
            go_wp2_with fail
            go_region_with (go_at_call 24; refine (HMO.out _).mono ?_; rintro e w' ⟨rfl, rfl⟩)
            all_goals
              go_wp2_with fail
              go_roundw
              case rel => exact ⟨i + 1, by omega, by go_num, HS2.out.keep (Below.refl _ _).drew⟩
              case measure => simp [intOf]; omega
        · have hie : i = j := by omega
          clear hil hi
          subst hie
          have HLY := hide' (top_all l i)
          have hk2 := hide' (hk.out.cong (F' := FL l (ahB l) (i + 1) 0) rfl (fun t _ => FL_next HLY.out t))
          have HFL := hide' (show FL l (ahB l) (i + 1) 0 i = lyr l i from FL_low (Nat.lt_succ_self i))
          have HNL := hide' (show (laysTo l i).length = nlay l i from laysTo_len l i)
          have HNB := hide' (show nlay l i ≤ 200 by have := nlay_j l i; omega)
          have HLE := hide' (lyr_le l i)
          have HNW := hide' (fun h => laysTo_new (l := l) (j := i) h)
          have HOD := hide' (fun h => laysTo_old (l := l) (j := i) h)
          have HGT := hide' (fun h => laysTo_get l i (lyr l i) h)
          have HLT := hide' (layT_len l i (lyr l i))
          clear hk
          have hly2 : (lyr l i : Int) ≤ 200 := by have := lyr_j l i; omega
          generalize lyr l i = ly at *
          generalize layT l i ly = tx at *
          go_wp2_with fail
          go_loopw [6] (fun v wr => ∃ (q : Bool) (rvs : List Value), v = .slice (match v with | .slice A _ _ => A | _ => none) (if q then nlay l i + 1 else nlay l i) (match v with | .slice _ _ c => c | _ => 0) ∧ Hid (LayI w2 wr l L v rvs (if q then laysTo l i ++ [[]] else laysTo l i) (FL l (ahB l) (i + 1) 0)) ∧ Hid (q = true → ly = nlay l i)) (fun v _ => ly + 1 - lenV v)
          case atStart =>
            obtain ⟨A1, c1, h1, -⟩ := hk2.out.m.shape
            rw [HNL.out] at h1
            refine ⟨false, rvs, ?_, hk2.out, fun h => by cases h⟩
            rw [h1]; rfl
          case round =>
            clear hk2
            obtain ⟨q, rvs, -, hk3, hq⟩ := hrel
            obtain ⟨Ag, cg, hv, hgA⟩ := hk3.out.m.shape
            subst hv
            have e0 := hk3.out.c i hlt
            rw [HFL.out] at e0
            by_cases hqq : q = false ∧ ly = nlay l i
            · obtain ⟨rfl, hle⟩ := hqq
              have HTOP := hide' hk3.out.m.top
              simp only [Bool.false_eq_true, if_false] at hk3 HTOP hgA
              have HK3 := hk3
              simp only [Bool.false_eq_true, if_false]
              rw [HNL.out] at HTOP HK3 ⊢
              have hc1 : ((nlay l i : Nat) : Int) ≤ (ly : Int) := by omega
              clear HNW HOD HGT
              go_wp2_with (first
                | (at_builtin; refine wpList_append_own_at _ rfl _ _ 24 rfl (L + 1) 37 i0 (.slice none 0 0) 1 24 Try.underlying24 hi0 hz0 hz1 hz2 rfl (by decide) _ _ _ rfl (HTOP.out.alloc _) ⟨wr.heap.size, 0, none⟩ 1 1 [.slice none 0 0] rfl rfl ?c1 ?c2 ?c3 ?c4 ?c5 ?_)
                | go_in)
              case c1 =>
                intro t u hu
                match t, hu with
                | 0, hu => simp at hu; subst hu; simp [Addr.add]
              case c2 => intro u hu; simp at hu; subst hu; rfl
              case c3 => unfold maxLen; have := HNB.out; omega
              case c4 => have := HNB.out; omega
              case c5 => have := HK3.out.z; simp; omega
              intro v' w3 hown3 hgrow3 _ _
              have K3 := hide' (HK3.out.more ((Below.refl _ wr).up (.cells #[.slice none 0 0] 37)) (by rw [HNL.out]; exact hown3) hgrow3)
              obtain ⟨A3, c3, hv3, -⟩ := K3.out.m.shape
              have HNL3 := hide' (show (laysTo l i ++ [[]]).length = nlay l i + 1 by rw [List.length_append, HNL.out]; rfl)
              rw [HNL3.out] at hv3
              subst hv3
              clear hown3 hgrow3 HTOP
              go_wp2_with fail
              go_roundw
              case rel => exact ⟨true, _, rfl, K3.out, fun _ => hle⟩
              case measure => simp [lenV]; omega
            · have hgt : ly < (if q = true then laysTo l i ++ [[]] else laysTo l i).length := by
                have h1 := HLE.out
                cases q
                · simp only [Bool.false_eq_true, if_false]
                  rw [HNL.out]
                  have : ¬ ly = nlay l i := fun h => hqq ⟨rfl, h⟩
                  omega
                · simp only [if_true]
                  rw [List.length_append, HNL.out]
                  simp
                  omega
              obtain ⟨x, hx1, hx2, hx3⟩ : ∃ x, (if q = true then laysTo l i ++ [[]] else laysTo l i)[ly]? = some x ∧ laysTo l (i + 1) = (if q = true then laysTo l i ++ [[]] else laysTo l i).set ly (x ++ [(i : Int)]) ∧ x.length ≤ 200 := by
                have h1 := HLE.out
                cases q
                · simp only [Bool.false_eq_true, if_false]
                  have h2 : ly < nlay l i := by
                    have : ¬ ly = nlay l i := fun h => hqq ⟨rfl, h⟩
                    omega
                  exact ⟨tx, HGT.out h2, HOD.out h2, by have := HLT.out; omega⟩
                · simp only [if_true]
                  have h2 := hq.out rfl
                  refine ⟨[], ?_, HNW.out h2, by simp⟩
                  rw [List.getElem?_append_right (by rw [HNL.out]; omega), HNL.out, h2, Nat.sub_self]; rfl
              clear HNW HOD HGT HLT hqq hq HLE
              generalize hls : (if q = true then laysTo l i ++ [[]] else laysTo l i) = ls at *
              clear hls
              obtain ⟨g, rfl⟩ := hgA (by omega)
              have HP := hide' hx2
              have HX := hide' hx1
              have HT := hide' hx3
              obtain ⟨u, hu⟩ := hk3.out.m.at hx1
              have HU := hide' hu
              have HROW := hide' (hk3.out.m.row ly u x hu hx1)
              obtain ⟨Au, cu, rfl⟩ := own_shape HROW.out
              have e1 := hk3.out.m.top.cellAt ly (by omega)
              rw [hu] at e1
              have hly : (ly : Int) < ls.length := by omega
              have hnc : ¬ ((ls.length : Int) ≤ (ly : Int)) := by omega
              clear hx1 hx2 hx3
              have e0a := keep_cell ((Below.refl _ wr).up (.cells #[.int .i64 (i : Int)] 3)) e0
              have e1a := keep_cell ((Below.refl _ wr).up (.cells #[.int .i64 (i : Int)] 3)) e1
              go_wp2_with fail
              go_region_law (refine step_append_own rfl (.tmp 68) (.tmp 70) 37 rfl (L + 1) 3 i1 (.int .i64 0) 1 8 Try.underlying37 hi1 hy0 hy1 hy2 rfl (by decide) (.slice Au x.length cu) x.length (x.map iv) (by simp [Act.eval]) (own_keep HROW.out (by first | exact ((Below.refl _ wr).drew).up _ | exact ((Below.refl _ wr).up _).drew)) ⟨wr.heap.size, 0, none⟩ 1 1 [.int .i64 (i : Int)] (by simp [Act.eval]) rfl (by intro t u hu; match t, hu with | 0, hu => (simp at hu; subst hu; simp [Addr.add])) (by intro u hu; simp at hu; subst hu; rfl) (by have := HT.out; unfold maxLen; omega) (by have := HT.out; omega) (by have := hk3.out.z; simp; omega) ?_; intro v' w' hown hgrow hblk; obtain ⟨Av, cv, rfl⟩ := own_shape hown; have HPU := hide' (hk3.out.pushW (i : Int) hgrow hown hblk HU.out HX.out rfl (by first | exact ((Below.refl _ wr).drew).up _ | exact ((Below.refl _ wr).up _).drew)); obtain ⟨m1, m2⟩ := hk3.out.midW hgrow HU.out HX.out (by first | exact ((Below.refl _ wr).drew).up _ | exact ((Below.refl _ wr).up _).drew); have m3 := m1.cellAt ly (by omega); rw [HU.out] at m3; have m4 := m1.frozenAt ly; have m5 := m2 i hlt; rw [HFL.out] at m5; clear hown hgrow hblk m1 m2)
              all_goals
                go_wp2_with fail
                go_roundw
                case rel => exact ⟨i + 1, _, by omega, by go_num, by rw [HP.out]; first | exact HPU.out | exact HPU.out.keep (Below.refl _ _).drew⟩
                case measure => simp [intOf]; omega
    · have hke : j = l.length := by omega
      subst hke
      go_wp2_with fail
      go_ret2
      exact ⟨_, w2, L, rvs, _, rfl, B2.out, hk.out⟩
end Go.Proofs.Ytbaknjfaplmaiaa
