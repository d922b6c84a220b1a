/- The specification's clocks, walked. -/
import Derived.Test.YtclnnboaehpolaaQu
import Derived.Deep.DeepCutAuto
namespace Go.Proofs.Ytclnnboaehpolaa
open Go.RowKit
open Rd Fl

theorem rowss_lt' {ls : List (List Int)} {w : World} {lo : Nat} {v : Value} {Ms : List Nat} (h : RowSS ls w lo v Ms) : ∀ M ∈ Ms, M < w.heap.size := by
  intro M hM
  obtain ⟨i, hi, rfl⟩ := List.mem_iff_getElem.1 hM
  exact (h.c i Ms[i] (ls[i]'(by rw [← h.n]; exact hi)) (List.getElem?_eq_getElem hi) (List.getElem?_eq_getElem _)).2.1
set_option maxRecDepth 20000 in
set_option maxHeartbeats 16000000 in
theorem l6clocks_yes (A : Option Addr) (l : List EvD) (cap : Nat) (hg : goodTr l = true) (hne : l ≠ []) (w : World) (hA : EvsAt w A l) :
    Calls Try.prog 10 #[.slice A l.length cap] w fun e w' => ∃ v g hi Ms, e = .returned v ∧ CkO w w' l g hi v Ms l.length := by
  obtain ⟨i0, hi, hz0, hz1, hz2⟩ := intsInfo
  have h200 := good_len hg
  have hn' : (l.length : Int) ≤ 200 := by omega
  have HM := hide' (l6ahead_any A l cap hg hne w hA)
  have hmk : ∀ w, (Instr.makeSlice 38 (.int .i64 5) (.int .i64 5)).run Try.prog w = .ok (.slice (some ⟨w.heap.size, 0, none⟩) 5 5) (w.alloc (.cells (madeCells #[.int .i64 0] 5) 3)) := make_ints 5 (by omega)
  have HTH := hide' (fun i (hi : i < l.length) => (goodev_all (good_ev hg hi)))
  have HEA := hide' (fun i (hi : i < l.length) => evA_get (l := l) hi)
  obtain ⟨b, off, hA1, hc⟩ := hA
  have hA2 := hA1 hne
  subst hA2
  have HCE := hide' (fun i (hi : i < l.length) => hc i l[i] (List.getElem?_eq_getElem hi))
  clear hc hA1 hne hg
  go_enter Try.func10, Try.ntmps10
  go_wp2_with (go_at_call 20; refine HM.out.mono ?_; rintro e w1 ⟨g, rfl, hm⟩; have M1 := hide' hm)
  have O1 := hide' (show CkO w w1 l g w1.heap.size (.slice none 0 0) [] 0 from ⟨M1.out.b, M1.out.r, M1.out.z, Nat.le_refl _, M1.out.b.size, rowss_nil _ _⟩)
  clear HM hm M1
  generalize w1.heap.size = hh at O1
  go_loopw [4, 14] (fun v i wr => ∃ (j : Nat) (Ms : List Nat), j ≤ l.length ∧ i = .int .i64 j ∧ Hid (CkO w wr l g hh v Ms j)) (fun _ i _ => l.length - (intOf i).toNat)
  case atStart => exact ⟨0, [], Nat.zero_le _, rfl, O1.out⟩
  case round =>
    clear O1
    obtain ⟨j, Ms, hj, rfl, ho⟩ := hrel
    by_cases hlt : j < l.length
    · have hj2 : (j : Int) < l.length := by omega
      obtain ⟨c0, c1, c2, c3, c4⟩ := ev_range (range_keep ho.out.b (HCE.out j hlt))
      have HTJ := hide' (HTH.out j hlt)
      have HEV := hide' (show (evA l j).th = l[j].th by rw [HEA.out j hlt])
      generalize l[j] = x at c0 c1 c2 c3 c4 HTJ HEV
      obtain ⟨r0, r1, r2, r3, r4⟩ := x
      simp only at c0 c1 c2 c3 c4 HTJ HEV
      obtain ⟨th, hth⟩ : ∃ th : Nat, r0 = th := ⟨r0.toNat, by have := HTJ.out.1; omega⟩
      subst hth
      have hth5 : th < 5 := by have := HTJ.out.2.1; omega
      have hth6 : (th : Int) < 5 := by omega
      obtain ⟨q0, q1, q2, q3, q4⟩ := (evbox_new wr (th : Int) r1 r2 r3 r4).keep ((Below.refl _ _).up (.cells (madeCells #[.int .i64 0] 5) 3))
      have hK : (wr.alloc (.cells #[.int .i64 (th : Int), .int .i64 r1, .int .i64 r2, .int .i64 r3, .int .i64 r4] 35)).heap.size = wr.heap.size + 1 := by simp
      have k0 := made_at (wr.alloc (.cells #[.int .i64 (th : Int), .int .i64 r1, .int .i64 r2, .int .i64 r3, .int .i64 r4] 35)) (.int .i64 0) 5 th 3 hth5
      have k1 := made_there (wr.alloc (.cells #[.int .i64 (th : Int), .int .i64 r1, .int .i64 r2, .int .i64 r3, .int .i64 r4] 35)) #[.int .i64 0] 5 3
      have k2 := fun t ht => made_at (wr.alloc (.cells #[.int .i64 (th : Int), .int .i64 r1, .int .i64 r2, .int .i64 r3, .int .i64 r4] 35)) (.int .i64 0) 5 t 3 ht
      rw [hK] at k0 k1 k2
      have k3 := (k1 th hth5).2
      rw [Nat.zero_add] at k3
      have HP := hide' (show CkR w ((wr.alloc (.cells #[.int .i64 (th : Int), .int .i64 r1, .int .i64 r2, .int .i64 r3, .int .i64 r4] 35)).alloc (.cells (madeCells #[.int .i64 0] 5) 3)) l g hh _ Ms j (wr.heap.size + 1) (fun _ => 0) from
        ⟨ho.out.keep (below2 wr _ _), by have := ho.out.z; omega, fun M hM => by have := rowss_lt' ho.out.r M hM; omega, fun k hk => by have := (ho.out.r.o.lt k hk).2; omega, by simp, k1, fun t ht => k2 t ht⟩)
      have HR0 := hide' (HP.out.edit ((Edit.refl (wr.heap.size + 1) (wr.heap.size + 1 + 1) _).set (wr.heap.size + 1) th (.int .i64 1) (Nat.le_refl _) (Nat.lt_succ_self _)) (f' := fun t => ckS l j 0 (t : Int)) (fun t ht => by
        rw [ckS_zero, HEV.out]
        by_cases e : t = th
        · subst e
          rw [World.cell?_setCell_same _ _ _ k0, if_pos rfl]; rfl
        · rw [World.cell?_setCell_other _ _ _ _ (by simp <;> omega), if_neg (by omega)]
          exact HP.out.f t ht))
      rw [World.setCell_alloc_at _ _ _ _ _ hK.symm] at HR0
      clear k1 k2 HP
      obtain ⟨R, -, z2, z3, z4⟩ := HR0.out.o.r2 j hlt
      have Z4 := hide' z4
      have ZR := hide' z2
      clear z4 z2
      go_wp2_with fail
      generalize hKK : wr.heap.size + 1 = K at HR0 ⊢
      go_loopw [32] (fun i' wr => ∃ (i : Nat), i ≤ l.length ∧ i' = .int .i64 i ∧ Hid (CkR w wr l g hh u4 Ms j K (fun t => ckS l j i (t : Int))) ∧ Hid (∀ x, x < l.length → wr.cell? ⟨R, x, none⟩ = some (.bool (ahB l x j)))) (fun i' _ => l.length - (intOf i').toNat)
      case atStart => exact ⟨0, Nat.zero_le _, rfl, HR0.out, Z4.out⟩
      case round =>
        clear HR0 Z4 z3 q0 q1 q2 q3 q4 k0 k3 c0 c1 c2 c3 c4 hKK
        obtain ⟨i, hi3, rfl, hr, hz⟩ := hrel
        by_cases hil : i < l.length
        · have hi2 : (i : Int) < l.length := by omega
          have d0 := hz.out i hil
          have HNO := hide' (fun h (t : Nat) => ckS_no (l := l) (j := j) (i := i) h (t : Int))
          have HYE := hide' (fun h (t : Nat) => ckS_yes (l := l) (j := j) (i := i) h (t : Int))
          generalize ahB l i j = gb at d0 HNO HYE
          cases gb
          · have HE := hide' (show CkR w wr l g hh u4 Ms j K (fun t => ckS l j (i + 1) (t : Int)) from by
              have h := hr.out
              exact ⟨h.o, h.k1, h.m, h.u, h.z, h.th, fun t ht => by rw [HNO.out rfl t]; exact h.f t ht⟩)
            clear HNO HYE
            go_wp2_with fail
            go_roundw
            case rel => exact ⟨i + 1, by omega, by go_num, HE.out, hz.out⟩
            case measure => simp [intOf]; omega
          · obtain ⟨c0, -, -, -, -⟩ := ev_range (range_keep hr.out.o.b (HCE.out i hil))
            have HTI := hide' (HTH.out i hil)
            have HEI := hide' (HEA.out i hil)
            have HYE2 := hide' (HYE.out rfl)
            clear HNO HYE
            generalize l[i] = y at c0 HTI HEI
            obtain ⟨s0, s1, s2, s3, s4⟩ := y
            simp only at c0 HTI HEI
            obtain ⟨ti, hti⟩ : ∃ ti : Nat, s0 = ti := ⟨s0.toNat, by have := HTI.out.1; omega⟩
            subst hti
            have hti5 : ti < 5 := by have := HTI.out.2.1; omega
            have hti6 : (ti : Int) < 5 := by omega
            have k0 := hr.out.f ti hti5
            have k3 := (hr.out.th ti hti5).2
            rw [Nat.zero_add] at k3
            have hck : ckS l j i (ti : Int) ≤ 201 := by have := ckS_le l j i (ti : Int); omega
            have HR1 := hide' (hr.out.edit ((Edit.refl K (K + 1) wr).set K ti (.int .i64 ((ckS l j i (ti : Int) : Nat) + 1 : Int)) (Nat.le_refl _) (Nat.lt_succ_self _)) (f' := fun t => ckS l j (i + 1) (t : Int)) (fun t ht => by
              rw [HYE2.out t, HEI.out]
              by_cases e : t = ti
              · subst e
                rw [World.cell?_setCell_same _ _ _ k0, if_pos rfl]; rfl
              · rw [World.cell?_setCell_other _ _ _ _ (by simp <;> omega), if_neg (show ¬ (ti : Int) = (t : Int) by omega)]
                exact hr.out.f t ht))
            have HZ1 := hide' (show ∀ v x, x < l.length → (wr.setCell ⟨K, ti, none⟩ v).cell? ⟨R, x, none⟩ = some (.bool (ahB l x j)) from fun v x hx => by
              have h1 := ZR.out
              have h2 := hr.out.k1
              rw [World.cell?_setCell_other _ _ _ _ (by simp <;> omega)]
              exact hz.out x hx)
            generalize ckS l j i (ti : Int) = mm at k0 hck HR1
            clear hr hz
            go_wp2_with fail
            go_roundw
            case rel => exact ⟨i + 1, by omega, by go_num, HR1.out, HZ1.out _⟩
            case measure => simp [intOf]; omega
        · have hie : i = l.length := by omega
          subst hie
          have HE := hide' (fun t (_ : t < 5) => ckS_full (l := l) (j := j) (Nat.le_of_lt hlt) ((t : Nat) : Int))
          have hsl : slV K (clock l j) = .slice (some ⟨K, 0, none⟩) 5 5 := by unfold slV; rw [clock_len]
          have HPU := hide' (fun v' w3 h1 h2 h3 => hr.out.push (v' := v') (w3 := w3) HE.out h1 h2 h3)
          rw [hsl, clksTo_len] at HPU
          have HO := hide' hr.out.o.r.o
          rw [clksTo_len] at HO
          have HZ := hide' hr.out.o.z
          go_wp2_with (first
            | (at_builtin; refine wpList_append_own_at _ rfl _ _ 31 rfl hh 38 i0 (.slice none 0 0) 1 24 Try.underlying31 hi hz0 hz1 hz2 rfl (by decide) _ _ _ rfl (HO.out.alloc _) ⟨wr.heap.size, 0, none⟩ 1 1 [.slice (some ⟨K, 0, none⟩) 5 5] rfl rfl ?c1 ?c2 ?c3 ?c4 ?c5 ?_)
            | go_in)
          case c1 =>
            intro t u hu
            match t, hu with
            | 0, hu => simp at hu; subst hu; simp [Addr.add]
          case c2 => intro u hu; simp at hu; subst hu; rfl
          case c3 => unfold maxLen; omega
          case c4 => omega
          case c5 => have := HZ.out; simp; omega
          intro v' w3 hown3 hgrow _ hblk
          obtain ⟨Ns, hN⟩ := HPU.out v' w3 hown3 hgrow (by simpa using hblk)
          have HNN := hide' hN
          clear hown3 hgrow hblk hN HPU
          go_wp2_with fail
          go_roundw
          case rel => exact ⟨j + 1, Ns, by omega, by go_num, HNN.out⟩
          case measure => simp [intOf]; omega
    · have hke : j = l.length := by omega
      subst hke
      go_wp2_with fail
      go_ret
      exact ⟨_, g, hh, Ms, rfl, ho.out⟩
end Go.Proofs.Ytclnnboaehpolaa
