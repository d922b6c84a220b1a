/- impl.LayersOf, walked. -/
import Derived.Test.YtbaknjfaplmaiaaRc
import Derived.Deep.DeepCutAuto
namespace Go.Proofs.Ytbaknjfaplmaiaa
open Go.RowKit
open Rd Fl

/-- what the layers' row holds in the midst of place j -/
def FL (l : List EvD) (p : Nat → Nat → Bool) (j i t : Nat) : Nat := if t < j then lyr l t else if t = j then topF (fun m => p m j) (lyr l) i else 0
theorem FL_low {l : List EvD} {p : Nat → Nat → Bool} {j i t : Nat} (h : t < j) : FL l p j i t = lyr l t := if_pos h
theorem FL_self (l : List EvD) (p : Nat → Nat → Bool) (j i : Nat) : FL l p j i j = topF (fun m => p m j) (lyr l) i := by
  unfold FL; rw [if_neg (by omega), if_pos rfl]
theorem FL_no {l : List EvD} {p : Nat → Nat → Bool} {j i : Nat} (h : p i j = false) (t : Nat) : FL l p j (i + 1) t = FL l p j i t := by
  unfold FL
  have : topF (fun m => p m j) (lyr l) (i + 1) = topF (fun m => p m j) (lyr l) i := by
    conv => lhs; unfold topF
    rw [if_neg (by simp [h])]
  rw [this]
theorem FL_yes {l : List EvD} {p : Nat → Nat → Bool} {j i : Nat} (h : p i j = true) (t : Nat) : (if t = j then max (FL l p j i j) (lyr l i + 1) else FL l p j i t) = FL l p j (i + 1) t := by
  by_cases e : t = j
  · subst e
    rw [if_pos rfl, FL_self, FL_self]
    conv => rhs; unfold topF
    rw [if_pos h]
  · rw [if_neg e]
    unfold FL
    rw [if_neg e, if_neg e]
theorem topF_j (l : List EvD) (p : Nat → Bool) (i : Nat) : topF p (lyr l) i ≤ i := topF_le fun m hm _ => by have := lyr_j l m; omega
theorem FL_le {l : List EvD} {p : Nat → Nat → Bool} {j i t : Nat} (hi : i ≤ j) (hj : j ≤ 200) : FL l p j i t ≤ 200 := by
  unfold FL
  split
  · have := lyr_j l t; omega
  · split
    · have := topF_j l (fun m => p m j) i; omega
    · omega
/-- the next place begins -/
theorem FL_next {l : List EvD} {p : Nat → Nat → Bool} {j : Nat} (h : topF (fun m => p m j) (lyr l) j = lyr l j) (t : Nat) : FL l p j j t = FL l p (j + 1) 0 t := by
  unfold FL
  by_cases e : t < j
  · rw [if_pos e, if_pos (by omega)]
  · rw [if_neg e]
    by_cases e2 : t = j
    · rw [if_pos e2, if_pos (by omega), h, e2]
    · rw [if_neg e2, if_neg (by omega)]
      split
      · rfl
      · rfl

theorem laysTo_zero (l : List EvD) : laysTo l 0 = [] := rfl
theorem laysTo_ne (l : List EvD) : ∀ j, ∀ x ∈ laysTo l j, x ≠ [] := by
  intro j x hx
  unfold laysTo at hx
  obtain ⟨k, hk, rfl⟩ := List.mem_map.1 hx
  have hk := List.mem_range.1 hk
  -- some place is of layer k
  have key : ∀ n, ∀ k, k < nlay l n → ∃ i, i < n ∧ lyr l i = k := by
    intro n
    induction n with
    | zero => intro k hk; simp [nlay, topF] at hk
    | succ n ih =>
      intro k hk
      rw [nlay_succ] at hk
      by_cases e : k < nlay l n
      · obtain ⟨i, hi, he⟩ := ih k e
        exact ⟨i, by omega, he⟩
      · exact ⟨n, by omega, by have := lyr_le l n; omega⟩
  obtain ⟨i, hi, he⟩ := key j k hk
  intro h0
  have : (i : Int) ∈ layT l j k := by
    unfold layT
    rw [List.mem_map]
    exact ⟨i, by rw [List.mem_filter]; exact ⟨List.mem_range.2 hi, by simp [he]⟩, rfl⟩
  rw [h0] at this
  cases this
theorem laysTo_short (l : List EvD) (j : Nat) (hj : j ≤ 1000) : ∀ x ∈ laysTo l j, x.length ≤ 1000 := by
  intro x hx
  unfold laysTo at hx
  obtain ⟨k, -, rfl⟩ := List.mem_map.1 hx
  have := layT_len l j k
  omega

theorem LayM.shape {w : World} {lo : Nat} {v : Value} {rvs : List Value} {ls : List (List Int)} (h : LayM w lo v rvs ls) : ∃ A cap, v = .slice A ls.length cap ∧ (ls.length ≠ 0 → ∃ g, A = some ⟨g, 0, none⟩) := by
  rcases h.top.2 with ⟨rfl, h0⟩ | ⟨g, cap, cur, rfl, -⟩
  · exact ⟨none, 0, by rw [h0], fun h => absurd h0 h⟩
  · exact ⟨_, cap, rfl, fun _ => ⟨g, rfl⟩⟩
theorem own_shape {w : World} {b e s : Nat} {v : Value} {n : Nat} {xs : List Value} (h : w.ownsRow b e s v n xs) : ∃ A cap, v = .slice A n cap := by
  rcases h.2 with ⟨rfl, h0⟩ | ⟨g, cap, cur, rfl, -⟩
  · exact ⟨none, 0, by rw [h0]⟩
  · exact ⟨_, cap, rfl⟩

theorem LayI.midW {w wr W w3 : World} {l : List EvD} {L : Nat} {v u : Value} {rvs : List Value} {ls : List (List Int)} {F : Nat → Nat} {k : Nat} {x : List Int} (h : LayI w wr l L v rvs ls F) (hg : W.grownBy w3 u.ownBlock) (hu : rvs[k]? = some u) (hx : ls[k]? = some x) (hb : Below wr.heap.size wr W) : w3.ownsRow (L + 1) 37 1 v ls.length rvs ∧ (∀ t, t < l.length → w3.cell? ⟨L, t, none⟩ = some (.int .i64 (F t))) := by
  have h2 := h.keep hb
  have hr := h2.m.row k u x hu hx
  have hbb : Below (L + 1) W w3 := Below.grown (Below.refl (L + 1) W) hg h2.z (own_base' hr)
  exact ⟨own_blk_eq h2.m.top fun b hb => hg.block b (own_blk h2.m.top hb).1 fun e => own_blk_ne h2.m.top hr t3n hb e.symm, fun t ht => cellB hbb (Nat.lt_succ_self L) (h2.c t ht)⟩
theorem LayI.pushW {w wr W w3 : World} {l : List EvD} {L : Nat} {v u u' : Value} {rvs : List Value} {ls : List (List Int)} {F : Nat → Nat} (h : LayI w wr l L v rvs ls F) {k : Nat} {x : List Int} (a : Int) (hg : W.grownBy w3 u.ownBlock) (hown : w3.ownsRow (L + 1) 3 1 u' (x.length + 1) (x.map iv ++ [iv a])) (hblk : u'.ownBlock = u.ownBlock ∨ u'.ownBlock = some W.heap.size) (hu : rvs[k]? = some u) (hx : ls[k]? = some x) {g : Nat} (hv : v.ownBlock = some g) (hb : Below wr.heap.size wr W) : LayI w (w3.setCell ⟨g, k, none⟩ u') l L v (rvs.set k u') (ls.set k (x ++ [a])) F :=
  (h.keep hb).push a hu hx hown hg hblk hv

set_option maxRecDepth 20000 in
set_option maxHeartbeats 16000000 in
theorem ilayers_yes (A : Option Addr) (l : List EvD) (cap : Nat) (hg : goodTr l = true) (hne : l ≠ []) (hcap : l.length ≤ cap) (w : World) (hA : EvsAt w A l) :
    Calls Try.prog 9 #[.slice A l.length cap] w fun e w' => ∃ v L rvs F, e = .returned (.tuple #[v, .bool true]) ∧ LayI w w' l L v rvs (laysTo l l.length) F := by
  obtain ⟨i0, hi0, hz0, hz1, hz2⟩ := intsInfo
  obtain ⟨i1, hi1, hy0, hy1, hy2⟩ := inInfo
  have h200 := good_len hg
  have hn' : (l.length : Int) ≤ 200 := by omega
  have hcap' : (l.length : Int) ≤ cap := by omega
  have HG := hide' (igoodtr_any A l cap (by omega) w hA)
  have hmk := make_ints l.length (by omega)
  have HR := hide' (fun (i j : Nat) (hi : i < l.length) (hj : j < l.length) w => (show Calls Try.prog 27 _ w _ from by rw [rgt_get hi hj]; exact (right_both l[i] l[j] (good_ev hg hi) (good_ev hg hj) w).2 : Calls Try.prog 27 #[.agg #[.int .i64 l[i].th, .int .i64 l[i].kd, .int .i64 l[i].ob, .int .i64 l[i].lk, .int .i64 l[i].pc], .agg #[.int .i64 l[j].th, .int .i64 l[j].kd, .int .i64 l[j].ob, .int .i64 l[j].lk, .int .i64 l[j].pc]] w fun r w' => r = .returned (.bool (rgt l i j)) ∧ Below w.heap.size w w'))
  rw [hg] at HG
  obtain ⟨b, off, hA1, hc⟩ := hA
  have hA2 := hA1 hne
  subst hA2
  have HCE := hide' (fun i (hi : i < l.length) => hc i l[i] (List.getElem?_eq_getElem hi))
  clear hc hA1 hne hg
  go_enter Try.func9, Try.ntmps9
  go_wp2_with (go_at_call 26; refine HG.out.mono ?_; rintro e w1 ⟨rfl, hb1⟩)
  have K0 := hide' (show LayI w (w1.alloc (.cells (madeCells #[.int .i64 0] l.length) 3)) l w1.heap.size (.slice none 0 0) [] (laysTo l 0) (FL l (rgt l) 0 0) from
    ⟨hb1.up _, hb1.size, by simp, made_there w1 _ _ _, fun t ht => by rw [made_at w1 _ _ t _ ht]; unfold FL; rw [if_neg (by omega)]; split <;> rfl, laym_nil _ _⟩)
  clear HG hb1
  generalize w1.heap.size = L at *
  go_loopw [4, 18] (fun v i wr => ∃ (j : Nat) (rvs : List Value), j ≤ l.length ∧ i = .int .i64 j ∧ Hid (LayI w wr l L v rvs (laysTo l j) (FL l (rgt l) j 0))) (fun _ i _ => l.length - (intOf i).toNat)
  case atStart => exact ⟨0, [], Nat.zero_le _, rfl, K0.out⟩
  case round =>
    clear K0
    obtain ⟨j, rvs, hj, rfl, hk⟩ := hrel
    by_cases hlt : j < l.length
    · have hj2 : (j : Int) < l.length := by omega
      have hj3 : (j : Int) ≤ cap := by omega
      have hj4 : j ≤ cap := by omega
      obtain ⟨c0, c1, c2, c3, c4⟩ := ev_range (range_keep hk.out.b (HCE.out j hlt))
      have HRJ := hide' (fun i hi => HR.out i j hi hlt)
      generalize l[j] = x at c0 c1 c2 c3 c4 HRJ
      obtain ⟨r0, r1, r2, r3, r4⟩ := x
      simp only at c0 c1 c2 c3 c4 HRJ
      have HK0 := hide' (hk.out.keep ((Below.refl _ wr).up (.cells #[.int .i64 r0, .int .i64 r1, .int .i64 r2, .int .i64 r3, .int .i64 r4] 51)))
      have HB0 := hide' (evbox_new wr r0 r1 r2 r3 r4)
      have HEz := hide' (show L < wr.heap.size by have := hk.out.z; omega)
      generalize hE : wr.heap.size = E at HB0 HEz
      clear hk
      go_wp2_with fail
      clear c0 c1 c2 c3 c4
      go_loopw [27] (fun i' wr => ∃ (i : Nat), i ≤ j ∧ i' = .int .i64 i ∧ Hid (LayI w wr l L u4 rvs (laysTo l j) (FL l (rgt l) j i)) ∧ Hid (EvBox wr E r0 r1 r2 r3 r4)) (fun i' _ => j - (intOf i').toNat)
      case atStart => exact ⟨0, Nat.zero_le _, rfl, HK0.out, HB0.out⟩
      case round =>
        clear HK0 HB0 hE
        obtain ⟨i, hi, rfl, hk, hb⟩ := hrel
        by_cases hil : i < j
        · have hi2 : (i : Int) < j := by omega
          have hi3 : (i : Int) < l.length := by omega
          obtain ⟨d0, d1, d2, d3, d4⟩ := ev_range (range_keep hk.out.b (HCE.out i (by omega)))
          have HCL := hide' (HRJ.out i (by omega))
          generalize l[i] = y at d0 d1 d2 d3 d4 HCL
          obtain ⟨s0, s1, s2, s3, s4⟩ := y
          simp only at d0 d1 d2 d3 d4 HCL
          have HK0 := hide' (hk.out.keep ((Below.refl _ wr).up (.cells #[.int .i64 s0, .int .i64 s1, .int .i64 s2, .int .i64 s3, .int .i64 s4] 51)))
          have HB0 := hide' (hb.out.keep ((Below.refl _ wr).up (.cells #[.int .i64 s0, .int .i64 s1, .int .i64 s2, .int .i64 s3, .int .i64 s4] 51)))
          obtain ⟨p0, p1, p2, p3, p4⟩ := HB0.out
          obtain ⟨q0, q1, q2, q3, q4⟩ := evbox_new wr s0 s1 s2 s3 s4
          have HNO := hide' (fun h t => FL_no (l := l) (p := rgt l) (j := j) (i := i) h t)
          have HYE := hide' (fun h t => FL_yes (l := l) (p := rgt l) (j := j) (i := i) h t)
          generalize hgr : rgt l i j = gr at HCL HNO HYE
          clear hgr hk hb
          cases gr
          · have HNO2 := hide' (HNO.out rfl)
            clear HNO HYE
            go_wp2_with (go_at_call 27; refine (HCL.out _).mono ?_; rintro e w3 ⟨rfl, hb3⟩)
            have KK := hide' ((HK0.out.keep hb3).cong rfl (fun t _ => (HNO2.out t).symm))
            have BB := hide' (HB0.out.keep hb3)
            go_roundw
            case rel => exact ⟨i + 1, by omega, by go_num, KK.out, BB.out⟩
            case measure => simp [intOf]; omega
          · have HYE2 := hide' (HYE.out rfl)
            clear HNO HYE
            have HFi := hide' (show FL l (rgt l) j i i = lyr l i from FL_low hil)
            have HLi := hide' (lyr_j l i)
            have HFj := hide' (FL_le (l := l) (p := rgt l) (t := j) hi (show j ≤ 200 by omega))
            go_wp2_with (go_at_call 27; refine (HCL.out _).mono ?_; rintro e w3 ⟨rfl, hb3⟩)
            have KK := hide' (HK0.out.keep hb3)
            have BB := hide' (HB0.out.keep hb3)
            have e0 := KK.out.c j hlt
            have e1 := KK.out.c i (by omega)
            rw [HFi.out] at e1
            have e2 := (KK.out.t j hlt).2
            rw [Nat.zero_add] at e2
            have HSET := hide' (fun n (hn : n = max (FL l (rgt l) j i j) (lyr l i + 1)) => (KK.out.set j hlt n).cong (F' := FL l (rgt l) j (i + 1)) rfl (fun t _ => by rw [← HYE2.out t, hn]))
            have HBS := hide' (fun v => show EvBox (w3.setCell ⟨L, j, none⟩ v) E r0 r1 r2 r3 r4 from by
              obtain ⟨f0, f1, f2, f3, f4⟩ := BB.out
              have := HEz.out
              refine ⟨?_, ?_, ?_, ?_, ?_⟩ <;> (rw [World.cell?_setCell_other _ _ _ _ (by simp <;> omega)]; assumption))
            have hfa := HFj.out
            have hfb : lyr l i ≤ 200 := by have := HLi.out; omega
            generalize FL l (rgt l) j i j = fa at e0 hfa HSET
            generalize lyr l i = fb at e1 hfb HSET
            clear HCL HYE2 HFi HLi HFj HK0 HB0 KK BB p0 p1 p2 p3 p4 q0 q1 q2 q3 q4 d0 d1 d2 d3 d4
            by_cases hc : (fa : Int) < fb + 1
            · have HS2 := hide' (HSET.out (fb + 1) (by omega))
              go_region
              go_wp2_with fail
              go_roundw
              case rel => exact ⟨i + 1, by omega, by go_num, HS2.out.keep (Below.refl _ _).drew, (HBS.out _).keep (Below.refl _ _).drew⟩
              case measure => simp [intOf]; omega
            · have HS2 := hide' (HSET.out fa (by omega))
              go_region
              go_wp2_with fail
              go_roundw
              case rel => exact ⟨i + 1, by omega, by go_num, HS2.out.keep (Below.refl _ _).drew, (HBS.out _).keep (Below.refl _ _).drew⟩
              case measure => simp [intOf]; omega
        · have hie : i = j := by omega
          subst hie
          have HLY := hide' (show topF (fun m => rgt l m i) (lyr l) i = lyr l i by unfold lyr; exact (lay_eq (rgt l) i).symm)
          have hk2 := hide' (hk.out.cong (F' := FL l (rgt l) (i + 1) 0) rfl (fun t _ => FL_next HLY.out t))
          have HFL := hide' (show FL l (rgt l) (i + 1) 0 i = lyr l i from FL_low (Nat.lt_succ_self i))
          have HNL := hide' (show (laysTo l i).length = nlay l i from laysTo_len l i)
          have HNB := hide' (show nlay l i ≤ 200 by have := nlay_j l i; omega)
          have HLE := hide' (lyr_le l i)
          have HNW := hide' (fun h => laysTo_new (l := l) (j := i) h)
          have HOD := hide' (fun h => laysTo_old (l := l) (j := i) h)
          have HGT := hide' (fun h => laysTo_get l i (lyr l i) h)
          have HLT := hide' (layT_len l i (lyr l i))
          clear hk hb
          obtain ⟨Ag, cg, hu4, hgA⟩ := hk2.out.m.shape
          rw [HNL.out] at hu4 hgA
          subst hu4
          have e0 := hk2.out.c i hlt
          rw [HFL.out] at e0
          generalize lyr l i = ly at *
          generalize layT l i ly = tx at *
          by_cases hlo : ly < nlay l i
          · have hlo2 : ((ly : Int) == (nlay l i : Int)) = false := by rw [beq_eq_false_iff_ne]; omega
            obtain ⟨g, rfl⟩ := hgA (by omega)
            have HP := hide' (HOD.out hlo)
            have HX := hide' (HGT.out hlo)
            obtain ⟨u, hu⟩ := hk2.out.m.at HX.out
            have HROW := hide' (hk2.out.m.row ly u tx hu HX.out)
            obtain ⟨Au, cu, rfl⟩ := own_shape HROW.out
            have htop := hk2.out.m.top
            rw [HNL.out] at htop
            have e1 := htop.cellAt ly (by omega)
            rw [hu] at e1
            clear htop
            have hly : (ly : Int) < nlay l i := by omega
            have hly0 : ly < nlay l i := hlo
            clear HNW HOD HGT
            have HT200 := hide' (show tx.length ≤ 200 by have := HLT.out; omega)
            have HU := hide' hu
            have e0a := keep_cell ((Below.refl _ wr).up (.cells #[.int .i64 (i : Int)] 3)) e0
            have e1a := keep_cell ((Below.refl _ wr).up (.cells #[.int .i64 (i : Int)] 3)) e1
            go_wp2_with fail
            go_region_law (refine step_append_own rfl (.tmp 70) (.tmp 72) 37 rfl (L + 1) 3 i1 (.int .i64 0) 1 8 Try.underlying37 hi1 hy0 hy1 hy2 rfl (by decide) (.slice Au tx.length cu) tx.length (tx.map iv) (by simp [Act.eval]) (own_keep HROW.out (by first | exact ((Below.refl _ wr).drew).up _ | exact ((Below.refl _ wr).up _).drew)) ⟨wr.heap.size, 0, none⟩ 1 1 [.int .i64 (i : Int)] (by simp [Act.eval]) rfl (by intro t u hu; match t, hu with | 0, hu => (simp at hu; subst hu; simp [Addr.add])) (by intro u hu; simp at hu; subst hu; rfl) (by have := HT200.out; unfold maxLen; omega) (by have := HT200.out; omega) (by have := hk2.out.z; simp; omega) ?_; intro v' w' hown hgrow hblk; obtain ⟨Av, cv, rfl⟩ := own_shape hown; have HPU := hide' (hk2.out.pushW (i : Int) hgrow hown hblk HU.out HX.out rfl (by first | exact ((Below.refl _ wr).drew).up _ | exact ((Below.refl _ wr).up _).drew)); obtain ⟨m1, m2⟩ := hk2.out.midW hgrow HU.out HX.out (by first | exact ((Below.refl _ wr).drew).up _ | exact ((Below.refl _ wr).up _).drew); rw [HNL.out] at m1; have m3 := m1.cellAt ly (by omega); rw [HU.out] at m3; have m4 := m1.frozenAt ly; have m5 := m2 i hlt; rw [HFL.out] at m5; clear hown hgrow hblk m1 m2)
            all_goals
              go_wp2_with fail
              go_roundw
              case rel => exact ⟨i + 1, _, by omega, by go_num, by rw [HP.out]; first | exact HPU.out | exact HPU.out.keep (Below.refl _ _).drew⟩
              case measure => simp [intOf]; omega
          · have hle : ly = nlay l i := by have := HLE.out; omega
            have HP := hide' (HNW.out hle)
            clear HNW HOD HGT HLT HLE hlo
            generalize nlay l i = nn at *
            subst hle
            have htop := hk2.out.m.top
            rw [HNL.out] at htop
            have HTOP := hide' htop
            clear htop
            have hlo2 : ((ly : Int) == (ly : Int)) = true := by simp
            go_wp2_with (first
              | (at_builtin; refine wpList_append_own_at _ rfl _ _ 24 rfl (L + 1) 37 i0 (.slice none 0 0) 1 24 Try.underlying24 hi0 hz0 hz1 hz2 rfl (by decide) _ _ _ rfl (HTOP.out.alloc _) ⟨wr.heap.size, 0, none⟩ 1 1 [.slice none 0 0] rfl rfl ?c1 ?c2 ?c3 ?c4 ?c5 ?_)
              | go_in)
            case c1 =>
              intro t u hu
              match t, hu with
              | 0, hu => simp at hu; subst hu; simp [Addr.add]
            case c2 => intro u hu; simp at hu; subst hu; rfl
            case c3 => unfold maxLen; have := HNB.out; omega
            case c4 => have := HNB.out; omega
            case c5 => have := hk2.out.z; simp; omega
            intro v' w3 hown3 hgrow3 _ _
            have K3 := hide' (hk2.out.more ((Below.refl _ wr).up (.cells #[.slice none 0 0] 37)) (by rw [HNL.out]; exact hown3) hgrow3)
            obtain ⟨A3, c3, hv3, hgA3⟩ := K3.out.m.shape
            have HNL3 := hide' (show (laysTo l i ++ [[]]).length = ly + 1 by rw [List.length_append, HNL.out]; rfl)
            rw [HNL3.out] at hv3 hgA3
            subst hv3
            obtain ⟨g, rfl⟩ := hgA3 (by omega)
            have HRL := hide' (show rvs.length = ly by rw [hk2.out.m.n, HNL.out])
            have HX := hide' (show (laysTo l i ++ [[]])[ly]? = some ([] : List Int) by rw [List.getElem?_append_right (by rw [HNL.out]; omega), HNL.out, Nat.sub_self]; rfl)
            have HU := hide' (show (rvs ++ [Value.slice none 0 0])[ly]? = some (.slice none 0 0) by rw [List.getElem?_append_right (by rw [HRL.out]; omega), HRL.out, Nat.sub_self]; rfl)
            have HROW := hide' (K3.out.m.row ly _ _ HU.out HX.out)
            have htop := K3.out.m.top
            rw [HNL3.out] at htop
            have e1 := htop.cellAt ly (by omega)
            rw [HU.out] at e1
            clear htop
            have e0 := K3.out.c i hlt
            rw [HFL.out] at e0
            have hly : (ly : Int) < (ly : Int) + 1 := by omega
            have hly0 : ly < ly + 1 := by omega
            have HT0 := hide' (show ([] : List Int).length ≤ 200 by simp)
            clear hown3 hgrow3 hk2
            have e0a := keep_cell ((Below.refl _ w3).up (.cells #[.int .i64 (i : Int)] 3)) e0
            have e1a := keep_cell ((Below.refl _ w3).up (.cells #[.int .i64 (i : Int)] 3)) e1
            go_wp2_with fail
            go_region_law (refine step_append_own rfl (.tmp 70) (.tmp 72) 37 rfl (L + 1) 3 i1 (.int .i64 0) 1 8 Try.underlying37 hi1 hy0 hy1 hy2 rfl (by decide) (.slice none 0 0) ([] : List Int).length (([] : List Int).map iv) (by simp [Act.eval]) (own_keep HROW.out (by first | exact ((Below.refl _ w3).drew).up _ | exact ((Below.refl _ w3).up _).drew)) ⟨w3.heap.size, 0, none⟩ 1 1 [.int .i64 (i : Int)] (by simp [Act.eval]) rfl (by intro t u hu; match t, hu with | 0, hu => (simp at hu; subst hu; simp [Addr.add])) (by intro u hu; simp at hu; subst hu; rfl) (by have := HT0.out; unfold maxLen; omega) (by have := HT0.out; omega) (by have := K3.out.z; simp; omega) ?_; intro v' w' hown hgrow hblk; obtain ⟨Av, cv, rfl⟩ := own_shape hown; have HPU := hide' (K3.out.pushW (i : Int) hgrow hown hblk HU.out HX.out rfl (by first | exact ((Below.refl _ w3).drew).up _ | exact ((Below.refl _ w3).up _).drew)); obtain ⟨m1, m2⟩ := K3.out.midW hgrow HU.out HX.out (by first | exact ((Below.refl _ w3).drew).up _ | exact ((Below.refl _ w3).up _).drew); rw [HNL3.out] at m1; have m3 := m1.cellAt ly (by omega); rw [HU.out] at m3; have m4 := m1.frozenAt ly; have m5 := m2 i hlt; rw [HFL.out] at m5; clear hown hgrow hblk m1 m2)
            all_goals
              go_wp2_with fail
              go_roundw
              case rel => exact ⟨i + 1, _, by omega, by go_num, by rw [HP.out]; first | exact HPU.out | exact HPU.out.keep (Below.refl _ _).drew⟩
              case measure => simp [intOf]; omega
    · have hke : j = l.length := by omega
      subst hke
      go_wp2_with fail
      go_ret2
      exact ⟨_, L, rvs, _, rfl, hk.out⟩
end Go.Proofs.Ytbaknjfaplmaiaa
