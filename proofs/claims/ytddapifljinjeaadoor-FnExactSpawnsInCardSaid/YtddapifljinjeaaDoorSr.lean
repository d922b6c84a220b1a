/- SpawnsIn: the code's side. -/
import Derived.Test.YtddapifljinjeaaDoorSq
import Derived.Test.YtddapifljinjeaaDoorShelf
import Derived.Sort.OwnSortedInts
namespace Go.Proofs.YtddapifljinjeaaDoor
open Go.RowKit
open Rd Fl

theorem holdsI {w : World} {g : Nat} {cur : Array Value} {l : List Int} (hb : w.heap[g]? = some (.cells cur 3 (0, 0))) (ht : cur.toList.take (l.length * 1) = l.map iv) : Sort.Holds (Value.int .i64) w g 0 l.toArray := by
  intro j hj
  have hj' : j < l.length := by simpa using hj
  refine ⟨?_, by simp [World.frozen?, hb]⟩
  have h1 : (cur.toList.take (l.length * 1))[j]? = (l.map iv)[j]? := by rw [ht]
  rw [List.getElem?_take_of_lt (by omega)] at h1
  simp only [World.cell?, hb, Nat.zero_add]
  simp only [Option.isSome_none, Bool.false_eq_true, if_false]
  rw [← Array.getElem?_toList, h1]
  simp [hj', iv]

theorem sorti_any (l : List Int) (v : Value) (hl : l.length ≤ 1000) (w wr : World) (h : Rsp w v l wr) : Calls Tryd.prog 19 #[v] wr fun e w' => e = .returned (.tuple #[]) ∧ Rsp w v (l.mergeSort fun x y => decide (x ≤ y)) w' := by
  rcases h.o.2 with ⟨rfl, h0⟩ | ⟨g, cap, cur, rfl, hb, hg, h1, h2, h3, h4⟩
  · have : l = [] := List.length_eq_zero_iff.1 h0
    subst this
    refine (Tryd.slices_Sort_int_none none 0 wr).mono ?_
    rintro e w' ⟨rfl, rfl⟩
    exact ⟨rfl, by rw [List.mergeSort_nil]; exact h⟩
  · refine (Tryd.slices_Sort_int g 0 cap l wr (holdsI hg h4) (Array.getElem?_eq_some_iff.1 hg).1 (by omega)).mono ?_
    rintro e w' ⟨rfl, nn, os, rfl⟩
    refine ⟨rfl, Below.grown h.b (grownBy_sortedI _) h.b.size (fun k hk => by cases hk; exact hb), ?_⟩
    rw [List.length_mergeSort]
    exact ownsRow_sortedI (List.length_mergeSort l) hb hg h1 h2 h3

theorem compacti_any (l : List Int) (v : Value) (hl : l.length ≤ 1000) (w wr : World) (h : Rsp w v l wr) : Calls Tryd.prog 20 #[v] wr fun e w' => ∃ v', e = .returned v' ∧ Rsp w v' (Lib.compact l) w' := by
  rcases h.o.2 with ⟨rfl, h0⟩ | ⟨g, cap, cur, rfl, hb, hg, h1, h2, h3, h4⟩
  · have : l = [] := List.length_eq_zero_iff.1 h0
    subst this
    refine (Tryd.slices_Compact_int_empty none 0 wr).mono ?_
    rintro e w' ⟨rfl, rfl⟩
    exact ⟨_, rfl, h⟩
  · refine (Tryd.slices_Compact_int g 0 cap l wr (holdsI hg h4) (by omega) h1).mono ?_
    rintro e w' ⟨rfl, q, rfl⟩
    have hle := Lib.compact_length_le l
    have hts : (Lib.compact l ++ List.replicate (l.length - (Lib.compact l).length) (0 : Int)).length = l.length := by simp; omega
    generalize hd : Lib.compact l ++ List.replicate (l.length - (Lib.compact l).length) (0 : Int) = ts at hts
    have G := grownBy_sortedI (w := wr) (g := g) (n := q) (os := #[]) ts.toArray
    have H := heap_sortedI (w := wr) (g := g) (n := q) (os := #[]) ts.toArray hg
    rw [Sort.grow_empty] at G H
    refine ⟨_, rfl, Below.grown h.b G h.b.size (fun k hk => by cases hk; exact hb), by simp, .inr ⟨g, cap, _, rfl, hb, H, by omega, h2, by simp [Sort.putCells, h3], ?_⟩⟩
    have T := take_putCellsI cur ts (by omega)
    have T2 := congrArg (List.take (Lib.compact l).length) T
    rw [List.take_take, Nat.min_eq_left (by omega)] at T2
    rw [Nat.mul_one, T2, ← hd]
    simp [iv]

set_option maxRecDepth 20000 in
set_option maxHeartbeats 4000000 in
theorem ispawns_any (cl lk cd : Int) (R : Option Addr) (rs : List (List OpD)) (cap : Nat) (hl : rs.length ≤ 1048576) (hls : ∀ l ∈ rs, l.length ≤ 1048576) (hr : ∀ l ∈ rs, ∀ o ∈ l, o.r < 9223372036854775808) (w : World) (hR : RoutsAt w R rs) (hF : Forms w) :
    Calls Tryd.prog 7 #[.agg #[.int .i64 cl, .int .i64 lk, .int .i64 cd, .slice R rs.length cap]] w fun e w' => (∃ v, e = .returned (.tuple #[v, .bool (goodS cl lk cd rs)]) ∧ ResI (spN cl lk cd rs) w' w.heap.size w'.heap.size v) ∧ Below w.heap.size w w' := by
  obtain ⟨i0, hi, hz0, hz1, hz2⟩ := inInfo
  have HG := hide' (fun w h hF => (good_both cl lk cd rs hl hls hr).2 R cap w h hF)
  have HRR := hide' hR
  have HF := hide' hF
  cases hg : goodS cl lk cd rs
  · have ES := hide' (show spN cl lk cd rs = [] by unfold spN; rw [hg]; rfl)
    rw [hg] at HG
    clear hg hl hls hr hR hF
    go_enter Tryd.func7, Tryd.ntmps7
    go_wp2_with (go_at_call 17; refine (HG.out _ (HRR.out.keep ((Below.refl _ w).up _)) (HF.out.below ((Below.refl _ w).up _))).mono ?_; rintro e w1 ⟨rfl, hb1⟩; have B1 := hide' (((Below.refl _ w).up _).trans (hb1.mono (by simp))); clear hb1)
    go_ret2
    refine ⟨⟨_, rfl, ?_⟩, B1.out⟩
    rw [ES.out]
    exact resi_of (World.ownsRow_nil _ _ _ _) (by simp)
  · obtain ⟨hn1, hl4, hl24⟩ := good_bounds hg
    have HES := hide' (show spN cl lk cd rs = putAll (spawnsOf (rs.flatten.take rs.flatten.length)) by unfold spN; rw [hg, List.take_length]; rfl)
    have HFL := hide' (show rs.flatten.length ≤ 96 by have := flatTo_len rs hl24 rs.length (Nat.le_refl _); rw [flatTo_all] at this; omega)
    have HCC := hide' (fun w h => concat_any R rs cap hl4 hl24 w h)
    rw [hg] at HG
    have hst := store_f
    clear hr hls hg hl hl24 hn1 hR hF
    generalize rs.flatten = l at HCC HES HFL
    have hll : (l.length : Int) ≤ 96 := by have := HFL.out; omega
    go_enter Tryd.func7, Tryd.ntmps7
    go_wp2_with (first | (go_at_call 17; refine (HG.out _ (HRR.out.keep ((Below.refl _ w).up _)) (HF.out.below ((Below.refl _ w).up _))).mono ?_; rintro e w1 ⟨rfl, hb1⟩; have B1 := hide' (((Below.refl _ w).up _).trans (hb1.mono (by simp))); have P1 := hide' ((pbox_new w cl lk cd R rs.length cap 31).keep hb1); clear hb1; obtain ⟨p0, p1, p2, p3⟩ := P1.out) | (go_at_call 18; refine (HCC.out _ (HRR.out.keep B1.out)).mono ?_; rintro e w2 ⟨⟨A, ca, rfl, hO⟩, hb2⟩))
    have B2 := hide' (B1.out.trans (hb2.mono B1.out.size))
    clear HG HRR P1 hb2 B1 p0 p1 p2 p3 HCC HF
    have HEND := hide' (fun (v : Value) (wr : World) (h : Rsp w2 v (spawnsOf (l.take l.length)) wr) => sorti_any _ v (by have h2 := spawnsOf_len (l.take l.length); rw [List.length_take] at h2; have := HFL.out; omega) w2 wr h)
    have HEN2 := hide' (fun (v : Value) (wr : World) (h : Rsp w2 v ((spawnsOf (l.take l.length)).mergeSort fun x y => decide (x ≤ y)) wr) => compacti_any _ v (by rw [List.length_mergeSort]; have h2 := spawnsOf_len (l.take l.length); rw [List.length_take] at h2; have := HFL.out; omega) w2 wr h)
    have HPUT := hide' (sorted_put (spawnsOf (l.take l.length)))
    have HPL := hide' (show (putAll (spawnsOf (l.take l.length))).length ≤ 1000 by have h1 := putAll_len (spawnsOf (l.take l.length)); have h2 := spawnsOf_len (l.take l.length); rw [List.length_take] at h2; have := HFL.out; omega)
    by_cases hle : l = []
    · subst hle
      clear hO
      go_loopw [4, 14] (fun v i wr => v = .slice none 0 0 ∧ i = .int .i64 0 ∧ wr = w2) (fun _ _ _ => 0)
      case atStart => exact ⟨rfl, rfl, rfl⟩
      case round =>
        obtain ⟨rfl, rfl, rfl⟩ := hrel
        have R0 := hide' (show Rsp wr (.slice none 0 0) (spawnsOf (([] : List OpD).take ([] : List OpD).length)) wr from ⟨Below.refl _ _, World.ownsRow_nil _ _ _ _⟩)
        go_wp2_with (first | (go_at_call 19; refine (HEND.out _ _ R0.out).mono ?_; rintro e w4 ⟨rfl, hr4⟩; have R4 := hide' hr4; clear hr4) | (go_at_call 20; refine (HEN2.out _ _ R4.out).mono ?_; rintro e w5 ⟨v5, rfl, hr5⟩; have R5 := hide' hr5; clear hr5))
        go_ret2
        refine ⟨⟨_, rfl, ?_⟩, B2.out.trans (R5.out.b.mono B2.out.size)⟩
        have H5 := R5.out.o
        rw [HPUT.out] at H5
        rw [HES.out]
        exact resi_less (resi_of H5 HPL.out) B2.out.size
    · obtain ⟨b2, off2, hB1, hc2⟩ := hO
      have hB2 := hB1 hle
      subst hB2
      have HC2 := hide' (fun i (hi : i < l.length) => hc2 i l[i] (List.getElem?_eq_getElem hi))
      clear hc2 hB1 hle
      go_loopw [4, 14] (fun v i wx => ∃ j : Nat, j ≤ l.length ∧ i = .int .i64 j ∧ Hid (Rsp w2 v (spawnsOf (l.take j)) wx)) (fun _ i _ => l.length - (intOf i).toNat)
      case atStart => exact ⟨0, Nat.zero_le _, rfl, show Rsp w2 _ _ _ from ⟨Below.refl _ _, World.ownsRow_nil _ _ _ _⟩⟩
      case round =>
        obtain ⟨j, hj, rfl, hbx⟩ := hrel
        by_cases hjl : j < l.length
        · obtain ⟨c0, c1, c2, c3⟩ := op_range (range_keep hbx.out.b (HC2.out j hjl))
          have HTj := hide' (List.take_succ_eq_append_getElem hjl)
          generalize l[j] = o at c0 c1 c2 c3 HTj
          obtain ⟨oc, oa, ob, os, or⟩ := o
          simp only at c0 c1 c2 c3
          have HBO := hide' (show (spawnsOf (l.take j)).length ≤ 1000 by have h2 := spawnsOf_len (l.take j); have h3 := HFL.out; rw [List.length_take] at h2; omega)
          have S0 := hide' hbx.out.b.size
          by_cases h14 : oc = 14
          · subst h14
            have HY := hide' (spawnsOf_one (l.take j) ⟨14, oa, ob, os, or⟩ rfl)
            rw [← HTj.out] at HY
            go_wp2_with (at_builtin; refine wpList_append_own _ rfl _ _ 26 rfl w2.heap.size 3 i0 (.int .i64 0) 1 8 Tryd.underlying26 hi hz0 hz1 hz2 rfl (by decide) _ _ _ rfl ((hbx.out.o.alloc _).alloc _) ⟨wr.heap.size + 1, 0, none⟩ 1 1 [iv oa] rfl rfl ?c1 (one_iv oa) (by have := HBO.out; unfold maxLen; omega) (by have := HBO.out; omega) (by have := S0.out; simp; omega) ?_)
            case c1 =>
              intro j u hj
              match j, hj with
              | 0, hj => simp at hj; subst hj; simp [iv]
            intro v3 w3 hown3 hgrow _
            have HB3 := hide' (Below.grown ((hbx.out.b.up _).up _) hgrow (by have := S0.out; simp; omega) (own_base' hbx.out.o))
            have R3 := hide' (show Rsp w2 v3 (spawnsOf (l.take (j + 1))) w3 from ⟨HB3.out, by rw [HY.out, List.length_append, List.map_append]; exact hown3⟩)
            clear hown3 hgrow
            go_wp2_with fail
            go_roundw
            case rel => exact ⟨j + 1, by omega, by go_num, R3.out⟩
            case measure => simp [intOf]; omega
          · have HY := hide' (spawnsOf_no (l.take j) ⟨oc, oa, ob, os, or⟩ h14)
            rw [← HTj.out] at HY
            have h14' : (oc == 14) = false := by simp [h14]
            go_wp2_with fail
            go_roundw
            case rel => exact ⟨j + 1, by omega, by go_num, show Rsp w2 _ _ _ by rw [HY.out]; exact hbx.out.keep ((Below.refl _ _).up _)⟩
            case measure => simp [intOf]; omega
        · have hje : j = l.length := by omega
          subst hje
          have R0 := hide' hbx.out
          go_wp2_with (first | (go_at_call 19; refine (HEND.out _ _ R0.out).mono ?_; rintro e w4 ⟨rfl, hr4⟩; have R4 := hide' hr4; clear hr4) | (go_at_call 20; refine (HEN2.out _ _ R4.out).mono ?_; rintro e w5 ⟨v5, rfl, hr5⟩; have R5 := hide' hr5; clear hr5))
          go_ret2
          refine ⟨⟨_, rfl, ?_⟩, B2.out.trans (R5.out.b.mono B2.out.size)⟩
          have H5 := R5.out.o
          rw [HPUT.out] at H5
          rw [HES.out]
          exact resi_less (resi_of H5 HPL.out) B2.out.size
end Go.Proofs.YtddapifljinjeaaDoor
