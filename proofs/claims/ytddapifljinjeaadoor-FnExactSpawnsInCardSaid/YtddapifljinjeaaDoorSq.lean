/- SpawnsIn: the specification's side. -/
import Derived.Test.YtddapifljinjeaaDoorPu
import Derived.Test.YtddapifljinjeaaDoorCd
import Derived.Test.YtddapifljinjeaaDoorPrgI
namespace Go.Proofs.YtddapifljinjeaaDoor
open Go.RowKit
open Rd Fl

/-- the routines that ops spawn -/
def spawnsOf (l : List OpD) : List Int := (l.filter (fun o => o.c == 14)).map OpD.a
theorem spawnsOf_yes (l : List OpD) (o : OpD) (h : o.c = 14) : putAll (spawnsOf (l ++ [o])) = putR (putAll (spawnsOf l)) o.a := by
  unfold spawnsOf; rw [List.filter_append]; simp [h, putAll]
theorem spawnsOf_one (l : List OpD) (o : OpD) (h : o.c = 14) : spawnsOf (l ++ [o]) = spawnsOf l ++ [o.a] := by
  unfold spawnsOf; rw [List.filter_append]; simp [h]
theorem spawnsOf_no (l : List OpD) (o : OpD) (h : ¬ o.c = 14) : spawnsOf (l ++ [o]) = spawnsOf l := by
  unfold spawnsOf; rw [List.filter_append]; simp [h]
theorem spawnsOf_len (l : List OpD) : (spawnsOf l).length ≤ l.length := by
  unfold spawnsOf; rw [List.length_map]; exact List.length_filter_le _ _
/-- What SpawnsIn tells. -/
def spN (cl lk cd : Int) (rs : List (List OpD)) : List Int := if goodS cl lk cd rs = true then putAll (spawnsOf rs.flatten) else []
theorem good_bounds {cl lk cd : Int} {rs : List (List OpD)} (h : goodS cl lk cd rs = true) : 1 ≤ rs.length ∧ rs.length ≤ 4 ∧ ∀ l ∈ rs, l.length ≤ 24 := by
  unfold goodS at h
  rw [Bool.and_eq_true] at h
  obtain ⟨-, -, -, g4⟩ := head_all h.1
  refine ⟨by omega, by omega, fun l hl => ?_⟩
  have := List.all_eq_true.1 h.2 l hl
  unfold routS at this
  rw [Bool.and_eq_true, decide_eq_true_eq] at this
  exact this.2
theorem flat_take (rs : List (List OpD)) (k j : Nat) (h : k < rs.length) (hj : j < rs[k].length) : flatTo rs k ++ rs[k].take (j + 1) = (flatTo rs k ++ rs[k].take j) ++ [rs[k][j]] := by
  rw [List.take_succ_eq_append_getElem hj, List.append_assoc]

/-- What the rounds keep. -/
structure Rsp (w : World) (v : Value) (l : List Int) (wr : World) : Prop where
  b : Below w.heap.size w wr
  o : wr.ownsRow w.heap.size 3 1 v l.length (l.map iv)
theorem Rsp.keep {w : World} {v : Value} {l : List Int} {wr wx : World} (h : Rsp w v l wr) (hb : Below wr.heap.size wr wx) : Rsp w v l wx := ⟨h.b.trans (hb.mono h.b.size), own_keep h.o hb⟩

theorem l1put_any (l : List Int) (n : Int) (v : Value) (hl : l.length ≤ 1000) (w wr : World) (h : Rsp w v l wr) : Calls Tryd.prog 15 #[v, .int .i64 n] wr fun e w' => (∃ v', e = .returned v' ∧ Rsp w v' (putR l n) w') ∧ Below wr.heap.size wr w' := by
  rcases h.o.2 with ⟨rfl, h0⟩ | ⟨g, cap, cur, rfl, hb, hg, hrest⟩
  · have : l = [] := List.length_eq_zero_iff.1 h0
    subst this
    refine (l1put_nil n wr).mono ?_
    rintro e w' ⟨⟨v', rfl, ho⟩, hb⟩
    exact ⟨⟨v', rfl, h.b.trans (hb.mono h.b.size), own_less ho h.b.size⟩, hb⟩
  · refine (l1put_some l n g cap w.heap.size hl wr h.b.size h.o).mono ?_
    rintro e w' ⟨⟨v', rfl, ho⟩, hb⟩
    exact ⟨⟨v', rfl, h.b.trans (hb.mono h.b.size), ho⟩, hb⟩

set_option maxRecDepth 20000 in
set_option maxHeartbeats 4000000 in
theorem sspawns_any (cl lk cd : Int) (R : Option Addr) (rs : List (List OpD)) (cap : Nat) (hl : rs.length ≤ 1048576) (hls : ∀ l ∈ rs, l.length ≤ 1048576) (hr : ∀ l ∈ rs, ∀ o ∈ l, o.r < 9223372036854775808) (w : World) (hR : RoutsAt w R rs) :
    Calls Tryd.prog 5 #[.agg #[.int .i64 cl, .int .i64 lk, .int .i64 cd, .slice R rs.length cap]] w fun e w' => (∃ v, e = .returned (.tuple #[v, .bool (goodS cl lk cd rs)]) ∧ ResI (spN cl lk cd rs) w' w.heap.size w'.heap.size v) ∧ Below w.heap.size w w' := by
  have HG := hide' (fun w h => (good_both cl lk cd rs hl hls hr).1 R cap w h)
  have HRR := hide' hR
  cases hg : goodS cl lk cd rs
  · have ES := hide' (show spN cl lk cd rs = [] by unfold spN; rw [hg]; rfl)
    rw [hg] at HG
    clear hg hl hls hr hR
    go_enter Tryd.func5, Tryd.ntmps5
    go_wp2_with (go_at_call 14; refine (HG.out _ (HRR.out.keep ((Below.refl _ w).up _))).mono ?_; rintro e w1 ⟨rfl, hb1⟩; have B1 := hide' (((Below.refl _ w).up _).trans (hb1.mono (by simp))); clear hb1)
    go_ret2
    refine ⟨⟨_, rfl, ?_⟩, B1.out⟩
    rw [ES.out]
    exact resi_of (World.ownsRow_nil _ _ _ _) (by simp)
  · obtain ⟨hn1, hl4, hl24⟩ := good_bounds hg
    have HES := hide' (show spN cl lk cd rs = putAll (spawnsOf (flatTo rs rs.length)) by unfold spN; rw [hg, flatTo_all]; rfl)
    have HFL := hide' (flatTo_len rs hl24)
    rw [hg] at HG
    have hl' : (rs.length : Int) ≤ 4 := by omega
    obtain ⟨b, off, hA1, hc⟩ := hR
    have hA2 := hA1 (by intro h; rw [h] at hn1; simp at hn1)
    subst hA2
    have HC := hide' (fun i (hi : i < rs.length) => hc i rs[i] (List.getElem?_eq_getElem hi))
    have HFS := hide' (flatTo_succ rs)
    have HFT := hide' (flat_take rs)
    have HLL := hide' (fun i (hi : i < rs.length) => hl24 rs[i] (List.getElem_mem hi))
    have HNIL := hide' (show putAll (spawnsOf (flatTo rs 0)) = [] from rfl)
    have hst := store_f
    clear hc hA1 hr hls hg hl hl24 hn1
    go_enter Tryd.func5, Tryd.ntmps5
    go_wp2_with (go_at_call 14; refine (HG.out _ (HRR.out.keep ((Below.refl _ w).up _))).mono ?_; rintro e w1 ⟨rfl, hb1⟩; have B1 := hide' (((Below.refl _ w).up _).trans (hb1.mono (by simp))); have P1 := hide' ((pbox_new w cl lk cd (some ⟨b, off, none⟩) rs.length cap 31).keep hb1); clear hb1; obtain ⟨p0, p1, p2, p3⟩ := P1.out)
    clear HG HRR P1
    go_loopw [4, 15] (fun v i wr => ∃ k : Nat, k ≤ rs.length ∧ i = .int .i64 k ∧ Hid (Rsp w v (putAll (spawnsOf (flatTo rs k))) wr)) (fun _ i _ => rs.length - (intOf i).toNat)
    case atStart => exact ⟨0, Nat.zero_le _, rfl, show Rsp w _ (putAll (spawnsOf (flatTo rs 0))) w1 from ⟨B1.out, by rw [HNIL.out]; exact World.ownsRow_nil _ _ _ _⟩⟩
    case round =>
      obtain ⟨k, hk, rfl, hrw⟩ := hrel
      by_cases hlt : k < rs.length
      · obtain ⟨A, cp, x1, b2, off2, hB1, hc2⟩ := HC.out k hlt
        have z1 := keep_cell hrw.out.b x1
        have hl24 := HLL.out k hlt
        have HSk := hide' (HFS.out k hlt)
        have HTk := hide' (fun j h => HFT.out k j hlt h)
        have HLk := hide' (HFL.out k hk)
        clear x1
        generalize rs[k] = l at z1 hB1 hc2 hl24 HSk HTk
        have hll : (l.length : Int) ≤ 24 := by omega
        by_cases hle : l = []
        · subst hle
          have HT := hide' (show Rsp w u4 (putAll (spawnsOf (flatTo rs (k + 1)))) wr by rw [HSk.out, List.append_nil]; exact hrw.out)
          clear hc2 hB1
          go_wp2_with fail
          go_loopw [4, 21] (fun v i wx => v = u4 ∧ i = .int .i64 0 ∧ wx = wr) (fun _ _ _ => 0)
          case atStart => exact ⟨rfl, rfl, rfl⟩
          case round =>
            obtain ⟨rfl, rfl, rfl⟩ := hrel
            go_wp2_with fail
            go_roundw
            case rel => exact ⟨k + 1, by omega, by go_num, HT.out⟩
            case measure => simp [intOf]; omega
        · have hB2 := hB1 hle
          subst hB2
          have HC2 := hide' (fun i (hi : i < l.length) => range_keep hrw.out.b (hc2 i l[i] (List.getElem?_eq_getElem hi)))
          clear hc2 hB1 hle
          go_wp2_with fail
          go_loopw [4, 21] (fun v i wx => ∃ j : Nat, j ≤ l.length ∧ i = .int .i64 j ∧ Hid (Rsp w v (putAll (spawnsOf (flatTo rs k ++ l.take j))) wx) ∧ Hid (Below wr.heap.size wr wx)) (fun _ i _ => l.length - (intOf i).toNat)
          case atStart => exact ⟨0, Nat.zero_le _, rfl, show Rsp w _ _ _ by rw [List.take_zero, List.append_nil]; exact hrw.out, Below.refl _ _⟩
          case round =>
            obtain ⟨j, hj, rfl, hbx, hbx3⟩ := hrel
            by_cases hjl : j < l.length
            · obtain ⟨c0, c1, c2, c3⟩ := op_range (range_keep hbx3.out (HC2.out j hjl))
              have HTj := hide' (HTk.out j hjl)
              generalize l[j] = o at c0 c1 c2 c3 HTj
              obtain ⟨oc, oa, ob, os, or⟩ := o
              simp only at c0 c1 c2 c3
              have HBO := hide' (show (putAll (spawnsOf (flatTo rs k ++ l.take j))).length ≤ 1000 by have h1 := putAll_len (spawnsOf (flatTo rs k ++ l.take j)); have h2 := spawnsOf_len (flatTo rs k ++ l.take j); have h3 := HLk.out; rw [List.length_append, List.length_take] at h2; omega)
              by_cases h14 : oc = 14
              · subst h14
                have HY := hide' (spawnsOf_yes (flatTo rs k ++ l.take j) ⟨14, oa, ob, os, or⟩ rfl)
                rw [← HTj.out] at HY
                go_wp2_with (go_at_call 15; refine (l1put_any _ oa _ HBO.out w _ (hbx.out.keep ((Below.refl _ _).up _))).mono ?_; rintro e w3 ⟨⟨v3, rfl, hr3⟩, hb3⟩)
                go_roundw
                case rel => exact ⟨j + 1, by omega, by go_num, show Rsp w _ _ _ by rw [HY.out]; exact hr3, (hbx3.out.up _).trans (hb3.mono (by have := hbx3.out.size; simp; omega))⟩
                case measure => simp [intOf]; omega
              · have HY := hide' (spawnsOf_no (flatTo rs k ++ l.take j) ⟨oc, oa, ob, os, or⟩ h14)
                rw [← HTj.out] at HY
                have h14' : (oc == 14) = false := by simp [h14]
                go_wp2_with fail
                go_roundw
                case rel => exact ⟨j + 1, by omega, by go_num, show Rsp w _ _ _ by rw [HY.out]; exact hbx.out.keep ((Below.refl _ _).up _), hbx3.out.up _⟩
                case measure => simp [intOf]; omega
            · have hje : j = l.length := by omega
              subst hje
              go_wp2_with fail
              go_roundw
              case rel => exact ⟨k + 1, by omega, by go_num, show Rsp w _ _ _ by rw [HSk.out]; have := hbx.out; rw [List.take_length] at this; exact this⟩
              case measure => simp [intOf]; omega
      · have hke : k = rs.length := by omega
        subst hke
        go_wp2_with fail
        go_ret2
        refine ⟨⟨_, rfl, ?_⟩, hrw.out.b⟩
        rw [HES.out]
        exact resi_of hrw.out.o (by have h1 := putAll_len (spawnsOf (flatTo rs rs.length)); have h2 := spawnsOf_len (flatTo rs rs.length); have h3 := HFL.out rs.length (Nat.le_refl _); omega)
end Go.Proofs.YtddapifljinjeaaDoor
