/- spec.l2Text: contract. -/
import Derived.Test.YtdifamjkbagfcaaDoorProgM
import Derived.Test.YtdifamjkbagfcaaDoorBw
import Derived.BigQuiet
import Derived.Deep.DeepCutAuto
namespace Go.Proofs.YtdifamjkbagfcaaDoor
open Go.RowKit
open Rd Fl

set_option maxRecDepth 20000 in
set_option maxHeartbeats 8000000 in
theorem l2text_any (tx : OpD → ByteArray) (cl lk cd : Int) (R : Option Addr) (rs : List (List OpD)) (cap : Nat) (hn : rs.length ≤ 4) (hne : rs ≠ []) (h1 : 0 ≤ cl ∧ cl ≤ 4) (h2 : 0 ≤ lk ∧ lk ≤ 4) (h3 : 0 ≤ cd ∧ cd ≤ 4)
    (hls : ∀ l ∈ rs, l.length ≤ 24) (htx : ∀ l ∈ rs, ∀ o ∈ l, TxAt tx o) (w : World) (hR : RoutsAt w R rs) :
    Calls Tryd.prog 35 #[.agg #[.int .i64 cl, .int .i64 lk, .int .i64 cd, .slice R rs.length cap]] w fun e w' => e = .returned (.string (routL tx (headT cl lk cd) rs)) ∧ Below w.heap.size w w' := by
  obtain ⟨b, off, hA1, hc⟩ := hR
  have hA2 := hA1 hne
  subst hA2
  have HC := hide' (fun i (hi : i < rs.length) => hc i rs[i] (List.getElem?_eq_getElem hi))
  have HTX := hide' htx
  have HLL := hide' hls
  have H1 := hide' (fun w => l1num_i cl h1.1 (by omega) w)
  have H2 := hide' (fun w => l1num_i lk h2.1 (by omega) w)
  have H3 := hide' (fun w => l1num_i cd h3.1 (by omega) w)
  have z1 := decB_size cl h1.1 (by omega)
  have z2 := decB_size lk h2.1 (by omega)
  have z3 := decB_size cd h3.1 (by omega)
  have HZ : Hid ((headT cl lk cd).size ≤ 100) := headT_size cl lk cd h1 h2 h3
  have hst := store_f
  have hl' : (rs.length : Int) ≤ 4 := by omega
  have HH : Hid (headT cl lk cd = ((((((⟨#[112, 114, 111, 103, 32]⟩ ++ decB cl) ++ ⟨#[32]⟩) ++ decB lk) ++ ⟨#[32]⟩) ++ decB cd) ++ ⟨#[10]⟩)) := rfl
  generalize headT cl lk cd = HD at HH HZ ⊢
  generalize decB cl = d1 at H1 z1 HH
  generalize decB lk = d2 at H2 z2 HH
  generalize decB cd = d3 at H3 z3 HH
  clear hc hA1 htx hls h1 h2 h3 hne
  go_enter Tryd.func35, Tryd.ntmps35
  go_wp2_with fail
  go_cut [3] (fun t wx => t = .string HD ∧ Hid (PBox w.heap.size cl lk cd (some ⟨b, off, none⟩) rs.length cap wx) ∧ Hid (Below w.heap.size w wx))
  case first =>
    clear HC HTX HLL HZ hst hl' hn
    have hP := pbox_new w cl lk cd (some ⟨b, off, none⟩) rs.length cap 30
    have hB0 : Below w.heap.size w (w.alloc (.cells #[.int .i64 cl, .int .i64 lk, .int .i64 cd, .slice (some ⟨b, off, none⟩) rs.length cap] 30)) := (Below.refl _ w).up _
    generalize (w.alloc (.cells #[.int .i64 cl, .int .i64 lk, .int .i64 cd, .slice (some ⟨b, off, none⟩) rs.length cap] 30)) = W at hP hB0 ⊢
    have hne := BW.ne W
    have f0 := BW.cell hP.c0
    have f1 := BW.cell hP.c1
    have f2 := BW.cell hP.c2
    refine wp_region_bw (by kernel_rfl) (by kernel_rfl) ?_
    repeat (go_big_quiet_step (first | (go_at_call_of 70 cl; exact bw_of (H1.out _)) | (go_at_call_of 70 lk; exact bw_of (H2.out _)) | (go_at_call_of 70 cd; exact bw_of (H3.out _))))
    refine wpQuiet_nil ?_
    rintro w' ⟨x, rfl⟩
    go_wp2_with fail
    go_meet
    exact ⟨by rw [HH.out], hP.keep x.h, hB0.trans (x.h.mono hB0.size)⟩
  case rest =>
    obtain ⟨rfl, hbox, hbw⟩ := hcut
    clear HH H1 H2 H3 z1 z2 z3
    obtain ⟨p0, p1, p2, p3⟩ := hbox.out
    have HZZ := hide' HZ.out
    clear HZ
    go_wp2_with fail
    go_loopw [3, 26] (fun t i wr => ∃ (k : Nat) (S : ByteArray), k ≤ rs.length ∧ i = .int .i64 k ∧ t = .string S ∧ Hid (S = routL tx HD (rs.take k)) ∧ Hid (S.size ≤ 100 + k * 4000) ∧ Hid (Below w.heap.size w wr)) (fun _ i _ => rs.length - (intOf i).toNat)
    case atStart => exact ⟨0, HD, Nat.zero_le _, rfl, rfl, rfl, HZZ.out, hbw.out⟩
    case round =>
      obtain ⟨k, S, hk, rfl, rfl, hS, hz, hb⟩ := hrel
      have hSz : S.size ≤ 20000 := by have := hz.out; omega
      by_cases hlt : k < rs.length
      · obtain ⟨A, cp, x1, y1⟩ := HC.out k hlt
        have q1 := keep_cell hb.out x1
        have Y1 := hide' (y1.keep hb.out)
        have HX := hide' (HTX.out rs[k] (List.getElem_mem hlt))
        have HL := hide' (HLL.out rs[k] (List.getElem_mem hlt))
        have hll : (rs[k].length : Int) ≤ 24 := by have := HL.out; omega
        have HK : Hid (routL tx HD (rs.take (k + 1)) = linesL tx (S ++ routW) rs[k]) := by
          show _ = _
          rw [hS.out]
          exact routL_take tx HD rs k hlt
        clear x1 y1 p0 p1 p2 p3
        generalize rs[k] = l at q1 Y1 HX HL hll HK
        have HB0 : Hid ((S ++ routW).size ≤ 108 + k * 4000) := by
          show _ ≤ _
          rw [ByteArray.size_append, routW_size]
          have := hz.out
          omega
        go_wp2_with fail
        go_loopw [3, 34] (fun t i wx => ∃ (j : Nat) (U : ByteArray), j ≤ l.length ∧ i = .int .i64 j ∧ t = .string U ∧ Hid (U = linesL tx (S ++ routW) (l.take j)) ∧ Hid (U.size ≤ 108 + k * 4000 + j * 101) ∧ Hid (Below w.heap.size w wx) ∧ Hid (Below wr.heap.size wr wx)) (fun _ i _ => l.length - (intOf i).toNat)
        case atStart => exact ⟨0, S ++ routW, Nat.zero_le _, rfl, rfl, rfl, HB0.out, hb.out, Below.refl _ _⟩
        case round =>
          obtain ⟨j, U, hj, rfl, rfl, hU, hu, hx1, hx2⟩ := hrel
          have hUz : U.size ≤ 30000 := by have := hu.out; have := HL.out; omega
          by_cases hjl : j < l.length
          · obtain ⟨b2, off2, hB1, hc2⟩ := Y1.out
            have hB2 := hB1 (by intro h; rw [h] at hjl; simp at hjl)
            subst hB2
            obtain ⟨c0, c1, c2, c3⟩ := op_range (range_keep hx2.out (hc2 j l[j] (List.getElem?_eq_getElem hjl)))
            obtain ⟨t1, t2, -⟩ := HX.out l[j] (List.getElem_mem hjl)
            have HT := hide' t2
            have HJ : Hid (linesL tx (S ++ routW) (l.take (j + 1)) = U ++ (tx l[j] ++ lf)) := by
              show _ = _
              rw [hU.out]
              exact linesL_take tx (S ++ routW) l j hjl
            clear t2 hc2 hB1
            generalize tx l[j] = X at t1 HT HJ
            generalize l[j] = o at c0 c1 c2 c3 HT
            have hbz := hb.out.size
            have hbz2 := hx2.out.size
            have HUZ : Hid ((U ++ (X ++ lf)).size ≤ 108 + k * 4000 + (j + 1) * 101) := by
              show _ ≤ _
              rw [ByteArray.size_append, ByteArray.size_append, lf_size]
              have := hu.out
              omega
            go_wp2_with (go_at_call 71; refine (HT.out _).mono ?_; rintro e w1 ⟨rfl, hb1⟩)
            go_roundw
            case rel => exact ⟨j + 1, U ++ (X ++ lf), by omega, by go_num, rfl, HJ.out.symm, HUZ.out, (hx1.out.up _).trans (hb1.mono (by simp; omega)), (hx2.out.up _).trans (hb1.mono (by simp; omega))⟩
            case measure => simp [intOf]; omega
          · have hje : j = l.length := by omega
            subst hje
            have HUU : Hid (U = routL tx HD (rs.take (k + 1))) := by
              show _ = _
              rw [HK.out, hU.out, List.take_length]
            have HU2 : Hid (U.size ≤ 100 + (k + 1) * 4000) := by
              show _ ≤ _
              have := hu.out
              have := HL.out
              omega
            go_wp2_with fail
            go_roundw
            case rel => exact ⟨k + 1, U, by omega, by go_num, rfl, HUU.out, HU2.out, hx1.out⟩
            case measure => simp [intOf]; omega
      · have hke : k = rs.length := by omega
        have HE : Hid (S = routL tx HD rs) := by
          show _ = _
          rw [hS.out, hke, List.take_length]
        clear hS hz hlt
        go_wp2_with fail
        go_ret
        exact ⟨by rw [HE.out]; rfl, hb.out⟩

end Go.Proofs.YtdifamjkbagfcaaDoor
