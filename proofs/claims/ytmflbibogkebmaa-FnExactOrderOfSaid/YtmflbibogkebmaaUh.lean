/- impl.UndersIn. -/
import Derived.Test.YtmflbibogkebmaaUd
import Derived.Test.YtmflbibogkebmaaVs
import Derived.Test.YtmflbibogkebmaaQe
namespace Go.Proofs.Ytmflbibogkebmaa
open Go.RowKit Go.Maps
open Rd Fl

set_option maxRecDepth 20000 in
set_option maxHeartbeats 8000000 in
theorem iunders_yes (hsort : SortSays) (hnil : SortNil) (A : Option Addr) (l : List EvD) (cap : Nat) (hcap : l.length ≤ cap) (hg : goodTr l = true) (hne : l ≠ []) (w : World) (hA : EvsAt w A l) :
    Calls Try.prog 24 #[.slice A l.length cap] w fun e w' => ∃ v, e = .returned (.tuple #[v, .bool true]) ∧ UdR w w' v (undTo l l.length) := by
  obtain ⟨i0, hi0, hz0, hz1, hz2⟩ := undInfo
  have h200 := good_len hg
  have hn' : (l.length : Int) ≤ 200 := by omega
  have hcap' : (l.length : Int) ≤ cap := by omega
  have HG := hide' (igoodtr_any A l cap (by omega) w hA)
  rw [hg] at HG
  have HTC := hide' (fun r0 r1 r2 r3 r4 w => ltaken_any r0 r1 r2 r3 r4 w)
  have HBF := hide' (fun i (hi : i < l.length) w1 (hb : Below w.heap.size w w1) => locksafter_any hsort hnil A l hne i cap (by omega) hg (by omega) (evA l i).th w1 (hA.keep hb))
  have HEA := hide' (fun i (hi : i < l.length) => evA_get (l := l) hi)
  have HGE := hide' (fun i (hi : i < l.length) => tkE_good (good_ev hg hi))
  obtain ⟨b, off, hA1, hc⟩ := hA
  have hA2 := hA1 hne
  subst hA2
  have HCE := hide' (fun i (hi : i < l.length) => hc i l[i] (List.getElem?_eq_getElem hi))
  clear hc hA1 hne hg hsort hnil
  go_enter Try.func24, Try.ntmps24
  go_wp2_with (go_at_call 38; refine HG.out.mono ?_; rintro e w1 ⟨rfl, hb1⟩)
  have B1 := hide' hb1
  clear HG hb1
  go_loopw [4, 15] (fun v x wr => ∃ k : Nat, k ≤ l.length ∧ x = .int .i64 k ∧ Hid (UdR w wr v (undTo l k))) (fun _ x _ => l.length - (intOf x).toNat)
  case atStart => exact ⟨0, Nat.zero_le _, rfl, ⟨B1.out, World.ownsRow_nil _ _ _ _⟩⟩
  case round =>
    obtain ⟨k, hk, rfl, hr⟩ := hrel
    by_cases hlt : k < l.length
    · have hk2 : (k : Int) < l.length := by omega
      have hk3 : (k : Int) ≤ cap := by omega
      have hk200 : k < 200 := by omega
      obtain ⟨c0, c1, c2, c3, c4⟩ := ev_range (range_keep hr.out.b (HCE.out k hlt))
      have HEK := HEA.out k hlt
      have HNO := hide' (fun h => undTo_no (t := l) (n := k) h)
      have HB := hide' (HBF.out k hlt)
      have HEND := hide' (fun h => undMid_end (t := l) (i := k) h)
      have HSTEP := hide' (fun m (h : m < (befN l k).length) => undMid_step (t := l) (i := k) h)
      have HML := hide' (fun m => undMid_len (t := l) (i := k) (m := m) hk200)
      have HBL := hide' (befN_len l k)
      have HTG := HGE.out k hlt
      rw [show heldTo l (evA l k).th k = befN l k from rfl] at HB
      rw [HEK] at HNO HB HEND HSTEP
      generalize befN l k = bl at *
      generalize l[k] = x at c0 c1 c2 c3 c4 HNO HB HEND HSTEP HTG
      clear HEK
      obtain ⟨r0, r1, r2, r3, r4⟩ := x
      have HT := hide' (HTC.out r0 r1 r2 r3 r4)
      simp only at c0 c1 c2 c3 c4 HSTEP HTG HB
      have E0 := hide' (evbox_new wr r0 r1 r2 r3 r4)
      have U0 := hide' ((Below.refl wr.heap.size wr).up (.cells #[.int .i64 r0, .int .i64 r1, .int .i64 r2, .int .i64 r3, .int .i64 r4] 50))
      obtain ⟨q0, q1, q2, q3, q4⟩ := E0.out
      generalize tkE ⟨r0, r1, r2, r3, r4⟩ = tx at *
      generalize tk (-1) r1 r2 r3 = ty at *
      rcases HTG with ⟨ht1, ht2⟩ | ⟨ht1, ht3, ht2⟩
      · subst ht2
        have HE := hide' (HNO.out (by omega))
        clear HNO HB HEND HSTEP
        go_wp2_with (go_at_call 50; refine (HT.out _).mono ?_; rintro e w2 ⟨rfl, hb2⟩)
        go_roundw
        case rel => exact ⟨k + 1, by omega, by go_num, by rw [HE.out]; exact (hr.out.keep U0.out).keep hb2⟩
        case measure => simp [intOf]; omega
      · subst ht2
        have htd : (ty == -1) = false := by simp; omega
        have HEND2 := hide' (HEND.out (by omega))
        have hwo : w.heap.size ≤ wr.heap.size := hr.out.b.size
        clear HNO HEND ht1 ht3
        go_wp2_with (go_at_call 50; refine (HT.out _).mono ?_; rintro e w2 ⟨rfl, hb2⟩; have R2 := hide' ((hr.out.keep U0.out).keep hb2); have E2 := hide' (E0.out.keep hb2))
        have F0 := hide' (show OffZ u4 wr.heap.size from fun j hj => by have := (hr.out.o.lt j hj).2; omega)
        have D2 := hide' (R2.out.keep (Below.refl _ w2).drew)
        have G2 := hide' (E2.out.keep (Below.refl _ w2).drew)
        clear q0 q1 q2 q3 q4 hr U0 c0 c1 c2 c3 c4 hb2 E0
        generalize wr.heap.size = N0 at *
        obtain ⟨q0, q1, q2, q3, q4⟩ := E2.out
        go_cut [29, 30, 31] (fun v n x wx => ∃ A3 cc3, v = .slice A3 bl.length cc3 ∧ n = .int .i64 bl.length ∧ x = .int .i64 0 ∧ Hid (UdR w wx u4 (undTo l k)) ∧ Hid (wx.ownsRow w.heap.size 3 1 (.slice A3 bl.length cc3) bl.length (bl.map iv)) ∧ Hid (EvBox wx N0 r0 r1 r2 r3 r4))
        case first =>
          go_region_with (go_at_call 51; refine (HB.out _ D2.out.b).mono ?_; rintro e w3 ⟨⟨v3, rfl, hr3⟩, hb3⟩; obtain ⟨A3, cc3, e3⟩ := own_shape_z hr3; subst e3; have R3 := hide' (D2.out.keep hb3); have E3 := hide' (G2.out.keep hb3); have L3 := hide' (own_less hr3 (show w.heap.size ≤ w2.drew.heap.size from D2.out.b.size)); clear hr3 hb3)
          all_goals
            go_wp2_with fail
            go_meet
            exact ⟨A3, cc3, rfl, rfl, rfl, R3.out, L3.out, E3.out⟩
        case rest =>
          obtain ⟨A3, cc3, rfl, rfl, rfl, R3, L3, E3⟩ := hcut
          have hbln : (bl.length : Int) ≤ 200 := by have := HBL.out; omega
          clear q0 q1 q2 q3 q4 HB R2 E2 D2 G2
          go_wp2_with fail
          go_loopw [4, 31] (fun v x wx => ∃ m : Nat, m ≤ bl.length ∧ x = .int .i64 m ∧ Hid (UdR w wx v (undMid l k m)) ∧ Hid (wx.ownsRow w.heap.size 3 1 (.slice A3 bl.length cc3) bl.length (bl.map iv)) ∧ Hid (EvBox wx N0 r0 r1 r2 r3 r4) ∧ Hid (OffZ v N0)) (fun _ x _ => bl.length - (intOf x).toNat)
          case atStart => exact ⟨0, Nat.zero_le _, rfl, by rw [undMid_zero]; exact R3.out, L3.out, E3.out, F0.out⟩
          case round =>
            obtain ⟨m, hm, rfl, R4, L4, E4, F4⟩ := hrel
            by_cases hml : m < bl.length
            · have hmi : (m : Int) < bl.length := by omega
              have HS := hide' (HSTEP.out m hml)
              obtain ⟨b3, hb3⟩ : ∃ b3, A3 = some ⟨b3, 0, none⟩ := by
                rcases L4.out.2 with ⟨e, h0⟩ | ⟨g, c, cur, e, -⟩
                · omega
                · injection e with e1 e2 e3; exact ⟨g, e1⟩
              subst hb3
              have e0 := L4.out.cellAt m (by omega)
              have hbm : (bl.map iv)[m]? = some (iv bl[m]) := by rw [List.getElem?_map, List.getElem?_eq_getElem hml]; rfl
              rw [hbm] at e0
              unfold iv at e0
              generalize bl[m] = h0 at e0 HS
              obtain ⟨q0, q1, q2, q3, q4⟩ := E4.out
              have hlen := HML.out m
              have hsz := R4.out.b.size
              clear hbm
              obtain ⟨A5, c5, e5⟩ := own_shape_z R4.out.o
              subst e5
              generalize hum : undMid l k m = um at *
              have HLN := hide' (fun (w5 : World) (hg5 : (wr.alloc (.cells #[.int .i64 h0, .int .i64 ty, .int .i64 r0, .int .i64 (k : Int)] 64)).grownBy w5 (Value.slice A5 um.length c5).ownBlock) => (L4.out.alloc (.cells #[.int .i64 h0, .int .i64 ty, .int .i64 r0, .int .i64 (k : Int)] 64)).kept hg5 (types_ne_z L4.out R4.out.o (by decide)))
              go_wp2_with (first
                | (at_builtin; refine wpList_append_own_at _ rfl _ _ 40 rfl w.heap.size 64 i0 _ 4 32 Try.underlying40 hi0 hz0 hz1 hz2 rfl (by decide) _ _ _ rfl (R4.out.o.alloc _) ⟨wr.heap.size, 0, none⟩ 1 1 [.int .i64 h0, .int .i64 ty, .int .i64 r0, .int .i64 (k : Int)] rfl rfl (four_new wr h0 ty r0 (k : Int) 64) (four_one _ _ _ _) (by unfold maxLen; omega) (by omega) (by simp; omega) ?_; intro v' w5 hown5 hg5 hnil5 hblk5; go_frame)
                | go_in)
              have R5 := hide' (R4.out.snoc ⟨h0, ty, r0, (k : Int)⟩ hown5 hg5)
              have E5 := hide' ((E4.out.keep ((Below.refl _ _).up (.cells #[.int .i64 h0, .int .i64 ty, .int .i64 r0, .int .i64 (k : Int)] 64))).rowZ hg5 F4.out)
              have F5 := hide' (F4.out.next hblk5 (by have := E4.out.lt; simp; omega))
              have L5 := hide' (HLN.out _ hg5)
              go_roundw
              case rel => exact ⟨m + 1, by omega, by go_num, by rw [HS.out]; exact R5.out, L5.out, E5.out, F5.out⟩
              case measure => simp [intOf]; omega
            · have hme : m = bl.length := by omega
              subst hme
              go_wp2_with fail
              go_roundw
              case rel => exact ⟨k + 1, by omega, by go_num, by rw [← HEND2.out]; exact R4.out⟩
              case measure => simp [intOf]; omega
    · have hke : k = l.length := by omega
      subst hke
      go_wp2_with fail
      go_ret2
      exact ⟨_, rfl, hr.out⟩

set_option maxRecDepth 20000 in
set_option maxHeartbeats 4000000 in
theorem iunders_any (hsort : SortSays) (hnil : SortNil) (A : Option Addr) (l : List EvD) (cap : Nat) (hcap : l.length ≤ cap) (hl : l.length ≤ 1048576) (w : World) (hA : EvsAt w A l) :
    Calls Try.prog 24 #[.slice A l.length cap] w fun e w' => (∃ v, e = .returned (.tuple #[v, .bool (goodTr l)]) ∧ ResU (undersN l) w' w.heap.size w'.heap.size v) ∧ Below w.heap.size w w' := by
  have HG := hide' (igoodtr_any A l cap hl w hA)
  have HN := hide' (show (undersN l).length ≤ 50000 by have := undersN_len l; omega)
  cases hg : goodTr l
  · have hu : undersN l = [] := by unfold undersN; rw [if_neg (by rw [hg]; simp)]
    rw [hu]
    rw [hg] at HG
    clear hg hA HN hu
    go_enter Try.func24, Try.ntmps24
    go_wp2_with (go_at_call 38; refine HG.out.mono ?_; rintro e w1 ⟨rfl, hb1⟩)
    go_ret2
    exact ⟨⟨_, rfl, resu_of (World.ownsRow_nil _ _ _ _) (by simp)⟩, hb1⟩
  · have hu : undersN l = undTo l l.length := by unfold undersN; rw [if_pos hg]
    rw [hu] at HN ⊢
    by_cases hne : l = []
    · subst hne
      rw [hg] at HG
      clear hg hA hcap hl hu hsort hnil
      go_enter Try.func24, Try.ntmps24
      go_wp2_with (go_at_call 38; refine HG.out.mono ?_; rintro e w1 ⟨rfl, hb1⟩)
      go_loopw [4, 15] (fun v x wr => v = .slice none 0 0 ∧ x = .int .i64 0 ∧ wr = w1) (fun _ _ _ => 0)
      case atStart => exact ⟨rfl, rfl, rfl⟩
      case round =>
        obtain ⟨rfl, rfl, rfl⟩ := hrel
        go_wp2_with fail
        go_ret2
        exact ⟨⟨_, rfl, resu_of (World.ownsRow_nil _ _ _ _) (Nat.zero_le _)⟩, hb1⟩
    · refine (iunders_yes hsort hnil A l cap hcap hg hne w hA).mono ?_
      rintro e w' ⟨v, rfl, hr⟩
      exact ⟨⟨v, rfl, hr.res HN.out⟩, hr.b⟩
end Go.Proofs.Ytmflbibogkebmaa
