/- spec.l8Before: the locks had ahead of a place. spec.l8Unders, spec.UndersIn. spec.UndersIn at any trace. -/
import Derived.Test.YtmflbibogkebmaaUb
import Derived.Test.YtmflbibogkebmaaVs
import Derived.Deep.QuietTactic
import Derived.BigQuiet
import Derived.Deep.DeepCutAuto
namespace Go.Proofs.Ytmflbibogkebmaa
open Go.RowKit Go.Maps
open Rd Fl

set_option maxRecDepth 20000 in
set_option maxHeartbeats 4000000 in
theorem l8before_any (A : Option Addr) (l : List EvD) (cap : Nat) (hcap : l.length ≤ cap) (hg : goodTr l = true) (i : Nat) (hi : i < l.length) (ht : 0 ≤ tkE (evA l i)) (w : World) (hA : EvsAt w A l) :
    Calls Try.prog 72 #[.slice A l.length cap, .int .i64 (i : Int)] w fun e w' => ∃ v, e = .returned v ∧ Rsp w v (befN l i) w' := by
  have h200 := good_len hg
  have hn' : (l.length : Int) ≤ 200 := by omega
  have hi2 : (i : Int) < l.length := by omega
  have HH := hide' (l7held_any A l cap hcap hg i hi w hA)
  have HBN := hide' (heldN_short2 hg hi)
  obtain ⟨b, off, hA1, hc⟩ := hA
  have hA2 := hA1 (by intro h; rw [h] at hi; simp at hi)
  subst hA2
  have HC := hide' (fun k (hk : k < l.length) => hc k l[k] (List.getElem?_eq_getElem hk))
  have HG := hide' hg
  obtain ⟨c0, c1, c2, c3, c4⟩ := ev_range (hc i l[i] (List.getElem?_eq_getElem hi))
  have HTH := hide' (show (evA l i).th = l[i].th by rw [evA_get hi])
  have HTI := hide' (show 0 ≤ tkE l[i] by rwa [evA_get hi] at ht)
  have HHAS := hide' (fun (h : tkE l[i] ∈ heldTo l l[i].th i) => show heldN l i = befN l i from bef_has ht (by rwa [evA_get hi]))
  have HNOT := hide' (fun (h : tkE l[i] ∉ heldTo l l[i].th i) => show dropL (heldN l i) (tkE l[i]) = befN l i from by have := bef_not ht (by rwa [evA_get hi]); rwa [evA_get hi] at this)
  have HTK := hide' (fun w => l6takes_any l[i].th l[i].kd l[i].ob l[i].lk l[i].pc w)
  have hT3 : tk (-3) l[i].kd l[i].ob l[i].lk = tkE l[i] := rfl
  rw [hT3] at HTK
  generalize hk0 : tkE l[i] = K at *
  have hK := HTI.out
  generalize heldN l i = LN at *
  generalize hth : l[i].th = th at c0 HTH HHAS HNOT HTK
  generalize l[i].kd = r1 at c1 HTK
  generalize l[i].ob = r2 at c2 HTK
  generalize l[i].lk = r3 at c3 HTK
  generalize l[i].pc = r4 at c4 HTK
  have HI := hide' c0
  clear hc hA1 hg hth ht hT3 hk0
  go_enter Try.func72, Try.ntmps72
  go_wp2_with (first
    | (go_at_call 36; refine HH.out.mono ?_; rintro e w1 ⟨v1, rfl, hr1⟩; have R1 := hide' hr1; have c0 := keep_cell hr1.b c0; have c1 := keep_cell hr1.b c1; have c2 := keep_cell hr1.b c2; have c3 := keep_cell hr1.b c3; have c4 := keep_cell hr1.b c4)
    | (go_at_call 57; refine (HTK.out _).mono ?_; rintro e w2 ⟨rfl, hb2⟩; have R2 := hide' (R1.out.keep hb2)))
  have HGV := hide' (fun r0 r1 r2 r3 r4 w => l6gives_any r0 r1 r2 r3 r4 w)
  have HTK2 := hide' (fun r0 r1 r2 r3 r4 w => l6takes_any r0 r1 r2 r3 r4 w)
  clear hb2 hr1 HTK c0 c1 c2 c3 c4 HH
  go_loopw [7, 8] (fun x j wr => ∃ n : Nat, n ≤ i ∧ j = .int .i64 n ∧ x = .bool (decide (K ∈ heldTo l th n)) ∧ Hid (Rsp w v1 LN wr)) (fun _ j _ => i - (intOf j).toNat)
  case atStart => exact ⟨0, Nat.zero_le _, rfl, by simp [heldTo], R2.out⟩
  case round =>
    obtain ⟨n, hn, rfl, rfl, hr⟩ := hrel
    by_cases hlt : n < i
    · have hni : (n : Int) < i := by omega
      have hnl : (n : Int) < l.length := by omega
      have hnl2 : n < l.length := by omega
      obtain ⟨c0, c1, c2, c3, c4⟩ := ev_range (range_keep hr.out.b (HC.out n hnl2))
      have HI2 := keep_cell hr.out.b HI.out
      have HNO := hide' (fun h => was_no (t := l) (th := th) (k := K) (j := n) h)
      have HYES := hide' (fun h => was_yes (t := l) (th := th) (k := K) (j := n) h hK)
      rw [evA_get hnl2] at HNO HYES
      generalize l[n] = x at c0 c1 c2 c3 c4 HNO HYES
      obtain ⟨r0, r1, r2, r3, r4⟩ := x
      simp only at c0 c1 c2 c3 c4 HNO HYES
      have HT := hide' (HTK2.out r0 r1 r2 r3 r4)
      have HV := hide' (HGV.out r0 r1 r2 r3 r4)
      rw [show tk (-3) r1 r2 r3 = tkE ⟨r0, r1, r2, r3, r4⟩ from rfl] at HT
      rw [show gv (-2) r1 r2 r3 = gvE ⟨r0, r1, r2, r3, r4⟩ from rfl] at HV
      generalize tkE ⟨r0, r1, r2, r3, r4⟩ = tx at *
      generalize gvE ⟨r0, r1, r2, r3, r4⟩ = gx at *
      generalize decide (K ∈ heldTo l th n) = was at *
      cases hb : (r0 == th)
      · have HE := hide' (HNO.out (by simpa using hb))
        clear HNO HYES HT HV
        go_wp2_with fail
        go_quiet (fail)
        go_wp2_with fail
        go_roundw
        case rel => exact ⟨n + 1, by omega, by go_num, by rw [HE.out], hr.out.keep (below_draws (Below.refl _ _) _)⟩
        case measure => simp [intOf]; omega
      · have HE := hide' (HYES.out (by simpa using hb))
        clear HNO HYES
        go_wp2_with fail
        go_quiet (fail)
        have D1 := hide' (below_draws (Below.refl wr.heap.size wr) nq)
        have R1 := hide' (hr.out.keep D1.out)
        have c0 := keep_cell D1.out c0
        have c1 := keep_cell D1.out c1
        have c2 := keep_cell D1.out c2
        have c3 := keep_cell D1.out c3
        have c4 := keep_cell D1.out c4
        generalize wr.drewN nq = W1 at *
        clear D1 hr
        cases ht : (tx == K) <;> cases hg2 : (gx == K)
        all_goals
          have HE2 := hide' (HE.out)
          simp only [beq_iff_eq, beq_eq_false_iff_ne] at ht hg2
          have ht' := hide' ht
          have hg' := hide' hg2
          go_wp2_with (first
            | (go_at_call 57; refine (HT.out _).mono ?_; rintro e w2 ⟨rfl, hb2⟩; have R2 := hide' (R1.out.keep hb2); have c0 := keep_cell hb2 c0; have c1 := keep_cell hb2 c1; have c2 := keep_cell hb2 c2; have c3 := keep_cell hb2 c3; have c4 := keep_cell hb2 c4)
            | (go_at_call 67; refine (HV.out _).mono ?_; rintro e w3 ⟨rfl, hb3⟩; have R3 := hide' (R2.out.keep hb3)))
          go_roundw
          case rel => exact ⟨n + 1, by omega, by go_num, by rw [HE2.out]; first | rw [if_pos hg'.out] | rw [if_neg hg'.out, if_pos ht'.out] | rw [if_neg hg'.out, if_neg ht'.out], R3.out⟩
          case measure => simp [intOf]; omega
    · have hke : n = i := by omega
      subst hke
      cases hw : decide (K ∈ heldTo l th n)
      · have HD := hide' (HNOT.out (of_decide_eq_false hw))
        obtain ⟨A, c, e, hA⟩ := hr.out.open HBN.out
        subst e
        have HDR := hide' (l7drop_any A LN c K HBN.out wr hA)
        go_wp2_with (go_at_call 58; refine HDR.out.mono ?_; rintro e w4 ⟨v4, rfl, hr4⟩; have R4 := hide' (hr.out.on hr4))
        go_ret
        exact ⟨_, rfl, by rw [← HD.out]; exact R4.out⟩
      · have HD := hide' (HHAS.out (of_decide_eq_true hw))
        go_wp2_with fail
        go_ret
        exact ⟨_, rfl, by rw [← HD.out]; exact hr.out⟩
end Go.Proofs.Ytmflbibogkebmaa
namespace Go.Proofs.Ytmflbibogkebmaa
open Go.RowKit Go.Maps
open Rd Fl

theorem undInfo : ∃ i, Try.prog.info? 64 = some i ∧ i.zero = some (.agg #[.int .i64 0, .int .i64 0, .int .i64 0, .int .i64 0]) ∧ i.size = 4 ∧ i.bytes = 32 := by
  have h1 : (Try.prog.info? 64).map (·.size) = some 4 := by kernel_rfl
  have h2 : (Try.prog.info? 64).map (·.bytes) = some 32 := by kernel_rfl
  have h3 : (Try.prog.info? 64).bind (·.zero) = some (.agg #[.int .i64 0, .int .i64 0, .int .i64 0, .int .i64 0]) := by kernel_rfl
  cases hi : Try.prog.info? 64 with
  | none => rw [hi] at h1; cases h1
  | some i => exact ⟨i, rfl, by rw [hi] at h3; simpa using h3, by rw [hi] at h1; simpa using h1, by rw [hi] at h2; simpa using h2⟩

/-- a row of the records of a function's own -/
structure UdR (w wr : World) (v : Value) (ls : List UnD) : Prop where
  b : Below w.heap.size w wr
  o : wr.ownsRow w.heap.size 64 4 v ls.length (unC ls)
theorem UdR.keep {w wr wy : World} {v : Value} {ls : List UnD} (h : UdR w wr v ls) (hb : Below wr.heap.size wr wy) : UdR w wy v ls := ⟨h.b.trans (hb.mono h.b.size), own_keep h.o hb⟩
theorem udr_nil (w : World) : UdR w w (.slice none 0 0) [] := ⟨Below.refl _ _, World.ownsRow_nil _ _ _ _⟩
theorem UdR.snoc {w wr w3 : World} {v v' : Value} {ls : List UnD} (h : UdR w wr v ls) (x : UnD) {o : Obj} (hown : w3.ownsRow w.heap.size 64 4 v' (ls.length + 1) (unC ls ++ x.cells)) (hg : (wr.alloc o).grownBy w3 v.ownBlock) : UdR w w3 v' (ls ++ [x]) :=
  ⟨Below.grown (h.b.up o) hg (by have := h.b.size; simp; omega) (own_base' h.o), by rw [List.length_append, unC_append]; simpa [unC] using hown⟩
theorem EvBox.rowZ {w w' : World} {N : Nat} {a0 a1 a2 a3 a4 : Int} (h : EvBox w N a0 a1 a2 a3 a4) {row : Option Nat} (hg : w.grownBy w' row) (hne : ∀ k, row = some k → k ≠ N) : EvBox w' N a0 a1 a2 a3 a4 := by
  have e := hg.block N h.lt (fun e => hne N e.symm rfl)
  have k : ∀ o, w'.cell? ⟨N, o, none⟩ = w.cell? ⟨N, o, none⟩ := fun o => by unfold World.cell?; simp only; rw [e]
  obtain ⟨h0, h1, h2, h3, h4⟩ := h
  exact ⟨(k 0).trans h0, (k 1).trans h1, (k 2).trans h2, (k 3).trans h3, (k 4).trans h4⟩
theorem own_shape_z {w : World} {b e s : Nat} {v : Value} {n : Nat} {xs : List Value} (h : w.ownsRow b e s v n xs) : ∃ A cap, v = .slice A n cap := by
  rcases h.2 with ⟨rfl, h0⟩ | ⟨g, cap, cur, rfl, -⟩
  · exact ⟨none, 0, by rw [h0]⟩
  · exact ⟨_, cap, rfl⟩
theorem types_ne_z {w : World} {b b' e e' s s' n n' : Nat} {v v' : Value} {xs xs' : List Value} (h : w.ownsRow b e s v n xs) (h' : w.ownsRow b' e' s' v' n' xs') (hne : e ≠ e') : v.ownBlock = none ∨ v.ownBlock ≠ v'.ownBlock := by
  rcases h.2 with ⟨rfl, -⟩ | ⟨g, cap, cur, rfl, -, hg, -⟩
  · exact .inl rfl
  · right
    rcases h'.2 with ⟨rfl, -⟩ | ⟨g', cap', cur', rfl, -, hg', -⟩
    · simp [Value.ownBlock]
    · intro hh
      have : g = g' := by simpa [Value.ownBlock] using hh
      subst this
      rw [hg] at hg'
      cases hg'
      exact hne rfl
/-- v's own block is not N. -/
def OffZ (v : Value) (N : Nat) : Prop := ∀ k, v.ownBlock = some k → k ≠ N
theorem OffZ.next {v v' : Value} {N M : Nat} (h : OffZ v N) (hb : v'.ownBlock = v.ownBlock ∨ v'.ownBlock = some M) (hN : N < M) : OffZ v' N := by
  intro k hk
  rcases hb with e | e
  · rw [e] at hk; exact h k hk
  · rw [e] at hk; have := Option.some.inj hk; omega
theorem four_new (w : World) (a b c d : Int) (t : TypeId) : ∀ j u, [Value.int .i64 a, .int .i64 b, .int .i64 c, .int .i64 d][j]? = some u → (w.alloc (.cells #[.int .i64 a, .int .i64 b, .int .i64 c, .int .i64 d] t)).cell? ((⟨w.heap.size, 0, none⟩ : Addr).add j) = some u := by
  intro j u hu
  match j, hu with
  | 0, hu => simp at hu; subst hu; simp [Addr.add]
  | 1, hu => simp at hu; subst hu; simp [Addr.add]
  | 2, hu => simp at hu; subst hu; simp [Addr.add]
  | 3, hu => simp at hu; subst hu; simp [Addr.add]
theorem four_one (a b c d : Int) : ∀ u ∈ [Value.int .i64 a, .int .i64 b, .int .i64 c, .int .i64 d], u.oneCell' = true := by
  intro u hu; simp at hu; rcases hu with rfl | rfl | rfl | rfl <;> rfl

set_option maxRecDepth 20000 in
set_option maxHeartbeats 8000000 in
theorem l8unders_yes (A : Option Addr) (l : List EvD) (cap : Nat) (hcap : l.length ≤ cap) (hg : goodTr l = true) (hne : l ≠ []) (w : World) (hA : EvsAt w A l) :
    Calls Try.prog 49 #[.slice A l.length cap] w fun e w' => ∃ v, e = .returned v ∧ UdR w w' v (undTo l l.length) := by
  obtain ⟨i0, hi0, hz0, hz1, hz2⟩ := undInfo
  have h200 := good_len hg
  have hn' : (l.length : Int) ≤ 200 := by omega
  have hcap' : (l.length : Int) ≤ cap := by omega
  have HTC := hide' (fun r0 r1 r2 r3 r4 w => l6takes_any r0 r1 r2 r3 r4 w)
  have HBF := hide' (fun i hi ht w1 (hb : Below w.heap.size w w1) => l8before_any A l cap hcap hg i hi ht w1 (hA.keep hb))
  have HEA := hide' (fun i (hi : i < l.length) => evA_get (l := l) hi)
  obtain ⟨b, off, hA1, hc⟩ := hA
  have hA2 := hA1 hne
  subst hA2
  have HCE := hide' (fun i (hi : i < l.length) => hc i l[i] (List.getElem?_eq_getElem hi))
  clear hc hA1 hne hg
  go_enter Try.func49, Try.ntmps49
  go_wp2_with fail
  go_loopw [3, 11] (fun v x wr => ∃ k : Nat, k ≤ l.length ∧ x = .int .i64 k ∧ Hid (UdR w wr v (undTo l k))) (fun _ x _ => l.length - (intOf x).toNat)
  case atStart => exact ⟨0, Nat.zero_le _, rfl, udr_nil w⟩
  case round =>
    obtain ⟨k, hk, rfl, hr⟩ := hrel
    by_cases hlt : k < l.length
    · have hk2 : (k : Int) < l.length := by omega
      have hk200 : k < 200 := by omega
      obtain ⟨c0, c1, c2, c3, c4⟩ := ev_range (range_keep hr.out.b (HCE.out k hlt))
      have HEK := HEA.out k hlt
      have HNO := hide' (fun h => undTo_no (t := l) (n := k) h)
      have HB := hide' (HBF.out k hlt)
      have HEND := hide' (fun h => undMid_end (t := l) (i := k) h)
      have HSTEP := hide' (fun m (h : m < (befN l k).length) => undMid_step (t := l) (i := k) h)
      have HML := hide' (fun m => undMid_len (t := l) (i := k) (m := m) hk200)
      rw [HEK] at HNO HB HEND HSTEP
      generalize l[k] = x at c0 c1 c2 c3 c4 HNO HB HEND HSTEP
      clear HEK
      obtain ⟨r0, r1, r2, r3, r4⟩ := x
      have HT := hide' (HTC.out r0 r1 r2 r3 r4)
      rw [show tk (-3) r1 r2 r3 = tkE ⟨r0, r1, r2, r3, r4⟩ from rfl] at HT
      simp only at c0 c1 c2 c3 c4 HSTEP
      have E0 := hide' (evbox_new wr r0 r1 r2 r3 r4)
      have U0 := hide' ((Below.refl wr.heap.size wr).up (.cells #[.int .i64 r0, .int .i64 r1, .int .i64 r2, .int .i64 r3, .int .i64 r4] 50))
      obtain ⟨q0, q1, q2, q3, q4⟩ := E0.out
      generalize tkE ⟨r0, r1, r2, r3, r4⟩ = tx at *
      by_cases htx : tx < 0
      · have HE := hide' (HNO.out (by omega))
        clear HNO HB HEND HSTEP
        go_wp2_with (go_at_call 57; refine (HT.out _).mono ?_; rintro e w2 ⟨rfl, hb2⟩)
        go_roundw
        case rel => exact ⟨k + 1, by omega, by go_num, by rw [HE.out]; exact (hr.out.keep U0.out).keep hb2⟩
        case measure => simp [intOf]; omega
      · have htd : decide (tx < 0) = false := decide_eq_false htx
        have HB2 := hide' (HB.out (by omega))
        have HEND2 := hide' (HEND.out (by omega))
        have HBL := hide' (befN_len l k)
        clear HNO HB HEND htx
        generalize hbl : befN l k = bl at *
        go_wp2_with (first
          | (go_at_call 57; refine (HT.out _).mono ?_; rintro e w2 ⟨rfl, hb2⟩; have R2 := hide' ((hr.out.keep U0.out).keep hb2); have E2 := hide' (E0.out.keep hb2); clear hb2 E0)
          | (go_at_call 72; refine (HB2.out _ R2.out.b).mono ?_; rintro e w3 ⟨v3, rfl, hr3⟩; obtain ⟨A3, cc3, e3⟩ := own_shape_z hr3.o; subst e3; have R3 := hide' (R2.out.keep hr3.b); have E3 := hide' (E2.out.keep hr3.b); have L3 := hide' (own_less hr3.o (show w.heap.size ≤ w2.heap.size from R2.out.b.size)); clear hr3))
        have F0 := hide' (show OffZ u3 wr.heap.size from fun j hj => by have := (hr.out.o.lt j hj).2; omega)
        have hbln : (bl.length : Int) ≤ 200 := by have := HBL.out; omega
        obtain ⟨wo, rfl⟩ : ∃ wo, wo = wr := ⟨_, rfl⟩
        clear q0 q1 q2 q3 q4 hr U0 c0 c1 c2 c3 c4 HB2
        go_loopw [3, 24] (fun v x wx => ∃ m : Nat, m ≤ bl.length ∧ x = .int .i64 m ∧ Hid (UdR w wx v (undMid l k m)) ∧ Hid (wx.ownsRow w.heap.size 3 1 (.slice A3 bl.length cc3) bl.length (bl.map iv)) ∧ Hid (EvBox wx wo.heap.size r0 r1 r2 r3 r4) ∧ Hid (OffZ v wo.heap.size)) (fun _ x _ => bl.length - (intOf x).toNat)
        case atStart => exact ⟨0, Nat.zero_le _, rfl, by rw [undMid_zero]; exact R3.out, L3.out, E3.out, F0.out⟩
        case round =>
          obtain ⟨m, hm, rfl, R4, L4, E4, F4⟩ := hrel
          by_cases hml : m < bl.length
          · have hmi : (m : Int) < bl.length := by omega
            have HS := hide' (HSTEP.out m hml)
            obtain ⟨b3, hb3⟩ : ∃ b3, A3 = some ⟨b3, 0, none⟩ := by
              rcases L4.out.2 with ⟨e, h0⟩ | ⟨g, c, cur, e, -⟩
              · omega
              · injection e with e1 e2 e3; exact ⟨g, e1⟩
            subst hb3
            have e0 := L4.out.cellAt m (by omega)
            have hbm : (bl.map iv)[m]? = some (iv bl[m]) := by rw [List.getElem?_map, List.getElem?_eq_getElem hml]; rfl
            rw [hbm] at e0
            unfold iv at e0
            generalize bl[m] = h0 at e0 HS
            obtain ⟨q0, q1, q2, q3, q4⟩ := E4.out
            have hlen := HML.out m
            have hsz := R4.out.b.size
            clear hbm
            obtain ⟨A5, c5, e5⟩ := own_shape_z R4.out.o
            subst e5
            generalize hum : undMid l k m = um at *
            have HLN := hide' (fun (w5 : World) (hg5 : (wr.alloc (.cells #[.int .i64 h0, .int .i64 tx, .int .i64 r0, .int .i64 (k : Int)] 64)).grownBy w5 (Value.slice A5 um.length c5).ownBlock) => (L4.out.alloc (.cells #[.int .i64 h0, .int .i64 tx, .int .i64 r0, .int .i64 (k : Int)] 64)).kept hg5 (types_ne_z L4.out R4.out.o (by decide)))
            go_wp2_with (first
              | (at_builtin; refine wpList_append_own_at _ rfl _ _ 40 rfl w.heap.size 64 i0 _ 4 32 Try.underlying40 hi0 hz0 hz1 hz2 rfl (by decide) _ _ _ rfl (R4.out.o.alloc _) ⟨wr.heap.size, 0, none⟩ 1 1 [.int .i64 h0, .int .i64 tx, .int .i64 r0, .int .i64 (k : Int)] rfl rfl (four_new wr h0 tx r0 (k : Int) 64) (four_one _ _ _ _) (by unfold maxLen; omega) (by omega) (by simp; omega) ?_; intro v' w5 hown5 hg5 hnil5 hblk5; go_frame)
              | go_in)
            have R5 := hide' (R4.out.snoc ⟨h0, tx, r0, (k : Int)⟩ hown5 hg5)
            have E5 := hide' ((E4.out.keep ((Below.refl _ _).up (.cells #[.int .i64 h0, .int .i64 tx, .int .i64 r0, .int .i64 (k : Int)] 64))).rowZ hg5 F4.out)
            have F5 := hide' (F4.out.next hblk5 (by have := E4.out.lt; simp; omega))
            have L5 := hide' (HLN.out _ hg5)
            go_roundw
            case rel => exact ⟨m + 1, by omega, by go_num, by rw [HS.out]; exact R5.out, L5.out, E5.out, F5.out⟩
            case measure => simp [intOf]; omega
          · have hme : m = bl.length := by omega
            subst hme
            go_wp2_with fail
            go_roundw
            case rel => exact ⟨k + 1, by omega, by go_num, by rw [← HEND2.out]; exact R4.out⟩
            case measure => simp [intOf]; omega
    · have hke : k = l.length := by omega
      subst hke
      go_wp2_with fail
      go_ret
      exact ⟨_, rfl, hr.out⟩
end Go.Proofs.Ytmflbibogkebmaa
namespace Go.Proofs.Ytmflbibogkebmaa
open Go.RowKit Go.Maps
open Rd Fl

theorem UdR.res {w wr : World} {v : Value} {ls : List UnD} (h : UdR w wr v ls) (hn : ls.length ≤ 50000) : ResU ls wr w.heap.size wr.heap.size v := resu_of h.o hn
set_option maxRecDepth 20000 in
set_option maxHeartbeats 4000000 in
theorem l8unders_any (A : Option Addr) (l : List EvD) (cap : Nat) (hcap : l.length ≤ cap) (hg : goodTr l = true) (w : World) (hA : EvsAt w A l) :
    Calls Try.prog 49 #[.slice A l.length cap] w fun e w' => ∃ v, e = .returned v ∧ UdR w w' v (undTo l l.length) := by
  by_cases hne : l = []
  · subst hne
    clear hA hg hcap
    go_enter Try.func49, Try.ntmps49
    go_wp2_with fail
    go_loopw [3, 11] (fun v x wr => v = .slice none 0 0 ∧ x = .int .i64 0 ∧ wr = w) (fun _ _ _ => 0)
    case atStart => exact ⟨rfl, rfl, rfl⟩
    case round =>
      obtain ⟨rfl, rfl, rfl⟩ := hrel
      go_wp2_with fail
      go_ret
      exact ⟨_, rfl, udr_nil _⟩
  · exact l8unders_yes A l cap hcap hg hne w hA
set_option maxRecDepth 20000 in
set_option maxHeartbeats 4000000 in
theorem sunders_any (A : Option Addr) (l : List EvD) (cap : Nat) (hcap : l.length ≤ cap) (hl : l.length ≤ 1048576) (w : World) (hA : EvsAt w A l) :
    Calls Try.prog 23 #[.slice A l.length cap] w fun e w' => (∃ v, e = .returned (.tuple #[v, .bool (goodTr l)]) ∧ ResU (undersN l) w' w.heap.size w'.heap.size v) ∧ Below w.heap.size w w' := by
  have HG := hide' (l6trace_any A l cap hl w hA)
  have HN := hide' (show (undersN l).length ≤ 50000 by have := undersN_len l; omega)
  cases hg : goodTr l
  · have hu : undersN l = [] := by unfold undersN; rw [if_neg (by rw [hg]; simp)]
    rw [hu]
    rw [hg] at HG
    clear hg hA HN hu
    go_enter Try.func23, Try.ntmps23
    go_wp2_with (go_at_call 34; refine HG.out.mono ?_; rintro e w1 ⟨rfl, hb1⟩)
    go_ret2
    exact ⟨⟨_, rfl, resu_of (World.ownsRow_nil _ _ _ _) (by simp)⟩, hb1⟩
  · have hu : undersN l = undTo l l.length := by unfold undersN; rw [if_pos hg]
    have HU := hide' (fun w1 (hb : Below w.heap.size w w1) => l8unders_any A l cap hcap hg w1 (hA.keep hb))
    rw [hg] at HG
    rw [hu] at HN ⊢
    clear hg hA hu
    go_enter Try.func23, Try.ntmps23
    go_wp2_with (first
      | (go_at_call 34; refine HG.out.mono ?_; rintro e w1 ⟨rfl, hb1⟩)
      | (go_at_call 49; refine (HU.out _ hb1).mono ?_; rintro e w2 ⟨v2, rfl, hr2⟩))
    go_ret2
    exact ⟨⟨_, rfl, resu_less (hr2.res HN.out) hb1.size⟩, hb1.trans (hr2.b.mono hb1.size)⟩
end Go.Proofs.Ytmflbibogkebmaa
