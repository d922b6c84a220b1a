/- impl.ClocksOf. -/
import Derived.Test.YtclnnboaehpolaaQs
import Derived.Test.YtclnnboaehpolaaQe
namespace Go.Proofs.Ytclnnboaehpolaa
open Go.RowKit
open Rd Fl

/-- the clocks below j are there, and the five numbers f lie at N -/
structure ClkN (w wr : World) (l : List EvD) (n M g N : Nat) (j : Nat) (f : Nat → Nat) : Prop where
  k : ClkM w wr n M g n
  gN : g < N
  z : N < wr.heap.size
  tn : wr.there N 0 5
  d : ∀ i, i < j → ∀ t : Nat, t < 5 → wr.cell? ⟨M, i * 5 + t, none⟩ = some (.int .i64 ((clk l i (t : Int) : Nat) : Int))
  f : ∀ t, t < 5 → wr.cell? ⟨N, t, none⟩ = some (.int .i64 (f t))
theorem ClkN.keep {w wr wy : World} {l : List EvD} {n M g N j : Nat} {f : Nat → Nat} (h : ClkN w wr l n M g N j f) (hb : Below wr.heap.size wr wy) : ClkN w wy l n M g N j f :=
  ⟨h.k.keep hb, h.gN, Nat.lt_of_lt_of_le h.z hb.size, there_keep hb h.tn, fun i hi t ht => keep_cell hb (h.d i hi t ht), fun t ht => keep_cell hb (h.f t ht)⟩
/-- only the five numbers have turned -/
theorem ClkN.edit {w wr wy : World} {l : List EvD} {n M g N j : Nat} {f f' : Nat → Nat} (h : ClkN w wr l n M g N j f) (he : Edit N (N + 1) wr wy) (hf : ∀ t, t < 5 → wy.cell? ⟨N, t, none⟩ = some (.int .i64 (f' t))) : ClkN w wy l n M g N j f' := by
  have h1 := h.gN
  have h2 := h.k.mg
  have h3 := h.k.m
  refine ⟨⟨h.k.b.trans (he.b.mono (by omega)), h.k.m, h.k.mg, Nat.lt_of_lt_of_le h.k.z he.b.size, he.th _ _ _ h.k.tm, he.th _ _ _ h.k.tg, fun k hk => he.cell (h.k.c k hk) (by omega)⟩, h.gN, Nat.lt_of_lt_of_le h.z he.b.size, he.th _ _ _ h.tn, fun i hi t ht => he.cell (h.d i hi t ht) (by omega), hf⟩
theorem edit_cells (N : Nat) : ∀ (cs : List Value) (o : Nat) (w : World), Edit N (N + 1) w (w.setCells N o cs)
  | [], _, _ => Edit.refl _ _ _
  | v :: cs, o, w => ((Edit.refl N (N + 1) w).set N o v (Nat.le_refl _) (Nat.lt_succ_self _)).trans (edit_cells N cs (o + 1) _)
theorem five_cells {w : World} {N : Nat} (h : w.there N 0 5) (cs : List Value) (hn : cs.length = 5) (t : Nat) (v : Value) (hv : cs[t]? = some v) : (w.setCells N 0 cs).cell? ⟨N, t, none⟩ = some v := by
  have ht := (List.getElem?_eq_some_iff.1 hv).1
  have := World.cell?_setCells_in N cs 0 w (fun j hj => (h j (by omega)).1) t ht
  rw [Nat.zero_add] at this
  rw [this, ← hv, List.getElem?_eq_getElem ht]

set_option maxRecDepth 20000 in
set_option maxHeartbeats 16000000 in
theorem iclocks_yes (A : Option Addr) (l : List EvD) (cap : Nat) (hg : goodTr l = true) (hne : l ≠ []) (hcap : l.length ≤ cap) (w : World) (hA : EvsAt w A l) :
    Calls Try.prog 14 #[.slice A l.length cap] w fun e w' => ∃ M g, e = .returned (.tuple #[.slice (some ⟨g, 0, none⟩) l.length l.length, .bool true]) ∧ ClkM w w' l.length M g l.length ∧ (∀ i, i < l.length → ∀ t : Nat, t < 5 → w'.cell? ⟨M, i * 5 + t, none⟩ = some (.int .i64 ((clk l i (t : Int) : Nat) : Int))) := by
  have h200 := good_len hg
  have hn' : (l.length : Int) ≤ 200 := by omega
  have hcap' : (l.length : Int) ≤ cap := by omega
  have HG := hide' (igoodtr_any A l cap (by omega) w hA)
  have HNC := hide' (fun w => newcl_any l.length h200 w)
  have hmk : ∀ w, (Instr.makeSlice 38 (.int .i64 5) (.int .i64 5)).run Try.prog w = .ok (.slice (some ⟨w.heap.size, 0, none⟩) 5 5) (w.alloc (.cells (madeCells #[.int .i64 0] 5) 3)) := make_ints 5 (by omega)
  have HR := hide' (fun (i j : Nat) (hi : i < l.length) (hj : j < l.length) w => (show Calls Try.prog 23 _ w _ from by rw [rgt_get hi hj]; exact (right_both l[i] l[j] (good_ev hg hi) (good_ev hg hj) w).2 : Calls Try.prog 23 #[.agg #[.int .i64 l[i].th, .int .i64 l[i].kd, .int .i64 l[i].ob, .int .i64 l[i].lk, .int .i64 l[i].pc], .agg #[.int .i64 l[j].th, .int .i64 l[j].kd, .int .i64 l[j].ob, .int .i64 l[j].lk, .int .i64 l[j].pc]] w fun r w' => r = .returned (.bool (rgt l i j)) ∧ Below w.heap.size w w'))
  have HTH := hide' (fun i (hi : i < l.length) => (goodev_all (good_ev hg hi)))
  rw [hg] at HG
  obtain ⟨b, off, hA1, hc⟩ := hA
  have hA2 := hA1 hne
  subst hA2
  have HCE := hide' (fun i (hi : i < l.length) => hc i l[i] (List.getElem?_eq_getElem hi))
  clear hc hA1 hne hg
  go_enter Try.func14, Try.ntmps14
  go_wp2_with (first | (go_at_call 21; refine HG.out.mono ?_; rintro e w1 ⟨rfl, hb1⟩; have B1 := hide' hb1) | (go_at_call 22; refine (HNC.out _).mono ?_; rintro e w2 ⟨rfl, hk2⟩; have K2 := hide' hk2))
  have B2 := hide' (B1.out.trans (K2.out.b.mono B1.out.size))
  have K3 := hide' (show ClkN w (w2.alloc (.cells (madeCells #[.int .i64 0] 5) 3)) l l.length w1.heap.size (w1.heap.size + 1) w2.heap.size 0 (fun _ => 0) from
    (⟨(⟨B2.out, B1.out.size, K2.out.mg, K2.out.z, K2.out.tm, K2.out.tg, K2.out.c⟩ : ClkM w w2 l.length w1.heap.size (w1.heap.size + 1) l.length).keep ((Below.refl _ _).up _), K2.out.z, by simp, made_there w2 _ _ _, (fun i hi => by omega), (fun t ht => made_at w2 _ 5 t _ ht)⟩))
  clear B1 B2 K2 HG HNC hb1 hk2
  generalize w1.heap.size = M at *
  generalize w2.heap.size = N at *
  go_loopw [19] (fun i wr => ∃ (j : Nat) (f : Nat → Nat), j ≤ l.length ∧ i = .int .i64 j ∧ Hid (ClkN w wr l l.length M (M + 1) N j f)) (fun i _ => l.length - (intOf i).toNat)
  case atStart => exact ⟨0, _, Nat.zero_le _, rfl, K3.out⟩
  case round =>
    clear K3
    obtain ⟨j, f, hj, rfl, hk⟩ := hrel
    by_cases hlt : j < l.length
    · have hj2 : (j : Int) < l.length := by omega
      have hj3 : (j : Int) ≤ cap := by omega
      have hj4 : j ≤ cap := by omega
      obtain ⟨c0, c1, c2, c3, c4⟩ := ev_range (range_keep hk.out.k.b (HCE.out j hlt))
      have HTJ := hide' (HTH.out j hlt)
      have HRJ := hide' (fun i hi => HR.out i j hi hlt)
      have HEV := hide' (show (evA l j).th = l[j].th by rw [evA_get hlt])
      generalize l[j] = x at c0 c1 c2 c3 c4 HTJ HRJ HEV
      obtain ⟨r0, r1, r2, r3, r4⟩ := x
      simp only at c0 c1 c2 c3 c4 HTJ HRJ HEV
      obtain ⟨th, hth⟩ : ∃ th : Nat, r0 = th := ⟨r0.toNat, by have := HTJ.out.1; omega⟩
      subst hth
      have hth5 : th < 5 := by have := HTJ.out.2.1; omega
      have HK0 := hide' (hk.out.keep ((Below.refl _ wr).up (.cells #[.int .i64 (th : Int), .int .i64 r1, .int .i64 r2, .int .i64 r3, .int .i64 r4] 35)))
      have HB0 := hide' (evbox_new wr (th : Int) r1 r2 r3 r4)
      generalize hE : wr.heap.size = E at HB0
      have hclr : ∀ ty, (Builtin.clear_ #[38] ty #[.slice (some ⟨N, 0, none⟩) 5 5]).run Try.prog (wr.alloc (.cells #[.int .i64 (th : Int), .int .i64 r1, .int .i64 r2, .int .i64 r3, .int .i64 r4] 35)) = .ok (.tuple #[]) ((wr.alloc (.cells #[.int .i64 (th : Int), .int .i64 r1, .int .i64 r2, .int .i64 r3, .int .i64 r4] 35)).setCells N 0 (List.replicate 5 (.int .i64 0))) := fun ty =>
        Go.Lib.run_clear_slice _ _ _ ty (.int .i64 0) Try.underlying38 zeroI rfl rfl N 0 5 5 (by omega) (fun j hj => (HK0.out.tn j hj).1) (fun j hj => (HK0.out.tn j hj).2)
      have HK1 := hide' (HK0.out.edit (edit_cells N (List.replicate 5 (.int .i64 0)) 0 _) (f' := fun t => mxC l j 0 (t : Int)) (fun t ht => five_cells HK0.out.tn _ (by simp) t _ (by rw [List.getElem?_replicate, if_pos ht]; rfl)))
      have HEN := hide' (show E ≠ N by have := hk.out.z; omega)
      have HB1 := hide' (show EvBox ((wr.alloc (.cells #[.int .i64 (th : Int), .int .i64 r1, .int .i64 r2, .int .i64 r3, .int .i64 r4] 35)).setCells N 0 (List.replicate 5 (.int .i64 0))) E (th : Int) r1 r2 r3 r4 from by
        obtain ⟨e0, e1, e2, e3, e4⟩ := HB0.out
        have he := edit_cells N (List.replicate 5 (.int .i64 0)) 0 (wr.alloc (.cells #[.int .i64 (th : Int), .int .i64 r1, .int .i64 r2, .int .i64 r3, .int .i64 r4] 35))
        have hen := HEN.out
        exact ⟨he.cell e0 (by omega), he.cell e1 (by omega), he.cell e2 (by omega), he.cell e3 (by omega), he.cell e4 (by omega)⟩)
      generalize List.replicate 5 (Value.int .i64 0) = zs at hclr HK1 HB1
      clear HK0 HB0
      have HJT := hide' (show (evA l j).th = (th : Int) from HEV.out)
      have HEz := hide' (show M < E ∧ M + 1 < E by have := hk.out.k.z; have := hk.out.k.mg; omega)
      clear HEV hk
      go_wp2_with fail
      clear hclr c0 c1 c2 c3 c4
      go_loopw [29] (fun i' wr => ∃ (i : Nat), i ≤ j ∧ i' = .int .i64 i ∧ Hid (ClkN w wr l l.length M (M + 1) N j (fun t => mxC l j i (t : Int))) ∧ Hid (EvBox wr E (th : Int) r1 r2 r3 r4)) (fun i' _ => j - (intOf i').toNat)
      case atStart => exact ⟨0, Nat.zero_le _, rfl, HK1.out, HB1.out⟩
      case round =>
        clear HK1 HB1 hE
        obtain ⟨i, hi, rfl, hk, hb⟩ := hrel
        by_cases hil : i < j
        · have hi2 : (i : Int) < j := by omega
          have hi3 : (i : Int) < l.length := by omega
          obtain ⟨d0, d1, d2, d3, d4⟩ := ev_range (range_keep hk.out.k.b (HCE.out i (by omega)))
          have HCL := hide' (HRJ.out i (by omega))
          generalize l[i] = y at d0 d1 d2 d3 d4 HCL
          obtain ⟨s0, s1, s2, s3, s4⟩ := y
          simp only at d0 d1 d2 d3 d4 HCL
          have HK0 := hide' (hk.out.keep ((Below.refl _ wr).up (.cells #[.int .i64 s0, .int .i64 s1, .int .i64 s2, .int .i64 s3, .int .i64 s4] 35)))
          have HB0 := hide' (hb.out.keep ((Below.refl _ wr).up (.cells #[.int .i64 s0, .int .i64 s1, .int .i64 s2, .int .i64 s3, .int .i64 s4] 35)))
          obtain ⟨p0, p1, p2, p3, p4⟩ := HB0.out
          obtain ⟨q0, q1, q2, q3, q4⟩ := evbox_new wr s0 s1 s2 s3 s4
          have HNO := hide' (fun h (t : Nat) => (mxC_no (l := l) (j := j) (i := i) h (t : Int)))
          have HYE := hide' (fun h (t : Nat) => (mxC_yes (l := l) (j := j) (i := i) h (t : Int)))
          generalize hgr : rgt l i j = gr at HCL HNO HYE
          clear hgr hk hb
          cases gr
          · have HNO2 := hide' (HNO.out rfl)
            clear HNO HYE
            go_wp2_with (go_at_call 23; refine (HCL.out _).mono ?_; rintro e w3 ⟨rfl, hb3⟩)
            have KK := hide' (HK0.out.keep hb3)
            have BB := hide' (HB0.out.keep hb3)
            go_roundw
            case rel => exact ⟨i + 1, by omega, by go_num, (by have h := KK.out; exact ⟨h.k, h.gN, h.z, h.tn, h.d, fun t ht => by rw [HNO2.out t]; exact h.f t ht⟩), BB.out⟩
            case measure => simp [intOf]; omega
          · have HYE2 := hide' (HYE.out rfl)
            have HJC := hide' (fun w h1 h2 h3 => joincl_any N M (i * 5) (fun t => mxC l j i (t : Int)) (fun t => clk l i (t : Int)) (by have h := HK0.out.gN; have h' := HK0.out.k.mg; omega) (fun t => by have := mxC_le l j i (t : Int); omega) (fun t => by have := clk_le l i (t : Int); omega) w h1 h2 h3)
            clear HNO HYE
            go_wp2_with (first
              | (go_at_call 23; refine (HCL.out _).mono ?_; rintro e w3 ⟨rfl, hb3⟩; have KK := hide' (HK0.out.keep hb3); have BB := hide' (HB0.out.keep hb3); have g0 := KK.out.k.c i (by omega))
              | (go_at_call 24; refine (HJC.out _ KK.out.tn KK.out.f (KK.out.d i hil)).mono ?_; rintro e w4 ⟨rfl, hf4, he4⟩))
            have K4 := hide' (KK.out.edit he4 (f' := fun t => mxC l j (i + 1) (t : Int)) (fun t ht => by rw [HYE2.out t]; exact hf4 t ht))
            have B4 := hide' (show EvBox w4 E (th : Int) r1 r2 r3 r4 from by
              obtain ⟨e0, e1, e2, e3, e4⟩ := BB.out
              have hen := HEN.out
              exact ⟨he4.cell e0 (by omega), he4.cell e1 (by omega), he4.cell e2 (by omega), he4.cell e3 (by omega), he4.cell e4 (by omega)⟩)
            go_roundw
            case rel => exact ⟨i + 1, by omega, by go_num, K4.out, B4.out⟩
            case measure => simp [intOf]; omega
        · have hie : i = j := by omega
          subst hie
          obtain ⟨p0, p1, p2, p3, p4⟩ := hb.out
          have c5 := hk.out.f th hth5
          have c6 := (hk.out.tn th hth5).2
          rw [Nat.zero_add] at c6
          have c7 := hk.out.k.c i hlt
          have hth6 : (th : Int) < 5 := by omega
          have hmx : mxC l i i (th : Int) ≤ 200 := by have := mxC_le l i i (th : Int); omega
          have K1 := hide' (hk.out.edit ((Edit.refl N (N + 1) wr).set N th (.int .i64 ((mxC l i i (th : Int) : Nat) + 1 : Int)) (Nat.le_refl _) (Nat.lt_succ_self _)) (f' := fun t => clk l i (t : Int)) (fun t ht => by
            rw [clk_eq, ← mxC_full, HJT.out]
            by_cases e : t = th
            · subst e
              rw [World.cell?_setCell_same _ _ _ c5, if_pos rfl]
              rfl
            · rw [World.cell?_setCell_other _ _ _ _ (by simp <;> omega), if_neg (by omega)]
              exact hk.out.f t ht))
          obtain ⟨cs, hcs⟩ : ∃ cs : List Value, cs = (List.range 5).map (fun (t : Nat) => Value.int .i64 ((clk l i (t : Int) : Nat) : Int)) := ⟨_, rfl⟩
          have hc1 : cs.length = 5 := by rw [hcs]; simp
          have hc2 : ∀ t v, cs[t]? = some v → t < 5 ∧ v = .int .i64 ((clk l i (t : Int) : Nat) : Int) := by
            intro t v hv
            have ht := (List.getElem?_eq_some_iff.1 hv).1
            rw [hc1] at ht
            rw [hcs, List.getElem?_map, List.getElem?_range ht] at hv
            exact ⟨ht, (Option.some.inj hv).symm⟩
          have hc3 : ∀ t, t < 5 → cs[t]? = some (.int .i64 ((clk l i (t : Int) : Nat) : Int)) := by
            intro t ht
            rw [hcs, List.getElem?_map, List.getElem?_range ht]; rfl
          clear hcs
          generalize mxC l i i (th : Int) = mm at c5 hmx K1
          have hcpy : ∀ ty, (Builtin.copy_ #[38, 38] ty #[.slice (some ⟨M, i * 5, none⟩) 5 5, .slice (some ⟨N, 0, none⟩) 5 5]).run Try.prog (wr.setCell ⟨N, th, none⟩ (.int .i64 ((mm : Int) + 1))) = .ok (goInt cs.length) ((wr.setCell ⟨N, th, none⟩ (.int .i64 ((mm : Int) + 1))).setCells M (i * 5) cs) := fun ty =>
            run_copy_cells _ _ _ ty 3 M (i * 5) 5 5 ⟨N, 0, none⟩ 5 5 cs Try.underlying38 inSize (by rw [hc1]; rfl) (fun t v hv => by obtain ⟨h1, h2⟩ := hc2 t v hv; rw [Addr.add_mid, Nat.zero_add, h2]; exact K1.out.f t h1)
              (fun t ht => by have := (K1.out.k.tm (i * 5 + t) (by omega)).1; rw [Nat.zero_add] at this; exact this) (fun t ht => by have := (K1.out.k.tm (i * 5 + t) (by omega)).2; rw [Nat.zero_add] at this; exact this) (fun v hv => by obtain ⟨t, ht, rfl⟩ := List.mem_iff_getElem.1 hv; rw [(hc2 t _ (List.getElem?_eq_getElem ht)).2]; rfl)
          rw [hc1] at hcpy
          have c8 := K1.out.k.c i hlt
          have KN := hide' (show ClkN w ((wr.setCell ⟨N, th, none⟩ (.int .i64 ((mm : Int) + 1))).setCells M (i * 5) cs) l l.length M (M + 1) N (i + 1) (fun t => clk l i (t : Int)) from by
            have h := K1.out
            have he := edit_cells M cs (i * 5) (wr.setCell ⟨N, th, none⟩ (.int .i64 ((mm : Int) + 1)))
            have g1 := h.gN
            have g2 := h.k.m
            refine ⟨⟨h.k.b.trans (he.b.mono (by omega)), h.k.m, h.k.mg, Nat.lt_of_lt_of_le h.k.z he.b.size, he.th _ _ _ h.k.tm, he.th _ _ _ h.k.tg, fun k hk => he.cell (h.k.c k hk) (by omega)⟩, h.gN, Nat.lt_of_lt_of_le h.z he.b.size, he.th _ _ _ h.tn, fun a ha t ht => ?_, fun t ht => he.cell (h.f t ht) (by omega)⟩
            by_cases e : a = i
            · subst e
              have := World.cell?_setCells_in M cs (a * 5) _ (fun j hj => by have := (h.k.tm (a * 5 + j) (by omega)).1; rw [Nat.zero_add] at this; exact this) t (by omega)
              rw [this, ← List.getElem?_eq_getElem, hc3 t ht]
            · rw [World.cell?_setCells_out M cs (i * 5) _ _ (fun _ _ => by show a * 5 + t < i * 5 ∨ i * 5 + cs.length ≤ a * 5 + t; omega)]
              exact h.d a (by omega) t ht)
          go_wp2_with fail
          go_roundw
          case rel => exact ⟨i + 1, _, by omega, by go_num, KN.out⟩
          case measure => simp [intOf]; omega
    · have hke : j = l.length := by omega
      subst hke
      go_wp2_with fail
      go_ret2
      exact ⟨M, M + 1, rfl, hk.out.k, hk.out.d⟩
end Go.Proofs.Ytclnnboaehpolaa
