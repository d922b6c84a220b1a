/- Cycles: steps backward. -/
import Derived.Test.YtddapifljinjeaaCj
import Derived.BigRegion
namespace Go.Proofs.Ytddapifljinjeaa
open Go.RowKit
open Rd Fl

theorem zero100 : (Try.prog.info? 76).bind (·.zero) = some (.agg ((List.replicate 100 (0 : Int)).map iv).toArray) := by kernel_rfl
theorem size100 : (Try.prog.info? 76).map (·.size) = some 100 := by kernel_rfl
theorem zeros : ∃ z : List Int, z.length = 100 ∧ ∀ w, (zeroValue 76).run Try.prog w = .ok (.agg (z.map iv).toArray) w := by
  refine ⟨List.replicate 100 0, by simp, fun w => ?_⟩
  cases hi : Try.prog.info? 76 with
  | none => have := zero100; rw [hi] at this; cases this
  | some i =>
    have h3 : i.zero = some (.agg ((List.replicate 100 (0 : Int)).map iv).toArray) := by have := zero100; rw [hi] at this; simpa using this
    simp [zeroValue, typeInfo, hi, h3]
theorem farD_set {d : List Int} (hd : d.length = 100) {a : Nat} (ha : a < 100) (y x : Int) : farD (d.set a y) x = if x = a then y else farD d x := by
  unfold farD
  by_cases hx : 0 ≤ x ∧ x < 100
  · rw [if_pos hx, if_pos hx, List.getD_eq_getElem?_getD, List.getD_eq_getElem?_getD]
    by_cases e : x = a
    · subst e
      rw [if_pos rfl, Int.toNat_natCast, List.getElem?_set_self (by omega)]
      rfl
    · rw [if_neg e, List.getElem?_set_ne (by omega)]
  · rw [if_neg hx, if_neg hx, if_neg (by omega)]
theorem own_set {w : World} {base e size n : Nat} {v : Value} {xs : List Value} (h : w.ownsRow base e size v n xs) (N o : Nat) (y : Value) (hN : N < base) : (w.setCell ⟨N, o, none⟩ y).ownsRow base e size v n xs := by
  refine ⟨h.1, ?_⟩
  rcases h.2 with hn | ⟨g, cap, cur, rfl, hb, hg, rest⟩
  · exact .inl hn
  · refine .inr ⟨g, cap, cur, rfl, hb, ?_, rest⟩
    have : N ≠ g := by omega
    simp only [World.setCell]
    rw [Array.getElem?_modify, if_neg this]
    exact hg

/-- The array of steps, the list of those reached, the box of the answer. -/
structure Stp (w : World) (d : List Int) (rv : Value) (rd : List Int) (wr : World) : Prop where
  b : Below w.heap.size w wr
  n : d.length = 100
  c : ∀ x : Nat, x < 100 → wr.cell? ⟨w.heap.size + 1, x, none⟩ = some (.int .i64 (farD d x)) ∧ wr.frozen? ⟨w.heap.size + 1, x, none⟩ = false
  t : wr.there w.heap.size 0 100
  o : wr.ownsRow (w.heap.size + 2) 3 1 rv rd.length (rd.map iv)
  z : w.heap.size + 2 ≤ wr.heap.size
theorem frozen_keep {w w' : World} (hb : Below w.heap.size w w') {a : Addr} (h : a.block < w.heap.size) : w'.frozen? a = w.frozen? a := World.frozen?_of_block (hb.block a.block h)
theorem Stp.keep {w : World} {d : List Int} {rv : Value} {rd : List Int} {wr wx : World} (h : Stp w d rv rd wr) (hb : Below wr.heap.size wr wx) : Stp w d rv rd wx :=
  ⟨h.b.trans (hb.mono h.b.size), h.n, fun x hx => ⟨keep_cell hb (h.c x hx).1, by rw [frozen_keep hb (by have := h.z; simp only; omega)]; exact (h.c x hx).2⟩, there_keep hb h.t, own_keep h.o hb, Nat.le_trans h.z hb.size⟩
theorem Stp.set {w : World} {d : List Int} {rv : Value} {rd : List Int} {wr : World} (h : Stp w d rv rd wr) {x : Nat} (hx : x < 100) (y : Int) : Stp w (d.set x y) rv rd (wr.setCell ⟨w.heap.size + 1, x, none⟩ (.int .i64 y)) where
  b := h.b.setCell (p := ⟨w.heap.size + 1, x, none⟩) (by simp) _
  n := by simp [h.n]
  c := fun k hk => by
    rw [farD_set h.n hx]
    by_cases e : k = x
    · subst e
      exact ⟨by rw [if_pos rfl]; exact World.cell?_setCell_same _ _ _ (h.c k hk).1, by rw [World.frozen?_setCell]; exact (h.c k hk).2⟩
    · exact ⟨by rw [if_neg (by omega), World.cell?_setCell_other _ _ _ _ (by simp <;> omega)]; exact (h.c k hk).1, by rw [World.frozen?_setCell]; exact (h.c k hk).2⟩
  t := World.there_setCells h.t _ _ [_]
  o := own_set h.o _ _ _ (by omega)
  z := by rw [set_size]; exact h.z
theorem Stp.app {w : World} {d : List Int} {rv rv' : Value} {rd : List Int} {wr w3 : World} {n : Int} (h : Stp w d rv rd wr) (hown : w3.ownsRow (w.heap.size + 2) 3 1 rv' (rd.length + 1) (rd.map iv ++ [iv n])) (hg : wr.grownBy w3 rv.ownBlock) : Stp w d rv' (rd ++ [n]) w3 := by
  have hne : ∀ k, k < w.heap.size + 2 → some k ≠ rv.ownBlock := fun k hk e => by have := own_base' h.o k e.symm; omega
  have hz := h.z
  refine ⟨Below.grown h.b hg h.b.size (fun k hk => by have := own_base' h.o k hk; omega), h.n, fun x hx => ⟨hg.cell (h.c x hx).1 (hne _ (by simp)), ?_⟩, fun j hj => ?_, by rw [List.length_append, List.map_append]; exact hown, Nat.le_trans h.z hg.size⟩
  · rw [World.frozen?_of_block (hg.block _ (by simp only; omega) (hne _ (by simp)))]; exact (h.c x hx).2
  · have := h.t j hj
    rw [World.cell?_of_block (w := wr) (w' := w3) (a := ⟨w.heap.size, 0 + j, none⟩) (hg.block _ (by simp only; omega) (hne _ (by simp))), World.frozen?_of_block (w := wr) (w' := w3) (a := ⟨w.heap.size, 0 + j, none⟩) (hg.block _ (by simp only; omega) (hne _ (by simp)))]
    exact this

theorem results_cell {fn : Func} {p : Tmp} {ty : TypeId} (h : fn.results = #[.cell p ty]) (tmps : Array Value) (P : Program) (w : World) (b : Nat) (v : Value) (hp : tmps.getD p undef = .pointer (some ⟨b, 0, none⟩)) (hl : (loadVar ty ⟨b, 0, none⟩).run P w = .ok v w) : (results fn tmps).run P w = .ok v w := by
  have h1 : (asAddr (.pointer (some ⟨b, 0, none⟩))).run P w = .ok ⟨b, 0, none⟩ w := rfl
  have hp' : tmps[p]?.getD undef = .pointer (some ⟨b, 0, none⟩) := by rw [← hp]; simp
  simp only [results, h]
  simp [Sem.run_bind, hp', h1, hl]

set_option maxRecDepth 20000 in
set_option maxHeartbeats 8000000 in
theorem stepsto_any (R : Option Addr) (E : List (Int × Int)) (cap : Nat) (hl : E.length ≤ 100) (hE : ∀ p ∈ E, (0 ≤ p.1 ∧ p.1 < 100) ∧ (0 ≤ p.2 ∧ p.2 < 100)) (s : Nat) (hs : s < 100) (w : World) (hR : PrsAt w R E) :
    Calls Try.prog 46 #[.slice R E.length cap, .int .i64 s] w fun e w' => (∃ d : List Int, e = .returned (.agg (d.map iv).toArray) ∧ d.length = 100 ∧ Far E s (farD d)) ∧ Below w.heap.size w w' := by
  obtain ⟨i0, hi, hz0, hz1, hz2⟩ := inInfo
  obtain ⟨z, hz, hzv⟩ := zeros
  have hl' : (E.length : Int) ≤ 100 := by omega
  obtain ⟨b, off, hA1, hc⟩ := hR
  have HA := hide' hA1
  have HC := hide' hc
  have HEB := hide' (fun i (h : i < E.length) => hE E[i] (List.getElem_mem h))
  have HEM := hide' (fun i (h : i < E.length) => List.getElem_mem h)
  have HTS := hide' (fun k (h : k < E.length) => List.take_succ_eq_append_getElem h)
  have HTL := hide' (List.take_length (l := E))
  have S0 := hide' (show Stp w z (.slice none 0 0) [] ((w.alloc (.cells (z.map iv).toArray 76)).alloc (.cells (z.map iv).toArray 76)) from ⟨below2 w _ _, hz, fun x hx => ⟨by have := arr_cell (w.alloc (.cells (z.map iv).toArray 76)) z hz 76 hx; simpa using this, by rw [World.frozen?_alloc_at _ _ _ _ (by simp)]⟩, fun j hj => ⟨by
    have h1 := arr_cell w z hz 76 hj
    rw [Nat.zero_add, keep_cell ((Below.refl _ _).up _) h1]; rfl, by
    rw [Nat.zero_add, frozen_keep (w := w.alloc (.cells (z.map iv).toArray 76)) ((Below.refl _ _).up _) (by simp), World.frozen?_alloc_at _ _ _ _ rfl]⟩, World.ownsRow_nil _ _ _ _, by simp⟩)
  clear hc hA1 hE hl hz
  generalize (z.map iv).toArray = arr at *
  go_enter Try.func46, Try.ntmps46
  go_wp2_with fail
  clear hzv
  go_loopw [11] (fun i wr => ∃ (k : Nat) (d : List Int), k ≤ 100 ∧ i = .int .i64 k ∧ Hid (∀ x : Nat, x < k → farD d x = -1) ∧ Hid (Stp w d (.slice none 0 0) [] wr)) (fun i _ => 100 - (intOf i).toNat)
  case atStart => exact ⟨0, z, by omega, rfl, (fun x hx => by omega), S0.out⟩
  case round =>
    obtain ⟨k, d, hk, rfl, hlow, hst⟩ := hrel
    by_cases hlt : k < 100
    · obtain ⟨ck, fk⟩ := hst.out.c k hlt
      have HS := hide' (hst.out.set hlt (-1))
      have HD := hide' (farD_set hst.out.n hlt (-1))
      have hlt' : (k : Int) < 100 := by omega
      go_wp2_with fail
      go_roundw
      case rel => exact ⟨k + 1, _, by omega, by go_num, (fun x hx => by rw [HD.out]; split; rfl; exact hlow.out x (by omega)), HS.out⟩
      case measure => simp [intOf]; omega
    · have HKE := hide' (show k = 100 by omega)
      have hnk : ¬ (k : Int) < 100 := by omega
      clear hlt hk
      obtain ⟨ck, fk⟩ := hst.out.c s hs
      have HS := hide' ((hst.out.set hs 0).keep ((Below.refl _ _).up (.cells #[.int .i64 s] 3)))
      have HD := hide' (farD_set hst.out.n hs 0)
      have hs' : (s : Int) < 100 := by omega
      have HR0 := hide' (show Rch E s (farD (d.set s 0)) [(s : Int)] 0 [] from rch_start E s ⟨by omega, hs'⟩ _ (by rw [HD.out, if_pos rfl]) (fun x hx => by
        rw [HD.out, if_neg hx]
        by_cases h : 0 ≤ x ∧ x < 100
        · have := hlow.out x.toNat (by have := HKE.out; omega)
          rwa [Int.toNat_of_nonneg h.1] at this
        · unfold farD; rw [if_neg h]))
      clear hlow
      have S1 := hide' (show Stp w (d.set s 0) (.slice (some ⟨wr.heap.size, 0, none⟩) 1 1) [(s : Int)] ((wr.setCell ⟨w.heap.size + 1, s, none⟩ (.int .i64 0)).alloc (.cells #[.int .i64 s] 3)) from ⟨HS.out.b, HS.out.n, HS.out.c, HS.out.t, by have := own_one (wr.setCell ⟨w.heap.size + 1, s, none⟩ (.int .i64 0)) (.int .i64 s) 3 (w.heap.size + 2) (by rw [set_size]; exact hst.out.z); rw [set_size] at this; exact this, HS.out.z⟩)
      clear HS hst HKE
      go_wp2_with fail
      clear hnk ck fk
      go_loopw [7, 8] (fun rv i wr => ∃ (k : Nat) (d : List Int) (rd : List Int), k ≤ 100 ∧ i = .int .i64 k ∧ k ≤ rd.length ∧ Hid (Rch E s (farD d) rd k []) ∧ Hid (Stp w d rv rd wr)) (fun _ i _ => 101 - (intOf i).toNat)
      case atStart => exact ⟨0, _, _, by omega, rfl, Nat.zero_le _, HR0.out, S1.out⟩
      case round =>
        obtain ⟨k, d, rd, hk, rfl, hkr, hrc, hst⟩ := hrel
        obtain ⟨wo, rfl⟩ : ∃ wo, wo = wr := ⟨_, rfl⟩
        have hrl : (rd.length : Int) ≤ 100 := by have := hrc.out.len; omega
        have hrd0 : rd.length ≠ 0 := fun h => by
          have := (hrc.out.r1 s).2 (by rw [hrc.out.r0]; decide)
          rw [List.length_eq_zero_iff.1 h] at this
          cases this
        obtain ⟨g, cp, eg⟩ := own_slice hst.out.o hrd0
        subst eg
        by_cases hkl : k < rd.length
        · have HK := hide' (List.getElem?_eq_getElem hkl)
          obtain ⟨hc0, hc1⟩ := hrc.out.r7 rd[k] (List.getElem_mem hkl)
          generalize rd[k] = c at HK hc0 hc1
          obtain ⟨m, rfl⟩ := Int.eq_ofNat_of_zero_le hc0
          have hm : m < 100 := by omega
          go_wp2_with fail
          go_loopw [7, 29] (fun rv i wx => ∃ (j : Nat) (d' : List Int) (rd' : List Int), j ≤ E.length ∧ i = .int .i64 j ∧ Hid (rd'[k]? = some (m : Int)) ∧ Hid (Rch E s (farD d') rd' k (E.take j)) ∧ Hid (Stp w d' rv rd' wx)) (fun _ i _ => E.length - (intOf i).toNat)
          case atStart => exact ⟨0, d, rd, Nat.zero_le _, rfl, HK.out, hrc.out, hst.out⟩
          case round =>
            obtain ⟨j, d', rd', hj, rfl, hk', hrc', hst'⟩ := hrel
            by_cases hjl : j < E.length
            · have hA2 := HA.out (fun e => by rw [e] at hjl; simp at hjl)
              subst hA2
              obtain ⟨b2, off2, cap2, d0, d1, d2⟩ := HC.out j hjl
              have c0 := keep_cell hst'.out.b d0
              have c1 := keep_cell hst'.out.b d1
              have c2 := keep_cell hst'.out.b d2
              have HT := hide' (HTS.out j hjl)
              have HM := hide' (HEM.out j hjl)
              obtain ⟨⟨p1, p2⟩, p3, p4⟩ := HEB.out j hjl
              have D1 := hide' d1
              clear d0 d1 d2
              generalize E[j] = p at c0 c1 c2 HT HM p1 p2 p3 p4 D1
              obtain ⟨pa, pb⟩ := p
              simp only at c0 c1 c2 p1 p2 p3 p4
              obtain ⟨q, rfl⟩ := Int.eq_ofNat_of_zero_le p1
              have hq : q < 100 := by omega
              have hkl' : k < rd'.length := (List.getElem?_eq_some_iff.1 hk'.out).1
              obtain ⟨g', cp', eg'⟩ := own_slice hst'.out.o (by omega)
              subst eg'
              have cr : wr.cell? ⟨g', k, none⟩ = some (.int .i64 m) := by
                have h1 := own_cells hst'.out.o k hkl'
                have h2 := hk'.out
                rw [List.getElem?_eq_getElem hkl'] at h2
                rw [h1, Option.some.inj h2]
              have hrl' : (rd'.length : Int) ≤ 100 := by have := hrc'.out.len; omega
              obtain ⟨cq, fq⟩ := hst'.out.c q hq
              obtain ⟨cm, -⟩ := hst'.out.c m hm
              by_cases hpb : pb = m
              · subst hpb
                by_cases hfq : farD d' q = -1
                · have HD := hide' (farD_set hst'.out.n hq (farD d' m + 1))
                  have HN := hide' (show Rch E s (farD (d'.set q (farD d' m + 1))) (rd' ++ [(q : Int)]) k (E.take (j + 1)) by rw [HT.out]; exact hrc'.out.add hk'.out HM.out hfq ⟨p1, p2⟩ _ (by rw [HD.out, if_pos rfl]) (fun x hx => by rw [HD.out, if_neg hx]))
                  have HK2 := hide' (show (rd' ++ [(q : Int)])[k]? = some (m : Int) by rw [List.getElem?_append_left hkl']; exact hk'.out)
                  have hfm : farD d' m ≤ 100 := by have := hrc'.out.r5 k m hk'.out; omega
                  have hfm0 : 0 ≤ farD d' m := by
                    have h1 := (hrc'.out.r1 m).1 (List.mem_of_getElem? hk'.out)
                    have := hrc'.out.rp m
                    omega
                  rw [hfq] at cq
                  generalize hfme : farD d' m = fm at cm HN hfm hfm0
                  go_wp2_with fail
                  go_quiet (fail)
                  go_wp2_with fail
                  go_region
                  have S2 := hide' ((hst'.out.keep (below_draws (Below.refl _ _) (nq + 1))).set hq (fm + 1))
                  have c1' := keep_cell S2.out.b D1.out
                  clear c0 c1 c2 cr cq fq cm hst'
                  generalize ((wr.drewN (nq + 1)).setCell ⟨w.heap.size + 1, q, none⟩ (.int .i64 (fm + 1))) = W at S2 c1' ⊢
                  have C7 := hide' (one_new W q)
                  have S3 := hide' (S2.out.keep ((Below.refl _ W).up (.cells #[.int .i64 q] 3)))
                  have Z3 := hide' S2.out.z
                  have RL := hide' hrc'.out.len
                  go_wp2_with (at_builtin; refine wpList_append_own _ rfl _ _ 23 rfl (w.heap.size + 2) 3 i0 (.int .i64 0) 1 8 Try.underlying23 hi hz0 hz1 hz2 rfl (by decide) _ _ _ rfl S3.out.o ⟨W.heap.size, 0, none⟩ 1 1 [iv q] rfl rfl C7.out (one_iv q) (by have := RL.out; unfold maxLen; omega) (by have := RL.out; omega) (by have := Z3.out; simp; omega) ?_)
                  intro rv4 w4 hown4 hg4 _
                  have S4 := hide' (S3.out.app hown4 hg4)
                  clear hown4 hg4
                  go_wp2_with fail
                  go_roundw
                  case rel => exact ⟨j + 1, _, _, by omega, by go_num, HK2.out, HN.out, S4.out⟩
                  case measure => simp [intOf]; omega
                · have hfq' : (farD d' q == -1) = false := by simp [hfq]
                  have HN := hide' (show Rch E s (farD d') rd' k (E.take (j + 1)) by rw [HT.out]; exact hrc'.out.skip hk'.out _ (.inr hfq))
                  go_wp2_with fail
                  go_quiet (fail)
                  go_wp2_with fail
                  go_roundw
                  case rel => exact ⟨j + 1, d', rd', by omega, by go_num, hk'.out, HN.out, hst'.out.keep (below_draws (Below.refl _ _) _)⟩
                  case measure => simp [intOf]; omega
              · have hpb' : (pb == (m : Int)) = false := by simp [hpb]
                have HN := hide' (show Rch E s (farD d') rd' k (E.take (j + 1)) by rw [HT.out]; exact hrc'.out.skip hk'.out _ (.inl hpb))
                go_wp2_with fail
                go_quiet (fail)
                go_wp2_with fail
                go_roundw
                case rel => exact ⟨j + 1, d', rd', by omega, by go_num, hk'.out, HN.out, hst'.out.keep (below_draws (Below.refl _ _) _)⟩
                case measure => simp [intOf]; omega
            · have hje : j = E.length := by omega
              subst hje
              have HN := hide' (hrc'.out.next hk'.out (fun p hp => by rw [HTL.out]; exact hp))
              have hkl' : k < rd'.length := (List.getElem?_eq_some_iff.1 hk'.out).1
              have hrl' : rd'.length ≤ 100 := hrc'.out.len
              go_wp2_with fail
              go_roundw
              case rel => exact ⟨k + 1, d', rd', by omega, by go_num, by omega, HN.out, hst'.out⟩
              case measure => simp [intOf]; omega
        · have hke : k = rd.length := by omega
          subst hke
          have HFAR := hide' hrc.out.done
          have HN := hide' hst.out.n
          have RNG := hide' (show wo.rangeAt (w.heap.size + 1) 0 (d.map iv) by
            intro x v hv
            have hx := (List.getElem?_eq_some_iff.1 hv).1
            rw [List.length_map] at hx
            have h1 := (hst.out.c x (by have := HN.out; omega)).1
            rw [List.getElem?_map, farD_at HN.out (by have := HN.out; omega)] at hv
            rw [Nat.zero_add, h1]
            simpa [iv] using hv)
          have SZ := hide' (show (Try.prog.info? 76).map (·.size) = some (d.map iv).length by rw [size100, List.length_map, HN.out])
          have THR := hide' (show wo.there w.heap.size 0 (d.map iv).toArray.size by simp only [List.size_toArray, List.length_map, HN.out]; exact hst.out.t)
          have RN2 := hide' (show (wo.setCells w.heap.size 0 (d.map iv)).rangeAt w.heap.size 0 (d.map iv) from World.rangeAt_setCells_same wo w.heap.size 0 (d.map iv) (by have := hst.out.t; rw [List.length_map, HN.out]; exact this))
          have HLD := hide' (run_loadVar_mid (P := Try.prog) (wo.setCells w.heap.size 0 (d.map iv)) w.heap.size 0 76 (d.map iv) _ RN2.out Try.underlying76 rfl SZ.out)
          have HBE := hide' (show Below w.heap.size w (wo.setCells w.heap.size 0 (d.map iv)) from below_cells hst.out.b (Nat.le_refl _) _ _)
          go_wp2_with fail
          refine wp_load_mid 76 (.tmp 5) rfl (w.heap.size + 1) 0 rfl (d.map iv) _ RNG.out Try.underlying76 rfl SZ.out ?_
          have hsc : (storeCells ⟨w.heap.size, 0, none⟩ (d.map iv)).run Try.prog wo = .ok () (wo.setCells w.heap.size 0 (d.map iv)) := by
            have := run_storeCells_cells (P := Try.prog) w.heap.size 0 (d.map iv) 0 wo (fun j hj => by have := hst.out.t j (by rw [List.length_map, HN.out] at hj; exact hj); simpa using this.1) (fun j hj => by have := hst.out.t j (by rw [List.length_map, HN.out] at hj; exact hj); simpa using this.2) (iv_one d)
            simpa using this
          go_wp2_with fail
          refine bodyPost_ret (v := .agg (d.map iv).toArray) (results_cell Try.results46 _ _ _ w.heap.size _ rfl HLD.out) rfl ⟨⟨d, rfl, HN.out, HFAR.out⟩, HBE.out⟩
end Go.Proofs.Ytddapifljinjeaa
