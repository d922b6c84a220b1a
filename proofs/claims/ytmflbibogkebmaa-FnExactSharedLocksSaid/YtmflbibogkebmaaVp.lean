/- slices.DeleteFunc at a row of a function's own. -/
import Derived.Test.YtmflbibogkebmaaVo
import Derived.Test.YtmflbibogkebmaaMk
namespace Go.Proofs.Ytmflbibogkebmaa
open Go.RowKit Go.Maps
open Rd Fl

/-- those of l that p does not name -/
def keepL (p : Int → Bool) (l : List Int) : List Int := l.filter fun x => !p x
theorem keepL_len (p : Int → Bool) (l : List Int) : (keepL p l).length ≤ l.length := List.length_filter_le _ _
theorem keepL_all {p : Int → Bool} {l : List Int} (h : ∀ x ∈ l, p x = false) : keepL p l = l := by
  unfold keepL
  rw [List.filter_eq_self]
  intro x hx
  rw [h x hx]; rfl
theorem keepL_no {p : Int → Bool} {l : List Int} {k : Nat} (hk : k < l.length) (h : p l[k] = true) : keepL p (l.take (k + 1)) = keepL p (l.take k) := by
  unfold keepL
  rw [List.take_succ_eq_append_getElem hk, List.filter_append]
  simp [h]
theorem keepL_yes {p : Int → Bool} {l : List Int} {k : Nat} (hk : k < l.length) (h : p l[k] = false) : keepL p (l.take (k + 1)) = keepL p (l.take k) ++ [l[k]] := by
  unfold keepL
  rw [List.take_succ_eq_append_getElem hk, List.filter_append]
  simp [h]
/-- DeleteFunc on its way: of the row in block g the first ones are those kept of the first j, those from j on are as they were. -/
structure DelS (p : Int → Bool) (l : List Int) (g cap : Nat) (w wr : World) (j : Nat) : Prop where
  e : Edit g (g + 1) w wr
  c : ∃ cur : Array Value, wr.heap[g]? = some (.cells cur 3 (0, 0)) ∧ cur.size = cap ∧ (∀ (t : Nat) (x : Int), (keepL p (l.take j))[t]? = some x → cur[t]? = some (iv x)) ∧ ∀ (t : Nat) (x : Int), j ≤ t → l[t]? = some x → cur[t]? = some (iv x)
theorem DelS.cell {p : Int → Bool} {l : List Int} {g cap : Nat} {w wr : World} {j : Nat} (h : DelS p l g cap w wr j) (t : Nat) (x : Int) (hj : j ≤ t) (hx : l[t]? = some x) : wr.cell? ⟨g, t, none⟩ = some (.int .i64 x) := by
  obtain ⟨cur, h1, -, -, h4⟩ := h.c
  have := h4 t x hj hx
  simp [World.cell?, h1, this, iv]
theorem DelS.frozen {p : Int → Bool} {l : List Int} {g cap : Nat} {w wr : World} {j : Nat} (h : DelS p l g cap w wr j) (t : Nat) : wr.frozen? ⟨g, t, none⟩ = false := by
  obtain ⟨cur, h1, -, -, -⟩ := h.c
  simp [World.frozen?, h1]
theorem DelS.has {p : Int → Bool} {l : List Int} {g cap : Nat} {w wr : World} {j : Nat} (h : DelS p l g cap w wr j) (t : Nat) (ht : t < cap) : ∃ x, wr.cell? ⟨g, t, none⟩ = some x := by
  obtain ⟨cur, h1, h2, -, -⟩ := h.c
  exact ⟨cur[t], by simp [World.cell?, h1, ht, h2]⟩
theorem DelS.drop {p : Int → Bool} {l : List Int} {g cap : Nat} {w wr : World} {j : Nat} (h : DelS p l g cap w wr j) (hj : j < l.length) (hp : p l[j] = true) : DelS p l g cap w wr (j + 1) := by
  obtain ⟨cur, h1, h2, h3, h4⟩ := h.c
  exact ⟨h.e, cur, h1, h2, (by rw [keepL_no hj hp]; exact h3), fun t x ht hx => h4 t x (by omega) hx⟩
theorem keepL_take_len (p : Int → Bool) (l : List Int) (j : Nat) : (keepL p (l.take j)).length ≤ j := by
  have := keepL_len p (l.take j)
  rw [List.length_take] at this
  omega
theorem DelS.put {p : Int → Bool} {l : List Int} {g cap : Nat} {w wr : World} {j : Nat} (h : DelS p l g cap w wr j) (hj : j < l.length) (hc : l.length ≤ cap) (hp : p l[j] = false) : DelS p l g cap w (wr.setCell ⟨g, (keepL p (l.take j)).length, none⟩ (.int .i64 l[j])) (j + 1) := by
  obtain ⟨cur, h1, h2, h3, h4⟩ := h.c
  have hk := keepL_take_len p l j
  refine ⟨h.e.set _ _ _ (Nat.le_refl _) (Nat.lt_succ_self _), cur.setIfInBounds (keepL p (l.take j)).length (.int .i64 l[j]), heap_setCell_same _ _ _ _ _ _ h1, by simpa using h2, ?_, ?_⟩
  · intro t x hx
    rw [keepL_yes hj hp] at hx
    rw [Array.getElem?_setIfInBounds]
    by_cases e : (keepL p (l.take j)).length = t
    · rw [if_pos e, if_pos (by omega)]
      rw [← e, List.getElem?_append_right (Nat.le_refl _), Nat.sub_self] at hx
      have : l[j] = x := by simpa using hx
      rw [this]; rfl
    · rw [if_neg e]
      have ht : t < (keepL p (l.take j)).length := by
        have := (List.getElem?_eq_some_iff.1 hx).1
        rw [List.length_append, List.length_singleton] at this
        omega
      rw [List.getElem?_append_left ht] at hx
      exact h3 t x hx
  · intro t x ht hx
    rw [Array.getElem?_setIfInBounds, if_neg (by omega)]
    exact h4 t x (by omega) hx
theorem DelS.start {p : Int → Bool} {l : List Int} {g cap : Nat} {w : World} {base j : Nat} (h : w.ownsRow base 3 1 (.slice (some ⟨g, 0, none⟩) l.length cap) l.length (l.map iv)) (hp : ∀ x ∈ l.take j, p x = false) (hj : j ≤ l.length) : DelS p l g cap w w j := by
  rcases h.2 with ⟨h0, -⟩ | ⟨g', cap', cur, h0, hb, hg, h1, h2, h3, h4⟩
  · cases h0
  · cases h0
    have hc : ∀ (t : Nat) (x : Int), l[t]? = some x → cur[t]? = some (iv x) := by
      intro t x hx
      have ht := (List.getElem?_eq_some_iff.1 hx).1
      have : (cur.toList.take (l.length * 1))[t]? = (l.map iv)[t]? := by rw [h4]
      rw [List.getElem?_take_of_lt (by omega), List.getElem?_map, hx, Array.getElem?_toList] at this
      exact this
    refine ⟨Edit.refl _ _ _, cur, hg, by omega, ?_, fun t x _ hx => hc t x hx⟩
    rw [keepL_all hp]
    intro t x hx
    refine hc t x ?_
    have ht := (List.getElem?_eq_some_iff.1 hx).1
    rw [List.length_take] at ht
    rw [List.getElem?_take_of_lt (by omega)] at hx
    exact hx
theorem setCells_row : ∀ (vs : List Value) (w : World) (g o : Nat) (cur : Array Value) (e : TypeId), w.heap[g]? = some (.cells cur e (0, 0)) → ∃ cur', (w.setCells g o vs).heap[g]? = some (.cells cur' e (0, 0)) ∧ cur'.size = cur.size ∧ ∀ t, t < o → cur'[t]? = cur[t]?
  | [], w, g, o, cur, e, h => ⟨cur, h, rfl, fun _ _ => rfl⟩
  | v :: vs, w, g, o, cur, e, h => by
    obtain ⟨cur', h1, h2, h3⟩ := setCells_row vs (w.setCell ⟨g, o, none⟩ v) g (o + 1) (cur.setIfInBounds o v) e (heap_setCell_same _ _ _ _ _ _ h)
    refine ⟨cur', h1, by simpa using h2, fun t ht => ?_⟩
    rw [h3 t (by omega), Array.getElem?_setIfInBounds, if_neg (by omega)]
theorem setCells_edit : ∀ (vs : List Value) (a w : World) (g o : Nat), Edit g (g + 1) a w → Edit g (g + 1) a (w.setCells g o vs)
  | [], _, _, _, _, h => h
  | v :: vs, a, w, g, o, h => setCells_edit vs a (w.setCell ⟨g, o, none⟩ v) g (o + 1) (h.set _ _ _ (Nat.le_refl _) (Nat.lt_succ_self _))
/-- All have been looked at, and what is left behind has been cleared. -/
theorem DelS.fin {p : Int → Bool} {l : List Int} {g cap base : Nat} {w wr : World} (h : DelS p l g cap w wr l.length) (hc : l.length ≤ cap) (hm : cap ≤ maxLen) (hb : base ≤ g) (vs : List Value) :
    (wr.setCells g (keepL p l).length vs).ownsRow base 3 1 (.slice (some ⟨g, 0, none⟩) (keepL p l).length cap) (keepL p l).length ((keepL p l).map iv) ∧ Edit g (g + 1) w (wr.setCells g (keepL p l).length vs) := by
  obtain ⟨cur, h1, h2, h3, -⟩ := h.c
  rw [List.take_length] at h3
  obtain ⟨cur', g1, g2, g3⟩ := setCells_row vs wr g (keepL p l).length cur 3 h1
  have hk := keepL_len p l
  refine ⟨⟨by rw [List.length_map]; omega, .inr ⟨g, cap, cur', rfl, hb, g1, by omega, hm, by omega, ?_⟩⟩, setCells_edit vs w wr g _ h.e⟩
  apply List.ext_getElem?
  intro t
  by_cases ht : t < (keepL p l).length
  · rw [List.getElem?_take_of_lt (by omega), Array.getElem?_toList, g3 t ht, List.getElem?_map, List.getElem?_eq_getElem ht]
    exact h3 t _ (List.getElem?_eq_getElem ht)
  · rw [List.getElem?_eq_none (by rw [List.length_take]; omega), List.getElem?_eq_none (by rw [List.length_map]; omega)]

set_option maxRecDepth 20000 in
set_option maxHeartbeats 4000000 in
theorem delfunc_any (p : Int → Bool) (B : Nat) (l : List Int) (v : Value) (base : Nat) (hl : l.length ≤ 1000) (w : World) (ho : w.ownsRow base 3 1 v l.length (l.map iv)) (hbw : base ≤ w.heap.size)
    (hC : ∀ g, v.ownBlock = some g → ∀ wx, Edit g (g + 1) w wx → ∀ x, Calls Try.prog 46 #[.int .i64 x, .pointer (some ⟨B, 0, none⟩)] wx fun e w' => e = .returned (.bool (p x)) ∧ w' = wx)
    (hN : v.ownBlock = none → ∀ x, Calls Try.prog 46 #[.int .i64 x, .pointer (some ⟨B, 0, none⟩)] w fun e w' => e = .returned (.bool (p x)) ∧ w' = w) :
    Calls Try.prog 45 #[v, .func (.func 46) #[] #[.pointer (some ⟨B, 0, none⟩)]] w fun e w' => ∃ v', e = .returned v' ∧ v'.ownBlock = v.ownBlock ∧ w'.ownsRow base 3 1 v' (keepL p l).length ((keepL p l).map iv) ∧ (∀ b, b < w.heap.size → v.ownBlock ≠ some b → w'.heap[b]? = w.heap[b]?) ∧ Below base w w' := by
  have hl' : (l.length : Int) ≤ 1000 := by omega
  rcases ho.2 with ⟨rfl, h0⟩ | ⟨g, cap, cur, rfl, hb, hg, h1, h2, h3, h4⟩
  · have e0 : l = [] := List.length_eq_zero_iff.1 h0
    subst e0
    have HF := hide' ((indexf_any p B none [] 0 (by simp) w ⟨0, 0, (fun h => absurd rfl h), fun i x hx => by cases hx⟩ (hN rfl)).mono (R' := fun e w' => e = .returned (.int .i64 (-1)) ∧ w' = w) (by
      rintro e w' ⟨⟨h, -⟩ | ⟨i, h, -⟩, h2⟩
      · exact ⟨h, h2⟩
      · exact absurd h (by simp)))
    clear hC hN
    go_enter Try.func45, Try.ntmps45
    go_wp2_with (go_at_call 69; refine HF.out.mono ?_; rintro e w1 ⟨rfl, rfl⟩)
    go_ret
    exact ⟨_, rfl, rfl, ho, (fun _ _ _ => rfl), (Below.refl _ _).mono hbw⟩
  · have hat : LAt iv w (some ⟨g, 0, none⟩) l := by
      obtain ⟨A, M, c, e1, -, -, -, hA⟩ := resi_open (resi_of ho hl)
      cases e1; exact hA
    have HI := hide' (indexf_any p B (some ⟨g, 0, none⟩) l cap hl w hat (hC g rfl w (Edit.refl _ _ _)))
    have HC := hide' (hC g rfl)
    have HO := hide' ho
    by_cases hall : ∀ x ∈ l, p x = false
    · have HF := hide' (HI.out.mono (R' := fun e w' => e = .returned (.int .i64 (-1)) ∧ w' = w) (by
        rintro e w' ⟨⟨h, -⟩ | ⟨i, h, -, h3, -⟩, h2⟩
        · exact ⟨h, h2⟩
        · rw [hall _ (List.getElem_mem h)] at h3; cases h3))
      rw [keepL_all hall]
      clear hall hC hN ho HI HC
      go_enter Try.func45, Try.ntmps45
      go_wp2_with (go_at_call 69; refine HF.out.mono ?_; rintro e w1 ⟨rfl, rfl⟩)
      go_ret
      exact ⟨_, rfl, rfl, HO.out, (fun _ _ _ => rfl), (Below.refl _ _).mono hbw⟩
    · have HF := hide' (HI.out.mono (R' := fun e w' => (∃ i : Nat, ∃ h : i < l.length, e = .returned (.int .i64 (i : Int)) ∧ p l[i] = true ∧ ∀ x ∈ l.take i, p x = false) ∧ w' = w) (by
        rintro e w' ⟨⟨-, h⟩ | h, h2⟩
        · exact absurd h hall
        · exact ⟨h, h2⟩))
      have HCC := hide' (⟨h1, h2, hb⟩ : l.length ≤ cap ∧ cap ≤ maxLen ∧ base ≤ g)
      clear hall hC hN ho HI hg h3 h4 h2 hat
      go_enter Try.func45, Try.ntmps45
      go_wp2_with (go_at_call 69; go_loud (refine HF.out.mono ?_; rintro e w1 ⟨⟨i, hil, rfl, hpi, hlow⟩, hww⟩; subst hww; have hil1 : (i : Int) < 1000 := (by omega); have hin : ((i : Int) == -1) = false := (by rw [beq_eq_false_iff_ne]; omega)))
      have D0 := hide' (show DelS p l g cap w1 w1 (i + 1) from (DelS.start HO.out hlow (by omega)).drop hil hpi)
      have HI0 := hide' (show (keepL p (l.take (i + 1))).length = i by rw [keepL_no hil hpi, keepL_all hlow, List.length_take]; omega)
      clear hlow hpi HF hin
      go_loopw [5, 6] (fun x y wr => ∃ j : Nat, i + 1 ≤ j ∧ j ≤ l.length ∧ y = .int .i64 j ∧ x = .int .i64 ((keepL p (l.take j)).length : Int) ∧ Hid (DelS p l g cap w1 wr j) ∧ Hid ((keepL p (l.take j)).length < j)) (fun _ y _ => l.length - (intOf y).toNat)
      case atStart => exact ⟨i + 1, Nat.le_refl _, by omega, by go_num, by rw [HI0.out], D0.out, by rw [HI0.out]; exact Nat.lt_succ_self i⟩
      case round =>
        clear D0 HI0
        obtain ⟨j, hj1, hj2, rfl, rfl, hd, hlt'⟩ := hrel
        have hw := hide' hd.out.e
        by_cases hlt : j < l.length
        · have hjl : (j : Int) < l.length := by omega
          have c0 := hd.out.cell j l[j] (Nat.le_refl _) (List.getElem?_eq_getElem hlt)
          have HX := hide' (HC.out wr hw.out l[j])
          have HP := hide' (fun h => keepL_no (p := p) hlt h)
          have HQ := hide' (fun h => keepL_yes (p := p) hlt h)
          have HD := hide' (fun h => hd.out.drop hlt h)
          have HE := hide' (fun h => hd.out.put hlt HCC.out.1 h)
          have hk := hlt'.out
          have hkc : (keepL p (l.take j)).length < cap := by have := HCC.out.1; omega
          obtain ⟨u, hu⟩ := hd.out.has _ hkc
          have hfz := hd.out.frozen (keepL p (l.take j)).length
          generalize l[j] = x at c0 HX HP HQ HD HE
          cases hb' : p x
          · have HQ2 := hide' (HQ.out hb')
            have HE2 := hide' (HE.out hb')
            rw [hb'] at HX
            clear HP HQ HD HE hb'
            generalize hkk : (keepL p (l.take j)).length = kk at *
            have hkk2 : (kk : Int) < l.length := by omega
            have hkk1 : (kk : Int) < 1000 := by omega
            have hj1000 : (j : Int) < 1000 := by omega
            go_wp2_with (go_at_call 46; refine HX.out.mono ?_; rintro e w1 ⟨rfl, rfl⟩)
            go_roundw
            case rel => exact ⟨j + 1, by omega, by omega, by go_num, by rw [HQ2.out, List.length_append, hkk]; go_num, HE2.out, by rw [HQ2.out, List.length_append, hkk]; show kk + 1 < j + 1; omega⟩
            case measure => simp [intOf]; omega
          · have HP2 := hide' (HP.out hb')
            have HD2 := hide' (HD.out hb')
            rw [hb'] at HX
            clear HP HQ HD HE hb'
            have hj1000 : (j : Int) < 1000 := by omega
            go_wp2_with (go_at_call 46; refine HX.out.mono ?_; rintro e w1 ⟨rfl, rfl⟩)
            go_roundw
            case rel => exact ⟨j + 1, by omega, by omega, by go_num, by rw [HP2.out], HD2.out, by rw [HP2.out]; exact Nat.lt_succ_of_lt hk⟩
            case measure => simp [intOf]; omega
        · have hje : j = l.length := by omega
          subst hje
          have HE := hide' (fun vs => hd.out.fin HCC.out.1 HCC.out.2.1 HCC.out.2.2 vs)
          have hk := hlt'.out
          have HFZ := hide' (fun t => hd.out.frozen t)
          have HHS := hide' (fun t (h : t < cap) => hd.out.has t h)
          rw [List.take_length] at hk ⊢
          generalize hkk : keepL p l = kl at *
          have hkk2 : (kl.length : Int) < l.length := by omega
          have hkk1 : (kl.length : Int) < 1000 := by omega
          have hcap := HCC.out.1
          have hclr : ∀ ty, (Builtin.clear_ #[24] ty #[.slice (some ⟨g, kl.length, none⟩) (l.length - kl.length) (cap - kl.length)]).run Try.prog wr = .ok (.tuple #[]) (wr.setCells g kl.length (List.replicate (l.length - kl.length) (.int .i64 0))) := fun ty =>
            Go.Lib.run_clear_slice wr 24 3 ty (.int .i64 0) Try.underlying24 (fun w => by kernel_rfl) rfl rfl g kl.length (l.length - kl.length) (cap - kl.length) (by omega) (fun t ht => by obtain ⟨u, hu⟩ := HHS.out (kl.length + t) (by omega); rw [hu]; rfl) (fun t _ => HFZ.out _)
          go_wp2_with fail
          go_ret
          obtain ⟨ho', he'⟩ := HE.out (List.replicate (l.length - kl.length) (.int .i64 0))
          exact ⟨.slice (some ⟨g, 0, none⟩) kl.length cap, rfl, rfl, (by rw [hkk]; exact ho'), (fun b hb1 hb2 => by
            have hbg : b ≠ g := fun e => hb2 (by rw [e]; rfl)
            rcases Nat.lt_or_ge b g with h | h
            · exact he'.b.block b h
            · exact he'.up b (by omega) hb1), he'.b.mono HCC.out.2.2⟩
end Go.Proofs.Ytmflbibogkebmaa
