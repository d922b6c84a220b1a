/- An order in which each one stands behind those that lead to it: data. spec.OrderOf. -/
import Derived.Test.YtmflbibogkebmaaWh
import Derived.Test.YtmflbibogkebmaaCi
import Derived.Deep.DeepCutAuto
namespace Go.Proofs.Ytmflbibogkebmaa
open Go.RowKit
open Rd Fl

/-- what is taken at the first n places, rising -/
def takTo (l : List EvD) : Nat → List Int
  | 0 => []
  | n + 1 => if 0 ≤ tkE (evA l n) then putR (takTo l n) (tkE (evA l n)) else takTo l n
theorem takTo_yes {l : List EvD} {n : Nat} (h : 0 ≤ tkE (evA l n)) : takTo l (n + 1) = putR (takTo l n) (tkE (evA l n)) := by
  conv => lhs; unfold takTo
  rw [if_pos h]
theorem takTo_no {l : List EvD} {n : Nat} (h : ¬ 0 ≤ tkE (evA l n)) : takTo l (n + 1) = takTo l n := by
  conv => lhs; unfold takTo
  rw [if_neg h]
theorem takTo_rises (l : List EvD) : ∀ n, (takTo l n).Pairwise (· < ·)
  | 0 => List.Pairwise.nil
  | n + 1 => by
    unfold takTo
    split
    · exact putR_rises _ _ (takTo_rises l n)
    · exact takTo_rises l n
theorem takTo_mem {l : List EvD} : ∀ {n : Nat} {x : Int}, x ∈ takTo l n ↔ ∃ i, i < n ∧ 0 ≤ tkE (evA l i) ∧ tkE (evA l i) = x
  | 0, x => by simp [takTo]
  | n + 1, x => by
    have ih := takTo_mem (l := l) (n := n) (x := x)
    by_cases h : 0 ≤ tkE (evA l n)
    · rw [takTo_yes h, putR_mem, ih]
      constructor
      · rintro (rfl | ⟨i, h1, h2⟩)
        · exact ⟨n, by omega, h, rfl⟩
        · exact ⟨i, by omega, h2⟩
      · rintro ⟨i, h1, h2, h3⟩
        by_cases e : i = n
        · subst e; exact .inl h3.symm
        · exact .inr ⟨i, by omega, h2, h3⟩
    · rw [takTo_no h, ih]
      constructor
      · rintro ⟨i, h1, h2⟩; exact ⟨i, by omega, h2⟩
      · rintro ⟨i, h1, h2, h3⟩
        have : i ≠ n := fun e => h (e ▸ h2)
        exact ⟨i, by omega, h2, h3⟩
theorem takTo_in {l : List EvD} (hg : goodTr l = true) {n : Nat} (hn : n ≤ l.length) : ∀ x ∈ takTo l n, 0 ≤ x ∧ x ≤ 99 := by
  intro x hx
  obtain ⟨i, h1, h2, rfl⟩ := takTo_mem.1 hx
  have hge : goodEv (evA l i) = true := by rw [evA_get (by omega)]; exact good_ev hg (by omega)
  have := tkE_good hge
  omega
theorem takTo_len {l : List EvD} (hg : goodTr l = true) {n : Nat} (hn : n ≤ l.length) : (takTo l n).length ≤ 100 := by
  have := rises_short (takTo l n) 0 100 (takTo_rises l n) (fun x hx => by have := takTo_in hg hn x hx; omega)
  omega

/-- no pair leads to k from one that is left -/
def freeB (E : List (Int × Int)) (left : List Int) (k : Int) : Bool := E.all fun p => decide (p.2 ≠ k ∨ p.1 ∉ left)
theorem freeB_iff {E : List (Int × Int)} {left : List Int} {k : Int} : freeB E left k = true ↔ ∀ p ∈ E, p.2 = k → p.1 ∉ left := by
  unfold freeB
  rw [List.all_eq_true]
  constructor
  · intro h p hp e
    have := of_decide_eq_true (h p hp)
    exact this.resolve_left (fun h => h e)
  · intro h p hp
    refine decide_eq_true ?_
    by_cases e : p.2 = k
    · exact .inr (h p hp e)
    · exact .inl e
/-- one step: the first that is free goes over -/
def ordS (E : List (Int × Int)) (s : List Int × List Int) : List Int × List Int :=
  match s.1.find? (freeB E s.1) with
  | some k => (dropL s.1 k, s.2 ++ [k])
  | none => s
def ordN (E : List (Int × Int)) (L : List Int) : Nat → List Int × List Int
  | 0 => (L, [])
  | n + 1 => ordS E (ordN E L n)
theorem ordN_yes {E : List (Int × Int)} {L : List Int} {n : Nat} {k : Int} (h : (ordN E L n).1.find? (freeB E (ordN E L n).1) = some k) : ordN E L (n + 1) = (dropL (ordN E L n).1 k, (ordN E L n).2 ++ [k]) := by
  show ordS E (ordN E L n) = _
  unfold ordS
  rw [h]
theorem ordN_none {E : List (Int × Int)} {L : List Int} {n : Nat} (h : (ordN E L n).1.find? (freeB E (ordN E L n).1) = none) : ∀ m, ordN E L (n + m) = ordN E L n
  | 0 => rfl
  | m + 1 => by
    have ih := ordN_none h m
    show ordS E (ordN E L (n + m)) = _
    rw [ih]
    unfold ordS
    rw [h]
theorem ordN_rises {E : List (Int × Int)} {L : List Int} (hL : L.Pairwise (· < ·)) : ∀ n, (ordN E L n).1.Pairwise (· < ·)
  | 0 => hL
  | n + 1 => by
    show (ordS E (ordN E L n)).1.Pairwise _
    unfold ordS
    split
    · exact (ordN_rises hL n).filter _
    · exact ordN_rises hL n
theorem ordN_sub {E : List (Int × Int)} {L : List Int} : ∀ n, ∀ x ∈ (ordN E L n).1, x ∈ L
  | 0, x, h => h
  | n + 1, x, h => by
    have h' : x ∈ (ordS E (ordN E L n)).1 := h
    unfold ordS at h'
    split at h'
    · exact ordN_sub n x (dropL_mem.1 h').1
    · exact ordN_sub n x h'
theorem drop_one {l : List Int} (hl : l.Pairwise (· < ·)) {k : Int} (hk : k ∈ l) : (dropL l k).length + 1 = l.length := by
  unfold dropL
  have h1 := List.length_eq_countP_add_countP (p := fun x => decide (x ≠ k)) (l := l)
  rw [List.countP_eq_length_filter] at h1
  have h2 : l.countP (fun a => decide ¬ (decide (a ≠ k)) = true) = 1 := by
    have hn : l.Nodup := List.nodup_iff_pairwise_ne.2 (hl.imp fun h => by omega)
    have := List.Nodup.count hn (a := k)
    rw [if_pos hk] at this
    rw [← this, List.count]
    congr 1
    funext a
    by_cases h : a = k <;> simp [h]
  omega
/-- while some are free one goes over at each step -/
theorem ordN_len {E : List (Int × Int)} {L : List Int} (hL : L.Pairwise (· < ·)) {n : Nat} (h : ∀ m, m < n → ∃ k, (ordN E L m).1.find? (freeB E (ordN E L m).1) = some k) : (ordN E L n).1.length + n = L.length ∧ (ordN E L n).2.length = n := by
  induction n with
  | zero => exact ⟨rfl, rfl⟩
  | succ n ih =>
    obtain ⟨i1, i2⟩ := ih (fun m hm => h m (by omega))
    obtain ⟨k, hk⟩ := h n (by omega)
    have hmem := List.mem_of_find?_eq_some hk
    have := drop_one (ordN_rises hL n) hmem
    rw [ordN_yes hk]
    simp only [List.length_append, List.length_cons, List.length_nil]
    omega

/-! circles -/
theorem chn_tail {E : List (Int × Int)} {a : Int} {t : List Int} (h : Chn E (a :: t)) : Chn E t := by
  cases t with
  | nil => trivial
  | cons b t => exact h.2
theorem chn_pre {E : List (Int × Int)} : ∀ (u v : List Int), Chn E (u ++ v) → Chn E u
  | [], _, _ => trivial
  | [_], _, _ => trivial
  | _ :: b :: t, v, h => ⟨h.1, chn_pre (b :: t) v h.2⟩
theorem dup_clo {E : List (Int × Int)} : ∀ w : List Int, Chn E w → ¬ w.Nodup → ∃ x u, x ∈ w ∧ Clo E x u
  | [], _, h => absurd List.nodup_nil h
  | x :: t, hc, hn => by
    by_cases hx : x ∈ t
    · obtain ⟨b, c, rfl⟩ := List.append_of_mem hx
      refine ⟨x, x :: b, List.mem_cons_self .., ⟨b, rfl⟩, ?_⟩
      have : x :: (b ++ x :: c) = (x :: b ++ [x]) ++ c := by simp
      rw [this] at hc
      exact chn_pre _ _ hc
    · have : ¬ t.Nodup := fun h => hn (List.nodup_cons.2 ⟨hx, h⟩)
      obtain ⟨y, u, h1, h2⟩ := dup_clo t (chn_tail hc) this
      exact ⟨y, u, List.mem_cons_of_mem _ h1, h2⟩
/-- where no walk goes round one is free -/
theorem free_some {E : List (Int × Int)} (hno : ∀ n : Int, 0 ≤ n → n < 100 → ¬ ∃ u, Clo E n u) {left : List Int} (hin : ∀ x ∈ left, 0 ≤ x ∧ x ≤ 99) (hne : left ≠ []) : ∃ k, left.find? (freeB E left) = some k := by
  cases hf : left.find? (freeB E left) with
  | some k => exact ⟨k, rfl⟩
  | none =>
    exfalso
    rw [List.find?_eq_none] at hf
    have hpred : ∀ k ∈ left, ∃ x ∈ left, (x, k) ∈ E := by
      intro k hk
      have h1 := hf k hk
      by_cases hex : ∃ x ∈ left, (x, k) ∈ E
      · exact hex
      · exact absurd (freeB_iff.2 fun p hp e hm => hex ⟨p.1, hm, by rw [← e]; exact hp⟩) h1
    have hch : ∀ n : Nat, ∃ w : List Int, w.length = n + 1 ∧ (∀ x ∈ w, x ∈ left) ∧ Chn E w := by
      intro n
      induction n with
      | zero =>
        obtain ⟨x, hx⟩ := List.exists_mem_of_ne_nil _ hne
        exact ⟨[x], rfl, fun y hy => by rw [List.mem_singleton] at hy; rw [hy]; exact hx, trivial⟩
      | succ n ih =>
        obtain ⟨w, h1, h2, h3⟩ := ih
        match w, h1, h2, h3 with
        | a :: t, h1, h2, h3 =>
          obtain ⟨x, hx, hE⟩ := hpred a (h2 a (List.mem_cons_self ..))
          exact ⟨x :: a :: t, by simp only [List.length_cons] at *; omega, fun y hy => by
            rcases List.mem_cons.1 hy with rfl | hy
            · exact hx
            · exact h2 y hy, hE, h3⟩
    obtain ⟨w, h1, h2, h3⟩ := hch 100
    have hnd : ¬ w.Nodup := fun h => by
      have := nodup_le 100 w h (fun x hx => by have := hin x (h2 x hx); omega)
      omega
    obtain ⟨x, u, hx, hu⟩ := dup_clo w h3 hnd
    have := hin x (h2 x hx)
    exact hno x this.1 (by omega) ⟨u, hu⟩
theorem chn_pred {E : List (Int × Int)} : ∀ (t : List Int) (a z : Int), Chn E (a :: t ++ [z]) → ∀ y ∈ t ++ [z], ∃ x ∈ a :: t, (x, y) ∈ E
  | [], a, z, h, y, hy => by
    rw [List.nil_append, List.mem_singleton] at hy
    subst hy
    exact ⟨a, List.mem_cons_self .., h.1⟩
  | b :: t, a, z, h, y, hy => by
    rcases List.mem_cons.1 hy with rfl | hy
    · exact ⟨a, List.mem_cons_self .., h.1⟩
    · obtain ⟨x, hx, hE⟩ := chn_pred t b z h.2 y hy
      exact ⟨x, List.mem_cons_of_mem _ hx, hE⟩
theorem clo_pred {E : List (Int × Int)} {s : Int} {u : List Int} (h : Clo E s u) : ∀ y ∈ u, ∃ x ∈ u, (x, y) ∈ E := by
  obtain ⟨⟨t, rfl⟩, hc⟩ := h
  intro y hy
  refine chn_pred t s s hc y ?_
  rcases List.mem_cons.1 hy with rfl | hy
  · exact List.mem_append_right _ (List.mem_singleton_self _)
  · exact List.mem_append_left _ hy
/-- what goes round never goes over -/
theorem clo_stays {E : List (Int × Int)} {L : List Int} (hE : ∀ p ∈ E, p.2 ∈ L) {s : Int} {u : List Int} (h : Clo E s u) : ∀ n, ∀ y ∈ u, y ∈ (ordN E L n).1
  | 0, y, hy => by
    obtain ⟨x, -, hx⟩ := clo_pred h y hy
    exact hE _ hx
  | n + 1, y, hy => by
    have ih := clo_stays hE h n
    show y ∈ (ordS E (ordN E L n)).1
    unfold ordS
    split
    · rename_i k hk
      refine dropL_mem.2 ⟨ih y hy, ?_⟩
      rintro rfl
      have hf := freeB_iff.1 (List.find?_some hk)
      obtain ⟨x, hx, hxE⟩ := clo_pred h y hy
      exact hf _ hxE rfl (ih x hx)
    · exact ih y hy

/-- all went over -/
def ordOk (E : List (Int × Int)) (L : List Int) : Bool := decide ((ordN E L L.length).1 = [])
theorem ord_clo {E : List (Int × Int)} {L : List Int} (hE : ∀ p ∈ E, p.2 ∈ L) {s : Int} {u : List Int} (h : Clo E s u) : ordOk E L = false := by
  refine decide_eq_false fun e => ?_
  obtain ⟨⟨t, rfl⟩, -⟩ := id h
  have := clo_stays hE h L.length s (List.mem_cons_self ..)
  rw [e] at this
  cases this
theorem ord_find {E : List (Int × Int)} {L : List Int} (hno : ∀ n : Int, 0 ≤ n → n < 100 → ¬ ∃ u, Clo E n u) (hin : ∀ x ∈ L, 0 ≤ x ∧ x ≤ 99) {n : Nat} (h : (ordN E L n).1 ≠ []) : ∃ k, (ordN E L n).1.find? (freeB E (ordN E L n).1) = some k :=
  free_some hno (fun x hx => hin x (ordN_sub n x hx)) h
theorem ord_no {E : List (Int × Int)} {L : List Int} (hL : L.Pairwise (· < ·)) (hno : ∀ n : Int, 0 ≤ n → n < 100 → ¬ ∃ u, Clo E n u) (hin : ∀ x ∈ L, 0 ≤ x ∧ x ≤ 99) : ∀ n, n ≤ L.length → (ordN E L n).1.length + n = L.length ∧ (ordN E L n).2.length = n
  | 0, _ => ⟨rfl, rfl⟩
  | n + 1, hn => by
    have ih := ord_no hL hno hin n (by omega)
    obtain ⟨k, hk⟩ := ord_find hno hin (n := n) (fun e => by rw [e] at ih; simp at ih; omega)
    have := drop_one (ordN_rises hL n) (List.mem_of_find?_eq_some hk)
    rw [ordN_yes hk]
    simp only [List.length_append, List.length_cons, List.length_nil]
    omega
theorem ord_no_ok {E : List (Int × Int)} {L : List Int} (hL : L.Pairwise (· < ·)) (hno : ∀ n : Int, 0 ≤ n → n < 100 → ¬ ∃ u, Clo E n u) (hin : ∀ x ∈ L, 0 ≤ x ∧ x ≤ 99) : ordOk E L = true := by
  refine decide_eq_true (List.length_eq_zero_iff.1 ?_)
  have := (ord_no hL hno hin L.length (Nat.le_refl _)).1
  omega
/-- what is told of a trace -/
def ordE (l : List EvD) : List (Int × Int) := pairsP (undersN l) 100
def ordL (l : List EvD) : List Int := takTo l l.length
def okOrd (l : List EvD) : Bool := goodTr l && ordOk (ordE l) (ordL l)
def ordR (l : List EvD) : List Int := if okOrd l = true then (ordN (ordE l) (ordL l) (ordL l).length).2 else []
theorem pairsP_iff {us : List UnD} (hin : ∀ u ∈ us, (0 ≤ u.hd ∧ u.hd ≤ 99) ∧ (0 ≤ u.tkn ∧ u.tkn ≤ 99)) {p : Int × Int} : p ∈ pairsP us 100 ↔ grp us p ≠ [] := by
  rw [pairsP_mem, grp_has]
  unfold toN
  rw [toM_mem]
  constructor
  · rintro ⟨-, k, u, -, h2, h3, h4⟩
    exact ⟨u, List.mem_of_getElem? h2, Prod.ext h3 h4⟩
  · rintro ⟨u, hu, rfl⟩
    have := hin u hu
    obtain ⟨k, hk⟩ := List.mem_iff_getElem?.1 hu
    exact ⟨by simp only [ends]; omega, k, u, (List.getElem?_eq_some_iff.1 hk).1, hk, rfl, rfl⟩
theorem undTo_tak {t : List EvD} : ∀ n, ∀ u ∈ undTo t n, u.tkn ∈ takTo t n
  | 0, u, hu => by simp [undTo] at hu
  | n + 1, u, hu => by
    rw [undTo_succ, List.mem_append] at hu
    rcases hu with hu | hu
    · obtain ⟨i, h1, h2⟩ := takTo_mem.1 (undTo_tak n u hu)
      exact takTo_mem.2 ⟨i, by omega, h2⟩
    · by_cases h : 0 ≤ tkE (evA t n)
      · rw [undsAt_yes h, List.mem_map] at hu
        obtain ⟨x, -, rfl⟩ := hu
        exact takTo_mem.2 ⟨n, by omega, h, rfl⟩
      · rw [undsAt_no h] at hu; cases hu
theorem ordE_in {l : List EvD} (hg : goodTr l = true) : ∀ p ∈ ordE l, p.2 ∈ ordL l := by
  intro p hp
  have h := (pairsP_iff (undersN_in l)).1 hp
  obtain ⟨u, hu, rfl⟩ := grp_has.1 h
  unfold undersN at hu
  rw [if_pos hg] at hu
  exact undTo_tak _ u hu
end Go.Proofs.Ytmflbibogkebmaa
namespace Go.Proofs.Ytmflbibogkebmaa
open Go.RowKit Go.Maps
open Rd Fl

/-- the length of a slice's value -/
def lenS : Value → Nat
  | .slice _ n _ => n
  | _ => 0
theorem prs_rowss {E : List (Int × Int)} {w : World} {lo : Nat} {v : Value} {Ms : List Nat} (h : RowSS (E.map toL) w lo v Ms) : ∃ R cap, v = .slice R E.length cap ∧ PrsAt w R E := by
  have key : ∀ (g : Nat), (∀ i (hi : i < E.length), w.cell? ⟨g, i, none⟩ = (List.zipWith slV Ms (E.map toL))[i]?) → ∀ (i : Nat) (hi : i < E.length), ∃ b2 off2 cap, w.cell? ⟨g, 0 + i, none⟩ = some (.slice (some ⟨b2, off2, none⟩) 2 cap) ∧ w.cell? ⟨b2, off2, none⟩ = some (.int .i64 E[i].1) ∧ w.cell? ⟨b2, off2 + 1, none⟩ = some (.int .i64 E[i].2) := by
    intro g hg i hi
    have hm : i < Ms.length := by rw [h.n, List.length_map]; exact hi
    have hk := hg i hi
    rw [zip_slP, List.getElem?_map, (show (Ms.zip E)[i]? = some (Ms[i], E[i]) from List.getElem?_zip_eq_some.2 ⟨List.getElem?_eq_getElem hm, List.getElem?_eq_getElem hi⟩)] at hk
    obtain ⟨-, -, c3⟩ := h.c i Ms[i] (toL E[i]) (List.getElem?_eq_getElem hm) (by rw [List.getElem?_map, List.getElem?_eq_getElem hi]; rfl)
    exact ⟨Ms[i], 0, 2, by rw [Nat.zero_add]; exact hk, c3.2 0 E[i].1 rfl, c3.2 1 E[i].2 rfl⟩
  rcases h.o.2 with ⟨rfl, h0⟩ | ⟨g, cap, cur, rfl, -⟩
  · have : E = [] := by simpa using h0
    subst this
    exact ⟨none, 0, rfl, 0, 0, fun h => absurd rfl h, fun i hi => absurd hi (by simp)⟩
  · exact ⟨some ⟨g, 0, none⟩, cap, by rw [List.length_map], g, 0, fun _ => rfl, key g (fun i hi => h.o.cellAt i (by rw [List.length_map]; omega))⟩
theorem rsp_of {w : World} {v : Value} {l : List Int} (h : Rsp w v l w) : w.ownsRow w.heap.size 3 1 v l.length (l.map iv) := h.o
/-- two rows of a function's own, apart -/
structure Two2 (w wr : World) (a b : Value) (la lb : List Int) : Prop where
  l : Rsp w a la wr
  r : Rsp w b lb wr
  a : Apart a b

theorem Two2.step {w wr w5 w6 : World} {a b a' b' : Value} {la lb la' : List Int} {k : Int} (h : Two2 w wr a b la lb) {o : Obj} (hown : w5.ownsRow w.heap.size 3 1 b' (lb.length + 1) (lb.map iv ++ [iv k])) (hg : (wr.alloc o).grownBy w5 b.ownBlock)
    (hd : Rsp w5 a' la' w6) : Two2 w w6 a' b' la' (lb ++ [k]) := by
  have hb5 : Below w.heap.size w w5 := Below.grown (h.r.b.up o) hg (by have := h.r.b.size; simp; omega) (own_base' h.r.o)
  have hr5 : Rsp w b' (lb ++ [k]) w5 := ⟨hb5, by rw [List.length_append, List.map_append]; exact hown⟩
  refine ⟨⟨hb5.trans (hd.b.mono hb5.size), own_less hd.o hb5.size⟩, hr5.keep hd.b, fun g hg' e => ?_⟩
  have h1 := (hd.o.lt g hg').1
  have h2 := (hr5.o.lt g e).2
  omega
theorem Two2.mid {w wr w5 : World} {a b : Value} {la lb : List Int} (h : Two2 w wr a b la lb) {o : Obj} (hg : (wr.alloc o).grownBy w5 b.ownBlock) : Rsp w a la w5 := by
  have hb5 : Below w.heap.size w w5 := Below.grown (h.r.b.up o) hg (by have := h.r.b.size; simp; omega) (own_base' h.r.o)
  exact ⟨hb5, (h.l.o.alloc o).kept hg (h.a.or)⟩
theorem Two2.keep {w wr wy : World} {a b : Value} {la lb : List Int} (h : Two2 w wr a b la lb) (hb : Below wr.heap.size wr wy) : Two2 w wy a b la lb := ⟨h.l.keep hb, h.r.keep hb, h.a⟩
/-- where the first that is free stands -/
theorem find_at {l : List Int} {p : Int → Bool} {k : Int} (h : l.find? p = some k) : ∃ i, ∃ hi : i < l.length, l[i] = k ∧ p l[i] = true ∧ ∀ j (hj : j < l.length), j < i → p l[j] = false := by
  rw [List.find?_eq_some_iff_append] at h
  obtain ⟨hp, pre, bs, rfl, hno⟩ := h
  refine ⟨pre.length, by simp, by simp, by simpa using hp, fun j hj hlt => ?_⟩
  have := hno pre[j] (List.getElem_mem hlt)
  rw [List.getElem_append_left hlt]
  simpa using this
theorem all_take {α : Type} {q : α → Bool} {E : List α} {m : Nat} (hm : m < E.length) : (E.take (m + 1)).all q = ((E.take m).all q && q E[m]) := by
  rw [List.take_succ_eq_append_getElem hm, List.all_append]; simp

set_option maxRecDepth 20000 in
set_option maxHeartbeats 16000000 in
theorem sorder_yes (A : Option Addr) (l : List EvD) (cap : Nat) (hcap : l.length ≤ cap) (hg : goodTr l = true) (w : World) (hA : EvsAt w A l) :
    Calls Try.prog 30 #[.slice A l.length cap] w fun e w' => ∃ v, e = .returned (.tuple #[v, .bool (okOrd l)]) ∧ Rsp w v (ordR l) w' := by
  obtain ⟨ii, hi, hz0, hz1, hz2⟩ := intInfo
  have h200 := good_len hg
  have hn' : (l.length : Int) ≤ 200 := by omega
  have HG := hide' (l6trace_any A l cap (by omega) w hA)
  rw [hg] at HG
  have HP := hide' (fun w1 (hb : Below w.heap.size w w1) => l8pairs_any A l cap hcap hg w1 (hA.keep hb))
  have HEE : pairsTo (undTo l l.length) 100 = (ordE l).map toL := by
    unfold ordE undersN
    rw [if_pos hg, pairsP_map]
  rw [HEE] at HP
  have HEL : (ordE l).length ≤ 10000 := by
    have h1 := pairsTo_len (undTo_in hg l.length (Nat.le_refl _)) 100
    rw [HEE, List.length_map] at h1
    omega
  have HEB : ∀ p ∈ ordE l, (0 ≤ p.1 ∧ p.1 < 100) ∧ (0 ≤ p.2 ∧ p.2 < 100) := by
    intro p hp
    have h := (pairsP_iff (undersN_in l)).1 hp
    obtain ⟨u, hu, rfl⟩ := grp_has.1 h
    have := undersN_in l u hu
    simp only [ends]
    omega
  have HEI := ordE_in hg
  have HTC := hide' (fun r0 r1 r2 r3 r4 w => l6takes_any r0 r1 r2 r3 r4 w)
  have HEA := hide' (fun i (hi : i < l.length) => evA_get (l := l) hi)
  have HTL := hide' (fun n (hn : n ≤ l.length) => takTo_len hg hn)
  have HLR := takTo_rises l l.length
  have HLI := takTo_in hg (Nat.le_refl l.length)
  have hOK : okOrd l = ordOk (ordE l) (ordL l) := by unfold okOrd; rw [hg, Bool.true_and]
  have hR : ordR l = if ordOk (ordE l) (ordL l) = true then (ordN (ordE l) (ordL l) (ordL l).length).2 else [] := by unfold ordR; rw [hOK]
  have HOK := hide' hOK
  have HR := hide' hR
  generalize okOrd l = ob at *
  generalize ordR l = rl at *
  have HLD := hide' (show takTo l l.length = ordL l from rfl)
  rw [HLD.out] at HLR HLI
  have HLL : (ordL l).length ≤ 100 := HTL.out l.length (Nat.le_refl _)
  generalize ordE l = E at *
  generalize ordL l = L at *
  obtain ⟨b, off, hA1, hc⟩ := hA
  have HA1 := hide' hA1
  have HCE := hide' (fun i (hi : i < l.length) => hc i l[i] (List.getElem?_eq_getElem hi))
  clear hc hA1 hg hOK hR HEE
  have HELI : (E.length : Int) ≤ 10000 := by omega
  have HCY := hide' (fun R cap w (hR : PrsAt w R E) => l3cycle_any R E cap HEL HEB w hR)
  have HE2 := hide' HEI
  have HL2 := hide' HLR
  have HI2 := hide' HLI
  clear HEI HLR HLI HEB
  go_enter Try.func30, Try.ntmps30
  go_wp2_with (first
    | (go_at_call 34; refine HG.out.mono ?_; rintro e w1 ⟨rfl, hb1⟩; have B1 := hide' hb1)
    | (go_at_call 53; refine (HP.out _ B1.out).mono ?_; rintro e w2 ⟨v2, Ms, rfl, hr2⟩; obtain ⟨R2, cap2, rfl, hp2⟩ := prs_rowss hr2.r; have P2 := hide' hp2; have B2 := hide' (B1.out.trans (hr2.b.mono B1.out.size)); clear hr2 hp2)
    | (go_at_call 56; refine (HCY.out R2 cap2 _ P2.out).mono ?_; rintro e w3 ⟨⟨v3, lc, rfl, hcy, hr3⟩, hb3⟩; obtain ⟨A3, M3, cap3, rfl, -, -, -, -⟩ := resi_open hr3; have P3 := hide' (P2.out.keep hb3); have B3 := hide' (B2.out.trans (hb3.mono B2.out.size)); have CY := hide' hcy; clear hr3 hcy hb3))
  · have hlc : lc ≠ [] := fun e => by subst e; simp at *
    have HB := hide' (show ob = false from by
      rcases CY.out with ⟨h, -⟩ | ⟨-, n, -, -, -, h⟩
      · exact absurd h hlc
      · rw [HOK.out]; exact ord_clo HE2.out h.1)
    have HRR := hide' (show rl = [] by rw [HR.out, ← HOK.out, HB.out]; rfl)
    go_ret2
    exact ⟨_, by rw [HB.out]; rfl, by rw [HRR.out]; exact ⟨B3.out, World.ownsRow_nil _ _ _ _⟩⟩
  · have hlt0 : ¬ 0 < lc.length := by assumption
    have hno := (show ∀ n : Int, 0 ≤ n → n < 100 → ¬ ∃ u, Clo E n u from by
      rcases CY.out with ⟨-, h⟩ | ⟨h, -⟩
      · exact h
      · exact absurd (List.length_eq_zero_iff.1 (by omega)) h)
    have HOK2 := hide' (ord_no_ok HL2.out hno HI2.out)
    have HRR := hide' (show rl = (ordN E L L.length).2 by rw [HR.out, if_pos HOK2.out])
    have HOB := hide' (show ob = true by rw [HOK.out, HOK2.out])
    have HST := hide' (fun n hn => ord_no (n := n) HL2.out hno HI2.out hn)
    have HFI := hide' (fun n h => ord_find (n := n) hno HI2.out h)
    have HNE := hide' (fun n k h => ordN_yes (E := E) (L := L) (n := n) (k := k) h)
    have HRI := hide' (fun n => ordN_rises (E := E) HL2.out n)
    have HSB := hide' (fun n => ordN_sub (E := E) (L := L) n)
    have T0 := hide' (show Rsp w3 (.slice none 0 0) (takTo l 0) w3 from ⟨Below.refl _ _, World.ownsRow_nil _ _ _ _⟩)
    clear hno HP HG HCY CY HOK HR hlt0
    generalize decide (0 < lc.length) = q23
    go_loopw [5, 26] (fun v x wr => ∃ n : Nat, n ≤ l.length ∧ x = .int .i64 n ∧ Hid (Rsp w3 v (takTo l n) wr)) (fun _ x _ => l.length - (intOf x).toNat)
    case atStart => exact ⟨0, Nat.zero_le _, rfl, T0.out⟩
    case round =>
      obtain ⟨n, hn, rfl, hr⟩ := hrel
      by_cases hlt : n < l.length
      · have hni : (n : Int) < l.length := by omega
        have hA2 := HA1.out (by intro h; rw [h] at hlt; simp at hlt)
        subst hA2
        have BR := hide' (B3.out.trans (hr.out.b.mono B3.out.size))
        obtain ⟨c0, c1, c2, c3, c4⟩ := ev_range (range_keep BR.out (HCE.out n hlt))
        have HEK := HEA.out n hlt
        have HTN := hide' (HTL.out n (by omega))
        have HNO := hide' (fun h => takTo_no (l := l) (n := n) h)
        have HYES := hide' (fun h => takTo_yes (l := l) (n := n) h)
        rw [HEK] at HNO HYES
        generalize l[n] = x at c0 c1 c2 c3 c4 HNO HYES
        clear HEK
        obtain ⟨r0, r1, r2, r3, r4⟩ := x
        have HT := hide' (HTC.out r0 r1 r2 r3 r4)
        rw [show tk (-3) r1 r2 r3 = tkE ⟨r0, r1, r2, r3, r4⟩ from rfl] at HT
        simp only at c0 c1 c2 c3 c4
        have E0 := hide' (evbox_new wr r0 r1 r2 r3 r4)
        have U0 := hide' ((Below.refl wr.heap.size wr).up (.cells #[.int .i64 r0, .int .i64 r1, .int .i64 r2, .int .i64 r3, .int .i64 r4] 50))
        obtain ⟨q0, q1, q2, q3, q4⟩ := E0.out
        generalize tkE ⟨r0, r1, r2, r3, r4⟩ = tx at *
        by_cases htx : tx ≥ 0
        · have HE := hide' (HYES.out htx)
          clear HNO HYES
          go_wp2_with (first
            | (go_at_call 57; refine (HT.out _).mono ?_; rintro e w4 ⟨rfl, hb4⟩; have R4 := hide' ((hr.out.keep U0.out).keep hb4))
            | (go_at_call 42; refine (l1put_any _ _ _ (by have := HTN.out; omega) _ _ R4.out).mono ?_; rintro e w5 ⟨⟨v5, rfl, hr5⟩, -⟩))
          go_roundw
          case rel => exact ⟨n + 1, by omega, by go_num, by rw [HE.out]; exact hr5⟩
          case measure => simp [intOf]; omega
        · have HE := hide' (HNO.out htx)
          clear HNO HYES
          go_wp2_with (go_at_call 57; refine (HT.out _).mono ?_; rintro e w4 ⟨rfl, hb4⟩; have R4 := hide' ((hr.out.keep U0.out).keep hb4))
          go_roundw
          case rel => exact ⟨n + 1, by omega, by go_num, by rw [HE.out]; exact R4.out⟩
          case measure => simp [intOf]; omega
      · have hne : n = l.length := by omega
        subst hne
        have R0 := hide' (show Two2 w3 wr u5 (.slice none 0 0) (ordN E L 0).1 (ordN E L 0).2 from ⟨by have := hr.out; rw [HLD.out] at this; exact this, ⟨hr.out.b, World.ownsRow_nil _ _ _ _⟩, fun g _ => by simp [Value.ownBlock]⟩)
        clear hr T0
        go_wp2_with fail
        obtain ⟨wl, rfl⟩ : ∃ wl, wl = wr := ⟨_, rfl⟩
        go_loopw [5, 9] (fun v o wr => ∃ n : Nat, n ≤ L.length ∧ Hid (Two2 w3 wr v o (ordN E L n).1 (ordN E L n).2)) (fun v _ _ => lenS v)
        case atStart => exact ⟨0, Nat.zero_le _, R0.out⟩
        case round =>
          clear R0
          obtain ⟨n, hn, hr⟩ := hrel
          have hs := HST.out n hn
          have HFN := hide' (HFI.out n)
          have HNN := hide' (HNE.out n)
          have HLS := hide' (show ∀ x ∈ (ordN E L n).1, 0 ≤ x ∧ x ≤ 99 from fun x hx => HI2.out x (HSB.out n x hx))
          have HOUT := hide' (show n = L.length → rl = (ordN E L n).2 from fun e => by rw [e]; exact HRR.out)
          have HDR := hide' (show ∀ k, (ordN E L n).1.find? (freeB E (ordN E L n).1) = some k → (dropL (ordN E L n).1 k).length + 1 = (ordN E L n).1.length from fun k hk => drop_one (HRI.out n) (List.mem_of_find?_eq_some hk))
          generalize hLL : (ordN E L n).1 = LL at *
          generalize hLO : (ordN E L n).2 = LO at *
          obtain ⟨A5, c5, e5⟩ := own_shape_z hr.out.l.o
          obtain ⟨A9, c9, e9⟩ := own_shape_z hr.out.r.o
          subst e5
          subst e9
          by_cases hne : LL = []
          · subst hne
            have hnL : n = L.length := by simpa using hs.1
            have HO := hide' (HOUT.out hnL)
            go_wp2_with fail
            go_ret2
            exact ⟨_, by rw [HOB.out]; rfl, by rw [HO.out]; exact ⟨B3.out.trans (hr.out.r.b.mono B3.out.size), own_less hr.out.r.o B3.out.size⟩⟩
          · obtain ⟨k0, hk0⟩ := HFN.out hne
            obtain ⟨i0, hi0, hk1, hk2, hk3⟩ := find_at hk0
            have HK1 := hide' hk1
            have HK2 := hide' hk2
            have HK3 := hide' hk3
            have HN1 := hide' (show (ordN E L (n + 1)).1 = dropL LL k0 ∧ (ordN E L (n + 1)).2 = LO ++ [k0] from by
              have := HNN.out k0 hk0
              rw [this]; exact ⟨rfl, rfl⟩)
            have HD1 := hide' (HDR.out k0 hk0)
            have hpos : 0 < LL.length := List.length_pos_iff.2 hne
            have hposI : (0 : Int) < LL.length := by omega
            have hLLn : LL.length ≤ 100 := by omega
            have hLLi : (LL.length : Int) ≤ 100 := by omega
            have hn1 : n + 1 ≤ L.length := by omega
            have hLOn : LO.length ≤ 100 := by omega
            have HLOn := hide' hLOn
            clear HFN HNN HLS HOUT HDR hk0 hk1 hk2 hk3 hLL hLO hs hn hne HST HFI HNE HRI HSB hpos hLOn
            go_wp2_with fail
            generalize decide (0 < LL.length) = q40
            go_loopw [5, 9, 43] (fun v5 v9 x wx => ∃ j : Nat, j ≤ i0 ∧ x = .int .i64 j ∧ v5 = .slice A5 LL.length c5 ∧ v9 = .slice A9 LO.length c9 ∧ Hid (Two2 w3 wx (.slice A5 LL.length c5) (.slice A9 LO.length c9) LL LO)) (fun _ _ x _ => LL.length - (intOf x).toNat)
            case atStart => exact ⟨0, Nat.zero_le _, rfl, rfl, rfl, hr.out⟩
            case round =>
              clear hr
              obtain ⟨j, hj, rfl, rfl, rfl, hr⟩ := hrel
              have hjl : j < LL.length := by omega
              have hji : (j : Int) < LL.length := by omega
              obtain ⟨g5, eg⟩ : ∃ g5, A5 = some ⟨g5, 0, none⟩ := by
                rcases hr.out.l.o.2 with ⟨e, h0⟩ | ⟨g, c, cur, e, -⟩
                · omega
                · injection e with e1 e2 e3; exact ⟨g, e1⟩
              subst eg
              have e0 := hr.out.l.o.cellAt j (by omega)
              have hbm : (LL.map iv)[j]? = some (iv LL[j]) := by rw [List.getElem?_map, List.getElem?_eq_getElem hjl]; rfl
              rw [hbm] at e0
              unfold iv at e0
              have HKJ := hide' (show (j = i0 → LL[j] = k0) ∧ freeB E LL LL[j] = decide (j = i0) from by
                by_cases e : j = i0
                · subst e; exact ⟨fun _ => HK1.out, by rw [HK2.out]; simp⟩
                · exact ⟨fun h => absurd h e, by rw [HK3.out j hjl (by omega), decide_eq_false e]⟩)
              generalize LL[j] = kj at e0 HKJ
              clear hbm
              go_wp2_with fail
              have F0 := hide' (show ((E.take 0).all fun p => decide (p.2 ≠ kj ∨ p.1 ∉ LL)) = true from rfl)
              go_loopw [12, 49] (fun f x wx => ∃ m : Nat, m ≤ E.length ∧ x = .int .i64 m ∧ f = .bool ((E.take m).all fun p => decide (p.2 ≠ kj ∨ p.1 ∉ LL)) ∧ wx = wr) (fun _ x _ => E.length - (intOf x).toNat)
              case atStart => exact ⟨0, Nat.zero_le _, rfl, rfl, rfl⟩
              case round =>
                obtain ⟨m, hm, rfl, rfl, rfl⟩ := hrel
                by_cases hml : m < E.length
                · have hmi : (m : Int) < E.length := by omega
                  have HAT := hide' (all_take (q := fun p => decide (p.2 ≠ kj ∨ p.1 ∉ LL)) hml)
                  have hP := P3.out.keep hr.out.l.b
                  obtain ⟨bp, op, hR, hcp⟩ := hP
                  have hR2 := hR (by intro h; rw [h] at hml; simp at hml)
                  subst hR2
                  obtain ⟨b2, o2, cp2, d0, d1, d2⟩ := hcp m hml
                  clear hcp hR
                  have HL1 := hide' (fun x => l1has_any (some ⟨g5, 0, none⟩) LL c5 x (by omega) wr (by
                    obtain ⟨A', c', e', hL'⟩ := hr.out.l.open (by omega)
                    injection e' with e1 e2 e3
                    subst e1
                    exact hL'))
                  generalize E[m] = p at d1 d2 HAT
                  obtain ⟨pa, pb⟩ := p
                  simp only at d1 d2
                  have HH := HL1.out pa
                  clear HL1
                  generalize ((E.take m).all fun p => decide (p.2 ≠ kj ∨ p.1 ∉ LL)) = f at *
                  simp only at HAT
                  generalize hh : decide (pa ∈ LL) = hb at HH
                  have HHB := hide' hh
                  clear hh
                  cases f
                  · have HA3 := hide' (show ((E.take (m + 1)).all fun p => decide (p.2 ≠ kj ∨ p.1 ∉ LL)) = false by rw [HAT.out, Bool.false_and])
                    clear HAT HH
                    go_wp2_with fail
                    go_roundw
                    case rel => exact ⟨m + 1, by omega, by go_num, by rw [HA3.out], by trivial⟩
                    case measure => simp [intOf]; omega
                  · by_cases hpk : pb = kj
                    · have HA3 := hide' (show ((E.take (m + 1)).all fun p => decide (p.2 ≠ kj ∨ p.1 ∉ LL)) = !hb by rw [HAT.out, ← HHB.out]; simp [hpk])
                      have hpk2 : (pb == kj) = true := by simpa using hpk
                      clear HAT
                      go_wp2_with (go_at_call 43; refine HH.mono ?_; rintro e w4 ⟨rfl, rfl⟩)
                      go_roundw
                      case rel => exact ⟨m + 1, by omega, by go_num, by rw [HA3.out], by trivial⟩
                      case measure => simp [intOf]; omega
                    · have HA3 := hide' (show ((E.take (m + 1)).all fun p => decide (p.2 ≠ kj ∨ p.1 ∉ LL)) = true by rw [HAT.out]; simp [hpk])
                      have hpk2 : (pb == kj) = false := by simpa using hpk
                      clear HAT HH
                      go_wp2_with fail
                      go_roundw
                      case rel => exact ⟨m + 1, by omega, by go_num, by rw [HA3.out], by trivial⟩
                      case measure => simp [intOf]; omega
                · have hme : m = E.length := by omega
                  subst hme
                  rw [List.take_length]
                  have HF := hide' (show (E.all fun p => decide (p.2 ≠ kj ∨ p.1 ∉ LL)) = decide (j = i0) from HKJ.out.2)
                  rw [HF.out]
                  by_cases e : j = i0
                  · have hkk := HKJ.out.1 e
                    have hd : decide (j = i0) = true := decide_eq_true e
                    rw [hd]
                    clear e hd HF HKJ F0
                    subst hkk
                    have hZ := hr.out.r.b.size
                    have hLOz := HLOn.out
                    have HM := hide' (fun (w5 : World) (hg : (wr.alloc (.cells #[.int .i64 kj] 3)).grownBy w5 (Value.slice A9 LO.length c9).ownBlock) => hr.out.mid hg)
                    have HDD := hide' (fun (w5 : World) (hg : (wr.alloc (.cells #[.int .i64 kj] 3)).grownBy w5 (Value.slice A9 LO.length c9).ownBlock) => l7drop_any (some ⟨g5, 0, none⟩) LL c5 kj (by omega) w5 (by
                      obtain ⟨A', c', e', hL'⟩ := (hr.out.mid hg).open (by omega)
                      injection e' with e1 e2 e3
                      subst e1
                      exact hL'))
                    go_wp2_with (first
                      | (at_builtin; refine wpList_append_own_at _ rfl _ _ 24 rfl w3.heap.size 3 ii (.int .i64 0) 1 8 Try.underlying24 hi hz0 hz1 hz2 rfl (by decide) _ _ _ rfl (hr.out.r.o.alloc _) ⟨wr.heap.size, 0, none⟩ 1 1 [iv kj] rfl rfl (cell_one_new _ _ _) (by intro u hu; simp at hu; subst hu; rfl) (by unfold maxLen; omega) (by omega) (by simp; omega) ?_; intro v' w5 hown5 hg5 hnil5 hblk5; have O5 := hide' hown5; have G5 := hide' hg5; clear hown5 hnil5 hblk5; go_frame)
                      | (go_at_call 58; refine (HDD.out _ G5.out).mono ?_; rintro e w6 ⟨v6, rfl, hr6⟩))
                    obtain ⟨A6, c6, e6⟩ := own_shape_z hr6.o
                    subst e6
                    go_roundw
                    case rel => exact ⟨n + 1, hn1, by rw [HN1.out.1, HN1.out.2]; exact hr.out.step O5.out G5.out hr6⟩
                    case measure => simp only [lenS]; have := HD1.out; omega
                  · have hd : decide (j = i0) = false := decide_eq_false e
                    have hj2 : j + 1 ≤ i0 := by omega
                    rw [hd]
                    clear e hd HF HKJ F0
                    go_wp2_with fail
                    go_roundw
                    case rel => exact ⟨j + 1, hj2, by go_num, rfl, rfl, hr.out⟩
                    case measure => simp [intOf]; omega
end Go.Proofs.Ytmflbibogkebmaa
