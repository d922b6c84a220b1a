/- FastRace: the specification's rows in memory. FastRace: a row appended, a row written. -/
import Derived.Test.YtclnnboaehpolaaVxh
import Derived.Test.YtclnnboaehpolaaRnB
namespace Go.Proofs.Ytclnnboaehpolaa
open Go.RowKit Go.Maps
open Rd Fl

/-- a row: the cell, who stored last and at what count, and the loads since in a block of their own -/
def cellR (t : List EvD) (k : Nat) (M : Int → Nat) (c : Int) : List Value := [iv c, iv (stTo t k c).1, iv (stTo t k c).2, .slice (some ⟨M c, 0, none⟩) 5 5]
def cellsR (t : List EvD) (k : Nat) (M : Int → Nat) (l : List Int) : List Value := l.flatMap (cellR t k M)
def loadsR (t : List EvD) (k : Nat) (c : Int) : List Value := [iv (ldTo t k c 0), iv (ldTo t k c 1), iv (ldTo t k c 2), iv (ldTo t k c 3), iv (ldTo t k c 4)]
theorem cellsR_len (t : List EvD) (k : Nat) (M : Int → Nat) (l : List Int) : (cellsR t k M l).length = l.length * 4 := by
  unfold cellsR
  induction l with
  | nil => rfl
  | cons o r ih => rw [List.flatMap_cons, List.length_append, ih]; simp [cellR]; omega
theorem cellsR_get (t : List EvD) (k : Nat) (M : Int → Nat) (l : List Int) : ∀ (i j : Nat) (c : Int), l[i]? = some c → j < 4 → (cellsR t k M l)[i * 4 + j]? = (cellR t k M c)[j]? := by
  unfold cellsR
  induction l with
  | nil => intro i j c h; cases h
  | cons x r ih =>
    intro i j c h hj
    have hx : (cellR t k M x).length = 4 := rfl
    rw [List.flatMap_cons]
    cases i with
    | zero =>
      have e : x = c := by simpa using h
      subst e
      rw [List.getElem?_append_left (by omega)]
      congr 1; omega
    | succ i =>
      rw [List.getElem?_append_right (by omega), hx, show (i + 1) * 4 + j - 4 = i * 4 + j by omega]
      exact ih i j c (by simpa using h) hj

/-- The rows of the cells l hold what is known of them ahead of place k. -/
structure FsR (t : List EvD) (w wr : World) (k : Nat) (l : List Int) (v : Value) : Prop where
  b : Below w.heap.size w wr
  m : ∃ M : Int → Nat, wr.ownsRow w.heap.size 40 4 v l.length (cellsR t k M l) ∧
    (∀ c, c ∈ l → wr.ownsRow w.heap.size 3 1 (.slice (some ⟨M c, 0, none⟩) 5 5) 5 (loadsR t k c) ∧ v.ownBlock ≠ some (M c)) ∧
    (∀ c c', c ∈ l → c' ∈ l → c ≠ c' → M c ≠ M c')
theorem FsR.keep {t : List EvD} {w wr wy : World} {k : Nat} {l : List Int} {v : Value} (h : FsR t w wr k l v) (hb : Below wr.heap.size wr wy) : FsR t w wy k l v := by
  obtain ⟨M, h1, h2, h3⟩ := h.m
  exact ⟨h.b.trans (hb.mono h.b.size), M, own_keep h1 hb, fun c hc => ⟨own_keep (h2 c hc).1 hb, (h2 c hc).2⟩, h3⟩
theorem FsR.skip {t : List EvD} {w wr : World} {k : Nat} {l : List Int} {v : Value} (h : FsR t w wr k l v) (ht : tchB (evA t k) = false) : FsR t w wr (k + 1) l v := by
  obtain ⟨M, h1, h2, h3⟩ := h.m
  have hb : tchB (evA t k) = true ↔ ((evA t k).kd = 2 ∨ (evA t k).kd = 3) := by unfold tchB; rw [Bool.or_eq_true, beq_iff_eq, beq_iff_eq]
  have hs : stTo t (k + 1) = stTo t k := funext fun x => stTo_no (fun a => by have := hb.2 (.inr a.1); rw [ht] at this; cases this)
  have hl : ldTo t (k + 1) = ldTo t k := funext fun x => funext fun i => ldTo_no (fun a => by rw [ht] at a; cases a.1) i
  have hc : cellsR t (k + 1) M = cellsR t k M := by unfold cellsR cellR; rw [hs]
  have hd : loadsR t (k + 1) = loadsR t k := by unfold loadsR; rw [hl]
  refine ⟨h.b, M, ?_, ?_, h3⟩
  · rw [hc]; exact h1
  · rw [hd]; exact h2
theorem FsR.start {t : List EvD} {w wr : World} (hb : Below w.heap.size w wr) : FsR t w wr 0 [] (.slice none 0 0) :=
  ⟨hb, fun _ => 0, World.ownsRow_nil _ _ _ _, fun c hc => absurd hc (by simp), fun c _ hc => absurd hc (by simp)⟩
theorem loadsR_put {t : List EvD} {k : Nat} {x : Int} (hk : (evA t k).kd = 2) (hx : (evA t k).ob = x) {th : Nat} (hth : (evA t k).th = (th : Int)) (h5 : th < 5) : loadsR t (k + 1) x = (loadsR t k x).set th (iv (ckI t k (th : Int))) := by
  have q := ldTo_ld (t := t) (k := k) ⟨hk, hx⟩
  unfold loadsR
  rw [q, q, q, q, q, hth]
  match th, h5 with
  | 0, _ => rfl
  | 1, _ => rfl
  | 2, _ => rfl
  | 3, _ => rfl
  | 4, _ => rfl
theorem loadsR_off {t : List EvD} {k : Nat} {x c : Int} (hx : (evA t k).ob = x) (hc : c ≠ x) : loadsR t (k + 1) c = loadsR t k c := by
  have q := fun i => ldTo_no (t := t) (k := k) (x := c) (fun a => hc (a.2.symm.trans hx)) i
  unfold loadsR
  rw [q, q, q, q, q]
/-- A load noted: one of a row's five written. -/
theorem FsR.load {t : List EvD} {w wr : World} {k : Nat} {l : List Int} {v : Value} {M : Int → Nat} (hb : Below w.heap.size w wr) (h1 : wr.ownsRow w.heap.size 40 4 v l.length (cellsR t k M l))
    (h2 : ∀ c, c ∈ l → wr.ownsRow w.heap.size 3 1 (.slice (some ⟨M c, 0, none⟩) 5 5) 5 (loadsR t k c) ∧ v.ownBlock ≠ some (M c)) (h3 : ∀ c c', c ∈ l → c' ∈ l → c ≠ c' → M c ≠ M c')
    (hk : (evA t k).kd = 2) {x : Int} (hx : (evA t k).ob = x) (hm : x ∈ l) {th : Nat} (hth : (evA t k).th = (th : Int)) (h5 : th < 5) :
    FsR t w (wr.setCell ⟨M x, th, none⟩ (iv (ckI t k (th : Int)))) (k + 1) l v := by
  obtain ⟨o1, o2⟩ := h2 x hm
  have hs : stTo t (k + 1) = stTo t k := funext fun y => stTo_no (fun a => by have := a.1; omega)
  have hc : cellsR t (k + 1) M = cellsR t k M := by unfold cellsR cellR; rw [hs]
  obtain ⟨p1, p2⟩ := o1.stored th (iv (ckI t k (th : Int)))
  have hlo := (o1.lt (M x) rfl).1
  refine ⟨Below.grown hb p2 hb.size (fun j hj => by cases hj; exact hlo), M, ?_, fun c hcm => ?_, h3⟩
  · rw [hc]; exact ownsRow_setCell_other h1 (a := ⟨M x, th, none⟩) o2 _
  · refine ⟨?_, (h2 c hcm).2⟩
    by_cases e : c = x
    · subst e
      rw [loadsR_put hk hx hth h5]
      exact p1
    · rw [loadsR_off hx e]
      exact ownsRow_setCell_other (h2 c hcm).1 (a := ⟨M x, th, none⟩) (fun a => h3 c x hcm hm e (Option.some.inj a)) _
/-- one row, opened -/
theorem cell_at {t : List EvD} {w wr : World} {k B cap : Nat} {M : Int → Nat} {l : List Int} (h : wr.ownsRow w.heap.size 40 4 (.slice (some ⟨B, 0, none⟩) l.length cap) l.length (cellsR t k M l)) {i : Nat} {c : Int} (hi : l[i]? = some c) :
    CellAt wr B (i * 4) c (stTo t k c).1 (stTo t k c).2 (.slice (some ⟨M c, 0, none⟩) 5 5) := by
  have hlt : i < l.length := (List.getElem?_eq_some_iff.1 hi).1
  have g := fun j (hj : j < 4) => (h.cellAt (i * 4 + j) (by omega)).trans (cellsR_get t k M l i j c hi hj)
  exact ⟨g 0 (by omega), g 1 (by omega), g 2 (by omega), g 3 (by omega)⟩
theorem loads_at {t : List EvD} {w wr : World} {k B : Nat} {c : Int} (h : wr.ownsRow w.heap.size 3 1 (.slice (some ⟨B, 0, none⟩) 5 5) 5 (loadsR t k c)) : FiveAt wr B 0 (ldTo t k c 0) (ldTo t k c 1) (ldTo t k c 2) (ldTo t k c 3) (ldTo t k c 4) := by
  have g := fun j (hj : j < 5) => h.cellAt j (by omega)
  exact ⟨g 0 (by omega), g 1 (by omega), g 2 (by omega), g 3 (by omega), g 4 (by omega)⟩
end Go.Proofs.Ytclnnboaehpolaa
namespace Go.Proofs.Ytclnnboaehpolaa
open Go.RowKit Go.Maps
open Rd Fl

def putM (M : Int → Nat) (x : Int) (L : Nat) : Int → Nat := fun c => if c = x then L else M c
theorem putM_at (M : Int → Nat) (x : Int) (L : Nat) : putM M x L x = L := if_pos rfl
theorem putM_ne {M : Int → Nat} {x c : Int} {L : Nat} (h : c ≠ x) : putM M x L c = M c := if_neg h
/-- A new row appended: of a cell that was not met. -/
theorem FsR.add {t : List EvD} {w wr w3 : World} {k : Nat} {l : List Int} {v v' : Value} {M : Int → Nat} (hb : Below w.heap.size w wr) (h1 : wr.ownsRow w.heap.size 40 4 v l.length (cellsR t k M l))
    (h2 : ∀ c, c ∈ l → wr.ownsRow w.heap.size 3 1 (.slice (some ⟨M c, 0, none⟩) 5 5) 5 (loadsR t k c) ∧ v.ownBlock ≠ some (M c)) (h3 : ∀ c c', c ∈ l → c' ∈ l → c ≠ c' → M c ≠ M c')
    {x : Int} (hx : x ∉ l) (hs : stTo t k x = (0, 0)) (hd : ∀ i, ldTo t k x i = 0) {L : Nat} (hL : wr.ownsRow w.heap.size 3 1 (.slice (some ⟨L, 0, none⟩) 5 5) 5 [iv 0, iv 0, iv 0, iv 0, iv 0])
    (hLn : ∀ c, c ∈ l → M c ≠ L) (hvL : v.ownBlock ≠ some L) (hown : w3.ownsRow w.heap.size 40 4 v' (l.length + 1) (cellsR t k M l ++ [iv x, iv 0, iv 0, .slice (some ⟨L, 0, none⟩) 5 5]))
    (hg : wr.grownBy w3 v.ownBlock) (hv : v'.ownBlock = v.ownBlock ∨ ∃ m, wr.heap.size ≤ m ∧ v'.ownBlock = some m) : FsR t w w3 k (l ++ [x]) v' := by
  have hM : ∀ c, c ∈ l → putM M x L c = M c := fun c hc => putM_ne (fun e => hx (e ▸ hc))
  have hMx : putM M x L x = L := putM_at M x L
  have off : ∀ N, N < wr.heap.size → v.ownBlock ≠ some N → v'.ownBlock ≠ some N := fun N hN hne e => by
    rcases hv with h | ⟨m, hm, h⟩
    · exact hne (h ▸ e)
    · rw [h] at e; have := Option.some.inj e; omega
  refine ⟨Below.grown hb hg hb.size (fun j hj => (h1.lt j hj).1), (putM M x L), ?_, fun c hc => ?_, fun c c' hc hc' hne => ?_⟩
  · have e : cellsR t k (putM M x L) (l ++ [x]) = cellsR t k M l ++ [iv x, iv 0, iv 0, .slice (some ⟨L, 0, none⟩) 5 5] := by
      unfold cellsR
      rw [List.flatMap_append]
      congr 1
      · have go : ∀ m : List Int, (∀ c, c ∈ m → c ∈ l) → m.flatMap (cellR t k (putM M x L)) = m.flatMap (cellR t k M) := by
          intro m
          induction m with
          | nil => intro _; rfl
          | cons c r ih =>
            intro hm
            rw [List.flatMap_cons, List.flatMap_cons, ih (fun y hy => hm y (List.mem_cons_of_mem _ hy))]
            congr 1
            unfold cellR
            rw [hM c (hm c (List.mem_cons_self ..))]
        exact go l (fun _ h => h)
      · rw [List.flatMap_cons, List.flatMap_nil, List.append_nil]
        unfold cellR
        rw [hMx, hs]
    rw [e, List.length_append]
    exact hown
  · rw [List.mem_append, List.mem_singleton] at hc
    rcases hc with hc | rfl
    · rw [hM c hc]
      obtain ⟨o1, o2⟩ := h2 c hc
      exact ⟨o1.kept hg (.inr (fun e => o2 e.symm)), off _ (o1.lt (M c) rfl).2 o2⟩
    · rw [hMx]
      have e : loadsR t k c = [iv 0, iv 0, iv 0, iv 0, iv 0] := by unfold loadsR; rw [hd, hd, hd, hd, hd]
      rw [e]
      exact ⟨hL.kept hg (.inr (fun e => hvL e.symm)), off _ (hL.lt L rfl).2 hvL⟩
  · rw [List.mem_append, List.mem_singleton] at hc hc'
    rcases hc with hc | rfl
    · rw [hM c hc]
      rcases hc' with hc' | rfl
      · rw [hM c' hc']; exact h3 c c' hc hc' hne
      · rw [hMx]; exact hLn c hc
    · rw [hMx]
      rcases hc' with hc' | rfl
      · rw [hM c' hc']; exact fun e => hLn c' hc' e.symm
      · exact absurd rfl hne

theorem cellsR_put {t : List EvD} {k k' : Nat} {M M' : Int → Nat} {l : List Int} (hnd : l.Nodup) {i : Nat} {x : Int} (hi : l[i]? = some x) {a b c d : Value} (hnew : cellR t k' M' x = [a, b, c, d])
    (hoff : ∀ y, y ∈ l → y ≠ x → cellR t k' M' y = cellR t k M y) : cellsR t k' M' l = ((((cellsR t k M l).set (i * 4) a).set (i * 4 + 1) b).set (i * 4 + 2) c).set (i * 4 + 3) d := by
  have hil := (List.getElem?_eq_some_iff.1 hi).1
  have hlen := cellsR_len t k M l
  apply List.ext_getElem?
  intro n
  obtain ⟨q, r, hr, rfl⟩ : ∃ q r, r < 4 ∧ n = q * 4 + r := ⟨n / 4, n % 4, by omega, by omega⟩
  by_cases hq : q < l.length
  · have hc := List.getElem?_eq_getElem hq
    rw [cellsR_get _ _ _ _ q r _ hc hr]
    by_cases e : q = i
    · subst e
      have ex : l[q] = x := by rw [hc] at hi; exact Option.some.inj hi
      rw [ex, hnew]
      rcases (show r = 0 ∨ r = 1 ∨ r = 2 ∨ r = 3 by omega) with rfl | rfl | rfl | rfl
      · rw [List.getElem?_set_ne (by omega), List.getElem?_set_ne (by omega), List.getElem?_set_ne (by omega)]
        exact (List.getElem?_set_self (by omega)).symm
      · rw [List.getElem?_set_ne (by omega), List.getElem?_set_ne (by omega), List.getElem?_set_self (by simp; omega)]; rfl
      · rw [List.getElem?_set_ne (by omega), List.getElem?_set_self (by simp; omega)]; rfl
      · rw [List.getElem?_set_self (by simp; omega)]; rfl
    · have hne : l[q] ≠ x := fun e2 => by
        have hx2 : l[i] = x := by rw [List.getElem?_eq_getElem hil] at hi; exact Option.some.inj hi
        rcases Nat.lt_or_gt_of_ne e with h | h
        · exact (List.pairwise_iff_getElem.1 hnd) q i hq hil h (e2.trans hx2.symm)
        · exact (List.pairwise_iff_getElem.1 hnd) i q hil hq h (hx2.trans e2.symm)
      rw [hoff _ (List.getElem_mem hq) hne, ← cellsR_get t k M l q r _ hc hr]
      rw [List.getElem?_set_ne (by omega), List.getElem?_set_ne (by omega), List.getElem?_set_ne (by omega), List.getElem?_set_ne (by omega)]
  · rw [List.getElem?_eq_none (by rw [cellsR_len]; omega), List.getElem?_eq_none (by simp; omega)]
theorem loadsR_store {t : List EvD} {k : Nat} {x : Int} (hk : (evA t k).kd = 3) (hx : (evA t k).ob = x) : loadsR t (k + 1) x = [iv 0, iv 0, iv 0, iv 0, iv 0] := by
  have q := ldTo_st (t := t) (k := k) ⟨hk, hx⟩
  unfold loadsR
  rw [q, q, q, q, q]
/-- A store noted: a row written whole, its loads in a new block. -/
theorem FsR.store {t : List EvD} {w wr : World} {k B cap : Nat} {l : List Int} {M : Int → Nat} (hb : Below w.heap.size w wr) (h1 : wr.ownsRow w.heap.size 40 4 (.slice (some ⟨B, 0, none⟩) l.length cap) l.length (cellsR t k M l))
    (h2 : ∀ c, c ∈ l → wr.ownsRow w.heap.size 3 1 (.slice (some ⟨M c, 0, none⟩) 5 5) 5 (loadsR t k c) ∧ (Value.slice (some ⟨B, 0, none⟩) l.length cap).ownBlock ≠ some (M c)) (h3 : ∀ c c', c ∈ l → c' ∈ l → c ≠ c' → M c ≠ M c')
    (hnd : l.Nodup) (hk : (evA t k).kd = 3) {x : Int} (hx : (evA t k).ob = x) {i : Nat} (hi : l[i]? = some x) {th : Nat} (hth : (evA t k).th = (th : Int))
    {L : Nat} (hL : wr.ownsRow w.heap.size 3 1 (.slice (some ⟨L, 0, none⟩) 5 5) 5 [iv 0, iv 0, iv 0, iv 0, iv 0]) (hLn : ∀ c, c ∈ l → M c ≠ L) (hBL : B ≠ L) :
    FsR t w ((((wr.setCell ⟨B, i * 4, none⟩ (iv x)).setCell ⟨B, i * 4 + 1, none⟩ (iv (th : Int))).setCell ⟨B, i * 4 + 2, none⟩ (iv (ckI t k (th : Int)))).setCell ⟨B, i * 4 + 3, none⟩ (.slice (some ⟨L, 0, none⟩) 5 5)) (k + 1) l (.slice (some ⟨B, 0, none⟩) l.length cap) := by
  have hlo := (h1.lt B rfl).1
  obtain ⟨p1, g1⟩ := h1.stored (i * 4) (iv x)
  obtain ⟨p2, g2⟩ := p1.stored (i * 4 + 1) (iv (th : Int))
  obtain ⟨p3, g3⟩ := p2.stored (i * 4 + 2) (iv (ckI t k (th : Int)))
  obtain ⟨p4, g4⟩ := p3.stored (i * 4 + 3) (.slice (some ⟨L, 0, none⟩) 5 5)
  have lo : ∀ j, some B = some j → w.heap.size ≤ j := fun j hj => by cases hj; exact hlo
  have b1 := Below.grown hb g1 hb.size lo
  have b2 := Below.grown b1 g2 b1.size lo
  have b3 := Below.grown b2 g3 b2.size lo
  have b4 := Below.grown b3 g4 b3.size lo
  have four : ∀ {N : Nat} {xs : List Value}, N ≠ B → wr.ownsRow w.heap.size 3 1 (.slice (some ⟨N, 0, none⟩) 5 5) 5 xs → ((((wr.setCell ⟨B, i * 4, none⟩ (iv x)).setCell ⟨B, i * 4 + 1, none⟩ (iv (th : Int))).setCell ⟨B, i * 4 + 2, none⟩ (iv (ckI t k (th : Int)))).setCell ⟨B, i * 4 + 3, none⟩ (.slice (some ⟨L, 0, none⟩) 5 5)).ownsRow w.heap.size 3 1 (.slice (some ⟨N, 0, none⟩) 5 5) 5 xs := fun {N xs} hN o => by
    have hne : (Value.slice (some ⟨N, 0, none⟩) 5 5).ownBlock ≠ some B := fun e => hN (Option.some.inj e)
    exact (((o.kept g1 (.inr hne)).kept g2 (.inr hne)).kept g3 (.inr hne)).kept g4 (.inr hne)
  refine ⟨b4, putM M x L, ?_, fun c hc => ?_, fun c c' hc hc' hne => ?_⟩
  · rw [cellsR_put (M := M) (k := k) hnd hi (a := iv x) (b := iv (th : Int)) (c := iv (ckI t k (th : Int))) (d := .slice (some ⟨L, 0, none⟩) 5 5) (by unfold cellR; rw [stTo_yes ⟨hk, hx⟩, hth, putM_at]) (fun y hy hne => by
      unfold cellR
      rw [stTo_no (fun a => hne (a.2.symm.trans hx)), putM_ne hne])]
    exact p4
  · by_cases e : c = x
    · subst e; rw [putM_at, loadsR_store hk hx]
      exact ⟨four (fun a => hBL a.symm) hL, fun a => hBL (Option.some.inj a)⟩
    · rw [putM_ne e, loadsR_off hx e]
      obtain ⟨o1, o2⟩ := h2 c hc
      exact ⟨four (fun a => o2 (by rw [a]; rfl)) o1, o2⟩
  · by_cases e : c = x
    · rw [putM_ne (c := c') (fun a => hne (e.trans a.symm)), e, putM_at]
      exact fun a => hLn c' hc' a.symm
    · rw [putM_ne e]
      by_cases e2 : c' = x
      · rw [e2, putM_at]; exact hLn c hc
      · rw [putM_ne e2]; exact h3 c c' hc hc' hne
end Go.Proofs.Ytclnnboaehpolaa
