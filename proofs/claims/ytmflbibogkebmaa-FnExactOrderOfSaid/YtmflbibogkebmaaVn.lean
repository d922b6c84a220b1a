/- Locks had by a thread: data. -/
import Derived.Test.YtmflbibogkebmaaQi
import Derived.Test.YtmflbibogkebmaaSpD
import Derived.Test.YtmflbibogkebmaaVm
namespace Go.Proofs.Ytmflbibogkebmaa
open Go.RowKit Go.Maps
open Rd Fl

def tkE (e : EvD) : Int := tk (-3) e.kd e.ob e.lk
def gvE (e : EvD) : Int := gv (-2) e.kd e.ob e.lk
/-- l without n -/
def dropL (l : List Int) (n : Int) : List Int := l.filter fun x => decide (x ≠ n)
/-- one event on: taken -/
def heldA (l : List Int) (e : EvD) : List Int := if 0 ≤ tkE e then putR l (tkE e) else l
/-- one event on: taken, then given -/
def heldS (l : List Int) (e : EvD) : List Int := if 0 ≤ gvE e then dropL (heldA l e) (gvE e) else heldA l e
/-- the locks that thread th has behind the first k events -/
def heldTo (t : List EvD) (th : Int) : Nat → List Int
  | 0 => []
  | k + 1 => if (evA t k).th = th then heldS (heldTo t th k) (evA t k) else heldTo t th k
/-- the locks that the thread of place i has by then -/
def heldN (t : List EvD) (i : Nat) : List Int := heldTo t (evA t i).th (i + 1)
theorem heldTo_yes {t : List EvD} {th : Int} {k : Nat} (h : (evA t k).th = th) : heldTo t th (k + 1) = heldS (heldTo t th k) (evA t k) := by
  conv => lhs; unfold heldTo
  rw [if_pos h]
theorem heldTo_no {t : List EvD} {th : Int} {k : Nat} (h : ¬ (evA t k).th = th) : heldTo t th (k + 1) = heldTo t th k := by
  conv => lhs; unfold heldTo
  rw [if_neg h]
theorem dropL_mem {l : List Int} {n x : Int} : x ∈ dropL l n ↔ x ∈ l ∧ x ≠ n := by
  unfold dropL
  rw [List.mem_filter, decide_eq_true_iff]
theorem dropL_none {l : List Int} {n : Int} (h : n ∉ l) : dropL l n = l := by
  unfold dropL
  rw [List.filter_eq_self]
  intro x hx
  exact decide_eq_true (fun e => h (e ▸ hx))
theorem heldA_mem {l : List Int} {e : EvD} {x : Int} : x ∈ heldA l e ↔ (0 ≤ tkE e ∧ x = tkE e) ∨ x ∈ l := by
  unfold heldA
  split
  · rename_i h; rw [putR_mem]; simp [h]
  · rename_i h; simp [h]
theorem heldS_mem {l : List Int} {e : EvD} {x : Int} : x ∈ heldS l e ↔ ((0 ≤ tkE e ∧ x = tkE e) ∨ x ∈ l) ∧ ¬ (0 ≤ gvE e ∧ x = gvE e) := by
  unfold heldS
  split
  · rename_i h; rw [dropL_mem, heldA_mem]; simp [h]
  · rename_i h; rw [heldA_mem]; simp [h]
theorem heldS_rises {l : List Int} {e : EvD} (h : l.Pairwise (· < ·)) : (heldS l e).Pairwise (· < ·) := by
  have h1 : (heldA l e).Pairwise (· < ·) := by
    unfold heldA
    split
    · exact putR_rises _ _ h
    · exact h
  unfold heldS
  split
  · unfold dropL; exact h1.filter _
  · exact h1
theorem heldTo_rises (t : List EvD) (th : Int) : ∀ k, (heldTo t th k).Pairwise (· < ·)
  | 0 => List.Pairwise.nil
  | k + 1 => by
    unfold heldTo
    split
    · exact heldS_rises (heldTo_rises t th k)
    · exact heldTo_rises t th k
theorem heldA_len (l : List Int) (e : EvD) : (heldA l e).length ≤ l.length + 1 := by
  unfold heldA
  split
  · exact putR_len _ _
  · omega
theorem heldTo_len (t : List EvD) (th : Int) : ∀ k, (heldTo t th k).length ≤ k
  | 0 => Nat.le_refl _
  | k + 1 => by
    have ih := heldTo_len t th k
    have h1 := heldA_len (heldTo t th k) (evA t k)
    unfold heldTo
    split
    · unfold heldS
      split
      · have := List.length_filter_le (fun x => decide (x ≠ gvE (evA t k))) (heldA (heldTo t th k) (evA t k))
        unfold dropL; omega
      · omega
    · omega
/-- Locks had are numbers from 0 to 99. -/
theorem tkE_good {e : EvD} (h : goodEv e = true) : (tkE e = -3 ∧ tk (-1) e.kd e.ob e.lk = -1) ∨ (0 ≤ tkE e ∧ tkE e ≤ 99 ∧ tk (-1) e.kd e.ob e.lk = tkE e) := by
  have := goodev_all h
  unfold tkE tk
  by_cases a : e.kd = 4
  · rw [if_pos a, if_pos a]; exact .inr (by omega)
  · by_cases b : e.kd = 9
    · rw [if_neg a, if_neg a, if_pos b, if_pos b]; exact .inr (by omega)
    · rw [if_neg a, if_neg a, if_neg b, if_neg b]; exact .inl (by omega)
theorem gvE_good {e : EvD} (h : goodEv e = true) : (gvE e = -2 ∧ gv (-1) e.kd e.ob e.lk = -1) ∨ (0 ≤ gvE e ∧ gvE e ≤ 99 ∧ gv (-1) e.kd e.ob e.lk = gvE e) := by
  have := goodev_all h
  unfold gvE gv
  by_cases a : e.kd = 5
  · rw [if_pos a, if_pos a]; exact .inr (by omega)
  · by_cases b : e.kd = 8
    · rw [if_neg a, if_neg a, if_pos b, if_pos b]; exact .inr (by omega)
    · rw [if_neg a, if_neg a, if_neg b, if_neg b]; exact .inl (by omega)
theorem heldTo_in {t : List EvD} (hg : goodTr t = true) (th : Int) : ∀ k, k ≤ t.length → ∀ x ∈ heldTo t th k, 0 ≤ x ∧ x ≤ 99
  | 0, _, x, h => by cases h
  | k + 1, hk, x, h => by
    have ih := heldTo_in hg th k (by omega)
    have hge := good_ev hg (i := k) (by omega)
    rw [← evA_get (by omega)] at hge
    unfold heldTo at h
    split at h
    · rw [heldS_mem] at h
      rcases h.1 with ⟨h1, rfl⟩ | h1
      · have := tkE_good hge; omega
      · exact ih x h1
    · exact ih x h

/-- The map's keys are the list's members. -/
def KeysAre (f : Int → Option Value) (l : List Int) : Prop := ∀ x, wfI x → ((f x).isSome = true ↔ x ∈ l)
theorem keys_none : KeysAre (fun _ => none) [] := fun x _ => by simp
theorem KeysAre.put {f : Int → Option Value} {l l' : List Int} (h : KeysAre f l) {x : Int} {v : Value} (hl : ∀ y, y ∈ l' ↔ y = x ∨ y ∈ l) : KeysAre (putF f x v) l' := by
  intro y hy
  unfold putF
  rw [hl y]
  by_cases e : y = x
  · rw [if_pos e]; simp [e]
  · rw [if_neg e, h y hy]; simp [e]
theorem KeysAre.del {f : Int → Option Value} {l l' : List Int} (h : KeysAre f l) {x : Int} (hl : ∀ y, y ∈ l' ↔ y ∈ l ∧ ¬ y = x) : KeysAre (delF f x) l' := by
  intro y hy
  unfold delF
  rw [hl y]
  by_cases e : y = x
  · rw [if_pos e]; simp [e]
  · rw [if_neg e, h y hy]; simp [e]
theorem heldTo_low {t : List EvD} (hg : goodTr t = true) {th : Int} {k : Nat} (hk : k ≤ t.length) : (-1 : Int) ∉ heldTo t th k := by
  intro h
  have := heldTo_in hg th k hk _ h
  omega
/-- One event of the thread on, as the code goes. -/
theorem keys_step {t : List EvD} (hg : goodTr t = true) {th : Int} {k : Nat} (hk : k < t.length) (hth : (evA t k).th = th) {f : Int → Option Value} (h : KeysAre f (heldTo t th k)) (v : Value) :
    (tk (-1) (evA t k).kd (evA t k).ob (evA t k).lk = -1 → KeysAre (delF f (gv (-1) (evA t k).kd (evA t k).ob (evA t k).lk)) (heldTo t th (k + 1))) ∧
    (¬ tk (-1) (evA t k).kd (evA t k).ob (evA t k).lk = -1 → KeysAre (delF (putF f (tk (-1) (evA t k).kd (evA t k).ob (evA t k).lk) v) (gv (-1) (evA t k).kd (evA t k).ob (evA t k).lk)) (heldTo t th (k + 1))) := by
  have hge : goodEv (evA t k) = true := by rw [evA_get hk]; exact good_ev hg hk
  have h1 := tkE_good hge
  have h2 := gvE_good hge
  have hlow := fun y => heldTo_in hg th k (by omega) y
  have hm := fun y => heldS_mem (l := heldTo t th k) (e := evA t k) (x := y)
  rw [heldTo_yes hth]
  generalize tk (-1) (evA t k).kd (evA t k).ob (evA t k).lk = x at *
  generalize gv (-1) (evA t k).kd (evA t k).ob (evA t k).lk = y at *
  generalize tkE (evA t k) = x' at *
  generalize gvE (evA t k) = y' at *
  generalize heldS (heldTo t th k) (evA t k) = L' at *
  generalize heldTo t th k = L at *
  constructor
  · intro hx z hz
    rw [hm z]
    have h3 := h z hz
    have h4 := hlow z
    unfold delF
    by_cases e : z = y
    · rw [if_pos e]
      simp only [Option.isSome_none, Bool.false_eq_true, false_iff]
      rintro ⟨a, b⟩
      rcases h2 with ⟨c, d⟩ | ⟨c, d, e2⟩
      · rcases a with ⟨a1, a2⟩ | a
        · omega
        · have := h4 a; omega
      · exact b ⟨c, by omega⟩
    · rw [if_neg e, h3]
      constructor
      · intro a; exact ⟨.inr a, fun b => e (by omega)⟩
      · rintro ⟨a | a, -⟩
        · omega
        · exact a
  · intro hx z hz
    rw [hm z]
    have h3 := h z hz
    have h4 := hlow z
    unfold delF putF
    by_cases e : z = y
    · rw [if_pos e]
      simp only [Option.isSome_none, Bool.false_eq_true, false_iff]
      rintro ⟨a, b⟩
      rcases h2 with ⟨c, d⟩ | ⟨c, d, e2⟩
      · rcases a with ⟨a1, a2⟩ | a
        · omega
        · have := h4 a; omega
      · exact b ⟨c, by omega⟩
    · rw [if_neg e]
      by_cases e2 : z = x
      · rw [if_pos e2]
        simp only [Option.isSome_some, true_iff]
        exact ⟨.inl (by omega), fun b => e (by omega)⟩
      · rw [if_neg e2, h3]
        constructor
        · intro a; exact ⟨.inr a, fun b => e (by omega)⟩
        · rintro ⟨a | a, -⟩
          · omega
          · exact a
theorem heldN_rises (t : List EvD) (i : Nat) : (heldN t i).Pairwise (· < ·) := heldTo_rises _ _ _
theorem heldN_len (t : List EvD) (i : Nat) : (heldN t i).length ≤ i + 1 := heldTo_len _ _ _
theorem wfI_small {x : Int} (h : -1 ≤ x) (h' : x ≤ 1000) : wfI x := wfI_of (by omega) (by omega)
/-- What has just these keys is that list. -/
theorem keys_eq {f : Int → Option Value} {l m : List Int} (h : KeysAre f l) (h' : KeysAre f m) (hl : l.Pairwise (· < ·)) (hm : m.Pairwise (· < ·)) (wl : ∀ x ∈ l, wfI x) (wm : ∀ x ∈ m, wfI x) : l = m :=
  rises_ext l m hl hm fun x => ⟨fun hx => (h' x (wl x hx)).1 ((h x (wl x hx)).2 hx), fun hx => (h x (wm x hx)).1 ((h' x (wm x hx)).2 hx)⟩
end Go.Proofs.Ytmflbibogkebmaa
