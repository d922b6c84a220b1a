/- FastRace: data, and what the code's two maps hold. -/
import Derived.Test.YtclnnboaehpolaaVxc
import Derived.Test.YtclnnboaehpolaaQw
import Derived.Test.YtclnnboaehpolaaVtb
namespace Go.Proofs.Ytclnnboaehpolaa
open Go.RowKit Go.Maps
open Rd Fl

def ckI (t : List EvD) (k : Nat) (i : Int) : Int := ((clk t k i : Nat) : Int)
/-- the last store of a cell ahead of place k: its thread, and how many events of that thread there were -/
def stTo (t : List EvD) : Nat → Int → Int × Int
  | 0, _ => (0, 0)
  | k + 1, x => if (evA t k).kd = 3 ∧ (evA t k).ob = x then ((evA t k).th, ckI t k (evA t k).th) else stTo t k x
/-- the last loads of a cell since then, by thread -/
def ldTo (t : List EvD) : Nat → Int → Int → Int
  | 0, _, _ => 0
  | k + 1, x, i => if (evA t k).kd = 3 ∧ (evA t k).ob = x then 0 else if (evA t k).kd = 2 ∧ (evA t k).ob = x ∧ (evA t k).th = i then ckI t k i else ldTo t k x i
/-- a race is found at place k -/
def fastB (t : List EvD) (k : Nat) : Bool :=
  decide ((stTo t k (evA t k).ob).2 > ckI t k (stTo t k (evA t k).ob).1) || (!((evA t k).kd == 2) && (decide (ldTo t k (evA t k).ob 0 > ckI t k 0) || (decide (ldTo t k (evA t k).ob 1 > ckI t k 1) || (decide (ldTo t k (evA t k).ob 2 > ckI t k 2) || (decide (ldTo t k (evA t k).ob 3 > ckI t k 3) || decide (ldTo t k (evA t k).ob 4 > ckI t k 4))))))
def fstB (t : List EvD) (k : Nat) : Bool := tchB (evA t k) && fastB t k
/-- what FastRace tells -/
def fastN (t : List EvD) : Int × Int × Bool := if goodTr t = true then (match (List.range t.length).find? (fstB t) with
  | some k => ((evA t k).ob, (k : Int), true)
  | none => (0, 0, false)) else (0, 0, false)
theorem fastN_no {t : List EvD} (h : goodTr t = false) : fastN t = (0, 0, false) := by unfold fastN; rw [if_neg (by rw [h]; simp)]
theorem find_first {p : Nat → Bool} {n k : Nat} (hk : k < n) (hp : p k = true) (hlow : ∀ j, j < k → p j = false) : (List.range n).find? p = some k := by
  rw [List.find?_range_eq_some]
  exact ⟨hp, List.mem_range.2 hk, fun j hj => by rw [hlow j hj]; rfl⟩
theorem fastN_at {t : List EvD} (hg : goodTr t = true) {k : Nat} (hk : k < t.length) (hp : fstB t k = true) (hlow : ∀ j, j < k → fstB t j = false) : fastN t = ((evA t k).ob, (k : Int), true) := by
  unfold fastN
  rw [if_pos hg, find_first hk hp hlow]
theorem fastN_end {t : List EvD} (hg : goodTr t = true) (hlow : ∀ j, j < t.length → fstB t j = false) : fastN t = (0, 0, false) := by
  unfold fastN
  rw [if_pos hg, List.find?_eq_none.2 (fun j hj => by rw [hlow j (List.mem_range.1 hj)]; simp)]
theorem stTo_no {t : List EvD} {k : Nat} {x : Int} (h : ¬ ((evA t k).kd = 3 ∧ (evA t k).ob = x)) : stTo t (k + 1) x = stTo t k x := by
  conv => lhs; unfold stTo
  rw [if_neg h]
theorem stTo_yes {t : List EvD} {k : Nat} {x : Int} (h : (evA t k).kd = 3 ∧ (evA t k).ob = x) : stTo t (k + 1) x = ((evA t k).th, ckI t k (evA t k).th) := by
  conv => lhs; unfold stTo
  rw [if_pos h]
theorem ldTo_st {t : List EvD} {k : Nat} {x : Int} (h : (evA t k).kd = 3 ∧ (evA t k).ob = x) (i : Int) : ldTo t (k + 1) x i = 0 := by
  conv => lhs; unfold ldTo
  rw [if_pos h]
theorem ldTo_ld {t : List EvD} {k : Nat} {x : Int} (h : (evA t k).kd = 2 ∧ (evA t k).ob = x) (i : Int) : ldTo t (k + 1) x i = if (evA t k).th = i then ckI t k i else ldTo t k x i := by
  conv => lhs; unfold ldTo
  rw [if_neg (by rintro ⟨a, -⟩; have := h.1; omega)]
  by_cases e : (evA t k).th = i
  · rw [if_pos ⟨h.1, h.2, e⟩, if_pos e]
  · rw [if_neg (fun a => e a.2.2), if_neg e]
theorem ldTo_no {t : List EvD} {k : Nat} {x : Int} (h : ¬ (tchB (evA t k) = true ∧ (evA t k).ob = x)) (i : Int) : ldTo t (k + 1) x i = ldTo t k x i := by
  have hb : tchB (evA t k) = true ↔ ((evA t k).kd = 2 ∨ (evA t k).kd = 3) := by unfold tchB; rw [Bool.or_eq_true, beq_iff_eq, beq_iff_eq]
  conv => lhs; unfold ldTo
  rw [if_neg (fun a => h ⟨hb.2 (.inr a.1), a.2⟩), if_neg (fun a => h ⟨hb.2 (.inl a.1), a.2.1⟩)]
theorem stTo_th {t : List EvD} (hg : goodTr t = true) : ∀ k, k ≤ t.length → ∀ x, 0 ≤ (stTo t k x).1 ∧ (stTo t k x).1 ≤ 4
  | 0, _, x => by simp [stTo]
  | k + 1, hk, x => by
    by_cases h : (evA t k).kd = 3 ∧ (evA t k).ob = x
    · rw [stTo_yes h]
      have hge : goodEv (evA t k) = true := by rw [evA_get (by omega)]; exact good_ev hg (by omega)
      have := goodev_all hge
      simp only
      omega
    · rw [stTo_no h]; exact stTo_th hg k (by omega) x

def LsAt (o : Option Value) (s : Int × Int) : Prop := o.getD (.agg #[.int .i64 0, .int .i64 0]) = .agg #[.int .i64 s.1, .int .i64 s.2]
def LdAt (o : Option Value) (d : Int → Int) : Prop := o.getD (.agg #[.int .i64 0, .int .i64 0, .int .i64 0, .int .i64 0, .int .i64 0]) = .agg #[.int .i64 (d 0), .int .i64 (d 1), .int .i64 (d 2), .int .i64 (d 3), .int .i64 (d 4)]
/-- The two maps hold what is known of the cells ahead of place k. -/
structure FsM (t : List EvD) (w wr : World) (M1 M2 k : Nat) : Prop where
  b : Below w.heap.size w wr
  m : ∃ n1 n2 f1 f2, MapV wr M1 n1 f1 ∧ MapV wr M2 n2 f2 ∧ n1 ≤ k ∧ n2 ≤ k ∧ ∀ x, wfI x → LsAt (f1 x) (stTo t k x) ∧ LdAt (f2 x) (ldTo t k x)
theorem FsM.keep {t : List EvD} {w wr wy : World} {M1 M2 k : Nat} (h : FsM t w wr M1 M2 k) (hb : Below wr.heap.size wr wy) : FsM t w wy M1 M2 k := by
  obtain ⟨n1, n2, f1, f2, h1, h2, h3⟩ := h.m
  exact ⟨h.b.trans (hb.mono h.b.size), n1, n2, f1, f2, h1.keep hb, h2.keep hb, h3⟩
theorem FsM.none {t : List EvD} {w wr : World} {M1 M2 k : Nat} (h : FsM t w wr M1 M2 k) (ht : tchB (evA t k) = false) : FsM t w wr M1 M2 (k + 1) := by
  obtain ⟨n1, n2, f1, f2, h1, h2, h3, h4, h5⟩ := h.m
  have hb : tchB (evA t k) = true ↔ ((evA t k).kd = 2 ∨ (evA t k).kd = 3) := by unfold tchB; rw [Bool.or_eq_true, beq_iff_eq, beq_iff_eq]
  refine ⟨h.b, n1, n2, f1, f2, h1, h2, by omega, by omega, fun x hx => ?_⟩
  have hs : stTo t (k + 1) x = stTo t k x := stTo_no (fun a => by have := hb.2 (.inr a.1); rw [ht] at this; cases this)
  have hl : ldTo t (k + 1) x = ldTo t k x := funext fun i => ldTo_no (fun a => by rw [ht] at a; cases a.1) i
  rw [hs, hl]
  exact h5 x hx
theorem FsM.store {t : List EvD} {w wr w4 : World} {M1 M2 k n1 n2 : Nat} {f1 f2 : Int → Option Value} (hb : Below w.heap.size w wr) (h3 : n1 ≤ k) (h4 : n2 ≤ k) (h5 : ∀ x, wfI x → LsAt (f1 x) (stTo t k x) ∧ LdAt (f2 x) (ldTo t k x))
    (hk : (evA t k).kd = 3) {th : Nat} (hth : (evA t k).th = (th : Int)) {c : Int} (hc : (evA t k).ob = c) (hb4 : Below w.heap.size wr w4)
    (hm1 : MapV w4 M1 (n1 + 1) (putF f1 c (.agg #[.int .i64 (th : Int), .int .i64 (ckI t k (th : Int))]))) (hm2 : MapV w4 M2 n2 (delF f2 c)) : FsM t w w4 M1 M2 (k + 1) := by
  refine ⟨hb.trans hb4, n1 + 1, n2, _, _, hm1, hm2, by omega, by omega, fun x hx => ?_⟩
  unfold putF delF
  by_cases e : x = c
  · subst e
    rw [if_pos rfl, if_pos rfl, stTo_yes ⟨hk, hc⟩, hth]
    refine ⟨rfl, ?_⟩
    unfold LdAt
    rw [ldTo_st ⟨hk, hc⟩, ldTo_st ⟨hk, hc⟩, ldTo_st ⟨hk, hc⟩, ldTo_st ⟨hk, hc⟩, ldTo_st ⟨hk, hc⟩]; rfl
  · rw [if_neg e, if_neg e, stTo_no (fun a => e (a.2.symm.trans hc)), show ldTo t (k + 1) x = ldTo t k x from funext fun i => ldTo_no (fun a => e (a.2.symm.trans hc)) i]
    exact h5 x hx
theorem FsM.load {t : List EvD} {w wr w4 : World} {M1 M2 k n1 n2 : Nat} {f1 f2 : Int → Option Value} (hb : Below w.heap.size w wr) (h3 : n1 ≤ k) (h4 : n2 ≤ k) (h5 : ∀ x, wfI x → LsAt (f1 x) (stTo t k x) ∧ LdAt (f2 x) (ldTo t k x))
    (hk : (evA t k).kd = 2) {th : Nat} (hth : (evA t k).th = (th : Int)) {c : Int} (hc : (evA t k).ob = c) (hb4 : Below w.heap.size wr w4)
    (hm1 : MapV w4 M1 n1 f1) (hm2 : MapV w4 M2 (n2 + 1) (putF f2 c (set5 th (ckI t k (th : Int)) (ldTo t k c 0) (ldTo t k c 1) (ldTo t k c 2) (ldTo t k c 3) (ldTo t k c 4)))) : FsM t w w4 M1 M2 (k + 1) := by
  refine ⟨hb.trans hb4, n1, n2 + 1, _, _, hm1, hm2, by omega, by omega, fun x hx => ?_⟩
  unfold putF
  have hs : stTo t (k + 1) x = stTo t k x := stTo_no (fun a => by have := a.1; omega)
  rw [hs]
  by_cases e : x = c
  · subst e
    rw [if_pos rfl]
    refine ⟨(h5 x hx).1, ?_⟩
    unfold LdAt set5
    simp only [Option.getD_some]
    rw [ldTo_ld ⟨hk, hc⟩, ldTo_ld ⟨hk, hc⟩, ldTo_ld ⟨hk, hc⟩, ldTo_ld ⟨hk, hc⟩, ldTo_ld ⟨hk, hc⟩, hth]
    congr 1
    have one : ∀ (i : Nat), (if th = i then ckI t k (th : Int) else ldTo t k x (i : Int)) = (if (th : Int) = (i : Int) then ckI t k (i : Int) else ldTo t k x (i : Int)) := by
      intro i
      by_cases e2 : th = i
      · subst e2; rw [if_pos rfl, if_pos rfl]
      · rw [if_neg e2, if_neg (by omega)]
    have o0 := one 0
    have o1 := one 1
    have o2 := one 2
    have o3 := one 3
    have o4 := one 4
    simp only [Int.cast_ofNat_Int] at o0 o1 o2 o3 o4
    rw [o0, o1, o2, o3, o4]
  · rw [if_neg e, show ldTo t (k + 1) x = ldTo t k x from funext fun i => ldTo_no (fun a => e (a.2.symm.trans hc)) i]
    exact h5 x hx
end Go.Proofs.Ytclnnboaehpolaa
