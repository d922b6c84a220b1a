/- impl.locksBy. spec.l7Held: the locks that a thread has. -/
import Derived.Test.YtclnnboaehpolaaVr
import Derived.Test.YtclnnboaehpolaaQd
import Derived.Deep.QuietTactic
import Derived.BigQuiet
import Derived.Test.YtclnnboaehpolaaPv
namespace Go.Proofs.Ytclnnboaehpolaa
open Go.RowKit Go.Maps
open Rd Fl

/-- The map in block M has the locks that th has behind k events as its keys. -/
structure LkM (t : List EvD) (th : Int) (w wr : World) (k : Nat) : Prop where
  b : Below w.heap.size w wr
  m : ∃ n f, MapV wr w.heap.size n f ∧ n ≤ k ∧ KeysAre f (heldTo t th k)
theorem LkM.keep {t : List EvD} {th : Int} {w wr wy : World} {k : Nat} (h : LkM t th w wr k) (hb : Below wr.heap.size wr wy) : LkM t th w wy k := by
  obtain ⟨n, f, h1, h2, h3⟩ := h.m
  exact ⟨h.b.trans (hb.mono h.b.size), n, f, h1.keep hb, h2, h3⟩
theorem LkM.none {t : List EvD} {th : Int} {w wr : World} {k : Nat} (h : LkM t th w wr k) (e : ¬ (evA t k).th = th) : LkM t th w wr (k + 1) := by
  obtain ⟨n, f, h1, h2, h3⟩ := h.m
  exact ⟨h.b, n, f, h1, by omega, by rw [heldTo_no e]; exact h3⟩

theorem cell_lt {w : World} {N o : Nat} {v : Value} (h : w.cell? ⟨N, o, none⟩ = some v) : N < w.heap.size := by
  rcases Nat.lt_or_ge N w.heap.size with h1 | h1
  · exact h1
  · exfalso
    simp [World.cell?, Array.getElem?_eq_none h1] at h
theorem EvBox.lt {w : World} {N : Nat} {a0 a1 a2 a3 a4 : Int} (h : EvBox w N a0 a1 a2 a3 a4) : N < w.heap.size := cell_lt h.1
theorem EvBox.row {w w' : World} {N : Nat} {a0 a1 a2 a3 a4 : Int} (h : EvBox w N a0 a1 a2 a3 a4) {b : Nat} (hg : w.grownBy w' (some b)) (hne : N ≠ b) (hlt : N < w.heap.size) : EvBox w' N a0 a1 a2 a3 a4 := by
  have e := hg.block N hlt (fun e => hne (Option.some.inj e))
  have k : ∀ o, w'.cell? ⟨N, o, none⟩ = w.cell? ⟨N, o, none⟩ := fun o => by unfold World.cell?; simp only; rw [e]
  obtain ⟨h0, h1, h2, h3, h4⟩ := h
  exact ⟨(k 0).trans h0, (k 1).trans h1, (k 2).trans h2, (k 3).trans h3, (k 4).trans h4⟩

end Go.Proofs.Ytclnnboaehpolaa
namespace Go.Proofs.Ytclnnboaehpolaa
open Go.RowKit Go.Maps
open Rd Fl

theorem dropL_take_no {l : List Int} {n : Int} {k : Nat} (hk : k < l.length) (h : l[k] = n) : dropL (l.take (k + 1)) n = dropL (l.take k) n := by
  unfold dropL
  rw [List.take_succ_eq_append_getElem hk, List.filter_append, h]
  simp
theorem dropL_take_yes {l : List Int} {n : Int} {k : Nat} (hk : k < l.length) (h : ¬ l[k] = n) : dropL (l.take (k + 1)) n = dropL (l.take k) n ++ [l[k]] := by
  unfold dropL
  rw [List.take_succ_eq_append_getElem hk, List.filter_append]
  simp [h]
theorem dropL_len (l : List Int) (n : Int) : (dropL l n).length ≤ l.length := List.length_filter_le _ _

theorem Rsp.open {w wr : World} {v : Value} {l : List Int} (h : Rsp w v l wr) (hl : l.length ≤ 1000) : ∃ A cap, v = .slice A l.length cap ∧ LAt iv wr A l := by
  obtain ⟨A, M, cap, h1, -, -, -, h2⟩ := resi_open (resi_of h.o hl)
  exact ⟨A, cap, h1, h2⟩
theorem Rsp.on {w wr w2 : World} {v v' : Value} {l l' : List Int} (h : Rsp w v l wr) (h' : Rsp wr v' l' w2) : Rsp w v' l' w2 := ⟨h.b.trans (h'.b.mono h.b.size), own_less h'.o h.b.size⟩
theorem heldA_yes {l : List Int} {e : EvD} (h : 0 ≤ tkE e) : heldA l e = putR l (tkE e) := by unfold heldA; rw [if_pos h]
theorem heldA_no {l : List Int} {e : EvD} (h : ¬ 0 ≤ tkE e) : heldA l e = l := by unfold heldA; rw [if_neg h]
theorem heldS_yes {l : List Int} {e : EvD} (h : 0 ≤ gvE e) : heldS l e = dropL (heldA l e) (gvE e) := by unfold heldS; rw [if_pos h]
theorem heldS_no {l : List Int} {e : EvD} (h : ¬ 0 ≤ gvE e) : heldS l e = heldA l e := by unfold heldS; rw [if_neg h]

end Go.Proofs.Ytclnnboaehpolaa
