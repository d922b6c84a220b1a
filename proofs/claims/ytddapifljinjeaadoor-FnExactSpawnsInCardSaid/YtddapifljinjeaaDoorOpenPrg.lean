/- A program that comes in: what lies where. -/
import Derived.Test.YtddapifljinjeaaDoorOpenOp
import Derived.Test.YtddapifljinjeaaDoorPrg
import Derived.Deep.Slices
namespace Go.Proofs.YtddapifljinjeaaDoor
open Go.ChangeShapes Go.WideShapes Go.ChangeAt Go.RowKit
open Fl

theorem pcells3 : Tryd.prog.cellsOf 3 = 1 := by kernel_rfl
theorem pcellsSS : Tryd.prog.cellsOf 22 = 1 := by kernel_rfl
theorem pcellsS : Tryd.prog.cellsOf 52 = 1 := by kernel_rfl
theorem pcellsO : Tryd.prog.cellsOf 65 = 4 := by kernel_rfl

/-- What one list that comes in is: a slice's value, and the ops that lie there. -/
def OpsIn (w : World) (v : Value) (l : List OpD) : Prop :=
  ∃ A cap, v = .slice A l.length cap ∧ OpsAt w A l ∧ (∀ o ∈ l, o.r < 9223372036854775808) ∧ l.length ≤ 9223372036854775807

theorem maxLen_le {n : Nat} (h : n ≤ maxLen) : n ≤ 9223372036854775807 := by unfold maxLen at h; omega

theorem getElem?_range_map {α : Type} {n i : Nat} {f : Nat → α} {x : α} (h : ((List.range n).map f)[i]? = some x) : i < n ∧ x = f i := by
  obtain ⟨hi, e⟩ := List.getElem?_eq_some_iff.1 h
  simp at hi e
  exact ⟨hi, e.symm⟩

theorem ops_in {H : Type} {enc : TypeId × Value → H} {w : World} {base : Nat} {spare : Nat → Bool} {held : Bool} {fuel : Nat} {v : Value} {x : DataW H × List MemPlace}
    (h : DataW.trod enc Tryd.prog w base spare held fuel 52 [v] = some x) : ∃ l, OpsIn w v l := by
  rcases Go.Deep.open_slice Tryd.underlying52 h with ⟨hcs, _⟩ | ⟨a, len, cap, m, n, D, Pl, hcs, hb, hlc, hcm, hm, _, hx⟩
  · simp at hcs
    subst hcs
    exact ⟨[], none, 0, rfl, ⟨0, 0, fun h => absurd rfl h, fun i o hi => by simp at hi⟩, (fun o ho => by simp at ho), Nat.zero_le _⟩
  · simp at hcs
    subst hcs
    have hlm : len ≤ m := by rw [hm]; split <;> omega
    rw [pcellsO] at hx
    have hall : ∀ i, i < len → ∃ o : OpD, o.r < 9223372036854775808 ∧ ∀ j u, o.cells[j]? = some u → w.cell? ((a.add (i * 4)).add j) = some u := by
      intro i hi
      obtain ⟨cs', h1, h2⟩ := hx i (by omega)
      obtain ⟨_, hlen, hc⟩ := World.cells?_some h1
      obtain ⟨c, aa, b, s, r, hr, e, -, -, -⟩ := op_cells rfl pcellsO h2
      refine ⟨⟨c, aa, b, s, r⟩, hr, fun j u hu => ?_⟩
      have hj : j < 4 := (List.getElem?_eq_some_iff.1 hu).1
      rw [hc j hj, e]
      exact hu
    have : Inhabited OpD := ⟨⟨0, 0, 0, false, 0⟩⟩
    obtain ⟨f, hf⟩ := Go.Deep.choose_lt (p := fun i (o : OpD) => o.r < 9223372036854775808 ∧ ∀ j u, o.cells[j]? = some u → w.cell? ((a.add (i * 4)).add j) = some u) hall
    have hlen : ((List.range len).map f).length = len := by simp
    refine ⟨(List.range len).map f, some a, cap, by rw [hlen], ?_, ?_, by rw [hlen]; have := maxLen_le hcm; omega⟩
    · obtain ⟨ab, aoff, spot⟩ := a
      have hspot : 0 < len → spot = none := fun h0 => by simpa [Addr.add] using World.cell?_spot ((hf 0 h0).2 0 _ rfl)
      refine ⟨ab, aoff, fun hne => ?_, fun i o hi => ?_⟩
      · have h0 : 0 < len := by
          rcases Nat.eq_zero_or_pos len with h | h
          · exact absurd (by rw [h]; rfl) hne
          · exact h
        rw [hspot h0]
      · obtain ⟨hi1, rfl⟩ := getElem?_range_map hi
        intro j u hu
        have hc := (hf i hi1).2 j u hu
        rw [hspot (by omega), Addr.add_mid, Addr.add_mid] at hc
        exact hc
    · intro o ho
      rw [List.mem_map] at ho
      obtain ⟨i, hi, rfl⟩ := ho
      exact (hf i (by simpa using hi)).1

/-- A program that comes in: its numbers, and the routines that lie there. -/
theorem prog_in {H : Type} {enc : TypeId × Value → H} {w : World} {base : Nat} {spare : Nat → Bool} {held : Bool} {fuel : Nat} {cs : List Value} {x : DataW H × List MemPlace}
    (h : DataW.trod enc Tryd.prog w base spare held fuel 24 cs = some x) :
    ∃ (cl lk cd : Int) (R : Option Addr) (rs : List (List OpD)) (cap : Nat), cs = [.int .i64 cl, .int .i64 lk, .int .i64 cd, .slice R rs.length cap] ∧ RoutsAt w R rs ∧ rs.length ≤ 9223372036854775807 ∧ (∀ l ∈ rs, l.length ≤ 9223372036854775807) ∧ (∀ l ∈ rs, ∀ o ∈ l, o.r < 9223372036854775808) := by
  obtain ⟨y0, y1, y2, y3, n, hx, hl, h0, h1, h2, h3⟩ := Go.Joins.trod_struct4 Tryd.underlying24 h
  obtain ⟨cl, e0, _, _⟩ := DataW.trod_int Tryd.underlying3 h0
  obtain ⟨lk, e1, _, _⟩ := DataW.trod_int Tryd.underlying3 h1
  obtain ⟨cd, e2, _, _⟩ := DataW.trod_int Tryd.underlying3 h2
  rw [pcells3] at e0 e1 e2
  rw [show Tryd.prog.cellsOf 24 = 4 by kernel_rfl] at hl
  simp only [pcellsSS] at h3
  rcases Go.Deep.open_slice1 Tryd.underlying22 pcellsS h3 with ⟨e3, _⟩ | ⟨a, len, cap, m, n', V, D, Pl, e3, hb, hlc, hcm, hm, _, hel⟩
  · refine ⟨cl, lk, cd, none, [], 0, list4 hl (takeOne e0) (takeOne e1) (takeOne e2) (takeOne e3), ⟨0, 0, fun h => absurd rfl h, fun i o hi => by simp at hi⟩, Nat.zero_le _, (fun l hl => by simp at hl), fun l hl => by simp at hl⟩
  · have hlm : len ≤ m := by rw [hm]; split <;> omega
    have hall : ∀ i, i < len → ∃ l : List OpD, OpsIn w (V i) l ∧ w.cell? (a.add i) = some (V i) := by
      intro i hi
      obtain ⟨g1, g2⟩ := hel i (by omega)
      obtain ⟨l, hl⟩ := ops_in g2
      exact ⟨l, hl, g1⟩
    obtain ⟨f, hf⟩ := Go.Deep.choose_lt (p := fun i (l : List OpD) => OpsIn w (V i) l ∧ w.cell? (a.add i) = some (V i)) hall
    have hlen : ((List.range len).map f).length = len := by simp
    refine ⟨cl, lk, cd, some a, (List.range len).map f, cap, ?_, ?_, ?_, ?_, ?_⟩
    · rw [hlen]; exact list4 hl (takeOne e0) (takeOne e1) (takeOne e2) (takeOne e3)
    · obtain ⟨ab, aoff, spot⟩ := a
      have hspot : 0 < len → spot = none := fun h0 => by simpa [Addr.add] using World.cell?_spot (hf 0 h0).2
      refine ⟨ab, aoff, fun hne => ?_, fun i l hi => ?_⟩
      · have h0 : 0 < len := by
          rcases Nat.eq_zero_or_pos len with h | h
          · exact absurd (by rw [h]; rfl) hne
          · exact h
        rw [hspot h0]
      · obtain ⟨hi1, rfl⟩ := getElem?_range_map hi
        obtain ⟨⟨A, cap', hv, hops, -, -⟩, hc⟩ := hf i hi1
        rw [hspot (by omega), Addr.add_mid, hv] at hc
        exact ⟨A, cap', hc, hops⟩
    · rw [hlen]; have := maxLen_le hcm; omega
    · intro l hl
      rw [List.mem_map] at hl
      obtain ⟨i, hi, rfl⟩ := hl
      obtain ⟨⟨A, cap', hv, hops, -, hn⟩, hc⟩ := hf i (by simpa using hi)
      exact hn
    · intro l hl
      rw [List.mem_map] at hl
      obtain ⟨i, hi, rfl⟩ := hl
      obtain ⟨⟨A, cap', hv, hops, hn, -⟩, hc⟩ := hf i (by simpa using hi)
      exact hn
end Go.Proofs.YtddapifljinjeaaDoor
