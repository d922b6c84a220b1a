/- A state that comes in: what lies where. A run that comes in: what lies where. -/
import Derived.Test.YtmflbibogkebmaaOpenPrg
import Derived.Test.YtmflbibogkebmaaStF
import Derived.Test.YtmflbibogkebmaaRnB
namespace Go.Proofs.Ytmflbibogkebmaa
open Go.ChangeShapes Go.WideShapes Go.ChangeAt Go.RowKit
open Fl

theorem six_fields {H : Type} {enc : TypeId × Value → H} {P : Program} {w : World} {base : Nat} {spare : Nat → Bool} {held : Bool} {t : TypeId} {f0 f1 f2 f3 f4 f5 : Field} {fuel : Nat} {cs : List Value} {x : DataW H × List MemPlace} (ht : P.underlying t = some (.struct #[f0, f1, f2, f3, f4, f5])) (h : DataW.trod enc P w base spare held fuel t cs = some x) :
    ∃ y0 y1 y2 y3 y4 y5 n, cs.length = P.cellsOf t ∧ DataW.trod enc P w base spare held n f0.type ((cs.drop f0.offset).take (P.cellsOf f0.type)) = some y0 ∧ DataW.trod enc P w base spare held n f1.type ((cs.drop f1.offset).take (P.cellsOf f1.type)) = some y1 ∧ DataW.trod enc P w base spare held n f2.type ((cs.drop f2.offset).take (P.cellsOf f2.type)) = some y2 ∧
      DataW.trod enc P w base spare held n f3.type ((cs.drop f3.offset).take (P.cellsOf f3.type)) = some y3 ∧ DataW.trod enc P w base spare held n f4.type ((cs.drop f4.offset).take (P.cellsOf f4.type)) = some y4 ∧ DataW.trod enc P w base spare held n f5.type ((cs.drop f5.offset).take (P.cellsOf f5.type)) = some y5 := by
  obtain ⟨xs, n, _, rfl, hl, hlen, hf⟩ := DataW.trod_struct ht h
  match xs, hlen with
  | [y0, y1, y2, y3, y4, y5], _ => exact ⟨y0, y1, y2, y3, y4, y5, n, hl, by simpa using hf 0 f0 rfl, by simpa using hf 1 f1 rfl, by simpa using hf 2 f2 rfl, by simpa using hf 3 f3 rfl, by simpa using hf 4 f4 rfl, by simpa using hf 5 f5 rfl⟩
theorem list6 {l : List Value} {v0 v1 v2 v3 v4 v5 : Value} (hl : l.length = 6) (h0 : l[0]? = some v0) (h1 : l[1]? = some v1) (h2 : l[2]? = some v2) (h3 : l[3]? = some v3) (h4 : l[4]? = some v4) (h5 : l[5]? = some v5) : l = [v0, v1, v2, v3, v4, v5] := by
  match l, hl with
  | [x0, x1, x2, x3, x4, x5], _ =>
    simp at h0 h1 h2 h3 h4 h5
    rw [h0, h1, h2, h3, h4, h5]

theorem scells3 : Try.prog.cellsOf 3 = 1 := by kernel_rfl
theorem scellsIS : Try.prog.cellsOf 24 = 1 := by kernel_rfl
theorem at_of {α : Type} {f : α → Value} {w : World} {a : Addr} {len : Nat} {g : Nat → α} (hg : ∀ i, i < len → w.cell? (a.add i) = some (f (g i))) : LAt f w (some a) ((List.range len).map g) := by
  obtain ⟨ab, aoff, spot⟩ := a
  have hspot : 0 < len → spot = none := fun h0 => by simpa [Addr.add] using World.cell?_spot (hg 0 h0)
  refine ⟨ab, aoff, fun hne => ?_, fun i o hi => ?_⟩
  · have h0 : 0 < len := by
      rcases Nat.eq_zero_or_pos len with h | h
      · exact absurd (by rw [h]; rfl) hne
      · exact h
    rw [hspot h0]
  · obtain ⟨hi1, rfl⟩ := getElem?_range_map hi
    have hc := hg i hi1
    rw [hspot (by omega), Addr.add_mid] at hc
    exact hc

theorem ints_in {H : Type} {enc : TypeId × Value → H} {w : World} {base : Nat} {spare : Nat → Bool} {held : Bool} {fuel : Nat} {cs : List Value} {x : DataW H × List MemPlace}
    (h : DataW.trod enc Try.prog w base spare held fuel 24 cs = some x) : ∃ A l cap, cs = [.slice A l.length cap] ∧ LAt iv w A l ∧ l.length ≤ 9223372036854775807 := by
  rcases Go.Deep.open_slice1 Try.underlying24 scells3 h with ⟨e3, _⟩ | ⟨a, len, cap, m, n', V, D, Pl, e3, hb, hlc, hcm, hm, _, hel⟩
  · exact ⟨none, [], 0, e3, ⟨0, 0, fun h => absurd rfl h, fun i o hi => by simp at hi⟩, Nat.zero_le _⟩
  · have hlm : len ≤ m := by rw [hm]; split <;> omega
    have hall : ∀ i, i < len → ∃ o : Int, w.cell? (a.add i) = some (iv o) := by
      intro i hi
      obtain ⟨g1, g2⟩ := hel i (by omega)
      obtain ⟨v, e, _, _⟩ := DataW.trod_int Try.underlying3 g2
      simp at e
      exact ⟨v, by rw [g1, e]; rfl⟩
    obtain ⟨f, hf⟩ := Go.Deep.choose_lt (p := fun i (o : Int) => w.cell? (a.add i) = some (iv o)) hall
    have hlen : ((List.range len).map f).length = len := by simp
    exact ⟨some a, (List.range len).map f, cap, by rw [hlen]; exact e3, at_of fun i hi => hf i hi, by rw [hlen]; have := maxLen_le hcm; omega⟩

end Go.Proofs.Ytmflbibogkebmaa
namespace Go.Proofs.Ytmflbibogkebmaa
open Go.ChangeShapes Go.WideShapes Go.ChangeAt Go.RowKit
open Fl

theorem five_fields {H : Type} {enc : TypeId × Value → H} {P : Program} {w : World} {base : Nat} {spare : Nat → Bool} {held : Bool} {t : TypeId} {f0 f1 f2 f3 f4 : Field} {fuel : Nat} {cs : List Value} {x : DataW H × List MemPlace} (ht : P.underlying t = some (.struct #[f0, f1, f2, f3, f4])) (h : DataW.trod enc P w base spare held fuel t cs = some x) :
    ∃ y0 y1 y2 y3 y4 n, cs.length = P.cellsOf t ∧ DataW.trod enc P w base spare held n f0.type ((cs.drop f0.offset).take (P.cellsOf f0.type)) = some y0 ∧ DataW.trod enc P w base spare held n f1.type ((cs.drop f1.offset).take (P.cellsOf f1.type)) = some y1 ∧ DataW.trod enc P w base spare held n f2.type ((cs.drop f2.offset).take (P.cellsOf f2.type)) = some y2 ∧
      DataW.trod enc P w base spare held n f3.type ((cs.drop f3.offset).take (P.cellsOf f3.type)) = some y3 ∧ DataW.trod enc P w base spare held n f4.type ((cs.drop f4.offset).take (P.cellsOf f4.type)) = some y4 := by
  obtain ⟨xs, n, _, rfl, hl, hlen, hf⟩ := DataW.trod_struct ht h
  match xs, hlen with
  | [y0, y1, y2, y3, y4], _ => exact ⟨y0, y1, y2, y3, y4, n, hl, by simpa using hf 0 f0 rfl, by simpa using hf 1 f1 rfl, by simpa using hf 2 f2 rfl, by simpa using hf 3 f3 rfl, by simpa using hf 4 f4 rfl⟩
theorem list5 {l : List Value} {v0 v1 v2 v3 v4 : Value} (hl : l.length = 5) (h0 : l[0]? = some v0) (h1 : l[1]? = some v1) (h2 : l[2]? = some v2) (h3 : l[3]? = some v3) (h4 : l[4]? = some v4) : l = [v0, v1, v2, v3, v4] := by
  match l, hl with
  | [x0, x1, x2, x3, x4], _ =>
    simp at h0 h1 h2 h3 h4
    rw [h0, h1, h2, h3, h4]
theorem list7 {l : List Value} {v0 v1 v2 v3 v4 v5 v6 : Value} (hl : l.length = 7) (h0 : l[0]? = some v0) (h1 : l[1]? = some v1) (h2 : l[2]? = some v2) (h3 : (l.drop 3).take 4 = [v3, v4, v5, v6]) : l = [v0, v1, v2, v3, v4, v5, v6] := by
  match l, hl with
  | [x0, x1, x2, x3, x4, x5, x6], _ =>
    simp at h0 h1 h2 h3
    rw [h0, h1, h2, h3.1, h3.2.1, h3.2.2.1, h3.2.2.2]

theorem scellsE : Try.prog.cellsOf 52 = 5 := by kernel_rfl
theorem scellsES : Try.prog.cellsOf 22 = 1 := by kernel_rfl
theorem evs_in {H : Type} {enc : TypeId × Value → H} {w : World} {base : Nat} {spare : Nat → Bool} {held : Bool} {fuel : Nat} {cs : List Value} {x : DataW H × List MemPlace}
    (h : DataW.trod enc Try.prog w base spare held fuel 22 cs = some x) : ∃ A l cap, cs = [.slice A l.length cap] ∧ EvsAt w A l ∧ l.length ≤ 9223372036854775807 := by
  rcases Go.Deep.open_slice Try.underlying22 h with ⟨hcs, _⟩ | ⟨a, len, cap, m, n, D, Pl, hcs, hb, hlc, hcm, hm, _, hx⟩
  · exact ⟨none, [], 0, hcs, ⟨0, 0, fun h => absurd rfl h, fun i o hi => by simp at hi⟩, Nat.zero_le _⟩
  · have hlm : len ≤ m := by rw [hm]; split <;> omega
    rw [scellsE] at hx
    have hall : ∀ i, i < len → ∃ t : EvD, ∀ j u, t.cells[j]? = some u → w.cell? ((a.add (i * 5)).add j) = some u := by
      intro i hi
      obtain ⟨cs', h1, h2⟩ := hx i (by omega)
      obtain ⟨_, hlen, hc⟩ := World.cells?_some h1
      obtain ⟨y0, y1, y2, y3, y4, n', hl, g0, g1, g2, g3, g4⟩ := five_fields Try.underlying52 h2
      obtain ⟨r0, e0, _, _⟩ := DataW.trod_int Try.underlying3 g0
      obtain ⟨r1, e1, _, _⟩ := DataW.trod_int Try.underlying3 g1
      obtain ⟨r2, e2, _, _⟩ := DataW.trod_int Try.underlying3 g2
      obtain ⟨r3, e3, _, _⟩ := DataW.trod_int Try.underlying3 g3
      obtain ⟨r4, e4, _, _⟩ := DataW.trod_int Try.underlying3 g4
      rw [scells3] at e0 e1 e2 e3 e4
      rw [scellsE] at hl
      have e := list5 hl (takeOne e0) (takeOne e1) (takeOne e2) (takeOne e3) (takeOne e4)
      refine ⟨⟨r0, r1, r2, r3, r4⟩, fun j u hu => ?_⟩
      have hj : j < 5 := (List.getElem?_eq_some_iff.1 hu).1
      rw [hc j hj, e]
      exact hu
    have : Inhabited EvD := ⟨⟨0, 0, 0, 0, 0⟩⟩
    obtain ⟨f, hf⟩ := Go.Deep.choose_lt (p := fun i (t : EvD) => ∀ j u, t.cells[j]? = some u → w.cell? ((a.add (i * 5)).add j) = some u) hall
    have hlen : ((List.range len).map f).length = len := by simp
    refine ⟨some a, (List.range len).map f, cap, by rw [hlen]; exact hcs, ?_, by rw [hlen]; have := maxLen_le hcm; omega⟩
    obtain ⟨ab, aoff, spot⟩ := a
    have hspot : 0 < len → spot = none := fun h0 => by
      have h3 := hf 0 h0
      simpa [Addr.add] using World.cell?_spot (h3 0 _ rfl)
    refine ⟨ab, aoff, fun hne => ?_, fun i t hi => ?_⟩
    · have h0 : 0 < len := by
        rcases Nat.eq_zero_or_pos len with h | h
        · exact absurd (by rw [h]; rfl) hne
        · exact h
      rw [hspot h0]
    · obtain ⟨hi1, rfl⟩ := getElem?_range_map hi
      have h3 := hf i hi1
      intro j u hu
      have hc := h3 j u hu
      rw [hspot (by omega), Addr.add_mid, Addr.add_mid] at hc
      exact hc

end Go.Proofs.Ytmflbibogkebmaa
