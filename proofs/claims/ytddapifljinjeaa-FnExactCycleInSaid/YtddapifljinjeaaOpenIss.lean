/- A list of lists of ints that comes in. -/
import Derived.Test.YtddapifljinjeaaIx
import Derived.Deep.Matrix
namespace Go.Proofs.Ytddapifljinjeaa
open Go.RowKit
open Rd Fl

theorem ccells3 : Try.prog.cellsOf 3 = 1 := by kernel_rfl
theorem ccellsI : Try.prog.cellsOf 23 = 1 := by kernel_rfl
theorem getElem?_range_mapI {α : Type} {f : Nat → α} {n i : Nat} {x : α} (h : ((List.range n).map f)[i]? = some x) : i < n ∧ f i = x := by
  rw [List.getElem?_map] at h
  cases hi : (List.range n)[i]? with
  | none => rw [hi] at h; cases h
  | some k =>
    rw [hi] at h
    obtain ⟨h1, h2⟩ := List.getElem?_eq_some_iff.1 hi
    simp at h1 h2
    subst h2
    exact ⟨h1, by simpa using h⟩
theorem iss_in {H : Type} {enc : TypeId × Value → H} {w : World} {base : Nat} {held : Bool} {fuel : Nat} {cs : List Value} {x : DataW H × List MemPlace}
    (h : DataW.trod enc Try.prog w base (fun _ => true) held fuel 45 cs = some x) :
    ∃ (R : Option Addr) (es : List (List Int)) (cap : Nat), cs = [.slice R es.length cap] ∧ IssAt w R es ∧ es.length ≤ 9223372036854775807 ∧ (∀ l ∈ es, l.length ≤ 9223372036854775807) := by
  rcases Go.Deep.open_int_rows Try.underlying45 Try.underlying23 Try.underlying3 ccellsI ccells3 h with ⟨rfl, -⟩ | ⟨a, len, cap, A, L, C, Z, rfl, -, hlc, hcm, -, hr⟩
  · exact ⟨none, [], 0, rfl, ⟨0, 0, fun h => absurd rfl h, fun i l hl => by cases hl⟩, by simp, fun l hl => by cases hl⟩
  · have hlen : ((List.range len).map fun r => (Z r).take (L r)).length = len := by simp
    have hL : ∀ r, r < cap → ((Z r).take (L r)).length = L r := fun r hr' => by obtain ⟨-, h2, -, h4, -⟩ := hr r hr'; rw [List.length_take]; omega
    obtain ⟨ab, aoff, spot⟩ := a
    have hspot : 0 < cap → spot = none := fun h0 => by simpa [Addr.add] using World.cell?_spot (hr 0 h0).1
    refine ⟨some ⟨ab, aoff, spot⟩, (List.range len).map fun r => (Z r).take (L r), cap, by rw [hlen], ⟨ab, aoff, fun hne => ?_, fun i l hl => ?_⟩, by rw [hlen]; unfold maxLen at hcm; omega, fun l hl => ?_⟩
    · have h0 : 0 < len := by
        rcases Nat.eq_zero_or_pos len with h | h
        · exact absurd (by rw [h]; rfl) hne
        · exact h
      rw [hspot (by omega)]
    · obtain ⟨hi, rfl⟩ := getElem?_range_mapI hl
      obtain ⟨h1, h2, h3, h4, -, h6, h7⟩ := hr i (by omega)
      rw [hspot (by omega), Addr.add_mid] at h1
      refine ⟨A i, C i, by rw [hL i (by omega)]; exact h1, ?_⟩
      cases hA : A i with
      | none =>
        have := h6 hA
        have e : (Z i).take (L i) = [] := by rw [show L i = 0 by omega]; rfl
        rw [e]
        exact ⟨0, 0, fun h => absurd rfl h, fun j y hy => by cases hy⟩
      | some a' =>
        obtain ⟨b', o', sp'⟩ := a'
        have h8 := (h7 _ hA).2
        refine ⟨b', o', fun hne => ?_, fun j y hy => ?_⟩
        · have hc0 : 0 < C i := by
            rcases Nat.eq_zero_or_pos (C i) with h | h
            · exact absurd (by rw [show L i = 0 by omega]; rfl) hne
            · exact h
          have : sp' = none := by simpa [Addr.add] using World.cell?_spot (h8 0 hc0)
          rw [this]
        · obtain ⟨hj, hy'⟩ := List.getElem?_eq_some_iff.1 hy
          rw [List.length_take] at hj
          have h9 := h8 j (by omega)
          have : sp' = none := by simpa [Addr.add] using World.cell?_spot (h8 0 (by omega))
          rw [this, Addr.add_mid] at h9
          rw [h9]
          rw [List.getElem_take] at hy'
          simp [List.getD, List.getElem?_eq_getElem (show j < (Z i).length by omega), hy', iv]
    · obtain ⟨r, hr', rfl⟩ := List.mem_map.1 hl
      have hr2 : r < len := by simpa using hr'
      rw [hL r (by omega)]
      obtain ⟨-, h2, h3, -⟩ := hr r (by omega)
      unfold maxLen at h3
      omega
end Go.Proofs.Ytddapifljinjeaa
