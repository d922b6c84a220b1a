/- The specification's clocks, walked. -/
import Derived.Test.YtmflbibogkebmaaQu
import Derived.Deep.DeepCutAuto
namespace Go.Proofs.Ytmflbibogkebmaa
open Go.RowKit
open Rd Fl

theorem rowss_lt' {ls : List (List Int)} {w : World} {lo : Nat} {v : Value} {Ms : List Nat} (h : RowSS ls w lo v Ms) : ∀ M ∈ Ms, M < w.heap.size := by
  intro M hM
  obtain ⟨i, hi, rfl⟩ := List.mem_iff_getElem.1 hM
  exact (h.c i Ms[i] (ls[i]'(by rw [← h.n]; exact hi)) (List.getElem?_eq_getElem hi) (List.getElem?_eq_getElem _)).2.1
end Go.Proofs.Ytmflbibogkebmaa
