/- Lists of lists of ints: compared, marked, held. -/
import Derived.Test.YtclnnboaehpolaaRs
import Derived.Deep.RegionWith
namespace Go.Proofs.Ytclnnboaehpolaa
open Go.RowKit
open Rd Fl

/-- The lists ls lie from R on. -/
def LLAt (w : World) (R : Option Addr) (ls : List (List Int)) : Prop :=
  ∃ b off, (ls ≠ [] → R = some ⟨b, off, none⟩) ∧ ∀ i l, ls[i]? = some l → ∃ A cap, w.cell? ⟨b, off + i, none⟩ = some (.slice A l.length cap) ∧ LAt iv w A l

/-- how many numbers stand ahead of the i-th list -/
def offs (ls : List (List Int)) (i : Nat) : Nat := ((ls.take i).map List.length).sum
theorem offs_succ (ls : List (List Int)) (i : Nat) (h : i < ls.length) : offs ls (i + 1) = offs ls i + ls[i].length := by
  unfold offs
  rw [List.take_succ_eq_append_getElem h, List.map_append, List.sum_append]
  simp
theorem offs_le (ls : List (List Int)) (hls : ∀ l ∈ ls, l.length ≤ 1000) (i : Nat) : offs ls i ≤ 1000 * i := by
  induction i with
  | zero => simp [offs]
  | succ i ih =>
    by_cases h : i < ls.length
    · rw [offs_succ ls i h]; have := hls ls[i] (List.getElem_mem h); omega
    · have : offs ls (i + 1) = offs ls i := by unfold offs; rw [List.take_of_length_le (by omega), List.take_of_length_le (by omega)]
      omega

end Go.Proofs.Ytclnnboaehpolaa
