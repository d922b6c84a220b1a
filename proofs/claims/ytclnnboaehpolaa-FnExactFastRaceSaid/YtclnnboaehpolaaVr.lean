/- The keys of a map, rising. The keys of a great map, rising. -/
import Derived.Test.YtclnnboaehpolaaVn
import Derived.Test.YtclnnboaehpolaaRi
namespace Go.Proofs.Ytclnnboaehpolaa
open Go.RowKit Go.Maps
open Rd Fl

theorem sort_rises {l : List Int} (h : l.Nodup) : (l.mergeSort fun x y => decide (x ≤ y)).Pairwise (· < ·) := by
  have hp := List.mergeSort_perm l (fun x y => decide (x ≤ y))
  have hs := List.pairwise_mergeSort (le := fun x y : Int => decide (x ≤ y)) (fun a b c h1 h2 => by simp at *; omega) (fun a b => by simp; omega) l
  have hn := List.nodup_iff_pairwise_ne.1 (hp.nodup_iff.2 h)
  exact (hs.and hn).imp fun {a b} h => by have := h.1; have := h.2; simp at *; omega
theorem intInfo : ∃ i, Try.prog.info? 3 = some i ∧ i.zero = some (.int .i64 0) ∧ i.size = 1 ∧ i.bytes = 8 := info_parts (by kernel_rfl : (Try.prog.info? 3).map (fun i => (i.zero, i.size, i.bytes)) = some (some (.int .i64 0), 1, 8))
theorem under3 : Try.prog.underlying 3 = some (.int .i64) := by kernel_rfl

end Go.Proofs.Ytclnnboaehpolaa
namespace Go.Proofs.Ytclnnboaehpolaa
open Go.RowKit Go.Maps
open Rd Fl

end Go.Proofs.Ytclnnboaehpolaa
