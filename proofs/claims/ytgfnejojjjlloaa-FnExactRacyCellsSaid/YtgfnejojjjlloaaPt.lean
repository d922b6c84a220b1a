/- spec.l1Put: a number put into a list that rises. -/
import Derived.Test.YtgfnejojjjlloaaRi
import Derived.Test.YtgfnejojjjlloaaSpD
import Derived.Maps.AppendAt
namespace Go.Proofs.Ytgfnejojjjlloaa
open Go.RowKit
open Rd Fl

theorem own_cells {w : World} {B : Nat} {g cap : Nat} {l : List Int} (h : w.ownsRow B 3 1 (.slice (some ⟨g, 0, none⟩) l.length cap) l.length (l.map iv)) : ∀ j (hj : j < l.length), w.cell? ⟨g, j, none⟩ = some (.int .i64 l[j]) := by
  intro j hj
  have hk := h.cellAt j (by omega)
  rw [hk, List.getElem?_map, List.getElem?_eq_getElem hj]; rfl

theorem one_iv (n : Int) : ∀ u ∈ [iv n], u.oneCell' = true := by
  intro u hu
  rw [List.mem_singleton] at hu
  subst hu
  rfl
theorem one_new (w : World) (n : Int) : ∀ j u, [iv n][j]? = some u → (w.alloc (.cells #[.int .i64 n] 3)).cell? ((⟨w.heap.size, 0, none⟩ : Addr).add j) = some u := cell_one_new w (iv n) 3

set_option maxRecDepth 20000 in
set_option maxHeartbeats 2000000 in
theorem l1put_nil (n : Int) (w : World) : Calls Try.prog 48 #[.slice none 0 0, .int .i64 n] w fun e w' => (∃ v', e = .returned v' ∧ w'.ownsRow w.heap.size 3 1 v' 1 [iv n]) ∧ Below w.heap.size w w' := by
  obtain ⟨i0, hi, hz0, hz1, hz2⟩ := inInfo
  go_enter Try.func48, Try.ntmps48
  go_wp2
  go_loop [5] (fun i => i = .int .i64 0) (fun _ => 0)
  case atStart => rfl
  case round =>
    subst hrel
    have C1 := hide' (show ∀ j u, [iv n][j]? = some u → ((w.alloc (.cells #[] 3)).alloc (.cells #[.int .i64 n] 3)).cell? ((⟨w.heap.size + 1, 0, none⟩ : Addr).add j) = some u by have := one_new (w.alloc (.cells #[] 3)) n; simpa using this)
    have HO := hide' (show (w.alloc (.cells #[] 3)).ownsRow w.heap.size 3 1 (.slice (some ⟨w.heap.size, 0, none⟩) 0 0) 0 [] from World.ownsRow_made w #[] 0 (Nat.le_refl _) (by unfold maxLen; omega) rfl)
    go_wp2_with (at_builtin; refine wpList_append_own _ rfl _ _ 41 rfl w.heap.size 3 i0 (.int .i64 0) 1 8 Try.underlying41 hi hz0 hz1 hz2 rfl (by decide) _ _ _ rfl (HO.out.alloc _) ⟨w.heap.size + 1, 0, none⟩ 1 1 [iv n] rfl rfl C1.out (one_iv n) (by unfold maxLen; omega) (by omega) (by simp; omega) ?_)
    intro v' w3 hown3 hgrow hnil
    have HB3 := hide' (Below.grown (below2 w (.cells #[] 3) (.cells #[.int .i64 n] 3)) hgrow (by simp; omega) (own_base' HO.out))
    clear hgrow
    have H3 := hide' (show w3.ownsRow w.heap.size 3 1 v' 1 [iv n] from hown3)
    rcases hown3.2 with ⟨h1, h2⟩ | ⟨g, cap, cur, rfl, hb, hg, hle, hm, hc⟩
    · exact absurd h1 hnil
    clear hown3 hnil hg hc hm hb
    go_wp2_with fail
    go_ret
    exact ⟨⟨_, rfl, H3.out⟩, HB3.out⟩

theorem iv_one (l : List Int) : ∀ u ∈ l.map iv, u.oneCell' = true := by
  intro u hu
  obtain ⟨x, -, rfl⟩ := List.mem_map.1 hu
  rfl
theorem iv_news {w : World} {g : Nat} {l : List Int} (hc : ∀ j (hj : j < l.length), w.cell? ⟨g, j, none⟩ = some (.int .i64 l[j])) (k m : Nat) : ∀ j u, (((l.drop k).take m).map iv)[j]? = some u → w.cell? ((⟨g, k, none⟩ : Addr).add j) = some u := by
  intro j u hu
  rw [List.getElem?_map] at hu
  cases hx : ((l.drop k).take m)[j]? with
  | none => rw [hx] at hu; cases hu
  | some x =>
    rw [hx] at hu
    have hu' : iv x = u := by simpa using hu
    have hjm : j < m := by
      have := (List.getElem?_eq_some_iff.1 hx).1
      simp at this; omega
    rw [List.getElem?_take_of_lt hjm, List.getElem?_drop] at hx
    obtain ⟨h1, h2⟩ := List.getElem?_eq_some_iff.1 hx
    have := hc (k + j) h1
    rw [h2] at this
    rw [← hu']
    rw [Addr.add_lit]; exact this
end Go.Proofs.Ytgfnejojjjlloaa
