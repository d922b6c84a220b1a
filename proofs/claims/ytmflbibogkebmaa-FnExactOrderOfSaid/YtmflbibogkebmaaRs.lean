/- Lists of lists of ints that a function makes: what lies where, and one more. -/
import Derived.Test.YtmflbibogkebmaaMl
import Derived.Test.YtmflbibogkebmaaStF
import Derived.Maps.AppendAt
namespace Go.Proofs.Ytmflbibogkebmaa
open Go.RowKit
open Rd Fl

def slV (M : Nat) (x : List Int) : Value := .slice (some ⟨M, 0, none⟩) x.length x.length
/-- The lists ls are what v tells: its cells lead to the blocks Ms, each list in one of its own. -/
structure RowSS (ls : List (List Int)) (w : World) (lo : Nat) (v : Value) (Ms : List Nat) : Prop where
  n : Ms.length = ls.length
  o : w.ownsRow lo 24 1 v ls.length (List.zipWith slV Ms ls)
  c : ∀ (i M : Nat) (x : List Int), Ms[i]? = some M → ls[i]? = some x → lo ≤ M ∧ M < w.heap.size ∧ LOwn iv w M x
  d : ∀ (i j M M' : Nat), i < j → Ms[i]? = some M → Ms[j]? = some M' → M < M'
  b : ∀ M ∈ Ms, v.ownBlock ≠ some M
theorem RowSS.keep {ls : List (List Int)} {w w' : World} {lo : Nat} {v : Value} {Ms : List Nat} (h : RowSS ls w lo v Ms) (hb : Below w.heap.size w w') : RowSS ls w' lo v Ms := by
  refine ⟨h.n, own_keep h.o hb, fun i M x hM hx => ?_, h.d, h.b⟩
  obtain ⟨h1, h2, h3⟩ := h.c i M x hM hx
  exact ⟨h1, Nat.lt_of_lt_of_le h2 hb.size, h3.keep hb⟩
theorem rowss_nil (w : World) (lo : Nat) : RowSS [] w lo (.slice none 0 0) [] := ⟨rfl, World.ownsRow_nil _ _ _ _, (fun i M x h => by cases h), (fun i j M M' _ h => by cases h), (fun M h => by cases h)⟩
theorem zip_snoc (Ms : List Nat) (ls : List (List Int)) (M : Nat) (x : List Int) (h : Ms.length = ls.length) : List.zipWith slV (Ms ++ [M]) (ls ++ [x]) = List.zipWith slV Ms ls ++ [slV M x] := by
  rw [List.zipWith_append h]; rfl
theorem getElem?_snoc {α : Type} {l : List α} {x y : α} {i : Nat} (h : (l ++ [x])[i]? = some y) : (i < l.length ∧ l[i]? = some y) ∨ (i = l.length ∧ y = x) := by
  by_cases hi : i < l.length
  · rw [List.getElem?_append_left hi] at h; exact .inl ⟨hi, h⟩
  · rw [List.getElem?_append_right (by omega)] at h
    by_cases e : i - l.length = 0
    · rw [e] at h; simp at h; exact .inr ⟨by omega, h.symm⟩
    · rw [List.getElem?_eq_none (by simp; omega)] at h; cases h
theorem RowSS.snoc {ls : List (List Int)} {w w3 : World} {lo : Nat} {v v' : Value} {Ms : List Nat} (h : RowSS ls w lo v Ms) (a b : Int) (hlo : lo ≤ w.heap.size)
    (hown : w3.ownsRow lo 24 1 v' (ls.length + 1) (List.zipWith slV Ms ls ++ [slV w.heap.size [a, b]])) (hg : ((w.alloc (.cells #[.int .i64 a, .int .i64 b] 3)).alloc (.cells #[.slice (some ⟨w.heap.size, 0, none⟩) 2 2] 24)).grownBy w3 v.ownBlock)
    (hblk : v'.ownBlock = v.ownBlock ∨ v'.ownBlock = some (w.heap.size + 1 + 1)) : RowSS (ls ++ [[a, b]]) w3 lo v' (Ms ++ [w.heap.size]) := by
  have hz : ((w.alloc (.cells #[.int .i64 a, .int .i64 b] 3)).alloc (.cells #[.slice (some ⟨w.heap.size, 0, none⟩) 2 2] 24)).heap.size = w.heap.size + 2 := by simp
  have hbw := below2 w (.cells #[.int .i64 a, .int .i64 b] 3) (.cells #[.slice (some ⟨w.heap.size, 0, none⟩) 2 2] 24)
  have hsz := hg.size
  rw [hz] at hsz
  have hvb : ∀ k, v.ownBlock = some k → k < w.heap.size := fun k hk => (h.o.lt k hk).2
  have hMlt : ∀ M ∈ Ms, M < w.heap.size := by
    intro M hM
    obtain ⟨i, hi, rfl⟩ := List.mem_iff_getElem.1 hM
    exact (h.c i Ms[i] (ls[i]'(by rw [← h.n]; exact hi)) (List.getElem?_eq_getElem hi) (List.getElem?_eq_getElem _)).2.1
  refine ⟨by simp [h.n], by rw [zip_snoc _ _ _ _ h.n, List.length_append]; exact hown, fun i M x hM hx => ?_, fun i j M M' hij hM hM' => ?_, fun M hM => ?_⟩
  · rcases getElem?_snoc hM with ⟨hi, hM⟩ | ⟨hi, rfl⟩
    · rcases getElem?_snoc hx with ⟨-, hx⟩ | ⟨hj, -⟩
      · obtain ⟨h1, h2, h3⟩ := h.c i M x hM hx
        refine ⟨h1, by omega, lown_block h3 ((hg.block M (by rw [hz]; omega) (fun e => h.b M (List.mem_of_getElem? hM) e.symm)).trans (hbw.block M h2))⟩
      · have := h.n; omega
    · rcases getElem?_snoc hx with ⟨hj, -⟩ | ⟨-, rfl⟩
      · have := h.n; omega
      · refine ⟨hlo, by omega, ?_⟩
        have hnew : LOwn iv ((w.alloc (.cells #[.int .i64 a, .int .i64 b] 3)).alloc (.cells #[.slice (some ⟨w.heap.size, 0, none⟩) 2 2] 24)) w.heap.size [a, b] := by
          have h0 : LOwn iv (w.alloc (.cells #[.int .i64 a, .int .i64 b] 3)) w.heap.size [a, b] := by
            refine ⟨fun j hj => ⟨?_, World.frozen?_alloc_new _ _ _ _⟩, fun i x hx => ?_⟩
            · rw [World.cell?_alloc_new, Nat.zero_add]
              rw [Array.getElem?_eq_getElem (by simpa using hj)]; rfl
            · rw [World.cell?_alloc_new]
              match i, hx with
              | 0, hx => simp at hx; subst hx; rfl
              | 1, hx => simp at hx; subst hx; rfl
          exact h0.keep ((Below.refl _ _).up _)
        exact lown_block hnew (hg.block w.heap.size (by rw [hz]; omega) (fun e => by have := hvb _ e.symm; omega))
  · rcases getElem?_snoc hM' with ⟨hj, hM'⟩ | ⟨hj, rfl⟩
    · rcases getElem?_snoc hM with ⟨-, hM⟩ | ⟨hi, -⟩
      · exact h.d i j M M' hij hM hM'
      · omega
    · rcases getElem?_snoc hM with ⟨-, hM⟩ | ⟨hi, -⟩
      · exact hMlt M (List.mem_of_getElem? hM)
      · omega
  · rw [List.mem_append, List.mem_singleton] at hM
    rcases hblk with e | e <;> rw [e]
    · rcases hM with hM | rfl
      · exact h.b M hM
      · intro e2; have := hvb _ e2; omega
    · intro e2
      have e3 : w.heap.size + 1 + 1 = M := Option.some.inj e2
      rcases hM with hM | rfl
      · have := hMlt M hM; omega
      · omega
theorem intsInfo : ∃ i, Try.prog.info? 24 = some i ∧ i.zero = some (.slice none 0 0) ∧ i.size = 1 ∧ i.bytes = 24 := by
  have h1 : (Try.prog.info? 24).map (·.size) = some 1 := by kernel_rfl
  have h2 : (Try.prog.info? 24).map (·.bytes) = some 24 := by kernel_rfl
  have h3 : (Try.prog.info? 24).bind (·.zero) = some (.slice none 0 0) := by kernel_rfl
  cases hi : Try.prog.info? 24 with
  | none => rw [hi] at h1; cases h1
  | some i => exact ⟨i, rfl, by rw [hi] at h3; simpa using h3, by rw [hi] at h1; simpa using h1, by rw [hi] at h2; simpa using h2⟩
end Go.Proofs.Ytmflbibogkebmaa
