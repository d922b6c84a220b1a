/- Lists that rise: numbers put one by one, and sorted ones made compact: data alone. -/
import Derived.Lib.RowBridge
namespace Go.Proofs.Ytmflbibogkebmaa

/-- n put into a list that rises -/
def putR : List Int → Int → List Int
  | [], n => [n]
  | x :: t, n => if x < n then x :: putR t n else if x = n then x :: t else n :: x :: t

theorem putR_mem (n x : Int) : ∀ l : List Int, x ∈ putR l n ↔ x = n ∨ x ∈ l
  | [] => by simp [putR]
  | y :: t => by
    have ih := putR_mem n x t
    unfold putR
    split
    · rw [List.mem_cons, ih, List.mem_cons]; constructor <;> (rintro (h | h | h) <;> simp [h])
    · split
      · rename_i h1 h2
        subst h2
        simp
      · simp
theorem putR_rises (n : Int) : ∀ l : List Int, l.Pairwise (· < ·) → (putR l n).Pairwise (· < ·)
  | [], _ => by simp [putR]
  | y :: t, h => by
    rw [List.pairwise_cons] at h
    have ih := putR_rises n t h.2
    unfold putR
    split
    · rename_i h1
      rw [List.pairwise_cons]
      refine ⟨fun z hz => ?_, ih⟩
      rcases (putR_mem n z t).1 hz with rfl | hz
      · exact h1
      · exact h.1 z hz
    · split
      · exact List.pairwise_cons.2 h
      · rename_i h1 h2
        have hn : n < y := by omega
        rw [List.pairwise_cons]
        refine ⟨fun z hz => ?_, List.pairwise_cons.2 h⟩
        rcases List.mem_cons.1 hz with rfl | hz
        · exact hn
        · have := h.1 z hz; omega
theorem putR_len (n : Int) : ∀ l : List Int, (putR l n).length ≤ l.length + 1
  | [] => by simp [putR]
  | y :: t => by
    have ih := putR_len n t
    unfold putR
    split
    · simp; omega
    · split <;> simp
/-- found at k: the list itself -/
theorem putR_same (n : Int) : ∀ (l : List Int) (k : Nat), (∀ j y, j < k → l[j]? = some y → y < n) → l[k]? = some n → putR l n = l
  | [], k, _, h => by cases h
  | y :: t, 0, _, h => by
    have : y = n := by simpa using h
    subst this
    unfold putR
    rw [if_neg (by omega), if_pos rfl]
  | y :: t, k + 1, h1, h => by
    have hy := h1 0 y (by omega) rfl
    unfold putR
    rw [if_pos hy, putR_same n t k (fun j z hj hz => h1 (j + 1) z (by omega) (by simpa using hz)) (by simpa using h)]
/-- not there: it goes in at k -/
theorem putR_new (n : Int) : ∀ (l : List Int) (k : Nat), k ≤ l.length → (∀ j y, j < k → l[j]? = some y → y < n) → (∀ y, l[k]? = some y → n < y) → putR l n = l.take k ++ n :: l.drop k
  | [], k, _, _, _ => by simp [putR]
  | y :: t, 0, _, _, h => by
    have hy := h y rfl
    unfold putR
    rw [if_neg (by omega), if_neg (by omega)]
    rfl
  | y :: t, k + 1, hk, h1, h => by
    have hy := h1 0 y (by omega) rfl
    unfold putR
    rw [if_pos hy, putR_new n t k (by simpa using hk) (fun j z hj hz => h1 (j + 1) z (by omega) (by simpa using hz)) (fun z hz => h z (by simpa using hz))]
    rfl
/-- all of them put -/
def putAll (xs : List Int) : List Int := xs.foldl putR []
theorem putAll_snoc (xs : List Int) (x : Int) : putAll (xs ++ [x]) = putR (putAll xs) x := by simp [putAll]
theorem foldl_facts : ∀ (xs l : List Int), l.Pairwise (· < ·) → (xs.foldl putR l).Pairwise (· < ·) ∧ (∀ x, x ∈ xs.foldl putR l ↔ x ∈ xs ∨ x ∈ l) ∧ (xs.foldl putR l).length ≤ l.length + xs.length
  | [], l, h => ⟨h, by simp, by simp⟩
  | a :: t, l, h => by
    obtain ⟨h1, h2, h3⟩ := foldl_facts t (putR l a) (putR_rises a l h)
    refine ⟨h1, fun x => ?_, ?_⟩
    · rw [List.foldl_cons, h2, putR_mem, List.mem_cons]
      constructor
      · rintro (h | h | h) <;> simp [h]
      · rintro ((h | h) | h) <;> simp [h]
    · rw [List.foldl_cons]
      have := putR_len a l
      simp only [List.length_cons]
      omega
theorem putAll_rises (xs : List Int) : (putAll xs).Pairwise (· < ·) := (foldl_facts xs [] List.Pairwise.nil).1
theorem putAll_mem (xs : List Int) (x : Int) : x ∈ putAll xs ↔ x ∈ xs := by rw [putAll, (foldl_facts xs [] List.Pairwise.nil).2.1]; simp
theorem putAll_len (xs : List Int) : (putAll xs).length ≤ xs.length := by
  have := (foldl_facts xs [] List.Pairwise.nil).2.2
  rw [List.length_nil, Nat.zero_add] at this
  exact this

theorem rises_ext : ∀ (l m : List Int), l.Pairwise (· < ·) → m.Pairwise (· < ·) → (∀ x, x ∈ l ↔ x ∈ m) → l = m
  | [], [], _, _, _ => rfl
  | [], b :: t, _, _, h => by have := (h b).2 List.mem_cons_self; cases this
  | a :: s, [], _, _, h => by have := (h a).1 List.mem_cons_self; cases this
  | a :: s, b :: t, h1, h2, h => by
    rw [List.pairwise_cons] at h1 h2
    have e : a = b := by
      rcases List.mem_cons.1 ((h a).1 List.mem_cons_self) with e | ha
      · exact e
      · rcases List.mem_cons.1 ((h b).2 List.mem_cons_self) with e | hb
        · exact e.symm
        · have := h2.1 a ha; have := h1.1 b hb; omega
    subst e
    rw [rises_ext s t h1.2 h2.2]
    intro x
    constructor
    · intro hx
      rcases List.mem_cons.1 ((h x).1 (by simp [hx])) with e | hx'
      · have := h1.1 x hx; omega
      · exact hx'
    · intro hx
      rcases List.mem_cons.1 ((h x).2 (by simp [hx])) with e | hx'
      · have := h2.1 x hx; omega
      · exact hx'

theorem upTo_facts (d : Array Int) (hd : ∀ i j, i ≤ j → j < d.size → d[i]! ≤ d[j]!) : ∀ m, m ≤ d.size → (Lib.compactUpTo d m).Pairwise (· < ·) ∧ ∀ x, x ∈ Lib.compactUpTo d m ↔ ∃ j, j < m ∧ d[j]! = x
  | 0, _ => by simp [Lib.compactUpTo]
  | m + 1, hm => by
    obtain ⟨h1, h2⟩ := upTo_facts d hd m (by omega)
    rw [Lib.compactUpTo_succ]
    by_cases hk : Lib.keeps d m
    · rw [if_pos hk]
      constructor
      · rw [List.pairwise_append]
        refine ⟨h1, by simp, fun a ha b hb => ?_⟩
        rw [List.mem_singleton] at hb
        subst hb
        obtain ⟨j, hj, rfl⟩ := (h2 a).1 ha
        have hk' : m = 0 ∨ d[m]! ≠ d[m - 1]! := by simpa [Lib.keeps] using hk
        have a1 := hd j (m - 1) (by omega) (by omega)
        have a2 := hd (m - 1) m (by omega) (by omega)
        rcases hk' with rfl | hk'
        · omega
        · omega
      · intro x
        rw [List.mem_append, h2, List.mem_singleton]
        constructor
        · rintro (⟨j, hj, e⟩ | e)
          · exact ⟨j, by omega, e⟩
          · exact ⟨m, by omega, e.symm⟩
        · rintro ⟨j, hj, e⟩
          by_cases hjm : j = m
          · subst hjm; exact .inr e.symm
          · exact .inl ⟨j, by omega, e⟩
    · rw [if_neg hk, List.append_nil]
      refine ⟨h1, fun x => ?_⟩
      rw [h2]
      have hk' : ¬ (m = 0 ∨ d[m]! ≠ d[m - 1]!) := by simpa [Lib.keeps] using hk
      have hm0 : m ≠ 0 := fun h => hk' (.inl h)
      have hme : d[m]! = d[m - 1]! := by
        by_cases h : d[m]! = d[m - 1]!
        · exact h
        · exact absurd (.inr h) hk'
      constructor
      · rintro ⟨j, hj, e⟩; exact ⟨j, by omega, e⟩
      · rintro ⟨j, hj, e⟩
        by_cases hjm : j = m
        · subst hjm; exact ⟨j - 1, by omega, by rw [← hme]; exact e⟩
        · exact ⟨j, by omega, e⟩

/-- sorted and compact: the same as put one by one -/
theorem sorted_put (xs : List Int) : Lib.compact (xs.mergeSort fun x y => decide (x ≤ y)) = putAll xs := by
  have hs : (xs.mergeSort fun x y => decide (x ≤ y)).Pairwise (fun a b => decide (a ≤ b) = true) :=
    List.pairwise_mergeSort (fun a b c h1 h2 => by simp at *; omega) (fun a b => by simp; omega) xs
  have hm : ∀ x, x ∈ (xs.mergeSort fun x y => decide (x ≤ y)) ↔ x ∈ xs := fun x => List.mem_mergeSort
  generalize (xs.mergeSort fun x y => decide (x ≤ y)) = zs at hs hm
  have hd : ∀ i j, i ≤ j → j < zs.toArray.size → zs.toArray[i]! ≤ zs.toArray[j]! := by
    intro i j hij hj
    have hj' : j < zs.length := by simpa using hj
    rw [getElem!_pos zs.toArray i (by simpa using (by omega : i < zs.length)), getElem!_pos zs.toArray j hj]
    simp only [List.getElem_toArray]
    by_cases e : i = j
    · subst e; exact Int.le_refl _
    · exact of_decide_eq_true (List.pairwise_iff_getElem.1 hs i j (by omega) hj' (by omega))
  obtain ⟨h1, h2⟩ := upTo_facts zs.toArray hd zs.length (by simp)
  refine rises_ext _ _ h1 (putAll_rises xs) fun x => ?_
  rw [show Lib.compact zs = Lib.compactUpTo zs.toArray zs.length from rfl, h2, putAll_mem, ← hm]
  constructor
  · rintro ⟨j, hj, rfl⟩
    rw [getElem!_pos zs.toArray j (by simpa using hj)]
    simp
  · intro hx
    obtain ⟨j, hj, e⟩ := List.mem_iff_getElem.1 hx
    exact ⟨j, hj, by rw [getElem!_pos zs.toArray j (by simpa using hj)]; simpa using e⟩
end Go.Proofs.Ytmflbibogkebmaa
