/- Cycles: walks by pairs, their order, and the search that keeps ways whole. Data alone. -/
import Derived.Test.YtnmbkiajkpcmnaaDoorSpD
namespace Go.Proofs.YtnmbkiajkpcmnaaDoor

/-- each one goes to the next by a pair -/
def Chn (E : List (Int × Int)) : List Int → Prop
  | [] => True
  | [_] => True
  | a :: b :: t => (a, b) ∈ E ∧ Chn E (b :: t)
def lexL : List Int → List Int → Prop
  | [], [] => False
  | [], _ :: _ => True
  | _ :: _, [] => False
  | a :: s, b :: t => a < b ∨ (a = b ∧ lexL s t)
/-- shorter, or as long and less -/
def slt (u v : List Int) : Prop := u.length < v.length ∨ (u.length = v.length ∧ lexL u v)
/-- w goes round from s -/
def Clo (E : List (Int × Int)) (s : Int) (w : List Int) : Prop := (∃ t, w = s :: t) ∧ Chn E (w ++ [s])
def Best (E : List (Int × Int)) (s : Int) (w : List Int) : Prop := Clo E s w ∧ ∀ u, Clo E s u → ¬ slt u w
def lst (w : List Int) : Int := w.getLastD 0

theorem lexL_irr : ∀ u, ¬ lexL u u
  | [] => fun h => h
  | a :: s => fun h => by
    rcases h with h | ⟨-, h⟩
    · omega
    · exact lexL_irr s h
theorem lexL_tra : ∀ u v w, lexL u v → lexL v w → lexL u w
  | [], [], _, h, _ => absurd h (fun h => h)
  | [], _ :: _, [], _, h => absurd h (fun h => h)
  | [], _ :: _, _ :: _, _, _ => trivial
  | _ :: _, [], _, h, _ => absurd h (fun h => h)
  | _ :: _, _ :: _, [], _, h => absurd h (fun h => h)
  | a :: s, b :: t, c :: r, h, k => by
    rcases h with h | ⟨rfl, h⟩
    · rcases k with k | ⟨rfl, k⟩
      · exact .inl (by omega)
      · exact .inl h
    · rcases k with k | ⟨rfl, k⟩
      · exact .inl k
      · exact .inr ⟨rfl, lexL_tra s t r h k⟩
theorem lexL_tot : ∀ u v : List Int, u.length = v.length → lexL u v ∨ u = v ∨ lexL v u
  | [], [], _ => .inr (.inl rfl)
  | [], _ :: _, h => by cases h
  | _ :: _, [], h => by cases h
  | a :: s, b :: t, h => by
    rcases Int.lt_trichotomy a b with k | rfl | k
    · exact .inl (.inl k)
    · rcases lexL_tot s t (by simpa using h) with k | rfl | k
      · exact .inl (.inr ⟨rfl, k⟩)
      · exact .inr (.inl rfl)
      · exact .inr (.inr (.inr ⟨rfl, k⟩))
    · exact .inr (.inr (.inl k))
theorem lexL_app : ∀ u v a b : List Int, u.length = v.length → lexL u v → lexL (u ++ a) (v ++ b)
  | [], [], _, _, _, h => absurd h (fun h => h)
  | [], _ :: _, _, _, h, _ => by cases h
  | _ :: _, [], _, _, h, _ => by cases h
  | x :: s, y :: t, a, b, h, k => by
    rcases k with k | ⟨rfl, k⟩
    · exact .inl k
    · exact .inr ⟨rfl, lexL_app s t a b (by simpa using h) k⟩
theorem lexL_same : ∀ u a b : List Int, lexL (u ++ a) (u ++ b) ↔ lexL a b
  | [], a, b => Iff.rfl
  | x :: s, a, b => by
    show (x < x ∨ (x = x ∧ lexL (s ++ a) (s ++ b))) ↔ _
    rw [lexL_same s a b]
    constructor
    · rintro (h | ⟨-, h⟩)
      · omega
      · exact h
    · exact fun h => .inr ⟨rfl, h⟩
theorem slt_irr (u : List Int) : ¬ slt u u := fun h => by
  rcases h with h | ⟨-, h⟩
  · omega
  · exact lexL_irr u h
theorem slt_tra {u v w : List Int} (h : slt u v) (k : slt v w) : slt u w := by
  rcases h with h | ⟨e, h⟩
  · rcases k with k | ⟨e', k⟩
    · exact .inl (by omega)
    · exact .inl (by omega)
  · rcases k with k | ⟨e', k⟩
    · exact .inl (by omega)
    · exact .inr ⟨by omega, lexL_tra _ _ _ h k⟩
theorem slt_asy {u v : List Int} (h : slt u v) : ¬ slt v u := fun k => slt_irr u (slt_tra h k)
theorem slt_tot (u v : List Int) : slt u v ∨ u = v ∨ slt v u := by
  rcases Nat.lt_trichotomy u.length v.length with h | h | h
  · exact .inl (.inl h)
  · rcases lexL_tot u v h with k | k | k
    · exact .inl (.inr ⟨h, k⟩)
    · exact .inr (.inl k)
    · exact .inr (.inr (.inr ⟨h.symm, k⟩))
  · exact .inr (.inr (.inl h))
theorem slt_snoc {u v : List Int} (a b : Int) (h : slt u v) : slt (u ++ [a]) (v ++ [b]) := by
  rcases h with h | ⟨e, h⟩
  · exact .inl (by simp; omega)
  · exact .inr ⟨by simp; omega, lexL_app u v [a] [b] e h⟩
theorem slt_same (u : List Int) {a b : Int} (h : a < b) : slt (u ++ [a]) (u ++ [b]) := .inr ⟨by simp, (lexL_same u [a] [b]).2 (.inl h)⟩
theorem slt_self (u : List Int) (a : Int) : slt u (u ++ [a]) := .inl (by simp)
theorem best_one {E : List (Int × Int)} {s : Int} {u v : List Int} (h : Best E s u) (k : Best E s v) : u = v := by
  rcases slt_tot u v with h1 | h1 | h1
  · exact absurd h1 (k.2 u h.1)
  · exact h1
  · exact absurd h1 (h.2 v k.1)

theorem lst_snoc (u : List Int) (x : Int) : lst (u ++ [x]) = x := by simp [lst]
theorem chn_app {E : List (Int × Int)} {n : Int} : ∀ w : List Int, w ≠ [] → (Chn E (w ++ [n]) ↔ Chn E w ∧ (lst w, n) ∈ E)
  | [], h => absurd rfl h
  | [a], _ => by simp [Chn, lst]
  | a :: b :: t, _ => by
    have ih := chn_app (E := E) (n := n) (b :: t) (by simp)
    show ((a, b) ∈ E ∧ Chn E ((b :: t) ++ [n])) ↔ ((a, b) ∈ E ∧ Chn E (b :: t)) ∧ _
    rw [ih]
    have : lst (a :: b :: t) = lst (b :: t) := by simp [lst]
    rw [this, and_assoc]

/-- The search so far: the ways before i are done with, of the way i the numbers in dn. -/
structure Bfs (E : List (Int × Int)) (s : Int) (ways : List (List Int)) (i : Nat) (dn seen : List Int) : Prop where
  w0 : ways[0]? = some [s]
  w1 : ∀ w ∈ ways, (∃ t, w = s :: t) ∧ Chn E w
  w2 : ways.Pairwise slt
  w3 : ∀ (j : Nat) (w : List Int) (n : Int), ways[j]? = some w → ((j < i ∧ (lst w, n) ∈ E) ∨ (j = i ∧ n ∈ dn)) → n ≠ s ∧ ∃ v ∈ ways, lst v = n ∧ ¬ slt (w ++ [n]) v
  w4 : ∀ v ∈ ways, v = [s] ∨ ∃ (j : Nat) (w : List Int) (n : Int), ways[j]? = some w ∧ v = w ++ [n] ∧ (j < i ∨ (j = i ∧ n ∈ dn))
  w5 : ∀ n, n ∈ seen ↔ ∃ v ∈ ways, v ≠ [s] ∧ lst v = n
  w6 : seen.Nodup
  w7 : ways.length = seen.length + 1
  w8 : ∀ n ∈ seen, 0 ≤ n ∧ n < 100

theorem nodup_le : ∀ (m : Nat) (l : List Int), l.Nodup → (∀ x ∈ l, 0 ≤ x ∧ x < m) → l.length ≤ m
  | 0, l, _, h => by
    match l, h with
    | [], _ => simp
    | x :: t, h => have := h x (by simp); omega
  | m + 1, l, hn, h => by
    by_cases hm : (m : Int) ∈ l
    · have h1 := nodup_le m (l.erase (m : Int)) (hn.erase _) (fun x hx => by
        have h2 := (List.Nodup.mem_erase_iff hn).1 hx
        have := h x h2.2
        have := h2.1
        omega)
      rw [List.length_erase_of_mem hm] at h1
      omega
    · have := nodup_le m l hn (fun x hx => by
        have h2 := h x hx
        have : x ≠ m := fun e => hm (e ▸ hx)
        omega)
      omega
theorem Bfs.len {E : List (Int × Int)} {s : Int} {ways : List (List Int)} {i : Nat} {dn seen : List Int} (h : Bfs E s ways i dn seen) : ways.length ≤ 101 ∧ seen.length ≤ 100 := by
  have := nodup_le 100 seen h.w6 h.w8
  have := h.w7
  omega
theorem bfs_start (E : List (Int × Int)) (s : Int) : Bfs E s [[s]] 0 [] [] where
  w0 := rfl
  w1 := fun w hw => by simp at hw; subst hw; exact ⟨⟨[], rfl⟩, trivial⟩
  w2 := by simp
  w3 := fun j w n _ h => by
    rcases h with ⟨h, -⟩ | ⟨-, h⟩
    · omega
    · cases h
  w4 := fun v hv => by simp at hv; exact .inl hv
  w5 := fun n => by simp
  w6 := by simp
  w7 := rfl
  w8 := fun n hn => by cases hn

theorem Bfs.before {E : List (Int × Int)} {s : Int} {ways : List (List Int)} {i : Nat} {dn seen : List Int} (h : Bfs E s ways i dn seen) {w : List Int} (hw : ways[i]? = some w) {n : Int} (hd : ∀ x ∈ dn, x < n) : ∀ v ∈ ways, slt v (w ++ [n]) := by
  intro v hv
  have hi := (List.getElem?_eq_some_iff.1 hw)
  rcases h.w4 v hv with rfl | ⟨j, w', n', hj, rfl, hc⟩
  · obtain ⟨⟨t, rfl⟩, -⟩ := h.w1 w (List.mem_of_getElem? hw)
    exact .inl (by simp)
  · rcases hc with hc | ⟨rfl, hc⟩
    · have hj' := (List.getElem?_eq_some_iff.1 hj)
      obtain ⟨h1, rfl⟩ := hi
      obtain ⟨h2, rfl⟩ := hj'
      exact slt_snoc n' n (List.pairwise_iff_getElem.1 h.w2 j i h2 h1 hc)
    · rw [hw] at hj
      cases hj
      exact slt_same w (hd n' hc)
/-- a number that is there already -/
theorem Bfs.skip {E : List (Int × Int)} {s : Int} {ways : List (List Int)} {i : Nat} {dn seen : List Int} (h : Bfs E s ways i dn seen) {w : List Int} (hw : ways[i]? = some w) {n : Int} (hd : ∀ x ∈ dn, x < n) (hs : n ≠ s) (hn : n ∈ seen) : Bfs E s ways i (dn ++ [n]) seen where
  w0 := h.w0
  w1 := h.w1
  w2 := h.w2
  w3 := fun j u m hj hc => by
    rcases hc with hc | ⟨rfl, hm⟩
    · exact h.w3 j u m hj (.inl hc)
    · rcases List.mem_append.1 hm with hm | hm
      · exact h.w3 j u m hj (.inr ⟨rfl, hm⟩)
      · have e : m = n := by simpa using hm
        subst e
        rw [hw] at hj
        cases hj
        obtain ⟨v, hv, -, hl⟩ := (h.w5 m).1 hn
        exact ⟨hs, v, hv, hl, slt_asy (h.before hw hd v hv)⟩
  w4 := fun v hv => by
    rcases h.w4 v hv with e | ⟨j, u, m, h1, h2, hc⟩
    · exact .inl e
    · refine .inr ⟨j, u, m, h1, h2, ?_⟩
      rcases hc with hc | ⟨e, hc⟩
      · exact .inl hc
      · exact .inr ⟨e, by simp [hc]⟩
  w5 := h.w5
  w6 := h.w6
  w7 := h.w7
  w8 := h.w8
/-- a new number -/
theorem Bfs.add {E : List (Int × Int)} {s : Int} {ways : List (List Int)} {i : Nat} {dn seen : List Int} (h : Bfs E s ways i dn seen) {w : List Int} (hw : ways[i]? = some w) {n : Int} (hd : ∀ x ∈ dn, x < n) (hs : n ≠ s) (hn : n ∉ seen) (hE : (lst w, n) ∈ E) (hb : 0 ≤ n ∧ n < 100) : Bfs E s (ways ++ [w ++ [n]]) i (dn ++ [n]) (seen ++ [n]) := by
  have hi := (List.getElem?_eq_some_iff.1 hw).1
  have hwm := List.mem_of_getElem? hw
  obtain ⟨⟨t, ht⟩, hch⟩ := h.w1 w hwm
  have hne : w ≠ [] := by rw [ht]; simp
  have hne1 : w ++ [n] ≠ [s] := fun e => by have := congrArg List.length e; rw [ht] at this; simp at this
  have hget : ∀ (j : Nat) (u : List Int), j ≤ i → (ways ++ [w ++ [n]])[j]? = some u → ways[j]? = some u := fun j u hj hu => by rwa [List.getElem?_append_left (by omega)] at hu
  refine ⟨?_, ?_, ?_, ?_, ?_, ?_, ?_, ?_, ?_⟩
  · rw [List.getElem?_append_left (by omega)]; exact h.w0
  · intro v hv
    rcases List.mem_append.1 hv with hv | hv
    · exact h.w1 v hv
    · have e : v = w ++ [n] := by simpa using hv
      subst e
      exact ⟨⟨t ++ [n], by rw [ht]; rfl⟩, (chn_app w hne).2 ⟨hch, hE⟩⟩
  · rw [List.pairwise_append]
    refine ⟨h.w2, by simp, fun a ha b hb => ?_⟩
    have e : b = w ++ [n] := by simpa using hb
    subst e
    exact h.before hw hd a ha
  · intro j u m hj hc
    have hji : j ≤ i := by rcases hc with ⟨hc, -⟩ | ⟨hc, -⟩ <;> omega
    have hj' := hget j u hji hj
    rcases hc with hc | ⟨rfl, hm⟩
    · obtain ⟨h1, v, h2, h3⟩ := h.w3 j u m hj' (.inl hc)
      exact ⟨h1, v, by simp [h2], h3⟩
    · rcases List.mem_append.1 hm with hm | hm
      · obtain ⟨h1, v, h2, h3⟩ := h.w3 j u m hj' (.inr ⟨rfl, hm⟩)
        exact ⟨h1, v, by simp [h2], h3⟩
      · have e : m = n := by simpa using hm
        subst e
        rw [hw] at hj'
        cases hj'
        exact ⟨hs, w ++ [m], by simp, lst_snoc w m, slt_irr _⟩
  · intro v hv
    rcases List.mem_append.1 hv with hv | hv
    · rcases h.w4 v hv with e | ⟨j, u, m, h1, h2, hc⟩
      · exact .inl e
      · have hjl := (List.getElem?_eq_some_iff.1 h1).1
        refine .inr ⟨j, u, m, by rw [List.getElem?_append_left hjl]; exact h1, h2, ?_⟩
        rcases hc with hc | ⟨e, hc⟩
        · exact .inl hc
        · exact .inr ⟨e, by simp [hc]⟩
    · have e : v = w ++ [n] := by simpa using hv
      exact .inr ⟨i, w, n, by rw [List.getElem?_append_left hi]; exact hw, e, .inr ⟨rfl, by simp⟩⟩
  · intro m
    rw [List.mem_append, h.w5]
    constructor
    · rintro (⟨v, h1, h2⟩ | hm)
      · exact ⟨v, by simp [h1], h2⟩
      · have e : m = n := by simpa using hm
        subst e
        exact ⟨w ++ [m], by simp, hne1, lst_snoc w m⟩
    · rintro ⟨v, hv, h1, h2⟩
      rcases List.mem_append.1 hv with hv | hv
      · exact .inl ⟨v, hv, h1, h2⟩
      · have e : v = w ++ [n] := by simpa using hv
        subst e
        rw [lst_snoc] at h2
        exact .inr (by simp [h2])
  · rw [List.nodup_append]
    refine ⟨h.w6, by simp, fun a ha b hb => ?_⟩
    have e : b = n := by simpa using hb
    subst e
    exact fun e => hn (e ▸ ha)
  · have := h.w7; simp; omega
  · intro m hm
    rcases List.mem_append.1 hm with hm | hm
    · exact h.w8 m hm
    · have e : m = n := by simpa using hm
      subst e
      exact hb
/-- a way is done with -/
theorem Bfs.next {E : List (Int × Int)} {s : Int} {ways : List (List Int)} {i : Nat} {dn seen : List Int} (h : Bfs E s ways i dn seen) {w : List Int} (hw : ways[i]? = some w) (hd : ∀ n, (lst w, n) ∈ E → n ∈ dn) : Bfs E s ways (i + 1) [] seen where
  w0 := h.w0
  w1 := h.w1
  w2 := h.w2
  w3 := fun j u m hj hc => by
    rcases hc with ⟨hc, hm⟩ | ⟨-, hm⟩
    · by_cases e : j = i
      · subst e
        rw [hw] at hj
        cases hj
        exact h.w3 j w m hw (.inr ⟨rfl, hd m hm⟩)
      · exact h.w3 j u m hj (.inl ⟨by omega, hm⟩)
    · cases hm
  w4 := fun v hv => by
    rcases h.w4 v hv with e | ⟨j, u, m, h1, h2, hc⟩
    · exact .inl e
    · refine .inr ⟨j, u, m, h1, h2, .inl ?_⟩
      rcases hc with hc | ⟨e, -⟩ <;> omega
  w5 := h.w5
  w6 := h.w6
  w7 := h.w7
  w8 := h.w8
/-- whoever goes from s and comes ahead of the way i is met by a way before it -/
theorem Bfs.met {E : List (Int × Int)} {s : Int} {ways : List (List Int)} {i : Nat} {dn seen : List Int} (h : Bfs E s ways i dn seen) (P : List Int → Prop) (hp : ∀ u a, P (u ++ [a]) → P u) (hv : ∀ (u v : List Int), P u → v ∈ ways → ¬ slt u v → ∃ j, j < i ∧ ways[j]? = some v) :
    ∀ (m : Nat) (u : List Int), u.length = m + 1 → (∃ t, u = s :: t) → Chn E u → P u → ∃ (j : Nat) (v : List Int), j < i ∧ ways[j]? = some v ∧ lst v = lst u ∧ ¬ slt u v
  | 0, u, hl, ⟨t, ht⟩, _, hP => by
    have e : u = [s] := by
      subst ht
      have : t.length = 0 := by simpa using hl
      rw [List.length_eq_zero_iff.1 this]
    subst e
    obtain ⟨j, hj, hj2⟩ := hv [s] [s] hP (List.mem_of_getElem? h.w0) (slt_irr _)
    exact ⟨j, [s], hj, hj2, rfl, slt_irr _⟩
  | m + 1, u, hl, ⟨t, ht⟩, hc, hP => by
    have hne : u ≠ [] := by rw [ht]; simp
    obtain ⟨u0, a, rfl⟩ : ∃ u0 a, u = u0 ++ [a] := ⟨u.dropLast, u.getLast hne, (List.dropLast_concat_getLast hne).symm⟩
    have hl0 : u0.length = m + 1 := by simpa using hl
    have hne0 : u0 ≠ [] := fun e => by rw [e] at hl0; simp at hl0
    have hh0 : ∃ t, u0 = s :: t := by
      match u0, hne0, ht with
      | x :: r, _, ht => exact ⟨r, by simp at ht; rw [ht.1]⟩
    obtain ⟨hc0, hE⟩ := (chn_app u0 hne0).1 hc
    obtain ⟨j, v, hj, hv1, hv2, hv3⟩ := Bfs.met h P hp hv m u0 hl0 hh0 hc0 (hp u0 a hP)
    obtain ⟨-, v', hv', hl', hn'⟩ := h.w3 j v a hv1 (.inl ⟨hj, by rw [hv2]; exact hE⟩)
    have hle : ¬ slt (u0 ++ [a]) v' := by
      intro hc
      rcases slt_tot u0 v with h1 | h1 | h1
      · exact hv3 h1
      · subst h1; exact hn' hc
      · exact hn' (slt_tra (slt_snoc a a h1) hc)
    obtain ⟨j', hj', hj2⟩ := hv _ v' hP hv' hle
    exact ⟨j', v', hj', hj2, by rw [hl', lst_snoc], hle⟩
theorem clo_parts {E : List (Int × Int)} {s : Int} {u : List Int} (h : Clo E s u) : (∃ t, u = s :: t) ∧ Chn E u ∧ (lst u, s) ∈ E ∧ u.length = (u.length - 1) + 1 := by
  obtain ⟨⟨t, rfl⟩, hc⟩ := h
  obtain ⟨h1, h2⟩ := (chn_app (s :: t) (by simp)).1 hc
  exact ⟨⟨t, rfl⟩, h1, h2, by simp⟩
/-- the way i closes: it is the best -/
theorem Bfs.found {E : List (Int × Int)} {s : Int} {ways : List (List Int)} {i : Nat} {dn seen : List Int} (h : Bfs E s ways i dn seen) {w : List Int} (hw : ways[i]? = some w) (hE : (lst w, s) ∈ E) : Best E s w := by
  obtain ⟨⟨t, ht⟩, hch⟩ := h.w1 w (List.mem_of_getElem? hw)
  refine ⟨⟨⟨t, ht⟩, (chn_app w (by rw [ht]; simp)).2 ⟨hch, hE⟩⟩, fun u hu hlt => ?_⟩
  obtain ⟨h1, h2, h3, h4⟩ := clo_parts hu
  obtain ⟨hi, hwi⟩ := List.getElem?_eq_some_iff.1 hw
  obtain ⟨j, v, hj, hv, hl, -⟩ := h.met (fun u => slt u w) (fun u a hP => slt_tra (slt_self u a) hP) (fun u v hP hv hn => by
    obtain ⟨k, hk, rfl⟩ := List.mem_iff_getElem.1 hv
    refine ⟨k, ?_, List.getElem?_eq_getElem hk⟩
    rcases Nat.lt_trichotomy k i with h5 | h5 | h5
    · exact h5
    · subst h5; rw [hwi] at hn; exact absurd hP hn
    · have := List.pairwise_iff_getElem.1 h.w2 i k hi hk h5
      rw [hwi] at this
      exact absurd (slt_tra hP this) hn) _ u h4 h1 h2 hlt
  exact (h.w3 j v s hv (.inl ⟨hj, by rw [hl]; exact h3⟩)).1 rfl
/-- all ways are done with: there is none -/
theorem Bfs.none {E : List (Int × Int)} {s : Int} {ways : List (List Int)} {dn seen : List Int} (h : Bfs E s ways ways.length dn seen) : ¬ ∃ u, Clo E s u := by
  rintro ⟨u, hu⟩
  obtain ⟨h1, h2, h3, h4⟩ := clo_parts hu
  obtain ⟨j, v, hj, hv, hl, -⟩ := h.met (fun _ => True) (fun _ _ _ => trivial) (fun u v _ hv _ => by
    obtain ⟨k, hk, rfl⟩ := List.mem_iff_getElem.1 hv
    exact ⟨k, hk, List.getElem?_eq_getElem hk⟩) _ u h4 h1 h2 trivial
  exact (h.w3 j v s hv (.inl ⟨hj, by rw [hl]; exact h3⟩)).1 rfl
end Go.Proofs.YtnmbkiajkpcmnaaDoor
