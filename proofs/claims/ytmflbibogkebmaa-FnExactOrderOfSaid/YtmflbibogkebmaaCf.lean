/- Cycles: walks by pairs, their order, and the search that keeps ways whole. Data alone. Cycles: the search by steps backward, and the way that goes to the nearest. Data alone. Lists of lists of ints: sizes, copies, comparisons, marks (laid by mkii.py). Cycles: small functions of the specification. -/
import Derived.Test.YtmflbibogkebmaaSpD
import Derived.Test.YtmflbibogkebmaaMl
import Derived.Test.YtmflbibogkebmaaStF
import Derived.Test.YtmflbibogkebmaaPv
import Derived.Test.YtmflbibogkebmaaKind
namespace Go.Proofs.Ytmflbibogkebmaa

/-- each one goes to the next by a pair -/
def Chn (E : List (Int × Int)) : List Int → Prop
  | [] => True
  | [_] => True
  | a :: b :: t => (a, b) ∈ E ∧ Chn E (b :: t)
def lexL : List Int → List Int → Prop
  | [], [] => False
  | [], _ :: _ => True
  | _ :: _, [] => False
  | a :: s, b :: t => a < b ∨ (a = b ∧ lexL s t)
/-- shorter, or as long and less -/
def slt (u v : List Int) : Prop := u.length < v.length ∨ (u.length = v.length ∧ lexL u v)
/-- w goes round from s -/
def Clo (E : List (Int × Int)) (s : Int) (w : List Int) : Prop := (∃ t, w = s :: t) ∧ Chn E (w ++ [s])
def Best (E : List (Int × Int)) (s : Int) (w : List Int) : Prop := Clo E s w ∧ ∀ u, Clo E s u → ¬ slt u w
def lst (w : List Int) : Int := w.getLastD 0

theorem lexL_irr : ∀ u, ¬ lexL u u
  | [] => fun h => h
  | a :: s => fun h => by
    rcases h with h | ⟨-, h⟩
    · omega
    · exact lexL_irr s h
theorem lexL_tra : ∀ u v w, lexL u v → lexL v w → lexL u w
  | [], [], _, h, _ => absurd h (fun h => h)
  | [], _ :: _, [], _, h => absurd h (fun h => h)
  | [], _ :: _, _ :: _, _, _ => trivial
  | _ :: _, [], _, h, _ => absurd h (fun h => h)
  | _ :: _, _ :: _, [], _, h => absurd h (fun h => h)
  | a :: s, b :: t, c :: r, h, k => by
    rcases h with h | ⟨rfl, h⟩
    · rcases k with k | ⟨rfl, k⟩
      · exact .inl (by omega)
      · exact .inl h
    · rcases k with k | ⟨rfl, k⟩
      · exact .inl k
      · exact .inr ⟨rfl, lexL_tra s t r h k⟩
theorem lexL_tot : ∀ u v : List Int, u.length = v.length → lexL u v ∨ u = v ∨ lexL v u
  | [], [], _ => .inr (.inl rfl)
  | [], _ :: _, h => by cases h
  | _ :: _, [], h => by cases h
  | a :: s, b :: t, h => by
    rcases Int.lt_trichotomy a b with k | rfl | k
    · exact .inl (.inl k)
    · rcases lexL_tot s t (by simpa using h) with k | rfl | k
      · exact .inl (.inr ⟨rfl, k⟩)
      · exact .inr (.inl rfl)
      · exact .inr (.inr (.inr ⟨rfl, k⟩))
    · exact .inr (.inr (.inl k))
theorem lexL_app : ∀ u v a b : List Int, u.length = v.length → lexL u v → lexL (u ++ a) (v ++ b)
  | [], [], _, _, _, h => absurd h (fun h => h)
  | [], _ :: _, _, _, h, _ => by cases h
  | _ :: _, [], _, _, h, _ => by cases h
  | x :: s, y :: t, a, b, h, k => by
    rcases k with k | ⟨rfl, k⟩
    · exact .inl k
    · exact .inr ⟨rfl, lexL_app s t a b (by simpa using h) k⟩
theorem lexL_same : ∀ u a b : List Int, lexL (u ++ a) (u ++ b) ↔ lexL a b
  | [], a, b => Iff.rfl
  | x :: s, a, b => by
    show (x < x ∨ (x = x ∧ lexL (s ++ a) (s ++ b))) ↔ _
    rw [lexL_same s a b]
    constructor
    · rintro (h | ⟨-, h⟩)
      · omega
      · exact h
    · exact fun h => .inr ⟨rfl, h⟩
theorem slt_irr (u : List Int) : ¬ slt u u := fun h => by
  rcases h with h | ⟨-, h⟩
  · omega
  · exact lexL_irr u h
theorem slt_tra {u v w : List Int} (h : slt u v) (k : slt v w) : slt u w := by
  rcases h with h | ⟨e, h⟩
  · rcases k with k | ⟨e', k⟩
    · exact .inl (by omega)
    · exact .inl (by omega)
  · rcases k with k | ⟨e', k⟩
    · exact .inl (by omega)
    · exact .inr ⟨by omega, lexL_tra _ _ _ h k⟩
theorem slt_asy {u v : List Int} (h : slt u v) : ¬ slt v u := fun k => slt_irr u (slt_tra h k)
theorem slt_tot (u v : List Int) : slt u v ∨ u = v ∨ slt v u := by
  rcases Nat.lt_trichotomy u.length v.length with h | h | h
  · exact .inl (.inl h)
  · rcases lexL_tot u v h with k | k | k
    · exact .inl (.inr ⟨h, k⟩)
    · exact .inr (.inl k)
    · exact .inr (.inr (.inr ⟨h.symm, k⟩))
  · exact .inr (.inr (.inl h))
theorem slt_snoc {u v : List Int} (a b : Int) (h : slt u v) : slt (u ++ [a]) (v ++ [b]) := by
  rcases h with h | ⟨e, h⟩
  · exact .inl (by simp; omega)
  · exact .inr ⟨by simp; omega, lexL_app u v [a] [b] e h⟩
theorem slt_same (u : List Int) {a b : Int} (h : a < b) : slt (u ++ [a]) (u ++ [b]) := .inr ⟨by simp, (lexL_same u [a] [b]).2 (.inl h)⟩
theorem slt_self (u : List Int) (a : Int) : slt u (u ++ [a]) := .inl (by simp)
theorem best_one {E : List (Int × Int)} {s : Int} {u v : List Int} (h : Best E s u) (k : Best E s v) : u = v := by
  rcases slt_tot u v with h1 | h1 | h1
  · exact absurd h1 (k.2 u h.1)
  · exact h1
  · exact absurd h1 (h.2 v k.1)

theorem lst_snoc (u : List Int) (x : Int) : lst (u ++ [x]) = x := by simp [lst]
theorem chn_app {E : List (Int × Int)} {n : Int} : ∀ w : List Int, w ≠ [] → (Chn E (w ++ [n]) ↔ Chn E w ∧ (lst w, n) ∈ E)
  | [], h => absurd rfl h
  | [a], _ => by simp [Chn, lst]
  | a :: b :: t, _ => by
    have ih := chn_app (E := E) (n := n) (b :: t) (by simp)
    show ((a, b) ∈ E ∧ Chn E ((b :: t) ++ [n])) ↔ ((a, b) ∈ E ∧ Chn E (b :: t)) ∧ _
    rw [ih]
    have : lst (a :: b :: t) = lst (b :: t) := by simp [lst]
    rw [this, and_assoc]

/-- The search so far: the ways before i are done with, of the way i the numbers in dn. -/
structure Bfs (E : List (Int × Int)) (s : Int) (ways : List (List Int)) (i : Nat) (dn seen : List Int) : Prop where
  w0 : ways[0]? = some [s]
  w1 : ∀ w ∈ ways, (∃ t, w = s :: t) ∧ Chn E w
  w2 : ways.Pairwise slt
  w3 : ∀ (j : Nat) (w : List Int) (n : Int), ways[j]? = some w → ((j < i ∧ (lst w, n) ∈ E) ∨ (j = i ∧ n ∈ dn)) → n ≠ s ∧ ∃ v ∈ ways, lst v = n ∧ ¬ slt (w ++ [n]) v
  w4 : ∀ v ∈ ways, v = [s] ∨ ∃ (j : Nat) (w : List Int) (n : Int), ways[j]? = some w ∧ v = w ++ [n] ∧ (j < i ∨ (j = i ∧ n ∈ dn))
  w5 : ∀ n, n ∈ seen ↔ ∃ v ∈ ways, v ≠ [s] ∧ lst v = n
  w6 : seen.Nodup
  w7 : ways.length = seen.length + 1
  w8 : ∀ n ∈ seen, 0 ≤ n ∧ n < 100

theorem nodup_le : ∀ (m : Nat) (l : List Int), l.Nodup → (∀ x ∈ l, 0 ≤ x ∧ x < m) → l.length ≤ m
  | 0, l, _, h => by
    match l, h with
    | [], _ => simp
    | x :: t, h => have := h x (by simp); omega
  | m + 1, l, hn, h => by
    by_cases hm : (m : Int) ∈ l
    · have h1 := nodup_le m (l.erase (m : Int)) (hn.erase _) (fun x hx => by
        have h2 := (List.Nodup.mem_erase_iff hn).1 hx
        have := h x h2.2
        have := h2.1
        omega)
      rw [List.length_erase_of_mem hm] at h1
      omega
    · have := nodup_le m l hn (fun x hx => by
        have h2 := h x hx
        have : x ≠ m := fun e => hm (e ▸ hx)
        omega)
      omega
theorem Bfs.len {E : List (Int × Int)} {s : Int} {ways : List (List Int)} {i : Nat} {dn seen : List Int} (h : Bfs E s ways i dn seen) : ways.length ≤ 101 ∧ seen.length ≤ 100 := by
  have := nodup_le 100 seen h.w6 h.w8
  have := h.w7
  omega
theorem bfs_start (E : List (Int × Int)) (s : Int) : Bfs E s [[s]] 0 [] [] where
  w0 := rfl
  w1 := fun w hw => by simp at hw; subst hw; exact ⟨⟨[], rfl⟩, trivial⟩
  w2 := by simp
  w3 := fun j w n _ h => by
    rcases h with ⟨h, -⟩ | ⟨-, h⟩
    · omega
    · cases h
  w4 := fun v hv => by simp at hv; exact .inl hv
  w5 := fun n => by simp
  w6 := by simp
  w7 := rfl
  w8 := fun n hn => by cases hn

theorem Bfs.before {E : List (Int × Int)} {s : Int} {ways : List (List Int)} {i : Nat} {dn seen : List Int} (h : Bfs E s ways i dn seen) {w : List Int} (hw : ways[i]? = some w) {n : Int} (hd : ∀ x ∈ dn, x < n) : ∀ v ∈ ways, slt v (w ++ [n]) := by
  intro v hv
  have hi := (List.getElem?_eq_some_iff.1 hw)
  rcases h.w4 v hv with rfl | ⟨j, w', n', hj, rfl, hc⟩
  · obtain ⟨⟨t, rfl⟩, -⟩ := h.w1 w (List.mem_of_getElem? hw)
    exact .inl (by simp)
  · rcases hc with hc | ⟨rfl, hc⟩
    · have hj' := (List.getElem?_eq_some_iff.1 hj)
      obtain ⟨h1, rfl⟩ := hi
      obtain ⟨h2, rfl⟩ := hj'
      exact slt_snoc n' n (List.pairwise_iff_getElem.1 h.w2 j i h2 h1 hc)
    · rw [hw] at hj
      cases hj
      exact slt_same w (hd n' hc)
/-- a number that is there already -/
theorem Bfs.skip {E : List (Int × Int)} {s : Int} {ways : List (List Int)} {i : Nat} {dn seen : List Int} (h : Bfs E s ways i dn seen) {w : List Int} (hw : ways[i]? = some w) {n : Int} (hd : ∀ x ∈ dn, x < n) (hs : n ≠ s) (hn : n ∈ seen) : Bfs E s ways i (dn ++ [n]) seen where
  w0 := h.w0
  w1 := h.w1
  w2 := h.w2
  w3 := fun j u m hj hc => by
    rcases hc with hc | ⟨rfl, hm⟩
    · exact h.w3 j u m hj (.inl hc)
    · rcases List.mem_append.1 hm with hm | hm
      · exact h.w3 j u m hj (.inr ⟨rfl, hm⟩)
      · have e : m = n := by simpa using hm
        subst e
        rw [hw] at hj
        cases hj
        obtain ⟨v, hv, -, hl⟩ := (h.w5 m).1 hn
        exact ⟨hs, v, hv, hl, slt_asy (h.before hw hd v hv)⟩
  w4 := fun v hv => by
    rcases h.w4 v hv with e | ⟨j, u, m, h1, h2, hc⟩
    · exact .inl e
    · refine .inr ⟨j, u, m, h1, h2, ?_⟩
      rcases hc with hc | ⟨e, hc⟩
      · exact .inl hc
      · exact .inr ⟨e, by simp [hc]⟩
  w5 := h.w5
  w6 := h.w6
  w7 := h.w7
  w8 := h.w8
/-- a new number -/
theorem Bfs.add {E : List (Int × Int)} {s : Int} {ways : List (List Int)} {i : Nat} {dn seen : List Int} (h : Bfs E s ways i dn seen) {w : List Int} (hw : ways[i]? = some w) {n : Int} (hd : ∀ x ∈ dn, x < n) (hs : n ≠ s) (hn : n ∉ seen) (hE : (lst w, n) ∈ E) (hb : 0 ≤ n ∧ n < 100) : Bfs E s (ways ++ [w ++ [n]]) i (dn ++ [n]) (seen ++ [n]) := by
  have hi := (List.getElem?_eq_some_iff.1 hw).1
  have hwm := List.mem_of_getElem? hw
  obtain ⟨⟨t, ht⟩, hch⟩ := h.w1 w hwm
  have hne : w ≠ [] := by rw [ht]; simp
  have hne1 : w ++ [n] ≠ [s] := fun e => by have := congrArg List.length e; rw [ht] at this; simp at this
  have hget : ∀ (j : Nat) (u : List Int), j ≤ i → (ways ++ [w ++ [n]])[j]? = some u → ways[j]? = some u := fun j u hj hu => by rwa [List.getElem?_append_left (by omega)] at hu
  refine ⟨?_, ?_, ?_, ?_, ?_, ?_, ?_, ?_, ?_⟩
  · rw [List.getElem?_append_left (by omega)]; exact h.w0
  · intro v hv
    rcases List.mem_append.1 hv with hv | hv
    · exact h.w1 v hv
    · have e : v = w ++ [n] := by simpa using hv
      subst e
      exact ⟨⟨t ++ [n], by rw [ht]; rfl⟩, (chn_app w hne).2 ⟨hch, hE⟩⟩
  · rw [List.pairwise_append]
    refine ⟨h.w2, by simp, fun a ha b hb => ?_⟩
    have e : b = w ++ [n] := by simpa using hb
    subst e
    exact h.before hw hd a ha
  · intro j u m hj hc
    have hji : j ≤ i := by rcases hc with ⟨hc, -⟩ | ⟨hc, -⟩ <;> omega
    have hj' := hget j u hji hj
    rcases hc with hc | ⟨rfl, hm⟩
    · obtain ⟨h1, v, h2, h3⟩ := h.w3 j u m hj' (.inl hc)
      exact ⟨h1, v, by simp [h2], h3⟩
    · rcases List.mem_append.1 hm with hm | hm
      · obtain ⟨h1, v, h2, h3⟩ := h.w3 j u m hj' (.inr ⟨rfl, hm⟩)
        exact ⟨h1, v, by simp [h2], h3⟩
      · have e : m = n := by simpa using hm
        subst e
        rw [hw] at hj'
        cases hj'
        exact ⟨hs, w ++ [m], by simp, lst_snoc w m, slt_irr _⟩
  · intro v hv
    rcases List.mem_append.1 hv with hv | hv
    · rcases h.w4 v hv with e | ⟨j, u, m, h1, h2, hc⟩
      · exact .inl e
      · have hjl := (List.getElem?_eq_some_iff.1 h1).1
        refine .inr ⟨j, u, m, by rw [List.getElem?_append_left hjl]; exact h1, h2, ?_⟩
        rcases hc with hc | ⟨e, hc⟩
        · exact .inl hc
        · exact .inr ⟨e, by simp [hc]⟩
    · have e : v = w ++ [n] := by simpa using hv
      exact .inr ⟨i, w, n, by rw [List.getElem?_append_left hi]; exact hw, e, .inr ⟨rfl, by simp⟩⟩
  · intro m
    rw [List.mem_append, h.w5]
    constructor
    · rintro (⟨v, h1, h2⟩ | hm)
      · exact ⟨v, by simp [h1], h2⟩
      · have e : m = n := by simpa using hm
        subst e
        exact ⟨w ++ [m], by simp, hne1, lst_snoc w m⟩
    · rintro ⟨v, hv, h1, h2⟩
      rcases List.mem_append.1 hv with hv | hv
      · exact .inl ⟨v, hv, h1, h2⟩
      · have e : v = w ++ [n] := by simpa using hv
        subst e
        rw [lst_snoc] at h2
        exact .inr (by simp [h2])
  · rw [List.nodup_append]
    refine ⟨h.w6, by simp, fun a ha b hb => ?_⟩
    have e : b = n := by simpa using hb
    subst e
    exact fun e => hn (e ▸ ha)
  · have := h.w7; simp; omega
  · intro m hm
    rcases List.mem_append.1 hm with hm | hm
    · exact h.w8 m hm
    · have e : m = n := by simpa using hm
      subst e
      exact hb
/-- a way is done with -/
theorem Bfs.next {E : List (Int × Int)} {s : Int} {ways : List (List Int)} {i : Nat} {dn seen : List Int} (h : Bfs E s ways i dn seen) {w : List Int} (hw : ways[i]? = some w) (hd : ∀ n, (lst w, n) ∈ E → n ∈ dn) : Bfs E s ways (i + 1) [] seen where
  w0 := h.w0
  w1 := h.w1
  w2 := h.w2
  w3 := fun j u m hj hc => by
    rcases hc with ⟨hc, hm⟩ | ⟨-, hm⟩
    · by_cases e : j = i
      · subst e
        rw [hw] at hj
        cases hj
        exact h.w3 j w m hw (.inr ⟨rfl, hd m hm⟩)
      · exact h.w3 j u m hj (.inl ⟨by omega, hm⟩)
    · cases hm
  w4 := fun v hv => by
    rcases h.w4 v hv with e | ⟨j, u, m, h1, h2, hc⟩
    · exact .inl e
    · refine .inr ⟨j, u, m, h1, h2, .inl ?_⟩
      rcases hc with hc | ⟨e, -⟩ <;> omega
  w5 := h.w5
  w6 := h.w6
  w7 := h.w7
  w8 := h.w8
/-- whoever goes from s and comes ahead of the way i is met by a way before it -/
theorem Bfs.met {E : List (Int × Int)} {s : Int} {ways : List (List Int)} {i : Nat} {dn seen : List Int} (h : Bfs E s ways i dn seen) (P : List Int → Prop) (hp : ∀ u a, P (u ++ [a]) → P u) (hv : ∀ (u v : List Int), P u → v ∈ ways → ¬ slt u v → ∃ j, j < i ∧ ways[j]? = some v) :
    ∀ (m : Nat) (u : List Int), u.length = m + 1 → (∃ t, u = s :: t) → Chn E u → P u → ∃ (j : Nat) (v : List Int), j < i ∧ ways[j]? = some v ∧ lst v = lst u ∧ ¬ slt u v
  | 0, u, hl, ⟨t, ht⟩, _, hP => by
    have e : u = [s] := by
      subst ht
      have : t.length = 0 := by simpa using hl
      rw [List.length_eq_zero_iff.1 this]
    subst e
    obtain ⟨j, hj, hj2⟩ := hv [s] [s] hP (List.mem_of_getElem? h.w0) (slt_irr _)
    exact ⟨j, [s], hj, hj2, rfl, slt_irr _⟩
  | m + 1, u, hl, ⟨t, ht⟩, hc, hP => by
    have hne : u ≠ [] := by rw [ht]; simp
    obtain ⟨u0, a, rfl⟩ : ∃ u0 a, u = u0 ++ [a] := ⟨u.dropLast, u.getLast hne, (List.dropLast_concat_getLast hne).symm⟩
    have hl0 : u0.length = m + 1 := by simpa using hl
    have hne0 : u0 ≠ [] := fun e => by rw [e] at hl0; simp at hl0
    have hh0 : ∃ t, u0 = s :: t := by
      match u0, hne0, ht with
      | x :: r, _, ht => exact ⟨r, by simp at ht; rw [ht.1]⟩
    obtain ⟨hc0, hE⟩ := (chn_app u0 hne0).1 hc
    obtain ⟨j, v, hj, hv1, hv2, hv3⟩ := Bfs.met h P hp hv m u0 hl0 hh0 hc0 (hp u0 a hP)
    obtain ⟨-, v', hv', hl', hn'⟩ := h.w3 j v a hv1 (.inl ⟨hj, by rw [hv2]; exact hE⟩)
    have hle : ¬ slt (u0 ++ [a]) v' := by
      intro hc
      rcases slt_tot u0 v with h1 | h1 | h1
      · exact hv3 h1
      · subst h1; exact hn' hc
      · exact hn' (slt_tra (slt_snoc a a h1) hc)
    obtain ⟨j', hj', hj2⟩ := hv _ v' hP hv' hle
    exact ⟨j', v', hj', hj2, by rw [hl', lst_snoc], hle⟩
theorem clo_parts {E : List (Int × Int)} {s : Int} {u : List Int} (h : Clo E s u) : (∃ t, u = s :: t) ∧ Chn E u ∧ (lst u, s) ∈ E ∧ u.length = (u.length - 1) + 1 := by
  obtain ⟨⟨t, rfl⟩, hc⟩ := h
  obtain ⟨h1, h2⟩ := (chn_app (s :: t) (by simp)).1 hc
  exact ⟨⟨t, rfl⟩, h1, h2, by simp⟩
/-- the way i closes: it is the best -/
theorem Bfs.found {E : List (Int × Int)} {s : Int} {ways : List (List Int)} {i : Nat} {dn seen : List Int} (h : Bfs E s ways i dn seen) {w : List Int} (hw : ways[i]? = some w) (hE : (lst w, s) ∈ E) : Best E s w := by
  obtain ⟨⟨t, ht⟩, hch⟩ := h.w1 w (List.mem_of_getElem? hw)
  refine ⟨⟨⟨t, ht⟩, (chn_app w (by rw [ht]; simp)).2 ⟨hch, hE⟩⟩, fun u hu hlt => ?_⟩
  obtain ⟨h1, h2, h3, h4⟩ := clo_parts hu
  obtain ⟨hi, hwi⟩ := List.getElem?_eq_some_iff.1 hw
  obtain ⟨j, v, hj, hv, hl, -⟩ := h.met (fun u => slt u w) (fun u a hP => slt_tra (slt_self u a) hP) (fun u v hP hv hn => by
    obtain ⟨k, hk, rfl⟩ := List.mem_iff_getElem.1 hv
    refine ⟨k, ?_, List.getElem?_eq_getElem hk⟩
    rcases Nat.lt_trichotomy k i with h5 | h5 | h5
    · exact h5
    · subst h5; rw [hwi] at hn; exact absurd hP hn
    · have := List.pairwise_iff_getElem.1 h.w2 i k hi hk h5
      rw [hwi] at this
      exact absurd (slt_tra hP this) hn) _ u h4 h1 h2 hlt
  exact (h.w3 j v s hv (.inl ⟨hj, by rw [hl]; exact h3⟩)).1 rfl
/-- all ways are done with: there is none -/
theorem Bfs.none {E : List (Int × Int)} {s : Int} {ways : List (List Int)} {dn seen : List Int} (h : Bfs E s ways ways.length dn seen) : ¬ ∃ u, Clo E s u := by
  rintro ⟨u, hu⟩
  obtain ⟨h1, h2, h3, h4⟩ := clo_parts hu
  obtain ⟨j, v, hj, hv, hl, -⟩ := h.met (fun _ => True) (fun _ _ _ => trivial) (fun u v _ hv _ => by
    obtain ⟨k, hk, rfl⟩ := List.mem_iff_getElem.1 hv
    exact ⟨k, hk, List.getElem?_eq_getElem hk⟩) _ u h4 h1 h2 trivial
  exact (h.w3 j v s hv (.inl ⟨hj, by rw [hl]; exact h3⟩)).1 rfl
end Go.Proofs.Ytmflbibogkebmaa
namespace Go.Proofs.Ytmflbibogkebmaa

/-- how far each number is from s, -1 where it does not come there -/
structure Far (E : List (Int × Int)) (s : Int) (far : Int → Int) : Prop where
  f0 : far s = 0
  f1 : ∀ x, far x = -1 ∨ 0 ≤ far x
  f2 : ∀ a b, (a, b) ∈ E → far b ≠ -1 → far a ≠ -1 ∧ far a ≤ far b + 1
  f3 : ∀ x, x ≠ s → far x ≠ -1 → ∃ b, (x, b) ∈ E ∧ 0 ≤ far b ∧ far b = far x - 1
  f5 : ∀ x, far x ≤ 100
theorem Far.pos {E : List (Int × Int)} {s : Int} {far : Int → Int} (h : Far E s far) {x : Int} (hx : x ≠ s) (hf : far x ≠ -1) : 1 ≤ far x := by
  obtain ⟨b, -, h1, h2⟩ := h.f3 x hx hf
  omega
theorem Far.chain {E : List (Int × Int)} {s : Int} {far : Int → Int} (h : Far E s far) : ∀ (t : List Int) (x : Int), Chn E (x :: t ++ [s]) → far x ≠ -1 ∧ far x ≤ (x :: t).length
  | [], x, hc => by
    have := h.f2 x s hc.1 (by rw [h.f0]; decide)
    rw [h.f0] at this
    simpa using this
  | y :: r, x, hc => by
    have ih := Far.chain h r y hc.2
    have := h.f2 x y hc.1 ih.1
    refine ⟨this.1, ?_⟩
    have := ih.2
    simp only [List.length_cons] at this ⊢
    omega

/-- n is the nearest behind a, and the least of these -/
structure Near (E : List (Int × Int)) (far : Int → Int) (a n : Int) : Prop where
  mem : (a, n) ∈ E
  ne : far n ≠ -1
  min : ∀ b, (a, b) ∈ E → far b ≠ -1 → far n < far b ∨ (far n = far b ∧ n ≤ b)
def Opt (E : List (Int × Int)) (s : Int) (q : List Int) (R : Int) : Prop := ∀ u, Clo E s u → (q.length : Int) + R ≤ u.length ∧ ((u.length : Int) = q.length + R → ¬ lexL (u.take q.length) q)
/-- the way so far: p, and the number at which it is -/
structure Gr (E : List (Int × Int)) (s : Int) (far : Int → Int) (p : List Int) (a : Int) : Prop where
  h : ∃ t, p ++ [a] = s :: t
  ch : Chn E (p ++ [a])
  c : (p = [] ∧ a = s) ∨ (a ≠ s ∧ 1 ≤ far a ∧ Opt E s (p ++ [a]) (far a - 1))
theorem gr_start (E : List (Int × Int)) (s : Int) (far : Int → Int) : Gr E s far [] s := ⟨⟨[], rfl⟩, trivial, .inl ⟨rfl, rfl⟩⟩
theorem Gr.opt {E : List (Int × Int)} {s : Int} {far : Int → Int} {p : List Int} {a n : Int} (g : Gr E s far p a) (hf : Far E s far) (hn : Near E far a n) : Opt E s (p ++ [a]) (far n) := by
  rcases g.c with ⟨rfl, rfl⟩ | ⟨h1, h2, h3⟩
  · rintro u ⟨⟨t, rfl⟩, hc⟩
    refine ⟨?_, fun _ => ?_⟩
    · match t, hc with
      | [], hc =>
        have := hn.min a hc.1 (by rw [hf.f0]; decide)
        rw [hf.f0] at this
        simp
        omega
      | y :: r, hc =>
        have h4 := hf.chain r y hc.2
        have h5 := hn.min y hc.1 h4.1
        have h6 := h4.2
        simp only [List.length_cons] at h6
        simp
        omega
    · simp
      exact lexL_irr _
  · have a1 := hf.f2 a n hn.mem hn.ne
    obtain ⟨b, b1, b2, b3⟩ := hf.f3 a h1 (by omega)
    have b4 := hn.min b b1 (by omega)
    have : far n = far a - 1 := by omega
    rw [this]
    exact h3
theorem Gr.found {E : List (Int × Int)} {s : Int} {far : Int → Int} {p : List Int} {a : Int} (g : Gr E s far p a) (hf : Far E s far) (hn : Near E far a s) : Best E s (p ++ [a]) := by
  refine ⟨⟨g.h, (chn_app (p ++ [a]) (by simp)).2 ⟨g.ch, by rw [lst_snoc]; exact hn.mem⟩⟩, fun u hu hlt => ?_⟩
  obtain ⟨h1, h2⟩ := g.opt hf hn u hu
  rw [hf.f0] at h1 h2
  rcases hlt with h3 | ⟨h3, h4⟩
  · omega
  · refine h2 (by omega) ?_
    rw [← h3, List.take_length]
    exact h4
theorem Gr.next {E : List (Int × Int)} {s : Int} {far : Int → Int} {p : List Int} {a n : Int} (g : Gr E s far p a) (hf : Far E s far) (hn : Near E far a n) (hs : n ≠ s) : Gr E s far (p ++ [a]) n := by
  have hpos := hf.pos hs hn.ne
  obtain ⟨t, ht⟩ := g.h
  refine ⟨⟨t ++ [n], by rw [ht]; rfl⟩, (chn_app (p ++ [a]) (by simp)).2 ⟨g.ch, by rw [lst_snoc]; exact hn.mem⟩, .inr ⟨hs, hpos, ?_⟩⟩
  have ho := g.opt hf hn
  have hla : lst (p ++ [a]) = a := lst_snoc p a
  generalize p ++ [a] = q at ho hla ht
  intro u hu
  obtain ⟨h1, h2⟩ := ho u hu
  refine ⟨by simp; omega, fun hl => ?_⟩
  have hl2 : (u.length : Int) = q.length + far n := by simp at hl; omega
  have hq := h2 hl2
  have hlen : q.length < u.length := by omega
  have e1 : u.take (q ++ [n]).length = u.take q.length ++ [u[q.length]] := by
    rw [List.length_append, List.length_singleton, List.take_succ_eq_append_getElem hlen]
  rw [e1]
  have hql : (u.take q.length).length = q.length := by simp; omega
  rcases lexL_tot (u.take q.length) q hql with h3 | h3 | h3
  · exact absurd h3 hq
  · rw [h3, lexL_same]
    have hsplit : u = q ++ (u[q.length] :: u.drop (q.length + 1)) := by
      have := (List.take_append_drop q.length u).symm
      rw [h3, List.drop_eq_getElem_cons hlen] at this
      exact this
    generalize hb : u[q.length] = b at hsplit
    generalize u.drop (q.length + 1) = r at hsplit
    have hur : (u.length : Int) = q.length + (b :: r).length := by rw [hsplit]; simp
    have hcl := hu.2
    rw [hsplit, List.append_assoc] at hcl
    have hqne : q ≠ [] := by rw [ht]; simp
    have hsp : ∀ (q' : List Int), q' ≠ [] → Chn E (q' ++ (b :: r ++ [s])) → (lst q', b) ∈ E ∧ Chn E (b :: r ++ [s]) := by
      intro q'
      induction q' with
      | nil => intro h; exact absurd rfl h
      | cons x q2 ih =>
        intro _ hc
        match q2, ih, hc with
        | [], _, hc => exact ⟨hc.1, hc.2⟩
        | y :: q3, ih, hc =>
          have := ih (by simp) hc.2
          have e : lst (x :: y :: q3) = lst (y :: q3) := by simp [lst]
          rw [e]
          exact this
    obtain ⟨k1, k2⟩ := hsp q hqne hcl
    rw [hla] at k1
    have k3 := hf.chain r b k2
    have k4 := hn.min b k1 k3.1
    have k5 := k3.2
    intro hlx
    rcases hlx with hlx | ⟨-, hlx⟩
    · omega
    · exact hlx
  · intro hlx
    exact lexL_irr _ (lexL_tra _ _ _ hlx (lexL_app q (u.take q.length) [n] [u[q.length]] hql.symm h3))
theorem Gr.none {E : List (Int × Int)} {s : Int} {far : Int → Int} {p : List Int} {a : Int} (g : Gr E s far p a) (hf : Far E s far) (hn : ∀ b, (a, b) ∈ E → far b = -1) : ¬ ∃ u, Clo E s u := by
  rcases g.c with ⟨rfl, rfl⟩ | ⟨h1, h2, -⟩
  · rintro ⟨u, ⟨t, rfl⟩, hc⟩
    match t, hc with
    | [], hc => have := hn a hc.1; rw [hf.f0] at this; omega
    | y :: r, hc => exact (hf.chain r y hc.2).1 (hn y hc.1)
  · obtain ⟨b, b1, b2, b3⟩ := hf.f3 a h1 (by omega)
    have := hn b b1
    omega

/-- The steps backward so far: those before i are done with, of i the pairs in dn. -/
structure Rch (E : List (Int × Int)) (s : Int) (far : Int → Int) (rd : List Int) (i : Nat) (dn : List (Int × Int)) : Prop where
  r0 : far s = 0
  r1 : ∀ x, x ∈ rd ↔ far x ≠ -1
  rp : ∀ x, far x = -1 ∨ 0 ≤ far x
  rn : rd.Nodup
  r2 : ∀ (a b : Nat) (x y : Int), a ≤ b → rd[a]? = some x → rd[b]? = some y → far x ≤ far y
  r2' : ∀ c, rd[i]? = some c → ∀ x ∈ rd, far x ≤ far c + 1
  r3 : ∀ (j : Nat) (y a : Int), rd[j]? = some y → (a, y) ∈ E → (j < i ∨ (j = i ∧ (a, y) ∈ dn)) → far a ≠ -1 ∧ far a ≤ far y + 1
  r4 : ∀ x ∈ rd, x = s ∨ ∃ b, (x, b) ∈ E ∧ b ∈ rd ∧ far b = far x - 1
  r5 : ∀ (k : Nat) (x : Int), rd[k]? = some x → far x ≤ k
  r7 : ∀ x ∈ rd, 0 ≤ x ∧ x < 100
theorem Rch.len {E : List (Int × Int)} {s : Int} {far : Int → Int} {rd : List Int} {i : Nat} {dn : List (Int × Int)} (h : Rch E s far rd i dn) : rd.length ≤ 100 := nodup_le 100 rd h.rn h.r7
theorem rch_start (E : List (Int × Int)) (s : Int) (hs : 0 ≤ s ∧ s < 100) (far : Int → Int) (h0 : far s = 0) (h1 : ∀ x, x ≠ s → far x = -1) : Rch E s far [s] 0 [] where
  r0 := h0
  r1 := fun x => by
    by_cases e : x = s
    · subst e; simp [h0]
    · simp [e, h1 x e]
  rp := fun x => by
    by_cases e : x = s
    · subst e; exact .inr (by omega)
    · exact .inl (h1 x e)
  rn := by simp
  r2 := fun a b x y _ hx hy => by
    have := (List.getElem?_eq_some_iff.1 hx); have := (List.getElem?_eq_some_iff.1 hy)
    have ha : a = 0 := by simp at *; omega
    have hb : b = 0 := by simp at *; omega
    subst ha hb
    rw [hx] at hy
    cases hy
    omega
  r2' := fun c hc x hx => by
    have e1 : s = c := by simpa using hc
    have e2 : x = s := by simpa using hx
    rw [e2, ← e1]; omega
  r3 := fun j y a _ _ h => by
    rcases h with h | ⟨-, h⟩
    · omega
    · cases h
  r4 := fun x hx => .inl (by simpa using hx)
  r5 := fun k x hx => by
    have e : x = s := by
      have := List.mem_of_getElem? hx
      simpa using this
    rw [e, h0]; omega
  r7 := fun x hx => by have e : x = s := by simpa using hx
                       rw [e]; exact hs
/-- a pair that leads elsewhere, or from one that is there -/
theorem Rch.skip {E : List (Int × Int)} {s : Int} {far : Int → Int} {rd : List Int} {i : Nat} {dn : List (Int × Int)} (h : Rch E s far rd i dn) {c : Int} (hc : rd[i]? = some c) (p : Int × Int) (hp : p.2 ≠ c ∨ far p.1 ≠ -1) : Rch E s far rd i (dn ++ [p]) where
  r0 := h.r0
  r1 := h.r1
  rp := h.rp
  rn := h.rn
  r2 := h.r2
  r2' := h.r2'
  r3 := fun j y a hj hE hh => by
    rcases hh with hh | ⟨rfl, hh⟩
    · exact h.r3 j y a hj hE (.inl hh)
    · rcases List.mem_append.1 hh with hh | hh
      · exact h.r3 j y a hj hE (.inr ⟨rfl, hh⟩)
      · have e : (a, y) = p := by simpa using hh
        subst e
        rw [hc] at hj
        cases hj
        rcases hp with hp | hp
        · exact absurd rfl hp
        · exact ⟨hp, h.r2' c hc a ((h.r1 a).2 hp)⟩
  r4 := h.r4
  r5 := h.r5
  r7 := h.r7
/-- a pair from one that is new -/
theorem Rch.add {E : List (Int × Int)} {s : Int} {far : Int → Int} {rd : List Int} {i : Nat} {dn : List (Int × Int)} (h : Rch E s far rd i dn) {c a : Int} (hc : rd[i]? = some c) (hE : (a, c) ∈ E) (ha : far a = -1) (hb : 0 ≤ a ∧ a < 100) (far' : Int → Int) (h1 : far' a = far c + 1) (h2 : ∀ x, x ≠ a → far' x = far x) : Rch E s far' (rd ++ [a]) i (dn ++ [(a, c)]) := by
  have hi := (List.getElem?_eq_some_iff.1 hc).1
  have hcm := List.mem_of_getElem? hc
  have hcn := (h.r1 c).1 hcm
  have hna : a ∉ rd := fun hm => (h.r1 a).1 hm ha
  have hca : c ≠ a := fun e => hna (e ▸ hcm)
  have hold : ∀ x ∈ rd, far' x = far x := fun x hx => h2 x (fun e => hna (e ▸ hx))
  have hc0 := h.rp c
  have hsa : s ≠ a := fun e => by rw [← e, h.r0] at ha; omega
  have split : ∀ (k : Nat) (x : Int), (rd ++ [a])[k]? = some x → (k < rd.length ∧ rd[k]? = some x) ∨ (k = rd.length ∧ x = a) := by
    intro k x hx
    by_cases hk : k < rd.length
    · rw [List.getElem?_append_left hk] at hx; exact .inl ⟨hk, hx⟩
    · rw [List.getElem?_append_right (by omega)] at hx
      have := (List.getElem?_eq_some_iff.1 hx).1
      have hk2 : k = rd.length := by simp at this; omega
      subst hk2
      simp at hx
      exact .inr ⟨rfl, hx.symm⟩
  refine ⟨?_, ?_, ?_, ?_, ?_, ?_, ?_, ?_, ?_, ?_⟩
  · rw [h2 s hsa]; exact h.r0
  · intro x
    rw [List.mem_append]
    by_cases e : x = a
    · subst e; rw [h1]; simp; omega
    · rw [h2 x e, h.r1]; simp [e]
  · intro x
    by_cases e : x = a
    · subst e; rw [h1]; right; omega
    · rw [h2 x e]; exact h.rp x
  · rw [List.nodup_append]
    refine ⟨h.rn, by simp, fun x hx y hy => ?_⟩
    have e : y = a := by simpa using hy
    subst e
    exact fun e => hna (e ▸ hx)
  · intro k m x y hkm hx hy
    rcases split k x hx with ⟨k1, k2⟩ | ⟨k1, rfl⟩
    · have hxm := List.mem_of_getElem? k2
      rw [hold x hxm]
      rcases split m y hy with ⟨m1, m2⟩ | ⟨m1, rfl⟩
      · rw [hold y (List.mem_of_getElem? m2)]
        exact h.r2 k m x y hkm k2 m2
      · rw [h1]; exact h.r2' c hc x hxm
    · rcases split m y hy with ⟨m1, m2⟩ | ⟨m1, rfl⟩
      · omega
      · exact Int.le_refl _
  · intro c' hc' x hx
    have e : c' = c := by
      rcases split i c' hc' with ⟨k1, k2⟩ | ⟨k1, -⟩
      · rw [hc] at k2; cases k2; rfl
      · omega
    subst e
    rw [hold c' hcm]
    rcases List.mem_append.1 hx with hx | hx
    · rw [hold x hx]; exact h.r2' c' hc x hx
    · have e : x = a := by simpa using hx
      subst e; rw [h1]; omega
  · intro j y b hj hEb hh
    have hji : j ≤ i := by rcases hh with hh | ⟨hh, -⟩ <;> omega
    have hj' : rd[j]? = some y := by
      rcases split j y hj with ⟨-, k2⟩ | ⟨k1, -⟩
      · exact k2
      · omega
    have hym := List.mem_of_getElem? hj'
    rw [hold y hym]
    have oldcase : (far b ≠ -1 ∧ far b ≤ far y + 1) → far' b ≠ -1 ∧ far' b ≤ far y + 1 := by
      intro hh
      have : b ≠ a := fun e => hh.1 (e ▸ ha)
      rw [h2 b this]
      exact hh
    rcases hh with hh | ⟨rfl, hh⟩
    · exact oldcase (h.r3 j y b hj' hEb (.inl hh))
    · rcases List.mem_append.1 hh with hh | hh
      · exact oldcase (h.r3 j y b hj' hEb (.inr ⟨rfl, hh⟩))
      · have e : b = a ∧ y = c := by simpa using hh
        obtain ⟨rfl, rfl⟩ := e
        rw [h1]
        exact ⟨by omega, by omega⟩
  · intro x hx
    rcases List.mem_append.1 hx with hx | hx
    · rcases h.r4 x hx with e | ⟨b, b1, b2, b3⟩
      · exact .inl e
      · exact .inr ⟨b, b1, by simp [b2], by rw [hold b b2, hold x hx]; exact b3⟩
    · have e : x = a := by simpa using hx
      subst e
      exact .inr ⟨c, hE, by simp [hcm], by rw [h1, hold c hcm]; omega⟩
  · intro k x hx
    rcases split k x hx with ⟨k1, k2⟩ | ⟨k1, rfl⟩
    · rw [hold x (List.mem_of_getElem? k2)]; exact h.r5 k x k2
    · rw [h1]; have := h.r5 i c hc; omega
  · intro x hx
    rcases List.mem_append.1 hx with hx | hx
    · exact h.r7 x hx
    · have e : x = a := by simpa using hx
      subst e; exact hb
theorem Rch.next {E : List (Int × Int)} {s : Int} {far : Int → Int} {rd : List Int} {i : Nat} {dn : List (Int × Int)} (h : Rch E s far rd i dn) {c : Int} (hc : rd[i]? = some c) (hd : ∀ p ∈ E, p ∈ dn) : Rch E s far rd (i + 1) [] where
  r0 := h.r0
  r1 := h.r1
  rp := h.rp
  rn := h.rn
  r2 := h.r2
  r2' := fun c' hc' x hx => by
    have h1 := h.r2' c hc x hx
    have h2 := h.r2 i (i + 1) c c' (by omega) hc hc'
    omega
  r3 := fun j y a hj hE hh => by
    rcases hh with hh | ⟨-, hh⟩
    · by_cases e : j = i
      · exact h.r3 j y a hj hE (.inr ⟨e, hd _ hE⟩)
      · exact h.r3 j y a hj hE (.inl (by omega))
    · cases hh
  r4 := h.r4
  r5 := h.r5
  r7 := h.r7
theorem Rch.done {E : List (Int × Int)} {s : Int} {far : Int → Int} {rd : List Int} {dn : List (Int × Int)} (h : Rch E s far rd rd.length dn) : Far E s far where
  f0 := h.r0
  f1 := h.rp
  f2 := fun a b hE hb => by
    obtain ⟨j, hj, rfl⟩ := List.mem_iff_getElem.1 ((h.r1 b).2 hb)
    exact h.r3 j _ a (List.getElem?_eq_getElem hj) hE (.inl hj)
  f3 := fun x hx hf => by
    rcases h.r4 x ((h.r1 x).2 hf) with e | ⟨b, b1, b2, b3⟩
    · exact absurd e hx
    · have := (h.r1 b).1 b2
      have := h.rp b
      exact ⟨b, b1, by omega, b3⟩
  f5 := fun x => by
    by_cases e : far x = -1
    · omega
    · obtain ⟨j, hj, hx⟩ := List.mem_iff_getElem.1 ((h.r1 x).2 e)
      have := h.r5 j x (by rw [← hx]; exact List.getElem?_eq_getElem hj)
      have := h.len
      omega
end Go.Proofs.Ytmflbibogkebmaa
namespace Go.Proofs.Ytmflbibogkebmaa
open Go.RowKit
open Rd Fl

theorem issInfo : (Try.prog.info? 24).map (·.size) = some 1 ∧ (Try.prog.info? 24).map (·.bytes) = some 24 ∧ (Try.prog.info? 24).bind (·.zero) = some (.slice none 0 0) := ⟨by kernel_rfl, by kernel_rfl, by kernel_rfl⟩
theorem make_iss (n : Nat) (hn : n ≤ 1048576) (w : World) : (Instr.makeSlice 34 (.int .i64 (n : Int)) (.int .i64 (n : Int))).run Try.prog w = .ok (.slice (some ⟨w.heap.size, 0, none⟩) n n) (w.alloc (.cells (madeCells #[.slice none 0 0] n) 24)) := by
  cases hi : Try.prog.info? 24 with
  | none => have := issInfo.1; rw [hi] at this; cases this
  | some i =>
    have h1 : i.size = 1 := by have := issInfo.1; rw [hi] at this; simpa using this
    have h2 : i.bytes = 24 := by have := issInfo.2.1; rw [hi] at this; simpa using this
    have h3 : i.zero = some (.slice none 0 0) := by have := issInfo.2.2; rw [hi] at this; simpa using this
    have := run_make (P := Try.prog) w 34 24 i _ Try.underlying34 hi h3 .i64 .i64 n n (by omega) (Int.le_refl _) (by rw [h2]; omega) (by omega)
    rw [h1] at this
    simpa [Value.cells] using this


/-- The lists rs lie from R on. -/
def IssAt (w : World) (R : Option Addr) (rs : List (List Int)) : Prop :=
  ∃ b off, (rs ≠ [] → R = some ⟨b, off, none⟩) ∧ ∀ i l, rs[i]? = some l → ∃ A cap, w.cell? ⟨b, off + i, none⟩ = some (.slice A l.length cap) ∧ LAt iv w A l

theorem IssAt.keep {w w' : World} {R : Option Addr} {rs : List (List Int)} (h : IssAt w R rs) (hb : Below w.heap.size w w') : IssAt w' R rs := by
  obtain ⟨b, off, h1, h2⟩ := h
  refine ⟨b, off, h1, fun i l hi => ?_⟩
  obtain ⟨A, cap, h3, h4⟩ := h2 i l hi
  exact ⟨A, cap, keep_cell hb h3, h4.keep hb⟩

/-- The first k lists lie in blocks of their own behind N, N's first k cells leading there. -/
def IssTo (w : World) (N k : Nat) (rs : List (List Int)) : Prop :=
  ∀ i l, i < k → rs[i]? = some l → ∃ M, N < M ∧ M < w.heap.size ∧ w.cell? ⟨N, i, none⟩ = some (.slice (some ⟨M, 0, none⟩) l.length l.length) ∧ LOwn iv w M l
theorem IssTo.keep {w w' : World} {N k : Nat} {rs : List (List Int)} (h : IssTo w N k rs) (hb : Below w.heap.size w w') : IssTo w' N k rs := by
  intro i l hi hl
  obtain ⟨M, h1, h2, h3, h4⟩ := h i l hi hl
  exact ⟨M, h1, Nat.lt_of_lt_of_le h2 hb.size, keep_cell hb h3, h4.keep hb⟩
theorem IssTo.iss {w : World} {N : Nat} {rs : List (List Int)} (h : IssTo w N rs.length rs) : IssAt w (some ⟨N, 0, none⟩) rs := by
  refine ⟨N, 0, fun _ => rfl, fun i l hl => ?_⟩
  obtain ⟨M, h1, h2, h3, h4⟩ := h i l (List.getElem?_eq_some_iff.1 hl).1 hl
  exact ⟨_, _, by rw [Nat.zero_add]; exact h3, h4.at⟩


/-- One list more has been copied. -/
theorem toiss_step (w wr w1 : World) (rs : List (List Int)) (k : Nat) (l : List Int) (hk : k < rs.length) (hl : rs[k]? = some l) (hsz : w.heap.size < wr.heap.size) (hth : wr.there w.heap.size 0 rs.length)
    (hown : IssTo wr w.heap.size k rs) (hbw : Below w.heap.size w wr) (h1 : wr.heap.size < w1.heap.size) (h2 : LOwn iv w1 wr.heap.size l) (hb1 : Below wr.heap.size wr w1) :
    w.heap.size < (w1.setCell ⟨w.heap.size, k, none⟩ (.slice (some ⟨wr.heap.size, 0, none⟩) l.length l.length)).heap.size ∧
    (w1.setCell ⟨w.heap.size, k, none⟩ (.slice (some ⟨wr.heap.size, 0, none⟩) l.length l.length)).there w.heap.size 0 rs.length ∧
    IssTo (w1.setCell ⟨w.heap.size, k, none⟩ (.slice (some ⟨wr.heap.size, 0, none⟩) l.length l.length)) w.heap.size (k + 1) rs ∧
    Below w.heap.size w (w1.setCell ⟨w.heap.size, k, none⟩ (.slice (some ⟨wr.heap.size, 0, none⟩) l.length l.length)) := by
  have hth1 := there_keep hb1 hth
  refine ⟨by rw [set_size]; omega, World.there_setCells hth1 _ _ [_], fun i x hi hx => ?_, (hbw.trans (hb1.mono (by omega))).setCell (p := ⟨w.heap.size, k, none⟩) (Nat.le_refl _) _⟩
  by_cases e : i = k
  · subst e
    rw [hl] at hx
    cases hx
    obtain ⟨y, hy⟩ := Option.isSome_iff_exists.1 (hth1 i hk).1
    rw [Nat.zero_add] at hy
    exact ⟨wr.heap.size, hsz, by rw [set_size]; omega, World.cell?_setCell_same _ _ _ hy, h2.set _ _ _ (by omega)⟩
  · obtain ⟨M, g1, g2, g3, g4⟩ := (hown.keep hb1) i x (by omega) hx
    refine ⟨M, g1, by rw [set_size]; exact g2, ?_, g4.set _ _ _ (by omega)⟩
    rw [World.cell?_setCell_other _ _ _ _ (by simp <;> omega)]
    exact g3

set_option maxRecDepth 20000 in
set_option maxHeartbeats 1000000 in
theorem eqiss_any (A B : Option Addr) (rs : List (List Int)) (ca cb : Nat) (hl : rs.length ≤ 1048576) (hls : ∀ l ∈ rs, l.length ≤ 1048576) (w : World) (hA : IssAt w A rs) (hB : IssAt w B rs) :
    Calls Try.prog 20 #[.slice A rs.length ca, .slice B rs.length cb] w fun e w' => e = .returned (.bool true) ∧ Below w.heap.size w w' := by
  have hl' : (rs.length : Int) ≤ 1048576 := by omega
  obtain ⟨b, off, hA1, hc⟩ := hA
  obtain ⟨b', off', hB1, hc'⟩ := hB
  by_cases he : rs = []
  · subst he
    clear hc hA1 hc' hB1
    go_enter Try.func20, Try.ntmps20
    go_wp2
    go_loop [5] (fun i => i = .int .i64 0) (fun _ => 0)
    case atStart => rfl
    case round =>
      subst hrel
      go_wp2
      go_ret
      exact ⟨rfl, Below.refl _ _⟩
  · have hA2 := hA1 he
    have hB2 := hB1 he
    subst hA2 hB2
    have HC := hide' (fun i (hi : i < rs.length) => hc i rs[i] (List.getElem?_eq_getElem hi))
    have HD := hide' (fun i (hi : i < rs.length) => hc' i rs[i] (List.getElem?_eq_getElem hi))
    have HLL := hide' hls
    clear hc hA1 he hc' hB1 hls
    go_enter Try.func20, Try.ntmps20
    go_wp2
    go_loopw [5] (fun i wr => ∃ k : Nat, k ≤ rs.length ∧ i = .int .i64 k ∧ Hid (Below w.heap.size w wr)) (fun i _ => rs.length - (intOf i).toNat)
    case atStart => exact ⟨0, Nat.zero_le _, rfl, Below.refl _ _⟩
    case round =>
      obtain ⟨k, hk, rfl, hbw⟩ := hrel
      by_cases hlt : k < rs.length
      · obtain ⟨A1, p1, x1, y1⟩ := HC.out k hlt
        obtain ⟨A2, p2, x2, y2⟩ := HD.out k hlt
        have z1 := keep_cell hbw.out x1
        have z2 := keep_cell hbw.out x2
        have Y1 := hide' (y1.keep hbw.out.drew)
        have Y2 := hide' (y2.keep hbw.out.drew)
        have HL := hide' (HLL.out rs[k] (List.getElem_mem hlt))
        clear x1 x2 y1 y2
        generalize rs[k] = l at z1 z2 Y1 Y2 HL
        go_wp2_with fail
        go_region_with (go_at_call 13; refine (eqints_any A1 A2 l p1 p2 HL.out _ Y1.out Y2.out).mono ?_; rintro e w1 ⟨rfl, hb1⟩)
        all_goals
          go_wp2_with fail
          go_roundw
          case rel => exact ⟨k + 1, by omega, by go_num, first_below hbw.out hb1⟩
          case measure => simp [intOf]; omega
      · go_wp2
        go_ret
        exact ⟨rfl, hbw.out⟩


/-- The lists lie at N's cells, each in a block of its own above N and below hi. -/
def IssIn (w : World) (N hi : Nat) (rs : List (List Int)) : Prop :=
  ∀ i l, rs[i]? = some l → ∃ M, N < M ∧ M < hi ∧ w.cell? ⟨N, i, none⟩ = some (.slice (some ⟨M, 0, none⟩) l.length l.length) ∧ w.there M 0 (l.length)
theorem IssTo.in {w : World} {N : Nat} {rs : List (List Int)} (h : IssTo w N rs.length rs) : IssIn w N w.heap.size rs := by
  intro i l hl
  obtain ⟨M, h1, h2, h3, h4⟩ := h i l (List.getElem?_eq_some_iff.1 hl).1 hl
  exact ⟨M, h1, h2, h3, h4.1⟩
theorem IssIn.keep {w w' : World} {N hi : Nat} {rs : List (List Int)} (h : IssIn w N hi rs) (hb : Below w.heap.size w w') : IssIn w' N hi rs := by
  intro i l hl
  obtain ⟨M, h1, h2, h3, h4⟩ := h i l hl
  exact ⟨M, h1, h2, keep_cell hb h3, there_keep hb h4⟩
theorem IssIn.edit {w w' : World} {N hi : Nat} {rs : List (List Int)} (h : IssIn w N hi rs) {lo up : Nat} (he : Edit lo up w w') (hN : N < lo ∨ up ≤ N) : IssIn w' N hi rs := by
  intro i l hl
  obtain ⟨M, h1, h2, h3, h4⟩ := h i l hl
  exact ⟨M, h1, h2, he.cell h3 hN, he.th _ _ _ h4⟩


set_option maxRecDepth 20000 in
set_option maxHeartbeats 1000000 in
theorem markiss_any (rs : List (List Int)) (cap N hi : Nat) (k : Int) (h0 : 0 ≤ k) (hk : k ≤ 1048576) (hl : rs.length ≤ 1048576) (hls : ∀ l ∈ rs, l.length ≤ 1048576) (w : World) (hO : IssIn w N hi rs) :
    Calls Try.prog 21 #[.slice (some ⟨N, 0, none⟩) rs.length cap, .int .i64 k] w fun e w' => (∃ y : Int, e = .returned (.int .i64 y) ∧ 0 ≤ y ∧ y ≤ k + 4194304 * rs.length) ∧ Edit (N + 1) hi w w' := by
  have hl' : (rs.length : Int) ≤ 1048576 := by omega
  have HO := hide' hO
  have HLS := hide' hls
  clear hO hls
  go_enter Try.func21, Try.ntmps21
  go_wp2
  go_loopw [1, 5] (fun x i wr => ∃ (j : Nat) (y : Int), j ≤ rs.length ∧ i = .int .i64 j ∧ x = .int .i64 y ∧ 0 ≤ y ∧ y ≤ k + 4194304 * j ∧ Hid (Edit (N + 1) hi w wr)) (fun _ i _ => rs.length - (intOf i).toNat)
  case atStart => exact ⟨0, k, Nat.zero_le _, rfl, rfl, by omega, by omega, Edit.refl _ _ _⟩
  case round =>
    obtain ⟨j, y, hj, rfl, rfl, hy0, hy1, hed⟩ := hrel
    by_cases hlt : j < rs.length
    · obtain ⟨M, h1, h2, h3, h4⟩ := HO.out j rs[j] (List.getElem?_eq_getElem hlt)
      have hcell := hed.out.cell h3 (.inl (Nat.lt_succ_self _))
      have HT := hide' (hed.out.th _ _ _ h4)
      have HM := hide' (HLS.out rs[j] (List.getElem_mem hlt))
      clear h3 h4
      generalize rs[j] = l at hcell HT HM
      have hy2 : y ≤ 4611686018427387904 := by omega
      go_wp2_with (go_at_call 16; refine (markints_any _ l.length _ M y hy0 hy2 HM.out (fun _ => rfl) _ HT.out).mono ?_; rintro e w' ⟨rfl, -, he1⟩)
      go_roundw
      case rel => exact ⟨j + 1, y + l.length, by omega, by go_num, rfl, by omega, by have := HM.out; omega, hed.out.trans (he1.mono (by omega) (by omega))⟩
      case measure => simp [intOf]; omega
    · have hke : j = rs.length := by omega
      go_wp2
      go_ret
      exact ⟨⟨y, rfl, hy0, by rw [← hke]; exact hy1⟩, hed.out⟩


end Go.Proofs.Ytmflbibogkebmaa
namespace Go.Proofs.Ytmflbibogkebmaa
open Go.RowKit
open Rd Fl

def inC (lo hi x : Int) : Bool := decide (lo ≤ x ∧ x ≤ hi)
theorem allC_no {α : Type} {p : α → Bool} {l : List α} {k : Nat} (h : k < l.length) (hp : p l[k] = false) : l.all p = false := by
  rw [Bool.eq_false_iff]
  intro h2
  have := List.all_eq_true.1 h2 _ (List.getElem_mem h)
  rw [hp] at this
  cases this
theorem allC_succ {α : Type} {p : α → Bool} {l : List α} {k : Nat} (h : k < l.length) (h1 : ∀ x ∈ l.take k, p x = true) (h2 : p l[k] = true) : ∀ x ∈ l.take (k + 1), p x = true := by
  intro x hx
  rw [List.take_succ_eq_append_getElem h, List.mem_append] at hx
  rcases hx with hx | hx
  · exact h1 x hx
  · rw [List.mem_singleton] at hx; rw [hx]; exact h2
theorem allC_all {α : Type} {p : α → Bool} {l : List α} (h1 : ∀ x ∈ l.take l.length, p x = true) : l.all p = true := by
  rw [List.take_length] at h1
  exact List.all_eq_true.2 h1


theorem own_slice {w : World} {B n : Nat} {x : Value} {xs : List Value} (h : w.ownsRow B 3 1 x n xs) (hn : n ≠ 0) : ∃ g cap, x = .slice (some ⟨g, 0, none⟩) n cap := by
  rcases h.2 with ⟨-, h0⟩ | ⟨g, cap, cur, rfl, -⟩
  · exact absurd h0 hn
  · exact ⟨g, cap, rfl⟩
theorem own_at {w : World} {B : Nat} {x : Value} {l : List Int} (h : w.ownsRow B 3 1 x l.length (l.map iv)) : ∃ A cap, x = .slice A l.length cap ∧ LAt iv w A l := by
  rcases h.2 with ⟨rfl, h0⟩ | ⟨g, cap, cur, rfl, -⟩
  · exact ⟨none, 0, by rw [h0], 0, 0, fun hne => absurd (List.length_eq_zero_iff.1 h0) hne, fun i y hy => by rw [List.length_eq_zero_iff.1 h0] at hy; cases hy⟩
  · refine ⟨some ⟨g, 0, none⟩, cap, rfl, g, 0, fun _ => rfl, fun i y hy => ?_⟩
    obtain ⟨hi, he⟩ := List.getElem?_eq_some_iff.1 hy
    have := own_cells h i hi
    rw [he] at this
    rw [Nat.zero_add]
    exact this

set_option maxRecDepth 20000 in
set_option maxHeartbeats 1000000 in
theorem l1has_any (A : Option Addr) (l : List Int) (cap : Nat) (n : Int) (hl : l.length ≤ 1048576) (w : World) (hA : LAt iv w A l) :
    Calls Try.prog 43 #[.slice A l.length cap, .int .i64 n] w fun e w' => e = .returned (.bool (decide (n ∈ l))) ∧ w' = w := by
  have hl' : (l.length : Int) ≤ 1048576 := by omega
  obtain ⟨b, off, hA1, hc⟩ := hA
  have HN := hide' (fun (h : ∀ x ∈ l.take l.length, x ≠ n) => (show decide (n ∈ l) = false from decide_eq_false (fun hm => h n (by rwa [List.take_length]) rfl)))
  have HY := hide' (fun (k : Nat) (h : l[k]? = some n) => (show decide (n ∈ l) = true from decide_eq_true (List.mem_of_getElem? h)))
  have HC := hide' hc
  have HA := hide' hA1
  have HTS := hide' (fun k (h : k < l.length) => List.take_succ_eq_append_getElem h)
  clear hc hA1
  go_enter Try.func43, Try.ntmps43
  go_wp2
  go_loop [9] (fun i => ∃ k : Nat, k ≤ l.length ∧ i = .int .i64 k ∧ Hid (∀ x ∈ l.take k, x ≠ n)) (fun i => l.length - (intOf i).toNat)
  case atStart => exact ⟨0, Nat.zero_le _, rfl, fun x hx => by cases hx⟩
  case round =>
    obtain ⟨k, hk, rfl, hlow⟩ := hrel
    by_cases hlt : k < l.length
    · have hA2 := HA.out (fun e => by rw [e] at hlt; simp at hlt)
      subst hA2
      have c0 : _ = some (Value.int .i64 l[k]) := HC.out k l[k] (List.getElem?_eq_getElem hlt)
      have HK := hide' (List.getElem?_eq_getElem hlt)
      have HT := hide' (HTS.out k hlt)
      generalize l[k] = o at c0 HK HT
      by_cases ho : o = n
      · subst ho
        go_wp2
        go_ret
        exact ⟨by rw [HY.out k HK.out]; rfl, rfl⟩
      · go_wp2
        go_round
        case rel =>
          refine ⟨k + 1, by omega, by go_num, fun x hx => ?_⟩
          rw [HT.out, List.mem_append] at hx
          rcases hx with hx | hx
          · exact hlow.out x hx
          · rw [List.mem_singleton] at hx; subst hx; exact ho
        case measure => simp [intOf]; omega
    · have hke : k = l.length := by omega
      subst hke
      go_wp2
      go_ret
      exact ⟨by rw [HN.out hlow.out]; rfl, rfl⟩

set_option maxRecDepth 20000 in
set_option maxHeartbeats 1000000 in
theorem l1own_any (l : List Int) (g cap B : Nat) (hl : l.length ≤ 1000) (w : World) (ho : w.ownsRow B 3 1 (.slice (some ⟨g, 0, none⟩) l.length cap) l.length (l.map iv)) :
    Calls Try.prog 94 #[.slice (some ⟨g, 0, none⟩) l.length cap] w fun e w' => (∃ v, e = .returned v ∧ w'.ownsRow w.heap.size 3 1 v l.length (l.map iv)) ∧ Below w.heap.size w w' := by
  obtain ⟨i0, hi, hz0, hz1, hz2⟩ := inInfo
  have hl' : (l.length : Int) ≤ 1000 := by omega
  have HC := hide' (own_cells ho)
  have H0 := hide' (show (w.alloc (.cells #[] 3)).ownsRow w.heap.size 3 1 (.slice (some ⟨w.heap.size, 0, none⟩) 0 0) 0 [] from World.ownsRow_made w #[] 0 (Nat.le_refl _) (by unfold maxLen; omega) rfl)
  have L1 := hide' (show (l.map iv).length = l.length * 1 by simp)
  have C1 := hide' (show ∀ j u, (l.map iv)[j]? = some u → (w.alloc (.cells #[] 3)).cell? ((⟨g, 0, none⟩ : Addr).add j) = some u by have := iv_news (w := w.alloc (.cells #[] 3)) (g := g) (l := l) (fun j hj => keep_cell ((Below.refl _ w).up _) (HC.out j hj)) 0 l.length; simpa using this)
  clear ho
  go_enter Try.func94, Try.ntmps94
  go_wp2_with (at_builtin; refine wpList_append_own _ rfl _ _ 24 rfl w.heap.size 3 i0 (.int .i64 0) 1 8 Try.underlying24 hi hz0 hz1 hz2 rfl (by decide) _ _ _ rfl H0.out ⟨g, 0, none⟩ l.length cap (l.map iv) rfl L1.out C1.out (iv_one _) (by unfold maxLen; omega) (by omega) (by simp) ?_)
  intro v1 w1 hown1 hgrow1 _
  have B1 := hide' (Below.grown ((Below.refl w.heap.size w).up (.cells #[] 3)) hgrow1 (by simp) (own_base' H0.out))
  have H1 := hide' (show w1.ownsRow w.heap.size 3 1 v1 l.length (l.map iv) by simpa using hown1)
  clear hown1 hgrow1
  go_wp2_with fail
  go_ret
  exact ⟨⟨_, rfl, H1.out⟩, B1.out⟩

/-- a list of pairs that is good -/
def goodE (es : List (List Int)) : Bool := es.all (fun e => decide (e.length = 2) && e.all (fun x => decide (0 ≤ x ∧ x ≤ 99))) && decide (es.length ≤ 100)
def pairL (p : Int × Int) : List Int := [p.1, p.2]
theorem goodE_pairs {es : List (List Int)} (h : goodE es = true) : ∃ E : List (Int × Int), es = E.map pairL ∧ E.length ≤ 100 ∧ ∀ p ∈ E, (0 ≤ p.1 ∧ p.1 < 100) ∧ (0 ≤ p.2 ∧ p.2 < 100) := by
  unfold goodE at h
  rw [Bool.and_eq_true, decide_eq_true_eq] at h
  have key : ∀ (es : List (List Int)), es.all (fun e => decide (e.length = 2) && e.all (fun x => decide (0 ≤ x ∧ x ≤ 99))) = true → ∃ E : List (Int × Int), es = E.map pairL ∧ ∀ p ∈ E, (0 ≤ p.1 ∧ p.1 < 100) ∧ (0 ≤ p.2 ∧ p.2 < 100) := by
    intro es
    induction es with
    | nil => intro _; exact ⟨[], rfl, fun p hp => by cases hp⟩
    | cons e t ih =>
      intro h
      rw [List.all_cons, Bool.and_eq_true, Bool.and_eq_true, decide_eq_true_eq] at h
      obtain ⟨E, h1, h2⟩ := ih h.2
      match e, h.1 with
      | [a, b], h3 =>
        have h4 := h3.2
        simp at h4
        refine ⟨(a, b) :: E, by rw [h1]; rfl, fun p hp => ?_⟩
        rcases List.mem_cons.1 hp with rfl | hp
        · exact ⟨⟨by omega, by omega⟩, by omega, by omega⟩
        · exact h2 p hp
      | [], h3 => exact absurd h3.1 (by simp)
      | [_], h3 => exact absurd h3.1 (by simp)
      | _ :: _ :: _ :: _, h3 => exact absurd h3.1 (by simp)
  obtain ⟨E, h1, h2⟩ := key es h.1
  exact ⟨E, h1, by have := h.2; rw [h1, List.length_map] at this; exact this, h2⟩
end Go.Proofs.Ytmflbibogkebmaa
