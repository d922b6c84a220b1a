/- Cycles: the search by steps backward, and the way that goes to the nearest. Data alone. -/
import Derived.Test.YtnmbkiajkpcmnaaDoorCyD
namespace Go.Proofs.YtnmbkiajkpcmnaaDoor

/-- how far each number is from s, -1 where it does not come there -/
structure Far (E : List (Int × Int)) (s : Int) (far : Int → Int) : Prop where
  f0 : far s = 0
  f1 : ∀ x, far x = -1 ∨ 0 ≤ far x
  f2 : ∀ a b, (a, b) ∈ E → far b ≠ -1 → far a ≠ -1 ∧ far a ≤ far b + 1
  f3 : ∀ x, x ≠ s → far x ≠ -1 → ∃ b, (x, b) ∈ E ∧ 0 ≤ far b ∧ far b = far x - 1
  f5 : ∀ x, far x ≤ 100
theorem Far.pos {E : List (Int × Int)} {s : Int} {far : Int → Int} (h : Far E s far) {x : Int} (hx : x ≠ s) (hf : far x ≠ -1) : 1 ≤ far x := by
  obtain ⟨b, -, h1, h2⟩ := h.f3 x hx hf
  omega
theorem Far.chain {E : List (Int × Int)} {s : Int} {far : Int → Int} (h : Far E s far) : ∀ (t : List Int) (x : Int), Chn E (x :: t ++ [s]) → far x ≠ -1 ∧ far x ≤ (x :: t).length
  | [], x, hc => by
    have := h.f2 x s hc.1 (by rw [h.f0]; decide)
    rw [h.f0] at this
    simpa using this
  | y :: r, x, hc => by
    have ih := Far.chain h r y hc.2
    have := h.f2 x y hc.1 ih.1
    refine ⟨this.1, ?_⟩
    have := ih.2
    simp only [List.length_cons] at this ⊢
    omega

/-- n is the nearest behind a, and the least of these -/
structure Near (E : List (Int × Int)) (far : Int → Int) (a n : Int) : Prop where
  mem : (a, n) ∈ E
  ne : far n ≠ -1
  min : ∀ b, (a, b) ∈ E → far b ≠ -1 → far n < far b ∨ (far n = far b ∧ n ≤ b)
def Opt (E : List (Int × Int)) (s : Int) (q : List Int) (R : Int) : Prop := ∀ u, Clo E s u → (q.length : Int) + R ≤ u.length ∧ ((u.length : Int) = q.length + R → ¬ lexL (u.take q.length) q)
/-- the way so far: p, and the number at which it is -/
structure Gr (E : List (Int × Int)) (s : Int) (far : Int → Int) (p : List Int) (a : Int) : Prop where
  h : ∃ t, p ++ [a] = s :: t
  ch : Chn E (p ++ [a])
  c : (p = [] ∧ a = s) ∨ (a ≠ s ∧ 1 ≤ far a ∧ Opt E s (p ++ [a]) (far a - 1))
theorem gr_start (E : List (Int × Int)) (s : Int) (far : Int → Int) : Gr E s far [] s := ⟨⟨[], rfl⟩, trivial, .inl ⟨rfl, rfl⟩⟩
theorem Gr.opt {E : List (Int × Int)} {s : Int} {far : Int → Int} {p : List Int} {a n : Int} (g : Gr E s far p a) (hf : Far E s far) (hn : Near E far a n) : Opt E s (p ++ [a]) (far n) := by
  rcases g.c with ⟨rfl, rfl⟩ | ⟨h1, h2, h3⟩
  · rintro u ⟨⟨t, rfl⟩, hc⟩
    refine ⟨?_, fun _ => ?_⟩
    · match t, hc with
      | [], hc =>
        have := hn.min a hc.1 (by rw [hf.f0]; decide)
        rw [hf.f0] at this
        simp
        omega
      | y :: r, hc =>
        have h4 := hf.chain r y hc.2
        have h5 := hn.min y hc.1 h4.1
        have h6 := h4.2
        simp only [List.length_cons] at h6
        simp
        omega
    · simp
      exact lexL_irr _
  · have a1 := hf.f2 a n hn.mem hn.ne
    obtain ⟨b, b1, b2, b3⟩ := hf.f3 a h1 (by omega)
    have b4 := hn.min b b1 (by omega)
    have : far n = far a - 1 := by omega
    rw [this]
    exact h3
theorem Gr.found {E : List (Int × Int)} {s : Int} {far : Int → Int} {p : List Int} {a : Int} (g : Gr E s far p a) (hf : Far E s far) (hn : Near E far a s) : Best E s (p ++ [a]) := by
  refine ⟨⟨g.h, (chn_app (p ++ [a]) (by simp)).2 ⟨g.ch, by rw [lst_snoc]; exact hn.mem⟩⟩, fun u hu hlt => ?_⟩
  obtain ⟨h1, h2⟩ := g.opt hf hn u hu
  rw [hf.f0] at h1 h2
  rcases hlt with h3 | ⟨h3, h4⟩
  · omega
  · refine h2 (by omega) ?_
    rw [← h3, List.take_length]
    exact h4
theorem Gr.next {E : List (Int × Int)} {s : Int} {far : Int → Int} {p : List Int} {a n : Int} (g : Gr E s far p a) (hf : Far E s far) (hn : Near E far a n) (hs : n ≠ s) : Gr E s far (p ++ [a]) n := by
  have hpos := hf.pos hs hn.ne
  obtain ⟨t, ht⟩ := g.h
  refine ⟨⟨t ++ [n], by rw [ht]; rfl⟩, (chn_app (p ++ [a]) (by simp)).2 ⟨g.ch, by rw [lst_snoc]; exact hn.mem⟩, .inr ⟨hs, hpos, ?_⟩⟩
  have ho := g.opt hf hn
  have hla : lst (p ++ [a]) = a := lst_snoc p a
  generalize p ++ [a] = q at ho hla ht
  intro u hu
  obtain ⟨h1, h2⟩ := ho u hu
  refine ⟨by simp; omega, fun hl => ?_⟩
  have hl2 : (u.length : Int) = q.length + far n := by simp at hl; omega
  have hq := h2 hl2
  have hlen : q.length < u.length := by omega
  have e1 : u.take (q ++ [n]).length = u.take q.length ++ [u[q.length]] := by
    rw [List.length_append, List.length_singleton, List.take_succ_eq_append_getElem hlen]
  rw [e1]
  have hql : (u.take q.length).length = q.length := by simp; omega
  rcases lexL_tot (u.take q.length) q hql with h3 | h3 | h3
  · exact absurd h3 hq
  · rw [h3, lexL_same]
    have hsplit : u = q ++ (u[q.length] :: u.drop (q.length + 1)) := by
      have := (List.take_append_drop q.length u).symm
      rw [h3, List.drop_eq_getElem_cons hlen] at this
      exact this
    generalize hb : u[q.length] = b at hsplit
    generalize u.drop (q.length + 1) = r at hsplit
    have hur : (u.length : Int) = q.length + (b :: r).length := by rw [hsplit]; simp
    have hcl := hu.2
    rw [hsplit, List.append_assoc] at hcl
    have hqne : q ≠ [] := by rw [ht]; simp
    have hsp : ∀ (q' : List Int), q' ≠ [] → Chn E (q' ++ (b :: r ++ [s])) → (lst q', b) ∈ E ∧ Chn E (b :: r ++ [s]) := by
      intro q'
      induction q' with
      | nil => intro h; exact absurd rfl h
      | cons x q2 ih =>
        intro _ hc
        match q2, ih, hc with
        | [], _, hc => exact ⟨hc.1, hc.2⟩
        | y :: q3, ih, hc =>
          have := ih (by simp) hc.2
          have e : lst (x :: y :: q3) = lst (y :: q3) := by simp [lst]
          rw [e]
          exact this
    obtain ⟨k1, k2⟩ := hsp q hqne hcl
    rw [hla] at k1
    have k3 := hf.chain r b k2
    have k4 := hn.min b k1 k3.1
    have k5 := k3.2
    intro hlx
    rcases hlx with hlx | ⟨-, hlx⟩
    · omega
    · exact hlx
  · intro hlx
    exact lexL_irr _ (lexL_tra _ _ _ hlx (lexL_app q (u.take q.length) [n] [u[q.length]] hql.symm h3))
theorem Gr.none {E : List (Int × Int)} {s : Int} {far : Int → Int} {p : List Int} {a : Int} (g : Gr E s far p a) (hf : Far E s far) (hn : ∀ b, (a, b) ∈ E → far b = -1) : ¬ ∃ u, Clo E s u := by
  rcases g.c with ⟨rfl, rfl⟩ | ⟨h1, h2, -⟩
  · rintro ⟨u, ⟨t, rfl⟩, hc⟩
    match t, hc with
    | [], hc => have := hn a hc.1; rw [hf.f0] at this; omega
    | y :: r, hc => exact (hf.chain r y hc.2).1 (hn y hc.1)
  · obtain ⟨b, b1, b2, b3⟩ := hf.f3 a h1 (by omega)
    have := hn b b1
    omega

/-- The steps backward so far: those before i are done with, of i the pairs in dn. -/
structure Rch (E : List (Int × Int)) (s : Int) (far : Int → Int) (rd : List Int) (i : Nat) (dn : List (Int × Int)) : Prop where
  r0 : far s = 0
  r1 : ∀ x, x ∈ rd ↔ far x ≠ -1
  rp : ∀ x, far x = -1 ∨ 0 ≤ far x
  rn : rd.Nodup
  r2 : ∀ (a b : Nat) (x y : Int), a ≤ b → rd[a]? = some x → rd[b]? = some y → far x ≤ far y
  r2' : ∀ c, rd[i]? = some c → ∀ x ∈ rd, far x ≤ far c + 1
  r3 : ∀ (j : Nat) (y a : Int), rd[j]? = some y → (a, y) ∈ E → (j < i ∨ (j = i ∧ (a, y) ∈ dn)) → far a ≠ -1 ∧ far a ≤ far y + 1
  r4 : ∀ x ∈ rd, x = s ∨ ∃ b, (x, b) ∈ E ∧ b ∈ rd ∧ far b = far x - 1
  r5 : ∀ (k : Nat) (x : Int), rd[k]? = some x → far x ≤ k
  r7 : ∀ x ∈ rd, 0 ≤ x ∧ x < 100
theorem Rch.len {E : List (Int × Int)} {s : Int} {far : Int → Int} {rd : List Int} {i : Nat} {dn : List (Int × Int)} (h : Rch E s far rd i dn) : rd.length ≤ 100 := nodup_le 100 rd h.rn h.r7
theorem rch_start (E : List (Int × Int)) (s : Int) (hs : 0 ≤ s ∧ s < 100) (far : Int → Int) (h0 : far s = 0) (h1 : ∀ x, x ≠ s → far x = -1) : Rch E s far [s] 0 [] where
  r0 := h0
  r1 := fun x => by
    by_cases e : x = s
    · subst e; simp [h0]
    · simp [e, h1 x e]
  rp := fun x => by
    by_cases e : x = s
    · subst e; exact .inr (by omega)
    · exact .inl (h1 x e)
  rn := by simp
  r2 := fun a b x y _ hx hy => by
    have := (List.getElem?_eq_some_iff.1 hx); have := (List.getElem?_eq_some_iff.1 hy)
    have ha : a = 0 := by simp at *; omega
    have hb : b = 0 := by simp at *; omega
    subst ha hb
    rw [hx] at hy
    cases hy
    omega
  r2' := fun c hc x hx => by
    have e1 : s = c := by simpa using hc
    have e2 : x = s := by simpa using hx
    rw [e2, ← e1]; omega
  r3 := fun j y a _ _ h => by
    rcases h with h | ⟨-, h⟩
    · omega
    · cases h
  r4 := fun x hx => .inl (by simpa using hx)
  r5 := fun k x hx => by
    have e : x = s := by
      have := List.mem_of_getElem? hx
      simpa using this
    rw [e, h0]; omega
  r7 := fun x hx => by have e : x = s := by simpa using hx
                       rw [e]; exact hs
/-- a pair that leads elsewhere, or from one that is there -/
theorem Rch.skip {E : List (Int × Int)} {s : Int} {far : Int → Int} {rd : List Int} {i : Nat} {dn : List (Int × Int)} (h : Rch E s far rd i dn) {c : Int} (hc : rd[i]? = some c) (p : Int × Int) (hp : p.2 ≠ c ∨ far p.1 ≠ -1) : Rch E s far rd i (dn ++ [p]) where
  r0 := h.r0
  r1 := h.r1
  rp := h.rp
  rn := h.rn
  r2 := h.r2
  r2' := h.r2'
  r3 := fun j y a hj hE hh => by
    rcases hh with hh | ⟨rfl, hh⟩
    · exact h.r3 j y a hj hE (.inl hh)
    · rcases List.mem_append.1 hh with hh | hh
      · exact h.r3 j y a hj hE (.inr ⟨rfl, hh⟩)
      · have e : (a, y) = p := by simpa using hh
        subst e
        rw [hc] at hj
        cases hj
        rcases hp with hp | hp
        · exact absurd rfl hp
        · exact ⟨hp, h.r2' c hc a ((h.r1 a).2 hp)⟩
  r4 := h.r4
  r5 := h.r5
  r7 := h.r7
/-- a pair from one that is new -/
theorem Rch.add {E : List (Int × Int)} {s : Int} {far : Int → Int} {rd : List Int} {i : Nat} {dn : List (Int × Int)} (h : Rch E s far rd i dn) {c a : Int} (hc : rd[i]? = some c) (hE : (a, c) ∈ E) (ha : far a = -1) (hb : 0 ≤ a ∧ a < 100) (far' : Int → Int) (h1 : far' a = far c + 1) (h2 : ∀ x, x ≠ a → far' x = far x) : Rch E s far' (rd ++ [a]) i (dn ++ [(a, c)]) := by
  have hi := (List.getElem?_eq_some_iff.1 hc).1
  have hcm := List.mem_of_getElem? hc
  have hcn := (h.r1 c).1 hcm
  have hna : a ∉ rd := fun hm => (h.r1 a).1 hm ha
  have hca : c ≠ a := fun e => hna (e ▸ hcm)
  have hold : ∀ x ∈ rd, far' x = far x := fun x hx => h2 x (fun e => hna (e ▸ hx))
  have hc0 := h.rp c
  have hsa : s ≠ a := fun e => by rw [← e, h.r0] at ha; omega
  have split : ∀ (k : Nat) (x : Int), (rd ++ [a])[k]? = some x → (k < rd.length ∧ rd[k]? = some x) ∨ (k = rd.length ∧ x = a) := by
    intro k x hx
    by_cases hk : k < rd.length
    · rw [List.getElem?_append_left hk] at hx; exact .inl ⟨hk, hx⟩
    · rw [List.getElem?_append_right (by omega)] at hx
      have := (List.getElem?_eq_some_iff.1 hx).1
      have hk2 : k = rd.length := by simp at this; omega
      subst hk2
      simp at hx
      exact .inr ⟨rfl, hx.symm⟩
  refine ⟨?_, ?_, ?_, ?_, ?_, ?_, ?_, ?_, ?_, ?_⟩
  · rw [h2 s hsa]; exact h.r0
  · intro x
    rw [List.mem_append]
    by_cases e : x = a
    · subst e; rw [h1]; simp; omega
    · rw [h2 x e, h.r1]; simp [e]
  · intro x
    by_cases e : x = a
    · subst e; rw [h1]; right; omega
    · rw [h2 x e]; exact h.rp x
  · rw [List.nodup_append]
    refine ⟨h.rn, by simp, fun x hx y hy => ?_⟩
    have e : y = a := by simpa using hy
    subst e
    exact fun e => hna (e ▸ hx)
  · intro k m x y hkm hx hy
    rcases split k x hx with ⟨k1, k2⟩ | ⟨k1, rfl⟩
    · have hxm := List.mem_of_getElem? k2
      rw [hold x hxm]
      rcases split m y hy with ⟨m1, m2⟩ | ⟨m1, rfl⟩
      · rw [hold y (List.mem_of_getElem? m2)]
        exact h.r2 k m x y hkm k2 m2
      · rw [h1]; exact h.r2' c hc x hxm
    · rcases split m y hy with ⟨m1, m2⟩ | ⟨m1, rfl⟩
      · omega
      · exact Int.le_refl _
  · intro c' hc' x hx
    have e : c' = c := by
      rcases split i c' hc' with ⟨k1, k2⟩ | ⟨k1, -⟩
      · rw [hc] at k2; cases k2; rfl
      · omega
    subst e
    rw [hold c' hcm]
    rcases List.mem_append.1 hx with hx | hx
    · rw [hold x hx]; exact h.r2' c' hc x hx
    · have e : x = a := by simpa using hx
      subst e; rw [h1]; omega
  · intro j y b hj hEb hh
    have hji : j ≤ i := by rcases hh with hh | ⟨hh, -⟩ <;> omega
    have hj' : rd[j]? = some y := by
      rcases split j y hj with ⟨-, k2⟩ | ⟨k1, -⟩
      · exact k2
      · omega
    have hym := List.mem_of_getElem? hj'
    rw [hold y hym]
    have oldcase : (far b ≠ -1 ∧ far b ≤ far y + 1) → far' b ≠ -1 ∧ far' b ≤ far y + 1 := by
      intro hh
      have : b ≠ a := fun e => hh.1 (e ▸ ha)
      rw [h2 b this]
      exact hh
    rcases hh with hh | ⟨rfl, hh⟩
    · exact oldcase (h.r3 j y b hj' hEb (.inl hh))
    · rcases List.mem_append.1 hh with hh | hh
      · exact oldcase (h.r3 j y b hj' hEb (.inr ⟨rfl, hh⟩))
      · have e : b = a ∧ y = c := by simpa using hh
        obtain ⟨rfl, rfl⟩ := e
        rw [h1]
        exact ⟨by omega, by omega⟩
  · intro x hx
    rcases List.mem_append.1 hx with hx | hx
    · rcases h.r4 x hx with e | ⟨b, b1, b2, b3⟩
      · exact .inl e
      · exact .inr ⟨b, b1, by simp [b2], by rw [hold b b2, hold x hx]; exact b3⟩
    · have e : x = a := by simpa using hx
      subst e
      exact .inr ⟨c, hE, by simp [hcm], by rw [h1, hold c hcm]; omega⟩
  · intro k x hx
    rcases split k x hx with ⟨k1, k2⟩ | ⟨k1, rfl⟩
    · rw [hold x (List.mem_of_getElem? k2)]; exact h.r5 k x k2
    · rw [h1]; have := h.r5 i c hc; omega
  · intro x hx
    rcases List.mem_append.1 hx with hx | hx
    · exact h.r7 x hx
    · have e : x = a := by simpa using hx
      subst e; exact hb
theorem Rch.next {E : List (Int × Int)} {s : Int} {far : Int → Int} {rd : List Int} {i : Nat} {dn : List (Int × Int)} (h : Rch E s far rd i dn) {c : Int} (hc : rd[i]? = some c) (hd : ∀ p ∈ E, p ∈ dn) : Rch E s far rd (i + 1) [] where
  r0 := h.r0
  r1 := h.r1
  rp := h.rp
  rn := h.rn
  r2 := h.r2
  r2' := fun c' hc' x hx => by
    have h1 := h.r2' c hc x hx
    have h2 := h.r2 i (i + 1) c c' (by omega) hc hc'
    omega
  r3 := fun j y a hj hE hh => by
    rcases hh with hh | ⟨-, hh⟩
    · by_cases e : j = i
      · exact h.r3 j y a hj hE (.inr ⟨e, hd _ hE⟩)
      · exact h.r3 j y a hj hE (.inl (by omega))
    · cases hh
  r4 := h.r4
  r5 := h.r5
  r7 := h.r7
theorem Rch.done {E : List (Int × Int)} {s : Int} {far : Int → Int} {rd : List Int} {dn : List (Int × Int)} (h : Rch E s far rd rd.length dn) : Far E s far where
  f0 := h.r0
  f1 := h.rp
  f2 := fun a b hE hb => by
    obtain ⟨j, hj, rfl⟩ := List.mem_iff_getElem.1 ((h.r1 b).2 hb)
    exact h.r3 j _ a (List.getElem?_eq_getElem hj) hE (.inl hj)
  f3 := fun x hx hf => by
    rcases h.r4 x ((h.r1 x).2 hf) with e | ⟨b, b1, b2, b3⟩
    · exact absurd e hx
    · have := (h.r1 b).1 b2
      have := h.rp b
      exact ⟨b, b1, by omega, b3⟩
  f5 := fun x => by
    by_cases e : far x = -1
    · omega
    · obtain ⟨j, hj, hx⟩ := List.mem_iff_getElem.1 ((h.r1 x).2 e)
      have := h.r5 j x (by rw [← hx]; exact List.getElem?_eq_getElem hj)
      have := h.len
      omega
end Go.Proofs.YtnmbkiajkpcmnaaDoor
