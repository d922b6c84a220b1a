/- Who waits for whom: the data, and both sides joined. -/
import Derived.Test.YtdifamjkbagfcaaDoorEq
import Derived.Test.YtdifamjkbagfcaaDoorStK
import Derived.Test.YtdifamjkbagfcaaDoorStF
namespace Go.Proofs.YtdifamjkbagfcaaDoor
open Go.RowKit
open Rd Fl

/-- the state of a thread by its number -/
def stOf (ts : List ThD) (k : Int) : Int := match ts[k.toNat]? with | some t => t.st | none => 0
/-- the thread that a join waits for -/
def joinB (ts : List ThD) (sk : List (Bool × Nat)) : Int := match sk.getLast? with | none => -1 | some x => if tiB x.1 x.2 ts.length = true then (if stOf ts (tiN x.1 x.2 ts.length) = 2 then -1 else tiN x.1 x.2 ts.length) else -1
/-- the thread that a thread waits for -/
def blockN (rs : List (List OpD)) (ts : List ThD) (ow : List Int) (t : ThD) : Int :=
  if t.st = 4 then ow.getD t.lk.toNat (-1)
  else if t.st = 1 then
    match (rs.getD t.rt.toNat [])[t.pc.toNat]? with
    | none => -1
    | some o => if o.c = 12 then ow.getD o.a.toNat (-1) else if o.c = 15 then joinB ts t.sk else -1
  else -1

theorem goodst_facts {cl lk cd : Int} {rs : List (List OpD)} {s : StD} (h : goodSt cl lk cd rs s = true) : goodS cl lk cd rs = true ∧ (1 ≤ s.ts.length ∧ s.ts.length ≤ 5) ∧ (s.cl.length : Int) = cl ∧ (s.ow.length : Int) = lk ∧ (0 ≤ s.ft ∧ s.ft ≤ 4) ∧ (∀ t ∈ s.ts, thB lk cd rs t = true) ∧ (∀ x ∈ s.ow, -1 ≤ x ∧ x ≤ (s.ts.length : Int) - 1) := by
  unfold goodSt at h
  rw [Bool.and_eq_true] at h
  obtain ⟨h1, h2⟩ := h
  unfold stB at h2
  rw [Bool.and_eq_true, Bool.and_eq_true] at h2
  obtain ⟨h3, h4, h5⟩ := h2
  obtain ⟨g1, g2, g3, g4⟩ := hd_all h3
  refine ⟨h1, by omega, g2, g3, g4, List.all_eq_true.1 h4, fun x hx => ?_⟩
  have := List.all_eq_true.1 h5 x hx
  unfold inB at this
  exact of_decide_eq_true this

theorem th_facts {lk cd : Int} {rs : List (List OpD)} {t : ThD} (h : thB lk cd rs t = true) : ∃ a p : Nat, t.rt = a ∧ t.pc = p ∧ ∃ ha : a < rs.length, p ≤ rs[a].length ∧ t.sk.length ≤ 8 ∧ (1 ≤ t.st ∧ t.st ≤ 4) ∧ (t.st = 4 → ∃ l : Nat, t.lk = l ∧ (l : Int) < lk) := by
  unfold thB at h
  simp only [Bool.and_eq_true, decide_eq_true_eq] at h
  obtain ⟨⟨⟨⟨h1, h2⟩, h3⟩, h4⟩, h5⟩ := h
  have ha : t.rt.toNat < rs.length := by omega
  rw [List.getD_eq_getElem?_getD, List.getElem?_eq_getElem ha, Option.getD_some] at h4
  refine ⟨t.rt.toNat, t.pc.toNat, by omega, by omega, ha, by omega, h3, h2, fun h => ?_⟩
  unfold restB at h5
  rw [if_pos (.inr h), Bool.and_eq_true, decide_eq_true_eq, decide_eq_true_eq] at h5
  exact ⟨t.lk.toNat, by omega, by omega⟩

theorem op_facts {cl lk cd : Int} {rs : List (List OpD)} (h : goodS cl lk cd rs = true) {l : List OpD} (hl : l ∈ rs) {o : OpD} (ho : o ∈ l) : specOK cl lk cd rs.length l.length o = true := by
  unfold goodS at h
  rw [Bool.and_eq_true] at h
  have h2 := List.all_eq_true.1 h.2 l hl
  unfold routS at h2
  rw [Bool.and_eq_true] at h2
  exact List.all_eq_true.1 h2.1 o ho
theorem lock_facts {cl lk cd n long : Int} {o : OpD} (h : specOK cl lk cd n long o = true) (hc : o.c = 12) : ∃ a : Nat, o.a = a ∧ (a : Int) < lk := by
  unfold specOK at h
  rw [Bool.and_eq_true] at h
  obtain ⟨h1, h2⟩ := h
  unfold plainB at h1
  simp only [Bool.and_eq_true, decide_eq_true_eq] at h1
  unfold withinB at h2
  rw [hc] at h2
  simp at h2
  exact ⟨o.a.toNat, by omega, by omega⟩

/-- What is known of a thread of a good state: it is woken; it is neither that nor runs; it runs and is at its end, at a lock, at another op, at a join. -/
def Way (rs : List (List OpD)) (s : StD) (t : ThD) : Prop :=
  (∃ l : Nat, t.st = 4 ∧ t.lk = l ∧ ∃ h : l < s.ow.length, blockN rs s.ts s.ow t = s.ow[l]) ∨
  (¬ t.st = 4 ∧ ¬ t.st = 1 ∧ blockN rs s.ts s.ow t = -1) ∨
  (t.st = 1 ∧ ∃ a p : Nat, t.rt = a ∧ t.pc = p ∧ ∃ ha : a < rs.length, rs[a].length = p ∧ blockN rs s.ts s.ow t = -1) ∨
  (t.st = 1 ∧ ∃ a p : Nat, t.rt = a ∧ t.pc = p ∧ ∃ (ha : a < rs.length) (hl : p < rs[a].length), rs[a][p].c = 12 ∧ ∃ x : Nat, rs[a][p].a = x ∧ ∃ h : x < s.ow.length, blockN rs s.ts s.ow t = s.ow[x]) ∨
  (t.st = 1 ∧ ∃ a p : Nat, t.rt = a ∧ t.pc = p ∧ ∃ (ha : a < rs.length) (hl : p < rs[a].length), ¬ rs[a][p].c = 12 ∧ ¬ rs[a][p].c = 15 ∧ blockN rs s.ts s.ow t = -1) ∨
  (t.st = 1 ∧ ∃ a p : Nat, t.rt = a ∧ t.pc = p ∧ ∃ (ha : a < rs.length) (hl : p < rs[a].length), rs[a][p].c = 15 ∧ blockN rs s.ts s.ow t = joinB s.ts t.sk)

theorem way_of {cl lk cd : Int} {rs : List (List OpD)} {s : StD} (h : goodSt cl lk cd rs s = true) {t : ThD} (ht : t ∈ s.ts) : Way rs s t := by
  obtain ⟨hg, -, -, h3, -, h5, -⟩ := goodst_facts h
  obtain ⟨a, p, e1, e2, ha, hp, -, h8, h9⟩ := th_facts (h5 t ht)
  by_cases h4 : t.st = 4
  · obtain ⟨l, el, hl⟩ := h9 h4
    have hl2 : l < s.ow.length := by omega
    refine .inl ⟨l, h4, el, hl2, ?_⟩
    unfold blockN
    rw [if_pos h4, el, Int.toNat_natCast, List.getD_eq_getElem?_getD, List.getElem?_eq_getElem hl2, Option.getD_some]
  · by_cases h1 : t.st = 1
    · have eb : blockN rs s.ts s.ow t = match rs[a][p]? with | none => -1 | some o => if o.c = 12 then s.ow.getD o.a.toNat (-1) else if o.c = 15 then joinB s.ts t.sk else -1 := by
        unfold blockN
        rw [if_neg h4, if_pos h1, e1, e2, Int.toNat_natCast, Int.toNat_natCast, List.getD_eq_getElem?_getD, List.getElem?_eq_getElem ha, Option.getD_some]
      by_cases hl : p < rs[a].length
      · rw [List.getElem?_eq_getElem hl] at eb
        by_cases hc : rs[a][p].c = 12
        · obtain ⟨x, ex, hx⟩ := lock_facts (op_facts hg (List.getElem_mem ha) (List.getElem_mem hl)) hc
          have hx2 : x < s.ow.length := by omega
          refine .inr (.inr (.inr (.inl ⟨h1, a, p, e1, e2, ha, hl, hc, x, ex, hx2, ?_⟩)))
          rw [eb]
          simp only [hc, if_true, ex, Int.toNat_natCast, List.getD_eq_getElem?_getD, List.getElem?_eq_getElem hx2, Option.getD_some]
        · by_cases hd : rs[a][p].c = 15
          · refine .inr (.inr (.inr (.inr (.inr ⟨h1, a, p, e1, e2, ha, hl, hd, ?_⟩))))
            rw [eb]
            simp only [if_neg hc, if_pos hd]
          · refine .inr (.inr (.inr (.inr (.inl ⟨h1, a, p, e1, e2, ha, hl, hc, hd, ?_⟩))))
            rw [eb]
            simp only [if_neg hc, if_neg hd]
      · rw [List.getElem?_eq_none (by omega)] at eb
        exact .inr (.inr (.inl ⟨h1, a, p, e1, e2, ha, by omega, eb⟩))
    · exact .inr (.inl ⟨h4, h1, by unfold blockN; rw [if_neg h4, if_neg h1]⟩)
end Go.Proofs.YtdifamjkbagfcaaDoor
