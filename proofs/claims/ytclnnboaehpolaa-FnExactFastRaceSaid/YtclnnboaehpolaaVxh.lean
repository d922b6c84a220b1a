/- l7Find: a cell's row among the rows. FastRace: the cells met, in the order in which they are met first: the specification's rows. -/
import Derived.Test.YtclnnboaehpolaaVxd
import Derived.Deep.DeepCutAuto
namespace Go.Proofs.Ytclnnboaehpolaa
open Go.RowKit Go.Maps
open Rd Fl

/-- the row of cell x among the first n: -1 where none is -/
def rowOf (c : Nat → Int) (n : Nat) (x : Int) : Int := match (List.range n).find? (fun i => c i == x) with
  | some i => (i : Int)
  | none => -1
theorem rowOf_at {c : Nat → Int} {n k : Nat} {x : Int} (hk : k < n) (h : c k = x) (hlow : ∀ j, j < k → c j ≠ x) : rowOf c n x = k := by
  unfold rowOf
  rw [find_first hk (by simpa using h) (fun j hj => by simpa using hlow j hj)]
theorem rowOf_none {c : Nat → Int} {n : Nat} {x : Int} (hlow : ∀ j, j < n → c j ≠ x) : rowOf c n x = -1 := by
  unfold rowOf
  rw [List.find?_eq_none.2 (fun j hj => by simpa using hlow j (List.mem_range.1 hj))]
/-- a row's four cells -/
def CellAt (w : World) (b o : Nat) (x y z : Int) (u : Value) : Prop := w.cell? ⟨b, o, none⟩ = some (.int .i64 x) ∧ w.cell? ⟨b, o + 1, none⟩ = some (.int .i64 y) ∧ w.cell? ⟨b, o + 2, none⟩ = some (.int .i64 z) ∧ w.cell? ⟨b, o + 3, none⟩ = some u
theorem CellAt.keep {w w' : World} {b o : Nat} {x y z : Int} {u : Value} (h : CellAt w b o x y z u) (hb : Below w.heap.size w w') : CellAt w' b o x y z u := by
  obtain ⟨h0, h1, h2, h3⟩ := h
  exact ⟨keep_cell hb h0, keep_cell hb h1, keep_cell hb h2, keep_cell hb h3⟩

set_option maxRecDepth 20000 in
set_option maxHeartbeats 4000000 in
theorem l7find_any (A : Option Addr) (n cap : Nat) (hn : n ≤ 1048576) (c y z : Nat → Int) (M P C : Nat → Nat) (B O : Nat) (x : Int) (w : World)
    (hA : 0 < n → A = some ⟨B, O, none⟩) (hrow : ∀ i, i < n → CellAt w B (O + i * 4) (c i) (y i) (z i) (.slice (some ⟨M i, P i, none⟩) 5 (C i))) :
    Calls Try.prog 12 #[.slice A n cap, .int .i64 x] w fun e w' => e = .returned (.int .i64 (rowOf c n x)) ∧ Below w.heap.size w w' := by
  have HR := hide' hrow
  have hn' : (n : Int) ≤ 1048576 := by omega
  have HA := hide' hA
  clear hrow hA
  go_enter Try.func12, Try.ntmps12
  go_wp2_with fail
  go_loopw [9] (fun q wr => ∃ k : Nat, k ≤ n ∧ q = .int .i64 k ∧ Hid (Below w.heap.size w wr) ∧ Hid (∀ j, j < k → c j ≠ x)) (fun q _ => n - (intOf q).toNat)
  case atStart => exact ⟨0, Nat.zero_le _, rfl, Below.refl _ _, fun j hj => absurd hj (by omega)⟩
  case round =>
    obtain ⟨k, hk, rfl, hb, hlow⟩ := hrel
    by_cases hlt : k < n
    · have hk2 : (k : Int) < n := by omega
      have hA2 := HA.out (by omega)
      subst hA2
      obtain ⟨c0, c1, c2, c3⟩ := (HR.out k hlt).keep hb.out
      obtain ⟨ck, hck⟩ : ∃ ck, c k = ck := ⟨_, rfl⟩
      rw [hck] at c0
      have HCK := hide' hck
      clear hck
      generalize y k = yk at *
      generalize z k = zk at *
      generalize M k = Mk at *
      generalize P k = Pk at *
      generalize C k = Ck at *
      have U0 := hide' ((Below.refl wr.heap.size wr).up (.cells #[.int .i64 ck, .int .i64 yk, .int .i64 zk, .slice (some ⟨Mk, Pk, none⟩) 5 Ck] 40))
      have d0 : (wr.alloc (.cells #[.int .i64 ck, .int .i64 yk, .int .i64 zk, .slice (some ⟨Mk, Pk, none⟩) 5 Ck] 40)).cell? ⟨wr.heap.size, 0, none⟩ = some (.int .i64 ck) := by rw [World.cell?_alloc_new]; rfl
      by_cases he : ck = x
      · subst he
        have HE := hide' (rowOf_at hlt HCK.out hlow.out)
        go_wp2_with fail
        go_ret
        exact ⟨by rw [HE.out]; rfl, hb.out.trans (U0.out.mono hb.out.size)⟩
      · have hne : (ck == x) = false := by rw [beq_eq_false_iff_ne]; exact he
        go_wp2_with fail
        go_roundw
        case rel => exact ⟨k + 1, by omega, by go_num, hb.out.trans (U0.out.mono hb.out.size), fun j hj => by
          by_cases e : j = k
          · rw [e, HCK.out]; exact he
          · exact hlow.out j (by omega)⟩
        case measure => simp [intOf]; omega
    · have hke : k = n := by omega
      subst hke
      have HE := hide' (rowOf_none hlow.out)
      go_wp2_with fail
      go_ret
      exact ⟨by rw [HE.out]; rfl, hb.out⟩
end Go.Proofs.Ytclnnboaehpolaa
namespace Go.Proofs.Ytclnnboaehpolaa
open Go.RowKit Go.Maps
open Rd Fl

/-- the cells met ahead of place k -/
def metTo (t : List EvD) : Nat → List Int
  | 0 => []
  | k + 1 => if tchB (evA t k) = true ∧ (evA t k).ob ∉ metTo t k then metTo t k ++ [(evA t k).ob] else metTo t k
theorem met_new {t : List EvD} {k : Nat} (ht : tchB (evA t k) = true) (h : (evA t k).ob ∉ metTo t k) : metTo t (k + 1) = metTo t k ++ [(evA t k).ob] := by
  conv => lhs; unfold metTo
  rw [if_pos ⟨ht, h⟩]
theorem met_old {t : List EvD} {k : Nat} (h : (evA t k).ob ∈ metTo t k) : metTo t (k + 1) = metTo t k := by
  conv => lhs; unfold metTo
  rw [if_neg (fun a => a.2 h)]
theorem met_no {t : List EvD} {k : Nat} (ht : tchB (evA t k) = false) : metTo t (k + 1) = metTo t k := by
  conv => lhs; unfold metTo
  rw [if_neg (fun a => by rw [ht] at a; cases a.1)]
theorem met_len (t : List EvD) : ∀ k, (metTo t k).length ≤ k
  | 0 => by simp [metTo]
  | k + 1 => by
    have := met_len t k
    unfold metTo
    split
    · simp; omega
    · omega
theorem met_nodup (t : List EvD) : ∀ k, (metTo t k).Nodup
  | 0 => by simp [metTo]
  | k + 1 => by
    have h := met_nodup t k
    unfold metTo
    split
    · rename_i hc
      rw [List.nodup_append]
      refine ⟨h, by simp, fun a ha b hb => ?_⟩
      rw [List.mem_singleton] at hb
      subst hb
      exact fun e => hc.2 (e ▸ ha)
    · exact h
theorem met_mem {t : List EvD} {k : Nat} {x : Int} (h : x ∈ metTo t k) : x ∈ metTo t (k + 1) := by
  have e : metTo t (k + 1) = if tchB (evA t k) = true ∧ (evA t k).ob ∉ metTo t k then metTo t k ++ [(evA t k).ob] else metTo t k := by
    conv => lhs; unfold metTo
  rw [e]
  split
  · exact List.mem_append_left _ h
  · exact h
theorem met_ob {t : List EvD} {k : Nat} (ht : tchB (evA t k) = true) : (evA t k).ob ∈ metTo t (k + 1) := by
  by_cases h : (evA t k).ob ∈ metTo t k
  · exact met_mem h
  · rw [met_new ht h]; simp
/-- Of a cell that was not met nothing is known. -/
theorem met_none {t : List EvD} {x : Int} : ∀ {k : Nat}, x ∉ metTo t k → stTo t k x = (0, 0) ∧ ∀ i, ldTo t k x i = 0
  | 0, _ => ⟨rfl, fun _ => rfl⟩
  | k + 1, h => by
    have ih := met_none (k := k) (fun a => h (met_mem a))
    have hn : ¬ (tchB (evA t k) = true ∧ (evA t k).ob = x) := fun a => h (by rw [← a.2]; exact met_ob a.1)
    have hb : tchB (evA t k) = true ↔ ((evA t k).kd = 2 ∨ (evA t k).kd = 3) := by unfold tchB; rw [Bool.or_eq_true, beq_iff_eq, beq_iff_eq]
    refine ⟨by rw [stTo_no (fun a => hn ⟨hb.2 (.inr a.1), a.2⟩)]; exact ih.1, fun i => ?_⟩
    rw [ldTo_no hn]
    exact ih.2 i
/-- The row of a cell that was met: its place; and of one that was not: -1. -/
theorem met_row {t : List EvD} {k j : Nat} {x : Int} {c : Nat → Int} (hc : ∀ i, (h : i < (metTo t k).length) → c i = (metTo t k)[i]) (hj : j < (metTo t k).length) (hx : (metTo t k)[j] = x) : rowOf c (metTo t k).length x = (j : Int) :=
  rowOf_at hj (by rw [hc j hj, hx]) (fun i hi e => by
    rw [hc i (by omega), ← hx] at e
    exact (List.pairwise_iff_getElem.1 (met_nodup t k)) i j (by omega) hj hi e)
theorem met_rowno {t : List EvD} {k : Nat} {x : Int} {c : Nat → Int} (hc : ∀ i, (h : i < (metTo t k).length) → c i = (metTo t k)[i]) (hx : x ∉ metTo t k) : rowOf c (metTo t k).length x = -1 :=
  rowOf_none (fun i hi e => hx (by rw [hc i hi] at e; rw [← e]; exact List.getElem_mem hi))
end Go.Proofs.Ytclnnboaehpolaa
