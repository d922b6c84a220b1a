/- Events: marked with what stands there behind, and held; runs in memory: sizes. -/
import Derived.Test.YtmflbibogkebmaaRnA
namespace Go.Proofs.Ytmflbibogkebmaa
open Go.RowKit
open Rd Fl

theorem cell_other {w : World} {N o M p : Nat} {v u : Value} (h : w.cell? ⟨M, p, none⟩ = some u) (hne : M ≠ N ∨ p ≠ o) : (w.setCell ⟨N, o, none⟩ v).cell? ⟨M, p, none⟩ = some u := by
  rw [World.cell?_setCell_other _ _ _ _ (by intro e; injection e with e1 e2; omega)]
  exact h
/-- an event's marks from y on -/
def evK (y : Int) : List Value := [.int .i64 y, .int .i64 (y + 1), .int .i64 (y + 1 + 1), .int .i64 (y + 1 + 1 + 1), .int .i64 (y + 1 + 1 + 1 + 1)]

set_option maxRecDepth 20000 in
set_option maxHeartbeats 1000000 in
theorem markevs_any (A : Option Addr) (n cap M : Nat) (k : Int) (h0 : 0 ≤ k) (hk : k ≤ 4611686018427387904) (hn : n ≤ 1048576) (hA : n ≠ 0 → A = some ⟨M, 0, none⟩) (w : World) (hth : w.there M 0 (n * 5)) :
    Calls Try.prog 15 #[.slice A n cap, .int .i64 k] w fun e w' => e = .returned (.int .i64 (k + 5 * n)) ∧ (∀ j : Nat, j < n → w'.rangeAt M (j * 5) (evK (k + 5 * j))) ∧ Edit M (M + 1) w w' := by
  have hn' : (n : Int) ≤ 1048576 := by omega
  by_cases he : n = 0
  · subst he
    clear hA
    go_enter Try.func15, Try.ntmps15
    go_wp2
    go_loop [1, 5] (fun x i => x = .int .i64 k ∧ i = .int .i64 0) (fun _ _ => 0)
    case atStart => exact ⟨rfl, rfl⟩
    case round =>
      obtain ⟨rfl, rfl⟩ := hrel
      go_wp2
      go_ret
      exact ⟨by simp, Edit.refl _ _ _⟩
  · have hA2 := hA he
    subst hA2
    have HTH := hide' hth
    clear hA he hth
    go_enter Try.func15, Try.ntmps15
    go_wp2
    go_loopw [1, 5] (fun x i wr => ∃ (j : Nat) (y : Int), j ≤ n ∧ i = .int .i64 j ∧ x = .int .i64 y ∧ y = k + 5 * j ∧ Hid (∀ j' : Nat, j' < j → wr.rangeAt M (j' * 5) (evK (k + 5 * j'))) ∧ Hid (Edit M (M + 1) w wr)) (fun _ i _ => n - (intOf i).toNat)
    case atStart => exact ⟨0, k, Nat.zero_le _, rfl, rfl, by omega, (fun j hj => by omega), Edit.refl _ _ _⟩
    case round =>
      obtain ⟨j, y, hj, rfl, rfl, hy, hdo, hed⟩ := hrel
      by_cases hlt : j < n
      · have hy0 : 0 ≤ y := by omega
        have hy1 : y ≤ 4611686018441000000 := by omega
        have HY := hide' hy
        clear hy
        have HT5 := hide' (there_part (hed.out.th _ _ _ HTH.out) (j * 5) 5 (by omega))
        obtain ⟨x0, x1, x2, x3, x4, ⟨d0, d1, d2, d3, d4⟩, z0, z1, z2, z3, z4⟩ := five_there HT5.out
        have HNX := hide' (show ∀ j' : Nat, j' < j + 1 → (wr.setCells M (j * 5) (evK y)).rangeAt M (j' * 5) (evK (k + 5 * j')) from fun j' hj' => by
          by_cases e : j' = j
          · subst e
            rw [← HY.out]
            exact World.rangeAt_setCells_same wr _ _ _ HT5.out
          · exact World.rangeAt_setCells_apart (hdo.out j' (by omega)) _ _ _ (.inr (.inl (by show j' * 5 + 5 ≤ _; omega))))
        clear HT5
        go_wp2
        go_roundw
        case rel => exact ⟨j + 1, y + 5, by omega, by go_num, by go_num, by have := HY.out; omega, HNX.out, ((((hed.out.set _ _ _ (Nat.le_refl _) (Nat.lt_succ_self _)).set _ _ _ (Nat.le_refl _) (Nat.lt_succ_self _)).set _ _ _ (Nat.le_refl _) (Nat.lt_succ_self _)).set _ _ _ (Nat.le_refl _) (Nat.lt_succ_self _)).set _ _ _ (Nat.le_refl _) (Nat.lt_succ_self _)⟩
        case measure => simp [intOf]; omega
      · have hke : j = n := by omega
        have HY := hide' hy
        clear hy
        go_wp2
        go_ret
        exact ⟨by rw [HY.out, hke]; rfl, (by rw [← hke]; exact hdo.out), hed.out⟩

/-- a run's data -/
structure RunD where
  cd : Int
  tr : List EvD
  pk : List Int
  en : StD
/-- A run's lists lie there. -/
structure RunAt (w : World) (E P T C O : Option Addr) (r : RunD) : Prop where
  e : EvsAt w E r.tr
  p : LAt iv w P r.pk
  s : StAt w T C O r.en
theorem RunAt.keep {w w' : World} {E P T C O : Option Addr} {r : RunD} (h : RunAt w E P T C O r) (hb : Below w.heap.size w w') : RunAt w' E P T C O r := ⟨h.e.keep hb, h.p.keep hb, h.s.keep hb⟩
structure RunFit (r : RunD) (m : Nat) : Prop where
  e : r.tr.length ≤ m
  p : r.pk.length ≤ m
  s : StFit r.en m
/-- A run lies boxed at block N. -/
structure RBox (N : Nat) (cd : Int) (E : Option Addr) (n4 k4 : Nat) (P : Option Addr) (n5 k5 : Nat) (T C O : Option Addr) (n1 k1 n2 k2 n3 k3 : Nat) (ft : Int) (w : World) : Prop where
  c0 : w.cell? ⟨N, 0, none⟩ = some (.int .i64 cd)
  c1 : w.cell? ⟨N, 1, none⟩ = some (.slice E n4 k4)
  c2 : w.cell? ⟨N, 2, none⟩ = some (.slice P n5 k5)
  c3 : w.cell? ⟨N, 3, none⟩ = some (.slice T n1 k1)
  c4 : w.cell? ⟨N, 4, none⟩ = some (.slice C n2 k2)
  c5 : w.cell? ⟨N, 5, none⟩ = some (.slice O n3 k3)
  c6 : w.cell? ⟨N, 6, none⟩ = some (.int .i64 ft)
theorem RBox.keep {N : Nat} {cd : Int} {E : Option Addr} {n4 k4 : Nat} {P : Option Addr} {n5 k5 : Nat} {T C O : Option Addr} {n1 k1 n2 k2 n3 k3 : Nat} {ft : Int} {w w' : World} (h : RBox N cd E n4 k4 P n5 k5 T C O n1 k1 n2 k2 n3 k3 ft w) (hb : Below w.heap.size w w') : RBox N cd E n4 k4 P n5 k5 T C O n1 k1 n2 k2 n3 k3 ft w' :=
  ⟨keep_cell hb h.c0, keep_cell hb h.c1, keep_cell hb h.c2, keep_cell hb h.c3, keep_cell hb h.c4, keep_cell hb h.c5, keep_cell hb h.c6⟩
theorem RBox.edit {N : Nat} {cd : Int} {E : Option Addr} {n4 k4 : Nat} {P : Option Addr} {n5 k5 : Nat} {T C O : Option Addr} {n1 k1 n2 k2 n3 k3 : Nat} {ft : Int} {w w' : World} (h : RBox N cd E n4 k4 P n5 k5 T C O n1 k1 n2 k2 n3 k3 ft w) {a b : Nat} (he : Edit a b w w') (hp : N < a ∨ b ≤ N) : RBox N cd E n4 k4 P n5 k5 T C O n1 k1 n2 k2 n3 k3 ft w' :=
  ⟨he.cell h.c0 hp, he.cell h.c1 hp, he.cell h.c2 hp, he.cell h.c3 hp, he.cell h.c4 hp, he.cell h.c5 hp, he.cell h.c6 hp⟩
theorem rbox_new (w : World) (cd : Int) (E : Option Addr) (n4 k4 : Nat) (P : Option Addr) (n5 k5 : Nat) (T C O : Option Addr) (n1 k1 n2 k2 n3 k3 : Nat) (ft : Int) (t : TypeId) : RBox w.heap.size cd E n4 k4 P n5 k5 T C O n1 k1 n2 k2 n3 k3 ft (w.alloc (.cells #[.int .i64 cd, .slice E n4 k4, .slice P n5 k5, .slice T n1 k1, .slice C n2 k2, .slice O n3 k3, .int .i64 ft] t)) := by
  refine ⟨?_, ?_, ?_, ?_, ?_, ?_, ?_⟩ <;> (rw [World.cell?_alloc_new]; rfl)

end Go.Proofs.Ytmflbibogkebmaa
