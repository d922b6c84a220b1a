/- Marks: what the exact laws write into a copy of a state, and into a list of ints. Small facts on blocks that a function owns, and on marks. -/
import Derived.Test.YtmflbibogkebmaaMk
import Derived.Test.YtmflbibogkebmaaSt
namespace Go.Proofs.Ytmflbibogkebmaa
open Go.RowKit
open Rd Fl

set_option maxRecDepth 20000 in
set_option maxHeartbeats 1000000 in
theorem markints_any (A : Option Addr) (n cap M : Nat) (k : Int) (h0 : 0 ≤ k) (hk : k ≤ 4611686018427387904) (hn : n ≤ 1048576) (hA : n ≠ 0 → A = some ⟨M, 0, none⟩) (w : World) (hth : w.there M 0 n) :
    Calls Try.prog 16 #[.slice A n cap, .int .i64 k] w fun e w' => e = .returned (.int .i64 (k + n)) ∧ (∀ j : Nat, j < n → w'.cell? ⟨M, j, none⟩ = some (.int .i64 (k + j))) ∧ Edit M (M + 1) w w' := by
  have hn' : (n : Int) ≤ 1048576 := by omega
  by_cases he : n = 0
  · subst he
    clear hA
    go_enter Try.func16, Try.ntmps16
    go_wp2
    go_loop [1, 5] (fun x i => x = .int .i64 k ∧ i = .int .i64 0) (fun _ _ => 0)
    case atStart => exact ⟨rfl, rfl⟩
    case round =>
      obtain ⟨rfl, rfl⟩ := hrel
      go_wp2
      go_ret
      exact ⟨by simp, Edit.refl _ _ _⟩
  · have hA2 := hA he
    subst hA2
    have HTH := hide' hth
    clear hA he hth
    go_enter Try.func16, Try.ntmps16
    go_wp2
    go_loopw [1, 5] (fun x i wr => ∃ (j : Nat) (y : Int), j ≤ n ∧ i = .int .i64 j ∧ x = .int .i64 y ∧ y = k + j ∧ Hid (∀ j' : Nat, j' < j → wr.cell? ⟨M, j', none⟩ = some (.int .i64 (k + j'))) ∧ Hid (Edit M (M + 1) w wr)) (fun _ i _ => n - (intOf i).toNat)
    case atStart => exact ⟨0, k, Nat.zero_le _, rfl, rfl, by omega, (fun j hj => by omega), Edit.refl _ _ _⟩
    case round =>
      obtain ⟨j, y, hj, rfl, rfl, hy, hdo, hed⟩ := hrel
      by_cases hlt : j < n
      · have hy0 : 0 ≤ y := by omega
        have hy1 : y ≤ 4611686018431582208 := by omega
        have HY := hide' hy
        clear hy
        have ht := hed.out.th _ _ _ HTH.out j hlt
        obtain ⟨x0, d0⟩ := Option.isSome_iff_exists.1 ht.1
        have z0 := ht.2
        rw [Nat.zero_add] at d0 z0
        have HD := hide' d0
        go_wp2
        go_roundw
        case rel =>
          refine ⟨j + 1, y + 1, by omega, by go_num, by go_num, by have := HY.out; omega, ?_, hed.out.set _ _ _ (Nat.le_refl _) (Nat.lt_succ_self _)⟩
          intro j' hj'
          by_cases e : j' = j
          · subst e
            rw [World.cell?_setCell_same _ _ _ HD.out, HY.out]
          · rw [World.cell?_setCell_other _ _ _ _ (by simp <;> omega)]
            exact hdo.out j' (by omega)
        case measure => simp [intOf]; omega
      · have hke : j = n := by omega
        have HY := hide' hy
        clear hy
        go_wp2
        go_ret
        exact ⟨by rw [HY.out, hke]; rfl, (by rw [← hke]; exact hdo.out), hed.out⟩

set_option maxRecDepth 20000 in
set_option maxHeartbeats 1000000 in
theorem heldints_any (A : Option Addr) (n cap M : Nat) (k : Int) (h0 : 0 ≤ k) (hk : k ≤ 4611686018427387904) (hn : n ≤ 1048576) (hA : n ≠ 0 → A = some ⟨M, 0, none⟩) (w : World) (hc : ∀ j : Nat, j < n → w.cell? ⟨M, j, none⟩ = some (.int .i64 (k + j))) :
    Calls Try.prog 17 #[.slice A n cap, .int .i64 k] w fun e w' => e = .returned (.int .i64 (k + n)) ∧ w' = w := by
  have hn' : (n : Int) ≤ 1048576 := by omega
  by_cases he : n = 0
  · subst he
    clear hA
    go_enter Try.func17, Try.ntmps17
    go_wp2
    go_loop [1, 5] (fun x i => x = .int .i64 k ∧ i = .int .i64 0) (fun _ _ => 0)
    case atStart => exact ⟨rfl, rfl⟩
    case round =>
      obtain ⟨rfl, rfl⟩ := hrel
      go_wp2
      go_ret
      exact ⟨by simp, rfl⟩
  · have hA2 := hA he
    subst hA2
    have HC := hide' hc
    clear hA he hc
    go_enter Try.func17, Try.ntmps17
    go_wp2
    go_loop [1, 5] (fun x i => ∃ (j : Nat) (y : Int), j ≤ n ∧ i = .int .i64 j ∧ x = .int .i64 y ∧ y = k + j) (fun _ i => n - (intOf i).toNat)
    case atStart => exact ⟨0, k, Nat.zero_le _, rfl, rfl, by omega⟩
    case round =>
      obtain ⟨j, y, hj, rfl, rfl, hy⟩ := hrel
      by_cases hlt : j < n
      · have hy0 : 0 ≤ y := by omega
        have hy1 : y ≤ 4611686018431582208 := by omega
        have d0 := HC.out j hlt
        rw [← hy] at d0
        have HY := hide' hy
        clear hy
        go_wp2
        go_round
        case rel => exact ⟨j + 1, y + 1, by omega, by go_num, by go_num, by have := HY.out; omega⟩
        case measure => simp [intOf]; omega
      · have hke : j = n := by omega
        have HY := hide' hy
        clear hy
        go_wp2
        go_ret
        exact ⟨by rw [HY.out, hke]; rfl, rfl⟩

/-- A state's lists lie in blocks from N1 on and below hi, and can be written. -/
structure StIn (w : World) (N1 N2 N3 hi : Nat) (s : StD) : Prop where
  t : ∀ i t, s.ts[i]? = some t → ∃ M, N1 < M ∧ M < hi ∧ w.cell? ⟨N1, i * 6 + 5, none⟩ = some (.slice (some ⟨M, 0, none⟩) t.sk.length t.sk.length) ∧ w.there M 0 t.sk.length ∧ w.there N1 (i * 6) 6
  c : w.there N2 0 s.cl.length
  o : w.there N3 0 s.ow.length
  n2 : N1 < N2
  n3 : N2 < N3
  hi : N3 < hi
theorem StOwn.in {w : World} {N1 N2 N3 : Nat} {s : StD} (h : StOwn w N1 N2 N3 s) (h2 : N1 < N2) (h3 : N2 < N3) (h4 : N3 < w.heap.size) : StIn w N1 N2 N3 w.heap.size s := by
  refine ⟨fun i t ht => ?_, h.c.1, h.o.1, h2, h3, h4⟩
  obtain ⟨M, g1, g2, g3, g4, g5⟩ := h.t i t (List.getElem?_eq_some_iff.1 ht).1 ht
  exact ⟨M, g1, g2, (th_range g3).2.2.2.2.2, g4.1, g5⟩
theorem StIn.keep {w w' : World} {N1 N2 N3 hi : Nat} {s : StD} (h : StIn w N1 N2 N3 hi s) (hb : Below w.heap.size w w') : StIn w' N1 N2 N3 hi s := by
  refine ⟨fun i t ht => ?_, there_keep hb h.c, there_keep hb h.o, h.n2, h.n3, h.hi⟩
  obtain ⟨M, g1, g2, g3, g4, g5⟩ := h.t i t ht
  exact ⟨M, g1, g2, keep_cell hb g3, there_keep hb g4, there_keep hb g5⟩
theorem StIn.edit {w w' : World} {N1 N2 N3 hi : Nat} {s : StD} (h : StIn w N1 N2 N3 hi s) {lo up : Nat} (he : Edit lo up w w') (hN : N1 < lo ∨ up ≤ N1) : StIn w' N1 N2 N3 hi s := by
  refine ⟨fun i t ht => ?_, he.th _ _ _ h.c, he.th _ _ _ h.o, h.n2, h.n3, h.hi⟩
  obtain ⟨M, g1, g2, g3, g4, g5⟩ := h.t i t ht
  exact ⟨M, g1, g2, he.cell g3 hN, he.th _ _ _ g4, he.th _ _ _ g5⟩

theorem Edit.set5 {N hi : Nat} {a w : World} (h : Edit N hi a w) (hN : N < hi) (o0 o1 o2 o3 o4 : Nat) (v0 v1 v2 v3 v4 : Value) : Edit N hi a (((((w.setCell ⟨N, o0, none⟩ v0).setCell ⟨N, o1, none⟩ v1).setCell ⟨N, o2, none⟩ v2).setCell ⟨N, o3, none⟩ v3).setCell ⟨N, o4, none⟩ v4) :=
  ((((h.set _ _ _ (Nat.le_refl _) hN).set _ _ _ (Nat.le_refl _) hN).set _ _ _ (Nat.le_refl _) hN).set _ _ _ (Nat.le_refl _) hN).set _ _ _ (Nat.le_refl _) hN

end Go.Proofs.Ytmflbibogkebmaa
namespace Go.Proofs.Ytmflbibogkebmaa
open Go.RowKit
open Rd Fl

theorem below2 (w : World) (a b : Obj) : Below w.heap.size w ((w.alloc a).alloc b) := ((Below.refl _ w).up _).up _
theorem below3 (w : World) (a b c : Obj) : Below w.heap.size w (((w.alloc a).alloc b).alloc c) := (below2 w a b).up _

theorem own_keep {w w' : World} {base : Nat} {e : TypeId} {size : Nat} {v : Value} {n : Nat} {xs : List Value} (h : w.ownsRow base e size v n xs) (hb : Below w.heap.size w w') : w'.ownsRow base e size v n xs := by
  refine ⟨h.1, ?_⟩
  rcases h.2 with hn | ⟨g, cap, cur, rfl, hb2, hgg, rest⟩
  · exact .inl hn
  · exact .inr ⟨g, cap, cur, rfl, hb2, (hb.block g (Array.getElem?_eq_some_iff.1 hgg).1).trans hgg, rest⟩
theorem own_base' {w : World} {base : Nat} {e : TypeId} {size : Nat} {v : Value} {n : Nat} {xs : List Value} (h : w.ownsRow base e size v n xs) : ∀ k, v.ownBlock = some k → base ≤ k := by
  intro k hk
  rcases h.2 with ⟨rfl, _⟩ | ⟨g, cap, cur, rfl, hb, _⟩
  · cases hk
  · cases hk; exact hb
theorem inInfo : ∃ i, Try.prog.info? 3 = some i ∧ i.zero = some (.int .i64 0) ∧ i.size = 1 ∧ i.bytes = 8 := by
  cases hi : Try.prog.info? 3 with
  | none => have := inSize; rw [hi] at this; cases this
  | some i =>
    exact ⟨i, rfl, by have := inZero; rw [hi] at this; simpa using this, by have := inSize; rw [hi] at this; simpa using this, by have := inBytes; rw [hi] at this; simpa using this⟩

theorem cellB {B : Nat} {w w' : World} (hb : Below B w w') {N o : Nat} {v : Value} (h : N < B) (hc : w.cell? ⟨N, o, none⟩ = some v) : w'.cell? ⟨N, o, none⟩ = some v := (hb.cell (p := ⟨N, o, none⟩) h).trans hc
theorem own_less {w : World} {base base' : Nat} {e : TypeId} {size : Nat} {v : Value} {n : Nat} {xs : List Value} (h : w.ownsRow base e size v n xs) (hb : base' ≤ base) : w.ownsRow base' e size v n xs := by
  refine ⟨h.1, ?_⟩
  rcases h.2 with hn | ⟨g, cap, cur, rfl, hb2, rest⟩
  · exact .inl hn
  · exact .inr ⟨g, cap, cur, rfl, by omega, rest⟩

theorem lown_block {α : Type} {f : α → Value} {w w' : World} {M : Nat} {l : List α} (h : LOwn f w M l) (he : w'.heap[M]? = w.heap[M]?) : LOwn f w' M l :=
  ⟨fun j hj => ⟨by rw [World.cell?_of_block (w := w) (a := ⟨M, 0 + j, none⟩) he]; exact (h.1 j hj).1, by rw [World.frozen?_of_block (w := w) (a := ⟨M, 0 + j, none⟩) he]; exact (h.1 j hj).2⟩, fun i x hx => by rw [World.cell?_of_block (w := w) (a := ⟨M, i, none⟩) he]; exact h.2 i x hx⟩
theorem own_edit {w w' : World} {base : Nat} {e : TypeId} {size : Nat} {v : Value} {n : Nat} {xs : List Value} (h : w.ownsRow base e size v n xs) {a b hi : Nat} (hu : ∀ k, v.ownBlock = some k → k < hi) (he : Edit a b w w') (hp : b ≤ base ∨ hi ≤ a) : w'.ownsRow base e size v n xs := by
  refine ⟨h.1, ?_⟩
  rcases h.2 with hn | ⟨g, cap, cur, rfl, hb2, hgg, rest⟩
  · exact .inl hn
  · have hlt := (Array.getElem?_eq_some_iff.1 hgg).1
    have hu := hu g rfl
    refine .inr ⟨g, cap, cur, rfl, hb2, ?_, rest⟩
    rcases hp with hp | hp
    · exact (he.up g (by omega) hlt).trans hgg
    · exact (he.b.block g (by omega)).trans hgg
end Go.Proofs.Ytmflbibogkebmaa
