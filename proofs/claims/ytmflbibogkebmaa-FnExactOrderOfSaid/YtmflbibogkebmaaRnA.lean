/- Events in memory: what lies where; sizes, copies, comparisons, marks. -/
import Derived.Test.YtmflbibogkebmaaMl
import Derived.Test.YtmflbibogkebmaaStF
namespace Go.Proofs.Ytmflbibogkebmaa
open Go.RowKit
open Rd Fl

/-- an event's data -/
structure EvD where
  th : Int
  kd : Int
  ob : Int
  lk : Int
  pc : Int
def EvD.cells (e : EvD) : List Value := [.int .i64 e.th, .int .i64 e.kd, .int .i64 e.ob, .int .i64 e.lk, .int .i64 e.pc]
/-- The events l lie from A on. -/
def EvsAt (w : World) (A : Option Addr) (l : List EvD) : Prop :=
  ∃ b off, (l ≠ [] → A = some ⟨b, off, none⟩) ∧ ∀ i o, l[i]? = some o → w.rangeAt b (off + i * 5) o.cells
theorem EvsAt.keep {w w' : World} {A : Option Addr} {l : List EvD} (h : EvsAt w A l) (hb : Below w.heap.size w w') : EvsAt w' A l := by
  obtain ⟨b, off, h1, h2⟩ := h
  exact ⟨b, off, h1, fun i o hi => range_keep hb (h2 i o hi)⟩
theorem ev_range {w : World} {b o : Nat} {x : EvD} (h : w.rangeAt b o x.cells) : w.cell? ⟨b, o, none⟩ = some (.int .i64 x.th) ∧ w.cell? ⟨b, o + 1, none⟩ = some (.int .i64 x.kd) ∧ w.cell? ⟨b, o + 2, none⟩ = some (.int .i64 x.ob) ∧ w.cell? ⟨b, o + 3, none⟩ = some (.int .i64 x.lk) ∧ w.cell? ⟨b, o + 4, none⟩ = some (.int .i64 x.pc) :=
  ⟨h 0 _ rfl, h 1 _ rfl, h 2 _ rfl, h 3 _ rfl, h 4 _ rfl⟩
/-- The events l lie in a block of their own. -/
def EvsOwn (w : World) (M : Nat) (l : List EvD) : Prop := w.there M 0 (l.length * 5) ∧ ∀ i o, l[i]? = some o → w.rangeAt M (i * 5) o.cells
theorem EvsOwn.at {w : World} {M : Nat} {l : List EvD} (h : EvsOwn w M l) : EvsAt w (some ⟨M, 0, none⟩) l := ⟨M, 0, fun _ => rfl, fun i o ho => by rw [Nat.zero_add]; exact h.2 i o ho⟩
theorem EvsOwn.keep {w w' : World} {M : Nat} {l : List EvD} (h : EvsOwn w M l) (hb : Below w.heap.size w w') : EvsOwn w' M l := ⟨there_keep hb h.1, fun i o ho => range_keep hb (h.2 i o ho)⟩
theorem EvsOwn.set {w : World} {M : Nat} {l : List EvD} (h : EvsOwn w M l) (N o : Nat) (v : Value) (hne : M ≠ N) : EvsOwn (w.setCell ⟨N, o, none⟩ v) M l :=
  ⟨World.there_setCells h.1 N o [v], fun i x hx => World.rangeAt_setCells_apart (h.2 i x hx) N o [v] (.inl hne)⟩
theorem five_there {w : World} {N j : Nat} (h : w.there N j 5) : ∃ x0 x1 x2 x3 x4, (w.cell? ⟨N, j, none⟩ = some x0 ∧ w.cell? ⟨N, j + 1, none⟩ = some x1 ∧ w.cell? ⟨N, j + 2, none⟩ = some x2 ∧ w.cell? ⟨N, j + 3, none⟩ = some x3 ∧ w.cell? ⟨N, j + 4, none⟩ = some x4) ∧ w.frozen? ⟨N, j, none⟩ = false ∧ w.frozen? ⟨N, j + 1, none⟩ = false ∧ w.frozen? ⟨N, j + 2, none⟩ = false ∧ w.frozen? ⟨N, j + 3, none⟩ = false ∧ w.frozen? ⟨N, j + 4, none⟩ = false := by
  have h0 := h 0 (by omega)
  have h1 := h 1 (by omega)
  have h2 := h 2 (by omega)
  have h3 := h 3 (by omega)
  have h4 := h 4 (by omega)
  obtain ⟨x0, e0⟩ := Option.isSome_iff_exists.1 h0.1
  obtain ⟨x1, e1⟩ := Option.isSome_iff_exists.1 h1.1
  obtain ⟨x2, e2⟩ := Option.isSome_iff_exists.1 h2.1
  obtain ⟨x3, e3⟩ := Option.isSome_iff_exists.1 h3.1
  obtain ⟨x4, e4⟩ := Option.isSome_iff_exists.1 h4.1
  exact ⟨x0, x1, x2, x3, x4, ⟨e0, e1, e2, e3, e4⟩, h0.2, h1.2, h2.2, h3.2, h4.2⟩

set_option maxHeartbeats 400000 in
theorem szevs_any (A : Option Addr) (len cap : Nat) (left : Int) (h0 : 0 ≤ left) (h1 : left ≤ 1048576) (hl : len ≤ 9223372036854775807) (w : World) :
    Calls Try.prog 9 #[.slice A len cap, .int .i64 left] w fun e w' => (∃ n : Int, e = .returned (.int .i64 n) ∧ -1 ≤ n ∧ n ≤ left ∧ (0 ≤ n → (len : Int) ≤ 1048576)) ∧ w' = w := by
  have hl' : (len : Int) ≤ 9223372036854775807 := by omega
  by_cases h : left - len < 0
  · go_enter Try.func9, Try.ntmps9
    go_wp2
    go_ret
    exact ⟨⟨-1, rfl, by omega, by omega, fun h => by omega⟩, rfl⟩
  · go_enter Try.func9, Try.ntmps9
    go_wp2
    go_ret
    exact ⟨⟨left - len, rfl, by omega, by omega, fun h => by omega⟩, rfl⟩

theorem evSize : (Try.prog.info? 50).map (·.size) = some 5 := by kernel_rfl
theorem evBytes : (Try.prog.info? 50).map (·.bytes) = some 40 := by kernel_rfl
theorem evZero : (Try.prog.info? 50).bind (·.zero) = some (.agg #[.int .i64 0, .int .i64 0, .int .i64 0, .int .i64 0, .int .i64 0]) := by kernel_rfl
theorem make_evs (n : Nat) (hn : n ≤ 1048576) (w : World) : (Instr.makeSlice 27 (.int .i64 (n : Int)) (.int .i64 (n : Int))).run Try.prog w = .ok (.slice (some ⟨w.heap.size, 0, none⟩) n n) (w.alloc (.cells (madeCells #[.int .i64 0, .int .i64 0, .int .i64 0, .int .i64 0, .int .i64 0] (n * 5)) 50)) := by
  cases hi : Try.prog.info? 50 with
  | none => have := evSize; rw [hi] at this; cases this
  | some i =>
    have h1 : i.size = 5 := by have := evSize; rw [hi] at this; simpa using this
    have h2 : i.bytes = 40 := by have := evBytes; rw [hi] at this; simpa using this
    have h3 : i.zero = some (.agg #[.int .i64 0, .int .i64 0, .int .i64 0, .int .i64 0, .int .i64 0]) := by have := evZero; rw [hi] at this; simpa using this
    have := run_make (P := Try.prog) w 27 50 i _ Try.underlying27 hi h3 .i64 .i64 n n (by omega) (Int.le_refl _) (by rw [h2]; omega) (by omega)
    rw [h1] at this
    simpa [Value.cells] using this

set_option maxRecDepth 20000 in
set_option maxHeartbeats 1000000 in
theorem toev_any (r0 r1 r2 r3 r4 : Int) (w : World) :
    Calls Try.prog 37 #[.agg #[.int .i64 r0, .int .i64 r1, .int .i64 r2, .int .i64 r3, .int .i64 r4]] w fun e w' => e = .returned (.agg #[.int .i64 r0, .int .i64 r1, .int .i64 r2, .int .i64 r3, .int .i64 r4]) ∧ Below w.heap.size w w' := by
  go_enter Try.func37, Try.ntmps37
  go_wp2
  refine bodyPost_ret (v := .agg #[.int .i64 r0, .int .i64 r1, .int .i64 r2, .int .i64 r3, .int .i64 r4]) (by simp [results, Try.results37, go_sem]) rfl ?_
  refine ⟨rfl, ?_⟩
  repeat refine below_set ?_ _ _ _ (by omega)
  exact below3 w _ _ _

/-- One event more has been copied. -/
theorem toevs_step (w wr w1 : World) (l : List EvD) (k : Nat) (x : EvD) (hk : k < l.length) (hx : l[k]? = some x) (hsz : w.heap.size < wr.heap.size) (hth : wr.there w.heap.size 0 (l.length * 5))
    (hrg : ∀ i o, i < k → l[i]? = some o → wr.rangeAt w.heap.size (i * 5) o.cells) (hbw : Below w.heap.size w wr) (hb1 : Below wr.heap.size wr w1) :
    w.heap.size < (w1.setCells w.heap.size (k * 5) x.cells).heap.size ∧ (w1.setCells w.heap.size (k * 5) x.cells).there w.heap.size 0 (l.length * 5) ∧
    (∀ i o, i < k + 1 → l[i]? = some o → (w1.setCells w.heap.size (k * 5) x.cells).rangeAt w.heap.size (i * 5) o.cells) ∧ Below w.heap.size w (w1.setCells w.heap.size (k * 5) x.cells) := by
  have hth1 := there_keep hb1 hth
  refine ⟨?_, World.there_setCells hth1 _ _ _, fun i o hi ho => ?_, below_cells (hbw.trans (hb1.mono (by omega))) (Nat.le_refl _) _ _⟩
  · rw [cells_size]; have := hb1.size; omega
  · by_cases e : i = k
    · subst e
      rw [hx] at ho
      cases ho
      exact World.rangeAt_setCells_same w1 _ _ _ (there_part hth1 _ _ (by show i * 5 + 5 ≤ _; omega))
    · exact World.rangeAt_setCells_apart (range_keep hb1 (hrg i o (by omega) ho)) _ _ _ (.inr (.inl (by show i * 5 + 5 ≤ _; omega)))

set_option maxRecDepth 20000 in
set_option maxHeartbeats 1000000 in
theorem toevs_any (A : Option Addr) (l : List EvD) (cap : Nat) (hl : l.length ≤ 1048576) (w : World) (hA : EvsAt w A l) :
    Calls Try.prog 11 #[.slice A l.length cap] w fun e w' => e = .returned (.slice (some ⟨w.heap.size, 0, none⟩) l.length l.length) ∧ w.heap.size < w'.heap.size ∧ EvsOwn w' w.heap.size l ∧ Below w.heap.size w w' := by
  have hmk := make_evs l.length hl
  have hl' : (l.length : Int) ≤ 1048576 := by omega
  obtain ⟨b, off, hA1, hc⟩ := hA
  by_cases he : l = []
  · subst he
    have hmk0 : ∀ w, (Instr.makeSlice 27 (.int .i64 0) (.int .i64 0)).run Try.prog w = .ok (.slice (some ⟨w.heap.size, 0, none⟩) 0 0) (w.alloc (.cells (madeCells #[.int .i64 0, .int .i64 0, .int .i64 0, .int .i64 0, .int .i64 0] 0) 50)) := fun w => by simpa using make_evs 0 (by omega) w
    clear hc hA1 hmk
    go_enter Try.func11, Try.ntmps11
    go_wp2
    go_loopw [4] (fun i wr => i = .int .i64 0 ∧ wr = w.alloc (.cells (madeCells #[.int .i64 0, .int .i64 0, .int .i64 0, .int .i64 0, .int .i64 0] 0) 50)) (fun _ _ => 0)
    case atStart => exact ⟨rfl, rfl⟩
    case round =>
      obtain ⟨rfl, rfl⟩ := hrel
      go_wp2
      go_ret
      exact ⟨rfl, by simp, ⟨fun j hj => by simp at hj, fun i o ho => by cases ho⟩, (Below.refl _ w).up _⟩
  · have hA2 := hA1 he
    subst hA2
    have HC := hide' (fun i (hi : i < l.length) => hc i l[i] (List.getElem?_eq_getElem hi))
    clear hc hA1 he
    go_enter Try.func11, Try.ntmps11
    go_wp2
    go_loopw [4] (fun i wr => ∃ k : Nat, k ≤ l.length ∧ i = .int .i64 k ∧ Hid (w.heap.size < wr.heap.size) ∧ Hid (wr.there w.heap.size 0 (l.length * 5)) ∧ Hid (∀ i o, i < k → l[i]? = some o → wr.rangeAt w.heap.size (i * 5) o.cells) ∧ Hid (Below w.heap.size w wr)) (fun i _ => l.length - (intOf i).toNat)
    case atStart => exact ⟨0, Nat.zero_le _, rfl, (by simp : w.heap.size < (w.alloc _).heap.size), made_there w _ _ _, (fun i o hi _ => by omega), (Below.refl _ w).up _⟩
    case round =>
      obtain ⟨k, hk, rfl, hsz, hth, hrg, hbw⟩ := hrel
      by_cases hlt : k < l.length
      · have hsrc := range_keep hbw.out (HC.out k hlt)
        obtain ⟨c0, c1, c2, c3, c4⟩ := ev_range hsrc
        have HL := hide' (List.getElem?_eq_getElem hlt)
        generalize l[k] = o at c0 c1 c2 c3 c4 HL
        clear hsrc
        obtain ⟨r0, r1, r2, r3, r4⟩ := o
        go_wp2_with (go_at_call 37; refine (toev_any r0 r1 r2 r3 r4 _).mono ?_; rintro e w1 ⟨rfl, hb1⟩; obtain ⟨x0, x1, x2, x3, x4, ⟨d0, d1, d2, d3, d4⟩, z0, z1, z2, z3, z4⟩ := five_there (there_part (there_keep hb1 hth.out) (k * 5) 5 (by omega)))
        obtain ⟨q1, q2, q3, q4⟩ := toevs_step w wr w1 l k ⟨r0, r1, r2, r3, r4⟩ hlt HL.out hsz.out hth.out hrg.out hbw.out hb1
        go_roundw
        case rel => exact ⟨k + 1, by omega, by go_num, q1, q2, q3, q4⟩
        case measure => simp [intOf]; omega
      · have hke : k = l.length := by omega
        go_wp2
        go_ret
        exact ⟨rfl, hsz.out, ⟨hth.out, fun i o ho => hrg.out i o (by have := (List.getElem?_eq_some_iff.1 ho).1; omega) ho⟩, hbw.out⟩

set_option maxRecDepth 20000 in
set_option maxHeartbeats 1000000 in
theorem eqev_any (r0 r1 r2 r3 r4 : Int) (w : World) :
    Calls Try.prog 40 #[.agg #[.int .i64 r0, .int .i64 r1, .int .i64 r2, .int .i64 r3, .int .i64 r4], .agg #[.int .i64 r0, .int .i64 r1, .int .i64 r2, .int .i64 r3, .int .i64 r4]] w fun e w' => e = .returned (.bool true) ∧ Below w.heap.size w w' := by
  go_enter Try.func40, Try.ntmps40
  go_wp2
  go_ret
  exact ⟨rfl, below2 w _ _⟩

set_option maxRecDepth 20000 in
set_option maxHeartbeats 1000000 in
theorem eqevs_any (A B : Option Addr) (l : List EvD) (ca cb : Nat) (hl : l.length ≤ 1048576) (w : World) (hA : EvsAt w A l) (hB : EvsAt w B l) :
    Calls Try.prog 14 #[.slice A l.length ca, .slice B l.length cb] w fun e w' => e = .returned (.bool true) ∧ Below w.heap.size w w' := by
  have hl' : (l.length : Int) ≤ 1048576 := by omega
  obtain ⟨b, off, hA1, hc⟩ := hA
  obtain ⟨b', off', hB1, hc'⟩ := hB
  by_cases he : l = []
  · subst he
    clear hc hA1 hc' hB1
    go_enter Try.func14, Try.ntmps14
    go_wp2
    go_loop [5] (fun i => i = .int .i64 0) (fun _ => 0)
    case atStart => rfl
    case round =>
      subst hrel
      go_wp2
      go_ret
      exact ⟨rfl, Below.refl _ _⟩
  · have hA2 := hA1 he
    have hB2 := hB1 he
    subst hA2 hB2
    have HC := hide' (fun i (hi : i < l.length) => hc i l[i] (List.getElem?_eq_getElem hi))
    have HD := hide' (fun i (hi : i < l.length) => hc' i l[i] (List.getElem?_eq_getElem hi))
    clear hc hA1 he hc' hB1
    go_enter Try.func14, Try.ntmps14
    go_wp2
    go_loopw [5] (fun i wr => ∃ k : Nat, k ≤ l.length ∧ i = .int .i64 k ∧ Hid (Below w.heap.size w wr)) (fun i _ => l.length - (intOf i).toNat)
    case atStart => exact ⟨0, Nat.zero_le _, rfl, Below.refl _ _⟩
    case round =>
      obtain ⟨k, hk, rfl, hbw⟩ := hrel
      by_cases hlt : k < l.length
      · obtain ⟨c0, c1, c2, c3, c4⟩ := ev_range (range_keep hbw.out (HC.out k hlt))
        obtain ⟨d0, d1, d2, d3, d4⟩ := ev_range (range_keep hbw.out (HD.out k hlt))
        generalize l[k] = o at c0 c1 c2 c3 c4 d0 d1 d2 d3 d4
        obtain ⟨r0, r1, r2, r3, r4⟩ := o
        go_wp2_with fail
        go_region_with (go_at_call 40; refine (eqev_any r0 r1 r2 r3 r4 _).mono ?_; rintro e w1 ⟨rfl, hb1⟩)
        all_goals
          have HB := hide' (first_below2 hbw.out hb1)
          go_wp2_with fail
          go_roundw
          case rel => exact ⟨k + 1, by omega, by go_num, HB.out⟩
          case measure => simp [intOf]; omega
      · go_wp2
        go_ret
        exact ⟨rfl, hbw.out⟩
end Go.Proofs.Ytmflbibogkebmaa
