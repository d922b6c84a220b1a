/- The specification's table of what comes ahead of what: data and memory. The specification's table of what comes ahead of what, walked. -/
import Derived.Test.YtclnnboaehpolaaQi
namespace Go.Proofs.Ytclnnboaehpolaa
open Go.RowKit
open Rd Fl

/-- k comes ahead of j by way of a place below i -/
def pah (l : List EvD) (j i k : Nat) : Bool := (List.range i).any fun m => rgt l m j && (decide (k = m) || ahB l k m)
theorem pah_zero (l : List EvD) (j k : Nat) : pah l j 0 k = false := rfl
theorem pah_succ (l : List EvD) (j i k : Nat) : pah l j (i + 1) k = (pah l j i k || (rgt l i j && (decide (k = i) || ahB l k i))) := by
  unfold pah
  rw [List.range_succ, List.any_append]
  simp
theorem pah_no {l : List EvD} {j i : Nat} (h : rgt l i j = false) (k : Nat) : pah l j (i + 1) k = pah l j i k := by
  rw [pah_succ, h]; simp
theorem pah_yes {l : List EvD} {j i : Nat} (h : rgt l i j = true) (k : Nat) : pah l j (i + 1) k = (pah l j i k || decide (k = i) || ahB l k i) := by
  rw [pah_succ, h]; simp [Bool.or_assoc]
theorem pah_full (l : List EvD) (j k : Nat) : pah l j j k = ahB l k j := by
  rw [Bool.eq_iff_iff, ahB_iff]
  unfold pah
  rw [List.any_eq_true]
  constructor
  · rintro ⟨m, hm, h⟩
    rw [Bool.and_eq_true, Bool.or_eq_true, decide_eq_true_eq] at h
    exact ⟨m, List.mem_range.1 hm, h.1, h.2⟩
  · rintro ⟨m, hm, h1, h2⟩
    exact ⟨m, List.mem_range.2 hm, by rw [Bool.and_eq_true, Bool.or_eq_true, decide_eq_true_eq]; exact ⟨h1, h2⟩⟩
/-- in the midst of a row: the first k are done -/
def mah (l : List EvD) (j i k x : Nat) : Bool := if x < k then pah l j (i + 1) x else pah l j i x || decide (x = i)
theorem mah_zero (l : List EvD) (j i x : Nat) : mah l j i 0 x = (pah l j i x || decide (x = i)) := by
  unfold mah; rw [if_neg (by omega)]
theorem mah_step {l : List EvD} {j i : Nat} (h : rgt l i j = true) (k x : Nat) : mah l j i (k + 1) x = if x = k then (mah l j i k k || ahB l k i) else mah l j i k x := by
  unfold mah
  by_cases e : x = k
  · subst e
    rw [if_pos (by omega), if_pos rfl, if_neg (by omega), pah_yes h]
  · rw [if_neg e]
    by_cases e2 : x < k
    · rw [if_pos e2, if_pos (by omega)]
    · rw [if_neg e2, if_neg (by omega)]
theorem mah_full (l : List EvD) (j i n x : Nat) (hx : x < n) : mah l j i n x = pah l j (i + 1) x := by
  unfold mah; rw [if_pos hx]

/-- The rows below j stand in blocks above g and below hi. -/
def Rows2 (l : List EvD) (g n : Nat) (w : World) (j hi : Nat) : Prop :=
  ∀ j', j' < j → ∃ R, g < R ∧ R < hi ∧ w.cell? ⟨g, j', none⟩ = some (.slice (some ⟨R, 0, none⟩) n n) ∧ ∀ i, i < n → w.cell? ⟨R, i, none⟩ = some (.bool (ahB l i j'))
theorem Rows2.keep {l : List EvD} {g n : Nat} {w w' : World} {j hi : Nat} (h : Rows2 l g n w j hi) (hb : Below w.heap.size w w') : Rows2 l g n w' j hi := by
  intro j' hj
  obtain ⟨R, h1, h2, h3, h4⟩ := h j' hj
  exact ⟨R, h1, h2, keep_cell hb h3, fun i hi => keep_cell hb (h4 i hi)⟩
theorem Rows2.more {l : List EvD} {g n : Nat} {w : World} {j hi hi' : Nat} (h : Rows2 l g n w j hi) (hb : hi ≤ hi') : Rows2 l g n w j hi' := by
  intro j' hj
  obtain ⟨R, h1, h2, h3, h4⟩ := h j' hj
  exact ⟨R, h1, by omega, h3, h4⟩
theorem Rows2.set {l : List EvD} {g n : Nat} {w : World} {j hi : Nat} (h : Rows2 l g n w j hi) (M o : Nat) (v : Value) (hM : hi ≤ M ∨ (M = g ∧ j ≤ o)) (hg : g < hi) : Rows2 l g n (w.setCell ⟨M, o, none⟩ v) j hi := by
  intro j' hj
  obtain ⟨R, h1, h2, h3, h4⟩ := h j' hj
  refine ⟨R, h1, h2, ?_, fun i hi => ?_⟩
  · rw [World.cell?_setCell_other _ _ _ _ (by simp <;> omega)]; exact h3
  · rw [World.cell?_setCell_other _ _ _ _ (by simp <;> omega)]; exact h4 i hi

/-- the head of the table, and its rows below j -/
structure MatO (w wr : World) (l : List EvD) (g n j : Nat) : Prop where
  b : Below w.heap.size w wr
  g0 : w.heap.size ≤ g
  t : wr.there g 0 n
  r : Rows2 l g n wr j wr.heap.size
  z : g < wr.heap.size
/-- the row j in the making: f says what stands in it -/
structure MatC (w wr : World) (l : List EvD) (g n j R : Nat) (f : Nat → Bool) : Prop where
  b : Below w.heap.size w wr
  g0 : w.heap.size ≤ g
  t : wr.there g 0 n
  r : Rows2 l g n wr j R
  c : wr.cell? ⟨g, j, none⟩ = some (.slice (some ⟨R, 0, none⟩) n n)
  th : wr.there R 0 n
  f : ∀ k, k < n → wr.cell? ⟨R, k, none⟩ = some (.bool (f k))
  gr : g < R
  z : R < wr.heap.size
theorem MatO.keep {w wr wy : World} {l : List EvD} {g n j : Nat} (h : MatO w wr l g n j) (hb : Below wr.heap.size wr wy) : MatO w wy l g n j :=
  ⟨h.b.trans (hb.mono h.b.size), h.g0, there_keep hb h.t, (h.r.keep hb).more hb.size, Nat.lt_of_lt_of_le h.z hb.size⟩
theorem MatC.keep {w wr wy : World} {l : List EvD} {g n j R : Nat} {f : Nat → Bool} (h : MatC w wr l g n j R f) (hb : Below wr.heap.size wr wy) : MatC w wy l g n j R f :=
  ⟨h.b.trans (hb.mono h.b.size), h.g0, there_keep hb h.t, h.r.keep hb, keep_cell hb h.c, there_keep hb h.th, fun k hk => keep_cell hb (h.f k hk), h.gr, Nat.lt_of_lt_of_le h.z hb.size⟩
theorem MatC.cong {w wr : World} {l : List EvD} {g n j R : Nat} {f f' : Nat → Bool} (h : MatC w wr l g n j R f) (e : ∀ k, k < n → f k = f' k) : MatC w wr l g n j R f' :=
  ⟨h.b, h.g0, h.t, h.r, h.c, h.th, fun k hk => by rw [← e k hk]; exact h.f k hk, h.gr, h.z⟩
theorem MatC.set {w wr : World} {l : List EvD} {g n j R : Nat} {f : Nat → Bool} (h : MatC w wr l g n j R f) (k : Nat) (hk : k < n) (v : Bool) : MatC w (wr.setCell ⟨R, k, none⟩ (.bool v)) l g n j R (fun x => if x = k then v else f x) := by
  have hgr := h.gr
  have hg0 := h.g0
  have hz := h.z
  refine ⟨h.b.setCell (p := ⟨R, k, none⟩) (by show w.heap.size ≤ R; omega) _, h.g0, there_set h.t _ _ _, h.r.set R k _ (.inl (Nat.le_refl _)) h.gr, ?_, there_set h.th _ _ _, fun x hx => ?_, h.gr, by rw [World.size_setCell]; exact h.z⟩
  · rw [World.cell?_setCell_other _ _ _ _ (by simp <;> omega)]; exact h.c
  · by_cases e : x = k
    · subst e
      rw [World.cell?_setCell_same _ _ _ (h.f x hk), if_pos rfl]
    · rw [World.cell?_setCell_other _ _ _ _ (by simp <;> omega), if_neg e]
      exact h.f x hx
theorem MatC.out {w wr : World} {l : List EvD} {g n j R : Nat} {f : Nat → Bool} (h : MatC w wr l g n j R f) (e : ∀ k, k < n → f k = ahB l k j) : MatO w wr l g n (j + 1) := by
  have hz := h.z
  have hgr := h.gr
  refine ⟨h.b, h.g0, h.t, fun j' hj => ?_, by omega⟩
  by_cases e1 : j' = j
  · subst e1
    exact ⟨R, h.gr, h.z, h.c, fun i hi => by rw [← e i hi]; exact h.f i hi⟩
  · exact h.r.more (by omega) j' (by omega)

theorem made_at (w : World) (z : Value) (n k : Nat) (t : TypeId) (hk : k < n) : (w.alloc (.cells (madeCells #[z] n) t)).cell? ⟨w.heap.size, k, none⟩ = some z := by
  rw [World.cell?_alloc_new]
  simp [madeCells, hk, Nat.mod_one]
theorem MatO.row {w wr : World} {l : List EvD} {g n j : Nat} (h : MatO w wr l g n j) (hj : j < n) :
    MatC w ((wr.alloc (.cells (madeCells #[.bool false] n) 4)).setCell ⟨g, j, none⟩ (.slice (some ⟨wr.heap.size, 0, none⟩) n n)) l g n j wr.heap.size (pah l j 0) := by
  have hz := h.z
  have hg0 := h.g0
  have B := (Below.refl wr.heap.size wr).up (.cells (madeCells #[.bool false] n) 4)
  obtain ⟨x0, y0⟩ := there_keep B h.t j hj
  rw [Nat.zero_add] at x0
  obtain ⟨x1, y1⟩ := Option.isSome_iff_exists.1 x0
  refine ⟨((h.b.trans (B.mono h.b.size)).setCell (p := ⟨g, j, none⟩) (by show w.heap.size ≤ g; omega) _), h.g0, there_set (there_keep B h.t) _ _ _, ?_, ?_, there_set (made_there wr _ _ _) _ _ _, fun k hk => ?_, hz, by rw [World.size_setCell]; simp⟩
  · exact (h.r.keep B).set g j _ (.inr ⟨rfl, Nat.le_refl _⟩) hz
  · rw [World.cell?_setCell_same _ _ _ y1]
  · rw [World.cell?_setCell_other _ _ _ _ (by simp <;> omega), made_at wr _ n k _ hk]; rfl

theorem boolInfo : ∃ i, Try.prog.info? 4 = some i ∧ i.zero = some (.bool false) ∧ i.size = 1 ∧ i.bytes = 1 := by
  have h1 : (Try.prog.info? 4).map (·.size) = some 1 := by kernel_rfl
  have h2 : (Try.prog.info? 4).map (·.bytes) = some 1 := by kernel_rfl
  have h3 : (Try.prog.info? 4).bind (·.zero) = some (.bool false) := by kernel_rfl
  cases hi : Try.prog.info? 4 with
  | none => rw [hi] at h1; cases h1
  | some i => exact ⟨i, rfl, by rw [hi] at h3; simpa using h3, by rw [hi] at h1; simpa using h1, by rw [hi] at h2; simpa using h2⟩
theorem boolsInfo : ∃ i, Try.prog.info? 55 = some i ∧ i.zero = some (.slice none 0 0) ∧ i.size = 1 ∧ i.bytes = 24 := by
  have h1 : (Try.prog.info? 55).map (·.size) = some 1 := by kernel_rfl
  have h2 : (Try.prog.info? 55).map (·.bytes) = some 24 := by kernel_rfl
  have h3 : (Try.prog.info? 55).bind (·.zero) = some (.slice none 0 0) := by kernel_rfl
  cases hi : Try.prog.info? 55 with
  | none => rw [hi] at h1; cases h1
  | some i => exact ⟨i, rfl, by rw [hi] at h3; simpa using h3, by rw [hi] at h1; simpa using h1, by rw [hi] at h2; simpa using h2⟩
theorem make_bools (n : Nat) (hn : n ≤ 1048576) (w : World) : (Instr.makeSlice 55 (.int .i64 (n : Int)) (.int .i64 (n : Int))).run Try.prog w = .ok (.slice (some ⟨w.heap.size, 0, none⟩) n n) (w.alloc (.cells (madeCells #[.bool false] n) 4)) := by
  obtain ⟨i, hi, h3, h1, h2⟩ := boolInfo
  have := run_make (P := Try.prog) w 55 4 i _ Try.underlying55 hi h3 .i64 .i64 n n (by omega) (Int.le_refl _) (by rw [h2]; omega) (by omega)
  rw [h1] at this
  simpa [Value.cells] using this
theorem make_boolss (n : Nat) (hn : n ≤ 1048576) (w : World) : (Instr.makeSlice 53 (.int .i64 (n : Int)) (.int .i64 (n : Int))).run Try.prog w = .ok (.slice (some ⟨w.heap.size, 0, none⟩) n n) (w.alloc (.cells (madeCells #[.slice none 0 0] n) 55)) := by
  obtain ⟨i, hi, h3, h1, h2⟩ := boolsInfo
  have := run_make (P := Try.prog) w 53 55 i _ Try.underlying53 hi h3 .i64 .i64 n n (by omega) (Int.le_refl _) (by rw [h2]; omega) (by omega)
  rw [h1] at this
  simpa [Value.cells] using this
end Go.Proofs.Ytclnnboaehpolaa
namespace Go.Proofs.Ytclnnboaehpolaa
open Go.RowKit
open Rd Fl

set_option maxRecDepth 20000 in
set_option maxHeartbeats 8000000 in
theorem l6ahead_any (A : Option Addr) (l : List EvD) (cap : Nat) (hg : goodTr l = true) (hne : l ≠ []) (w : World) (hA : EvsAt w A l) :
    Calls Try.prog 20 #[.slice A l.length cap] w fun e w' => ∃ g, e = .returned (.slice (some ⟨g, 0, none⟩) l.length l.length) ∧ MatO w w' l g l.length l.length := by
  have h200 := good_len hg
  have hn' : (l.length : Int) ≤ 200 := by omega
  have hmk := make_bools l.length (by omega)
  have hmk2 := make_boolss l.length (by omega)
  have HRB := hide' (fun (i j : Nat) (hi : i < l.length) (hj : j < l.length) w => (show Calls Try.prog 26 _ w _ from by rw [rgt_get hi hj]; exact (right_both l[i] l[j] (good_ev hg hi) (good_ev hg hj) w).1 : Calls Try.prog 26 #[.agg #[.int .i64 l[i].th, .int .i64 l[i].kd, .int .i64 l[i].ob, .int .i64 l[i].lk, .int .i64 l[i].pc], .agg #[.int .i64 l[j].th, .int .i64 l[j].kd, .int .i64 l[j].ob, .int .i64 l[j].lk, .int .i64 l[j].pc]] w fun r w' => r = .returned (.bool (rgt l i j)) ∧ Below w.heap.size w w'))
  obtain ⟨b, off, hA1, hc⟩ := hA
  have hA2 := hA1 hne
  subst hA2
  have HCE := hide' (fun i (hi : i < l.length) => hc i l[i] (List.getElem?_eq_getElem hi))
  have HM0 := hide' (show MatO w (w.alloc (.cells (madeCells #[.slice none 0 0] l.length) 55)) l w.heap.size l.length 0 from ⟨(Below.refl _ w).up _, Nat.le_refl _, made_there w _ _ _, (fun j hj => by omega), by simp⟩)
  clear hc hA1 hg hne
  go_enter Try.func20, Try.ntmps20
  go_wp2
  generalize hg : w.heap.size = g at HM0
  go_loopw [13] (fun i wr => ∃ (j : Nat), j ≤ l.length ∧ i = .int .i64 j ∧ Hid (MatO w wr l g l.length j)) (fun i _ => l.length - (intOf i).toNat)
  case atStart => exact ⟨0, Nat.zero_le _, rfl, HM0.out⟩
  case round =>
    clear HM0
    obtain ⟨j, hj, rfl, hrnd⟩ := hrel
    by_cases hlt : j < l.length
    · have hj2 : (j : Int) < l.length := by omega
      obtain ⟨x0, y0⟩ := there_keep ((Below.refl _ wr).up (.cells (madeCells #[.bool false] l.length) 4)) hrnd.out.t j hlt
      obtain ⟨x1, y1⟩ := Option.isSome_iff_exists.1 x0
      rw [Nat.zero_add] at y0 y1
      go_wp2_with fail
      have HC0 := hide' (hrnd.out.row hlt)
      have HXJ := hide' (HCE.out j hlt)
      generalize hR : wr.heap.size = R at HC0
      clear hrnd x0 x1 y0 y1
      go_loopw [5] (fun i wr => ∃ (k : Nat), k ≤ j ∧ i = .int .i64 k ∧ Hid (MatC w wr l g l.length j R (pah l j k))) (fun i _ => j - (intOf i).toNat)
      case atStart => exact ⟨0, Nat.zero_le _, rfl, HC0.out⟩
      case round =>
        clear HC0 hR
        obtain ⟨i, hi, rfl, hrnd⟩ := hrel
        by_cases hil : i < j
        · have hi2 : (i : Int) < j := by omega
          have hi3 : (i : Int) < l.length := by omega
          obtain ⟨c0, c1, c2, c3, c4⟩ := ev_range (range_keep hrnd.out.b (HCE.out i (by omega)))
          obtain ⟨d0, d1, d2, d3, d4⟩ := ev_range (range_keep hrnd.out.b (HCE.out j hlt))
          have HCL := hide' (HRB.out i j (by omega) hlt)
          have HPN := hide' (fun h => hrnd.out.cong (f' := pah l j (i + 1)) (fun k _ => (pah_no (l := l) (j := j) (i := i) h k).symm))
          have HMS := hide' (fun h k x => mah_step (l := l) (j := j) (i := i) h k x)
          generalize hx : l[i] = x at c0 c1 c2 c3 c4 HCL
          generalize hy : l[j] = y at d0 d1 d2 d3 d4 HCL
          clear hx hy
          obtain ⟨r0, r1, r2, r3, r4⟩ := x
          obtain ⟨s0, s1, s2, s3, s4⟩ := y
          simp only at c0 c1 c2 c3 c4 d0 d1 d2 d3 d4 HCL
          generalize hpg : rgt l i j = gb at HCL HPN HMS
          clear hpg
          go_wp2_with fail
          go_cut [36] (fun t wx => t = .bool (!gb) ∧ Hid (Below wr.heap.size wr wx))
          case first =>
            go_region_with (go_at_call 26; refine (HCL.out _).mono ?_; rintro e w3 ⟨rfl, hb3⟩)
            all_goals
              go_wp2_with fail
              go_meet
              exact ⟨rfl, first_below (Below.refl _ _) hb3⟩
          case rest =>
            obtain ⟨rfl, B5⟩ := hcut
            clear c0 c1 c2 c3 c4 d0 d1 d2 d3 d4 HCL
            cases gb
            · have HE := hide' ((HPN.out rfl).keep B5.out)
              clear HPN HMS hrnd B5
              go_wp2_with fail
              go_roundw
              case rel => exact ⟨i + 1, by omega, by go_num, HE.out⟩
              case measure => simp [intOf]; omega
            · have R5 := hide' (hrnd.out.keep B5.out)
              have HMS2 := hide' (HMS.out rfl)
              clear HPN HMS hrnd B5
              have e0 := R5.out.c
              obtain ⟨e1, e2⟩ := R5.out.th i (by omega)
              rw [Nat.zero_add] at e1 e2
              obtain ⟨e3, e4⟩ := Option.isSome_iff_exists.1 e1
              have R6 := hide' ((R5.out.set i (by omega) true).cong (f' := mah l j i 0) (fun k _ => by rw [mah_zero]; by_cases e : k = i <;> simp [e]))
              obtain ⟨Q, q1, q2, q3, q4⟩ := R6.out.r i hil
              go_wp2_with fail
              have Q6 := hide' (show ∀ x, x < l.length → (wc.setCell ⟨R, i, none⟩ (.bool true)).cell? ⟨Q, x, none⟩ = some (.bool (ahB l x i)) from q4)
              clear e0 e1 e2 e3 e4 q3 q4 R5
              go_loopw [48] (fun i' wr => ∃ (k : Nat), k ≤ l.length ∧ i' = .int .i64 k ∧ Hid (MatC w wr l g l.length j R (mah l j i k)) ∧ Hid (∀ x, x < l.length → wr.cell? ⟨Q, x, none⟩ = some (.bool (ahB l x i)))) (fun i' _ => l.length - (intOf i').toNat)
              case atStart => exact ⟨0, Nat.zero_le _, rfl, R6.out, Q6.out⟩
              case round =>
                clear R6 Q6
                obtain ⟨k, hk, rfl, hrnd, hq⟩ := hrel
                by_cases hkl : k < l.length
                · have hk2 : (k : Int) < l.length := by omega
                  have f0 := hq.out k hkl
                  have f1 := hrnd.out.c
                  have f2 := hrnd.out.f k hkl
                  have f3 := (hrnd.out.th k hkl).2
                  rw [Nat.zero_add] at f3
                  have HE := hide' (fun v (hv : v = (mah l j i k k || ahB l k i)) => (hrnd.out.set k hkl v).cong (f' := mah l j i (k + 1)) (fun x _ => by rw [HMS2.out k x, hv]))
                  have HQ := hide' (fun (v : Value) x (hx : x < l.length) => show (wr.setCell ⟨R, k, none⟩ v).cell? ⟨Q, x, none⟩ = some (.bool (ahB l x i)) by rw [World.cell?_setCell_other _ _ _ _ (by simp <;> omega)]; exact hq.out x hx)
                  generalize mah l j i k k = u at f2 HE
                  generalize ahB l k i = v at f0 HE
                  cases u
                  · have HE2 := hide' (HE.out v (by simp))
                    clear HE hrnd hq
                    go_wp2_with fail
                    go_region
                    go_wp2_with fail
                    go_roundw
                    case rel => exact ⟨k + 1, by omega, by go_num, HE2.out.keep (Below.refl _ _).drew, fun x hx => HQ.out _ x hx⟩
                    case measure => simp [intOf]; omega
                  · have HE2 := hide' (HE.out true (by simp))
                    clear HE hrnd hq
                    go_wp2_with fail
                    go_region
                    go_wp2_with fail
                    go_roundw
                    case rel => exact ⟨k + 1, by omega, by go_num, HE2.out.keep (Below.refl _ _).drew, fun x hx => HQ.out _ x hx⟩
                    case measure => simp [intOf]; omega
                · have hke : k = l.length := by omega
                  subst hke
                  have HE := hide' (hrnd.out.cong (f' := pah l j (i + 1)) (fun x hx => mah_full l j i l.length x hx))
                  clear hrnd hq
                  go_wp2_with fail
                  go_roundw
                  case rel => exact ⟨i + 1, by omega, by go_num, HE.out⟩
                  case measure => simp [intOf]; omega
        · have hie : i = j := by omega
          subst hie
          have HE := hide' (hrnd.out.out (fun k _ => pah_full l i k))
          clear hrnd
          go_wp2_with fail
          go_roundw
          case rel => exact ⟨i + 1, by omega, by go_num, HE.out⟩
          case measure => simp [intOf]; omega
    · have hke : j = l.length := by omega
      subst hke
      go_wp2_with fail
      go_ret
      exact ⟨g, by rw [← hg]; rfl, hrnd.out⟩
end Go.Proofs.Ytclnnboaehpolaa
