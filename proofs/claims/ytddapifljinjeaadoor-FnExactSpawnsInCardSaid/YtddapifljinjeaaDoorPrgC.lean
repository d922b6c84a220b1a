/- Programs: sizes and copies of the exact laws. -/
import Derived.Test.YtddapifljinjeaaDoorPrg
namespace Go.Proofs.YtddapifljinjeaaDoor
open Go.RowKit
open Rd Fl

theorem i64_sub (n m : Int) (h1 : -9223372036854775808 ≤ n - m) (h2 : n - m ≤ 9223372036854775807) : wrap64 (n - m) = n - m := by
  unfold wrap64; omega

set_option maxRecDepth 20000 in
set_option maxHeartbeats 1000000 in
theorem szopss_any (R : Option Addr) (rs : List (List OpD)) (cap : Nat) (left : Int) (h0 : 0 ≤ left) (h1 : left ≤ 1048576) (hl : rs.length ≤ 9223372036854775807) (hls : ∀ l ∈ rs, l.length ≤ 9223372036854775807) (w : World) (hR : RoutsAt w R rs) :
    Calls Tryd.prog 13 #[.slice R rs.length cap, .int .i64 left] w fun e w' => (∃ n : Int, e = .returned (.int .i64 n) ∧ -1 ≤ n ∧ (0 ≤ n → rs.length ≤ 1048576 ∧ ∀ l ∈ rs, l.length ≤ 1048576)) ∧ w' = w := by
  have hl' : (rs.length : Int) ≤ 9223372036854775807 := by omega
  have HLS := hide' hls
  have HR := hide' hR
  clear hls hR hl
  by_cases h : left - rs.length < 0
  · go_enter Tryd.func13, Tryd.ntmps13
    go_wp2
    go_ret
    exact ⟨⟨-1, rfl, by omega, fun h => by omega⟩, rfl⟩
  · have hn : (rs.length : Int) ≤ 1048576 := by omega
    obtain ⟨b, off, hA, hc⟩ := HR.out
    by_cases he : rs = []
    · subst he
      go_enter Tryd.func13, Tryd.ntmps13
      go_wp2
      go_loop [1, 5] (fun x i => x = .int .i64 left ∧ i = .int .i64 0) (fun _ _ => 0)
      case atStart => exact ⟨by simp, rfl⟩
      case round =>
        obtain ⟨rfl, rfl⟩ := hrel
        go_wp2
        go_ret
        exact ⟨⟨left, rfl, by omega⟩, rfl⟩
    · have hA2 := hA he
      subst hA2
      have HC := hide' hc
      clear hc hA he HR
      go_enter Tryd.func13, Tryd.ntmps13
      go_wp2
      go_loop [1, 5] (fun x i => ∃ (k : Nat) (y : Int), k ≤ rs.length ∧ i = .int .i64 k ∧ x = .int .i64 y ∧ 0 ≤ y ∧ y ≤ 1048576 ∧ Hid (∀ l ∈ rs.take k, l.length ≤ 1048576)) (fun _ i => rs.length - (intOf i).toNat)
      case atStart => exact ⟨0, left - rs.length, Nat.zero_le _, rfl, rfl, by omega, by omega, fun l hl => by cases hl⟩
      case round =>
        obtain ⟨k, y, hk, rfl, rfl, hy0, hy1, HT⟩ := hrel
        by_cases hlt : k < rs.length
        · obtain ⟨A, cp, hcell, -⟩ := HC.out k rs[k] (List.getElem?_eq_getElem hlt)
          have HM := hide' (HLS.out rs[k] (List.getElem_mem hlt))
          have HTS := hide' (List.take_succ_eq_append_getElem hlt)
          generalize rs[k] = l at hcell HM HTS
          go_wp2_with (go_at_call 23; refine (szops_any _ _ _ y hy0 hy1 HM.out _).mono ?_; rintro e w' ⟨⟨n, rfl, hn1, hn2, hn3⟩, rfl⟩)
          · go_ret
            exact ⟨⟨-1, rfl, by omega, fun h => by omega⟩, rfl⟩
          · go_round
            case rel => 
              refine ⟨k + 1, n, by omega, by go_num, rfl, by omega, by omega, ?_⟩
              intro x hx
              rw [HTS.out, List.mem_append] at hx
              rcases hx with hx | hx
              · exact HT.out x hx
              · rw [List.mem_singleton] at hx
                subst hx
                have := hn3 (by omega)
                omega
            case measure => simp [intOf]; omega
        · have hke : k = rs.length := by omega
          go_wp2
          go_ret
          refine ⟨⟨y, rfl, by omega, fun _ => ⟨by omega, fun l hl => HT.out l ?_⟩⟩, rfl⟩
          rw [hke, List.take_length]
          exact hl

/-- A program's value: three numbers and its routines. -/
def progV (cl lk cd : Int) (R : Option Addr) (n cap : Nat) : Value := .agg #[.int .i64 cl, .int .i64 lk, .int .i64 cd, .slice R n cap]

set_option maxRecDepth 20000 in
set_option maxHeartbeats 1000000 in
theorem szprog_any (cl lk cd : Int) (R : Option Addr) (rs : List (List OpD)) (cap : Nat) (hl : rs.length ≤ 9223372036854775807) (hls : ∀ l ∈ rs, l.length ≤ 9223372036854775807) (w : World) (hR : RoutsAt w R rs) :
    Calls Tryd.prog 4 #[.agg #[.int .i64 cl, .int .i64 lk, .int .i64 cd, .slice R rs.length cap], .int .i64 1048576] w fun e w' => (∃ n : Int, e = .returned (.int .i64 n) ∧ (0 ≤ n → rs.length ≤ 1048576 ∧ ∀ l ∈ rs, l.length ≤ 1048576)) ∧ Below w.heap.size w w' := by
  have HC := hide' (fun w hR => szopss_any R rs cap 1048576 (by omega) (by omega) hl hls w hR)
  have HR := hide' hR
  clear hl hls hR
  go_enter Tryd.func4, Tryd.ntmps4
  go_wp2_with fail
  refine (HC.out _ (HR.out.keep ((Below.refl _ w).up _))).mono ?_
  rintro e w1 ⟨⟨n, rfl, hn1, hn2⟩, rfl⟩
  have HN := hide' hn2
  clear hn2
  go_wp2_with fail
  · go_ret
    exact ⟨⟨-1, rfl, fun h => by omega⟩, (Below.refl _ w).up _⟩
  · go_ret
    exact ⟨⟨n, rfl, HN.out⟩, (Below.refl _ w).up _⟩

theorem opSize : (Tryd.prog.info? 43).map (·.size) = some 4 := by kernel_rfl
theorem opBytes : (Tryd.prog.info? 43).map (·.bytes) = some 32 := by kernel_rfl
theorem opZero : (Tryd.prog.info? 43).bind (·.zero) = some (.agg #[.int .i64 0, .int .i64 0, .int .i64 0, .float .f64 0]) := by kernel_rfl
theorem opsSize : (Tryd.prog.info? 40).map (·.size) = some 1 := by kernel_rfl
theorem opsBytes : (Tryd.prog.info? 40).map (·.bytes) = some 24 := by kernel_rfl
theorem opsZero : (Tryd.prog.info? 40).bind (·.zero) = some (.slice none 0 0) := by kernel_rfl

/-- make of n ops: a new block of 4 n cells. -/
theorem make_ops (n : Nat) (hn : n ≤ 1048576) (w : World) : (Instr.makeSlice 40 (.int .i64 (n : Int)) (.int .i64 (n : Int))).run Tryd.prog w = .ok (.slice (some ⟨w.heap.size, 0, none⟩) n n) (w.alloc (.cells (madeCells #[.int .i64 0, .int .i64 0, .int .i64 0, .float .f64 0] (n * 4)) 43)) := by
  cases hi : Tryd.prog.info? 43 with
  | none => have := opSize; rw [hi] at this; cases this
  | some i =>
    have h1 : i.size = 4 := by have := opSize; rw [hi] at this; simpa using this
    have h2 : i.bytes = 32 := by have := opBytes; rw [hi] at this; simpa using this
    have h3 : i.zero = some (.agg #[.int .i64 0, .int .i64 0, .int .i64 0, .float .f64 0]) := by have := opZero; rw [hi] at this; simpa using this
    have := run_make (P := Tryd.prog) w 40 43 i _ Tryd.underlying40 hi h3 .i64 .i64 n n (by omega) (Int.le_refl _) (by rw [h2]; omega) (by omega)
    rw [h1] at this
    simpa [Value.cells] using this
theorem make_opss (n : Nat) (hn : n ≤ 1048576) (w : World) : (Instr.makeSlice 29 (.int .i64 (n : Int)) (.int .i64 (n : Int))).run Tryd.prog w = .ok (.slice (some ⟨w.heap.size, 0, none⟩) n n) (w.alloc (.cells (madeCells #[.slice none 0 0] n) 40)) := by
  cases hi : Tryd.prog.info? 40 with
  | none => have := opsSize; rw [hi] at this; cases this
  | some i =>
    have h1 : i.size = 1 := by have := opsSize; rw [hi] at this; simpa using this
    have h2 : i.bytes = 24 := by have := opsBytes; rw [hi] at this; simpa using this
    have h3 : i.zero = some (.slice none 0 0) := by have := opsZero; rw [hi] at this; simpa using this
    have := run_make (P := Tryd.prog) w 29 40 i _ Tryd.underlying29 hi h3 .i64 .i64 n n (by omega) (Int.le_refl _) (by rw [h2]; omega) (by omega)
    rw [h1] at this
    simpa [Value.cells] using this

theorem made_there (w : World) (z : Array Value) (n : Nat) (t : TypeId) : (w.alloc (.cells (madeCells z n) t)).there w.heap.size 0 n := by
  intro j hj
  refine ⟨?_, World.frozen?_alloc_new _ _ _ _⟩
  rw [World.cell?_alloc_new]
  have : 0 + j < (madeCells z n).size := by rw [size_madeCells]; omega
  rw [Array.getElem?_eq_getElem this]
  rfl
theorem there_keep {w w' : World} (hb : Below w.heap.size w w') {b o n : Nat} (h : w.there b o n) : w'.there b o n := by
  intro j hj
  obtain ⟨h1, h2⟩ := h j hj
  obtain ⟨v, hv⟩ := Option.isSome_iff_exists.1 h1
  have hlt := World.block_lt_of_cell? w _ hv
  exact ⟨by rw [keep_cell hb hv]; rfl, (hb.frozen (p := ⟨b, o + j, none⟩) hlt).trans h2⟩
theorem there_part {w : World} {b n : Nat} (h : w.there b 0 n) (o m : Nat) (hm : o + m ≤ n) : w.there b o m := by
  intro j hj
  have := h (o + j) (by omega)
  simpa using this
theorem below_cells {B : Nat} {a w : World} (h : Below B a w) {b : Nat} (hB : B ≤ b) : ∀ (vs : List Value) (o : Nat), Below B a (w.setCells b o vs) := by
  intro vs
  induction vs generalizing w with
  | nil => intro o; exact h
  | cons v r ih => intro o; exact ih (h.setCell (p := ⟨b, o, none⟩) hB v) (o + 1)

theorem four_there {w : World} {N j : Nat} (h : w.there N j 4) : ∃ x0 x1 x2 x3, w.cell? ⟨N, j, none⟩ = some x0 ∧ w.cell? ⟨N, j + 1, none⟩ = some x1 ∧ w.cell? ⟨N, j + 2, none⟩ = some x2 ∧ w.cell? ⟨N, j + 3, none⟩ = some x3 ∧ w.frozen? ⟨N, j, none⟩ = false ∧ w.frozen? ⟨N, j + 1, none⟩ = false ∧ w.frozen? ⟨N, j + 2, none⟩ = false ∧ w.frozen? ⟨N, j + 3, none⟩ = false := by
  have h0 := h 0 (by omega)
  have h1 := h 1 (by omega)
  have h2 := h 2 (by omega)
  have h3 := h 3 (by omega)
  obtain ⟨x0, e0⟩ := Option.isSome_iff_exists.1 h0.1
  obtain ⟨x1, e1⟩ := Option.isSome_iff_exists.1 h1.1
  obtain ⟨x2, e2⟩ := Option.isSome_iff_exists.1 h2.1
  obtain ⟨x3, e3⟩ := Option.isSome_iff_exists.1 h3.1
  exact ⟨x0, x1, x2, x3, e0, e1, e2, e3, h0.2, h1.2, h2.2, h3.2⟩

theorem cells_size (b : Nat) : ∀ (vs : List Value) (o : Nat) (w : World), (w.setCells b o vs).heap.size = w.heap.size
  | [], _, _ => rfl
  | v :: r, o, w => by
    rw [World.setCells, cells_size b r (o + 1)]
    simp [World.setCell]

/-- One op more has been copied. -/
theorem toops_step (w wr w1 : World) (l : List OpD) (k : Nat) (x : OpD) (hk : k < l.length) (hx : l[k]? = some x) (hsz : w.heap.size < wr.heap.size) (hth : wr.there w.heap.size 0 (l.length * 4))
    (hrg : ∀ i o, i < k → l[i]? = some o → wr.rangeAt w.heap.size (i * 4) o.cells) (hbw : Below w.heap.size w wr) (hb1 : Below wr.heap.size wr w1) :
    w.heap.size < (w1.setCells w.heap.size (k * 4) x.cells).heap.size ∧ (w1.setCells w.heap.size (k * 4) x.cells).there w.heap.size 0 (l.length * 4) ∧
    (∀ i o, i < k + 1 → l[i]? = some o → (w1.setCells w.heap.size (k * 4) x.cells).rangeAt w.heap.size (i * 4) o.cells) ∧ Below w.heap.size w (w1.setCells w.heap.size (k * 4) x.cells) := by
  have hth1 := there_keep hb1 hth
  refine ⟨?_, World.there_setCells hth1 _ _ _, fun i o hi ho => ?_, below_cells (hbw.trans (hb1.mono (by omega))) (Nat.le_refl _) _ _⟩
  · rw [cells_size]; have := hb1.size; omega
  · by_cases e : i = k
    · subst e
      rw [hx] at ho
      cases ho
      exact World.rangeAt_setCells_same w1 _ _ _ (there_part hth1 _ _ (by show i * 4 + 4 ≤ _; omega))
    · exact World.rangeAt_setCells_apart (range_keep hb1 (hrg i o (by omega) ho)) _ _ _ (.inr (.inl (by show i * 4 + 4 ≤ _; omega)))

set_option maxRecDepth 20000 in
set_option maxHeartbeats 1000000 in
theorem toops_any (A : Option Addr) (l : List OpD) (cap : Nat) (hl : l.length ≤ 1048576) (w : World) (hA : OpsAt w A l) :
    Calls Tryd.prog 26 #[.slice A l.length cap] w fun e w' => e = .returned (.slice (some ⟨w.heap.size, 0, none⟩) l.length l.length) ∧ w.heap.size < w'.heap.size ∧ (w'.there w.heap.size 0 (l.length * 4) ∧ ∀ i o, l[i]? = some o → w'.rangeAt w.heap.size (i * 4) o.cells) ∧ Below w.heap.size w w' := by
  have hmk := make_ops l.length hl
  have hl' : (l.length : Int) ≤ 1048576 := by omega
  obtain ⟨b, off, hA1, hc⟩ := hA
  by_cases he : l = []
  · subst he
    have hmk0 : ∀ w, (Instr.makeSlice 40 (.int .i64 0) (.int .i64 0)).run Tryd.prog w = .ok (.slice (some ⟨w.heap.size, 0, none⟩) 0 0) (w.alloc (.cells (madeCells #[.int .i64 0, .int .i64 0, .int .i64 0, .float .f64 0] 0) 43)) := fun w => by simpa using make_ops 0 (by omega) w
    clear hc hA1 hmk
    go_enter Tryd.func26, Tryd.ntmps26
    go_wp2
    go_loopw [4] (fun i wr => i = .int .i64 0 ∧ wr = w.alloc (.cells (madeCells #[.int .i64 0, .int .i64 0, .int .i64 0, .float .f64 0] 0) 43)) (fun _ _ => 0)
    case atStart => exact ⟨rfl, rfl⟩
    case round =>
      obtain ⟨rfl, rfl⟩ := hrel
      go_wp2
      go_ret
      exact ⟨rfl, by simp, ⟨fun j hj => by simp at hj, fun i o ho => by cases ho⟩, (Below.refl _ w).up _⟩
  · have hA2 := hA1 he
    subst hA2
    have HC := hide' (fun i (hi : i < l.length) => hc i l[i] (List.getElem?_eq_getElem hi))
    have hst := store_f
    clear hc hA1 he
    go_enter Tryd.func26, Tryd.ntmps26
    go_wp2
    go_loopw [4] (fun i wr => ∃ k : Nat, k ≤ l.length ∧ i = .int .i64 k ∧ Hid (w.heap.size < wr.heap.size) ∧ Hid (wr.there w.heap.size 0 (l.length * 4)) ∧ Hid (∀ i o, i < k → l[i]? = some o → wr.rangeAt w.heap.size (i * 4) o.cells) ∧ Hid (Below w.heap.size w wr)) (fun i _ => l.length - (intOf i).toNat)
    case atStart => exact ⟨0, Nat.zero_le _, rfl, (by simp : w.heap.size < (w.alloc _).heap.size), made_there w _ _ _, (fun i o hi _ => by omega), (Below.refl _ w).up _⟩
    case round =>
      obtain ⟨k, hk, rfl, hsz, hth, hrg, hbw⟩ := hrel
      by_cases hlt : k < l.length
      · have hsrc := range_keep hbw.out (HC.out k hlt)
        obtain ⟨c0, c1, c2, c3⟩ := op_range hsrc
        have HL := hide' (List.getElem?_eq_getElem hlt)
        generalize l[k] = o at c0 c1 c2 c3 HL
        clear hsrc
        obtain ⟨oc, oa, ob, os, or⟩ := o
        go_wp2_with (go_at_call 34; refine (toop_any oc oa ob (wd os or) _).mono ?_; rintro e w1 ⟨rfl, hb1⟩; obtain ⟨x0, x1, x2, x3, d0, d1, d2, d3, z0, z1, z2, z3⟩ := four_there (there_part (there_keep hb1 hth.out) (k * 4) 4 (by omega)))
        obtain ⟨q1, q2, q3, q4⟩ := toops_step w wr w1 l k ⟨oc, oa, ob, os, or⟩ hlt HL.out hsz.out hth.out hrg.out hbw.out hb1
        go_roundw
        case rel => exact ⟨k + 1, by omega, by go_num, q1, q2, q3, q4⟩
        case measure => simp [intOf]; omega
      · have hke : k = l.length := by omega
        go_wp2
        go_ret
        exact ⟨rfl, hsz.out, ⟨hth.out, fun i o ho => hrg.out i o (by have := (List.getElem?_eq_some_iff.1 ho).1; omega) ho⟩, hbw.out⟩
end Go.Proofs.YtddapifljinjeaaDoor
