/- Lists of lists of ints: sizes, copies, comparisons, marks (laid by mkii.py). -/
import Derived.Test.YtddapifljinjeaaMl
import Derived.Test.YtddapifljinjeaaStF
import Derived.Test.YtddapifljinjeaaRg
namespace Go.Proofs.Ytddapifljinjeaa
open Go.RowKit
open Rd Fl

theorem issInfo : (Try.prog.info? 23).map (·.size) = some 1 ∧ (Try.prog.info? 23).map (·.bytes) = some 24 ∧ (Try.prog.info? 23).bind (·.zero) = some (.slice none 0 0) := ⟨by kernel_rfl, by kernel_rfl, by kernel_rfl⟩
theorem make_iss (n : Nat) (hn : n ≤ 1048576) (w : World) : (Instr.makeSlice 45 (.int .i64 (n : Int)) (.int .i64 (n : Int))).run Try.prog w = .ok (.slice (some ⟨w.heap.size, 0, none⟩) n n) (w.alloc (.cells (madeCells #[.slice none 0 0] n) 23)) := by
  cases hi : Try.prog.info? 23 with
  | none => have := issInfo.1; rw [hi] at this; cases this
  | some i =>
    have h1 : i.size = 1 := by have := issInfo.1; rw [hi] at this; simpa using this
    have h2 : i.bytes = 24 := by have := issInfo.2.1; rw [hi] at this; simpa using this
    have h3 : i.zero = some (.slice none 0 0) := by have := issInfo.2.2; rw [hi] at this; simpa using this
    have := run_make (P := Try.prog) w 45 23 i _ Try.underlying45 hi h3 .i64 .i64 n n (by omega) (Int.le_refl _) (by rw [h2]; omega) (by omega)
    rw [h1] at this
    simpa [Value.cells] using this


/-- The lists rs lie from R on. -/
def IssAt (w : World) (R : Option Addr) (rs : List (List Int)) : Prop :=
  ∃ b off, (rs ≠ [] → R = some ⟨b, off, none⟩) ∧ ∀ i l, rs[i]? = some l → ∃ A cap, w.cell? ⟨b, off + i, none⟩ = some (.slice A l.length cap) ∧ LAt iv w A l

theorem IssAt.keep {w w' : World} {R : Option Addr} {rs : List (List Int)} (h : IssAt w R rs) (hb : Below w.heap.size w w') : IssAt w' R rs := by
  obtain ⟨b, off, h1, h2⟩ := h
  refine ⟨b, off, h1, fun i l hi => ?_⟩
  obtain ⟨A, cap, h3, h4⟩ := h2 i l hi
  exact ⟨A, cap, keep_cell hb h3, h4.keep hb⟩

set_option maxRecDepth 20000 in
set_option maxHeartbeats 1000000 in
theorem sziss_any (R : Option Addr) (rs : List (List Int)) (cap : Nat) (left : Int) (h0 : 0 ≤ left) (h1 : left ≤ 1048576) (hl : rs.length ≤ 9223372036854775807) (hls : ∀ l ∈ rs, l.length ≤ 9223372036854775807) (w : World) (hR : IssAt w R rs) :
    Calls Try.prog 14 #[.slice R rs.length cap, .int .i64 left] w fun e w' => (∃ n : Int, e = .returned (.int .i64 n) ∧ -1 ≤ n ∧ (0 ≤ n → rs.length ≤ 1048576 ∧ ∀ l ∈ rs, l.length ≤ 1048576)) ∧ w' = w := by
  have hl' : (rs.length : Int) ≤ 9223372036854775807 := by omega
  have HLS := hide' hls
  have HR := hide' hR
  clear hls hR hl
  by_cases h : left - rs.length < 0
  · go_enter Try.func14, Try.ntmps14
    go_wp2
    go_ret
    exact ⟨⟨-1, rfl, by omega, fun h => by omega⟩, rfl⟩
  · have hn : (rs.length : Int) ≤ 1048576 := by omega
    obtain ⟨b, off, hA, hc⟩ := HR.out
    by_cases he : rs = []
    · subst he
      go_enter Try.func14, Try.ntmps14
      go_wp2
      go_loop [1, 5] (fun x i => x = .int .i64 left ∧ i = .int .i64 0) (fun _ _ => 0)
      case atStart => exact ⟨by simp, rfl⟩
      case round =>
        obtain ⟨rfl, rfl⟩ := hrel
        go_wp2
        go_ret
        exact ⟨⟨left, rfl, by omega⟩, rfl⟩
    · have hA2 := hA he
      subst hA2
      have HC := hide' hc
      clear hc hA he HR
      go_enter Try.func14, Try.ntmps14
      go_wp2
      go_loop [1, 5] (fun x i => ∃ (k : Nat) (y : Int), k ≤ rs.length ∧ i = .int .i64 k ∧ x = .int .i64 y ∧ 0 ≤ y ∧ y ≤ 1048576 ∧ Hid (∀ l ∈ rs.take k, l.length ≤ 1048576)) (fun _ i => rs.length - (intOf i).toNat)
      case atStart => exact ⟨0, left - rs.length, Nat.zero_le _, rfl, rfl, by omega, by omega, fun l hl => by cases hl⟩
      case round =>
        obtain ⟨k, y, hk, rfl, rfl, hy0, hy1, HT⟩ := hrel
        by_cases hlt : k < rs.length
        · obtain ⟨A, cp, hcell, -⟩ := HC.out k rs[k] (List.getElem?_eq_getElem hlt)
          have HM := hide' (HLS.out rs[k] (List.getElem_mem hlt))
          have HTS := hide' (List.take_succ_eq_append_getElem hlt)
          generalize rs[k] = l at hcell HM HTS
          go_wp2_with (go_at_call 21; refine (szints_any _ _ _ y hy0 hy1 HM.out _).mono ?_; rintro e w' ⟨⟨n, rfl, hn1, hn2, hn3⟩, rfl⟩)
          · go_ret
            exact ⟨⟨-1, rfl, by omega, fun h => by omega⟩, rfl⟩
          · go_round
            case rel => 
              refine ⟨k + 1, n, by omega, by go_num, rfl, by omega, by omega, ?_⟩
              intro x hx
              rw [HTS.out, List.mem_append] at hx
              rcases hx with hx | hx
              · exact HT.out x hx
              · rw [List.mem_singleton] at hx
                subst hx
                have := hn3 (by omega)
                omega
            case measure => simp [intOf]; omega
        · have hke : k = rs.length := by omega
          go_wp2
          go_ret
          refine ⟨⟨y, rfl, by omega, fun _ => ⟨by omega, fun l hl => HT.out l ?_⟩⟩, rfl⟩
          rw [hke, List.take_length]
          exact hl



/-- The first k lists lie in blocks of their own behind N, N's first k cells leading there. -/
def IssTo (w : World) (N k : Nat) (rs : List (List Int)) : Prop :=
  ∀ i l, i < k → rs[i]? = some l → ∃ M, N < M ∧ M < w.heap.size ∧ w.cell? ⟨N, i, none⟩ = some (.slice (some ⟨M, 0, none⟩) l.length l.length) ∧ LOwn iv w M l
theorem IssTo.keep {w w' : World} {N k : Nat} {rs : List (List Int)} (h : IssTo w N k rs) (hb : Below w.heap.size w w') : IssTo w' N k rs := by
  intro i l hi hl
  obtain ⟨M, h1, h2, h3, h4⟩ := h i l hi hl
  exact ⟨M, h1, Nat.lt_of_lt_of_le h2 hb.size, keep_cell hb h3, h4.keep hb⟩
theorem IssTo.iss {w : World} {N : Nat} {rs : List (List Int)} (h : IssTo w N rs.length rs) : IssAt w (some ⟨N, 0, none⟩) rs := by
  refine ⟨N, 0, fun _ => rfl, fun i l hl => ?_⟩
  obtain ⟨M, h1, h2, h3, h4⟩ := h i l (List.getElem?_eq_some_iff.1 hl).1 hl
  exact ⟨_, _, by rw [Nat.zero_add]; exact h3, h4.at⟩


/-- One list more has been copied. -/
theorem toiss_step (w wr w1 : World) (rs : List (List Int)) (k : Nat) (l : List Int) (hk : k < rs.length) (hl : rs[k]? = some l) (hsz : w.heap.size < wr.heap.size) (hth : wr.there w.heap.size 0 rs.length)
    (hown : IssTo wr w.heap.size k rs) (hbw : Below w.heap.size w wr) (h1 : wr.heap.size < w1.heap.size) (h2 : LOwn iv w1 wr.heap.size l) (hb1 : Below wr.heap.size wr w1) :
    w.heap.size < (w1.setCell ⟨w.heap.size, k, none⟩ (.slice (some ⟨wr.heap.size, 0, none⟩) l.length l.length)).heap.size ∧
    (w1.setCell ⟨w.heap.size, k, none⟩ (.slice (some ⟨wr.heap.size, 0, none⟩) l.length l.length)).there w.heap.size 0 rs.length ∧
    IssTo (w1.setCell ⟨w.heap.size, k, none⟩ (.slice (some ⟨wr.heap.size, 0, none⟩) l.length l.length)) w.heap.size (k + 1) rs ∧
    Below w.heap.size w (w1.setCell ⟨w.heap.size, k, none⟩ (.slice (some ⟨wr.heap.size, 0, none⟩) l.length l.length)) := by
  have hth1 := there_keep hb1 hth
  refine ⟨by rw [set_size]; omega, World.there_setCells hth1 _ _ [_], fun i x hi hx => ?_, (hbw.trans (hb1.mono (by omega))).setCell (p := ⟨w.heap.size, k, none⟩) (Nat.le_refl _) _⟩
  by_cases e : i = k
  · subst e
    rw [hl] at hx
    cases hx
    obtain ⟨y, hy⟩ := Option.isSome_iff_exists.1 (hth1 i hk).1
    rw [Nat.zero_add] at hy
    exact ⟨wr.heap.size, hsz, by rw [set_size]; omega, World.cell?_setCell_same _ _ _ hy, h2.set _ _ _ (by omega)⟩
  · obtain ⟨M, g1, g2, g3, g4⟩ := (hown.keep hb1) i x (by omega) hx
    refine ⟨M, g1, by rw [set_size]; exact g2, ?_, g4.set _ _ _ (by omega)⟩
    rw [World.cell?_setCell_other _ _ _ _ (by simp <;> omega)]
    exact g3

set_option maxRecDepth 20000 in
set_option maxHeartbeats 1000000 in
theorem toiss_any (R : Option Addr) (rs : List (List Int)) (cap : Nat) (hl : rs.length ≤ 1048576) (hls : ∀ l ∈ rs, l.length ≤ 1048576) (w : World) (hR : IssAt w R rs) :
    Calls Try.prog 16 #[.slice R rs.length cap] w fun e w' => e = .returned (.slice (some ⟨w.heap.size, 0, none⟩) rs.length rs.length) ∧ w.heap.size < w'.heap.size ∧ IssTo w' w.heap.size rs.length rs ∧ Below w.heap.size w w' := by
  have hmk := make_iss rs.length hl
  have hl' : (rs.length : Int) ≤ 1048576 := by omega
  obtain ⟨b, off, hA1, hc⟩ := hR
  by_cases he : rs = []
  · subst he
    have hmk0 : ∀ w, (Instr.makeSlice 45 (.int .i64 0) (.int .i64 0)).run Try.prog w = .ok (.slice (some ⟨w.heap.size, 0, none⟩) 0 0) (w.alloc (.cells (madeCells #[.slice none 0 0] 0) 23)) := fun w => by simpa using make_iss 0 (by omega) w
    clear hc hA1 hmk
    go_enter Try.func16, Try.ntmps16
    go_wp2
    go_loopw [4] (fun i wr => i = .int .i64 0 ∧ wr = w.alloc (.cells (madeCells #[.slice none 0 0] 0) 23)) (fun _ _ => 0)
    case atStart => exact ⟨rfl, rfl⟩
    case round =>
      obtain ⟨rfl, rfl⟩ := hrel
      go_wp2
      go_ret
      exact ⟨rfl, by simp, fun i l hi => by omega, (Below.refl _ w).up _⟩
  · have hA2 := hA1 he
    subst hA2
    have HC := hide' (fun i (hi : i < rs.length) => hc i rs[i] (List.getElem?_eq_getElem hi))
    have HLS := hide' hls
    clear hc hA1 he hls
    go_enter Try.func16, Try.ntmps16
    go_wp2
    go_loopw [4] (fun i wr => ∃ k : Nat, k ≤ rs.length ∧ i = .int .i64 k ∧ Hid (w.heap.size < wr.heap.size) ∧ Hid (wr.there w.heap.size 0 rs.length) ∧ Hid (IssTo wr w.heap.size k rs) ∧ Hid (Below w.heap.size w wr)) (fun i _ => rs.length - (intOf i).toNat)
    case atStart => exact ⟨0, Nat.zero_le _, rfl, (by simp : w.heap.size < (w.alloc _).heap.size), made_there w _ _ _, (fun i o hi _ => by omega), (Below.refl _ w).up _⟩
    case round =>
      obtain ⟨k, hk, rfl, hsz, hth, hown, hbw⟩ := hrel
      by_cases hlt : k < rs.length
      · obtain ⟨A, cp, hcell, hops⟩ := HC.out k hlt
        have hcell2 := keep_cell hbw.out hcell
        have HO := hide' (hops.keep hbw.out)
        have HL := hide' (List.getElem?_eq_getElem hlt)
        have HM := hide' (HLS.out rs[k] (List.getElem_mem hlt))
        clear hcell hops
        generalize rs[k] = l at hcell2 HO HL HM
        go_wp2_with (go_at_call 24; refine (toints_any A l cp HM.out _ HO.out).mono ?_; rintro e w1 ⟨rfl, hz1, ho1, hb1⟩; obtain ⟨x, hx⟩ := Option.isSome_iff_exists.1 ((there_keep hb1 hth.out) k hlt).1; have hfz := ((there_keep hb1 hth.out) k hlt).2; rw [Nat.zero_add] at hx hfz)
        obtain ⟨q1, q2, q3, q4⟩ := toiss_step w wr w1 rs k l hlt HL.out hsz.out hth.out hown.out hbw.out hz1 ho1 hb1
        go_roundw
        case rel => exact ⟨k + 1, by omega, by go_num, q1, q2, q3, q4⟩
        case measure => simp [intOf]; omega
      · have hke : k = rs.length := by omega
        subst hke
        go_wp2
        go_ret
        exact ⟨rfl, hsz.out, hown.out, hbw.out⟩

set_option maxRecDepth 20000 in
set_option maxHeartbeats 1000000 in
theorem eqiss_any (A B : Option Addr) (rs : List (List Int)) (ca cb : Nat) (hl : rs.length ≤ 1048576) (hls : ∀ l ∈ rs, l.length ≤ 1048576) (w : World) (hA : IssAt w A rs) (hB : IssAt w B rs) :
    Calls Try.prog 18 #[.slice A rs.length ca, .slice B rs.length cb] w fun e w' => e = .returned (.bool true) ∧ Below w.heap.size w w' := by
  have hl' : (rs.length : Int) ≤ 1048576 := by omega
  obtain ⟨b, off, hA1, hc⟩ := hA
  obtain ⟨b', off', hB1, hc'⟩ := hB
  by_cases he : rs = []
  · subst he
    clear hc hA1 hc' hB1
    go_enter Try.func18, Try.ntmps18
    go_wp2
    go_loop [5] (fun i => i = .int .i64 0) (fun _ => 0)
    case atStart => rfl
    case round =>
      subst hrel
      go_wp2
      go_ret
      exact ⟨rfl, Below.refl _ _⟩
  · have hA2 := hA1 he
    have hB2 := hB1 he
    subst hA2 hB2
    have HC := hide' (fun i (hi : i < rs.length) => hc i rs[i] (List.getElem?_eq_getElem hi))
    have HD := hide' (fun i (hi : i < rs.length) => hc' i rs[i] (List.getElem?_eq_getElem hi))
    have HLL := hide' hls
    clear hc hA1 he hc' hB1 hls
    go_enter Try.func18, Try.ntmps18
    go_wp2
    go_loopw [5] (fun i wr => ∃ k : Nat, k ≤ rs.length ∧ i = .int .i64 k ∧ Hid (Below w.heap.size w wr)) (fun i _ => rs.length - (intOf i).toNat)
    case atStart => exact ⟨0, Nat.zero_le _, rfl, Below.refl _ _⟩
    case round =>
      obtain ⟨k, hk, rfl, hbw⟩ := hrel
      by_cases hlt : k < rs.length
      · obtain ⟨A1, p1, x1, y1⟩ := HC.out k hlt
        obtain ⟨A2, p2, x2, y2⟩ := HD.out k hlt
        have z1 := keep_cell hbw.out x1
        have z2 := keep_cell hbw.out x2
        have Y1 := hide' (y1.keep hbw.out.drew)
        have Y2 := hide' (y2.keep hbw.out.drew)
        have HL := hide' (HLL.out rs[k] (List.getElem_mem hlt))
        clear x1 x2 y1 y2
        generalize rs[k] = l at z1 z2 Y1 Y2 HL
        go_wp2_with fail
        go_region_with (go_at_call 9; refine (eqints_any A1 A2 l p1 p2 HL.out _ Y1.out Y2.out).mono ?_; rintro e w1 ⟨rfl, hb1⟩)
        all_goals
          go_wp2_with fail
          go_roundw
          case rel => exact ⟨k + 1, by omega, by go_num, first_below hbw.out hb1⟩
          case measure => simp [intOf]; omega
      · go_wp2
        go_ret
        exact ⟨rfl, hbw.out⟩


/-- The lists lie at N's cells, each in a block of its own above N and below hi. -/
def IssIn (w : World) (N hi : Nat) (rs : List (List Int)) : Prop :=
  ∀ i l, rs[i]? = some l → ∃ M, N < M ∧ M < hi ∧ w.cell? ⟨N, i, none⟩ = some (.slice (some ⟨M, 0, none⟩) l.length l.length) ∧ w.there M 0 (l.length)
theorem IssTo.in {w : World} {N : Nat} {rs : List (List Int)} (h : IssTo w N rs.length rs) : IssIn w N w.heap.size rs := by
  intro i l hl
  obtain ⟨M, h1, h2, h3, h4⟩ := h i l (List.getElem?_eq_some_iff.1 hl).1 hl
  exact ⟨M, h1, h2, h3, h4.1⟩
theorem IssIn.keep {w w' : World} {N hi : Nat} {rs : List (List Int)} (h : IssIn w N hi rs) (hb : Below w.heap.size w w') : IssIn w' N hi rs := by
  intro i l hl
  obtain ⟨M, h1, h2, h3, h4⟩ := h i l hl
  exact ⟨M, h1, h2, keep_cell hb h3, there_keep hb h4⟩
theorem IssIn.edit {w w' : World} {N hi : Nat} {rs : List (List Int)} (h : IssIn w N hi rs) {lo up : Nat} (he : Edit lo up w w') (hN : N < lo ∨ up ≤ N) : IssIn w' N hi rs := by
  intro i l hl
  obtain ⟨M, h1, h2, h3, h4⟩ := h i l hl
  exact ⟨M, h1, h2, he.cell h3 hN, he.th _ _ _ h4⟩


set_option maxRecDepth 20000 in
set_option maxHeartbeats 1000000 in
theorem markiss_any (rs : List (List Int)) (cap N hi : Nat) (k : Int) (h0 : 0 ≤ k) (hk : k ≤ 1048576) (hl : rs.length ≤ 1048576) (hls : ∀ l ∈ rs, l.length ≤ 1048576) (w : World) (hO : IssIn w N hi rs) :
    Calls Try.prog 19 #[.slice (some ⟨N, 0, none⟩) rs.length cap, .int .i64 k] w fun e w' => (∃ y : Int, e = .returned (.int .i64 y) ∧ 0 ≤ y ∧ y ≤ k + 4194304 * rs.length) ∧ Edit (N + 1) hi w w' := by
  have hl' : (rs.length : Int) ≤ 1048576 := by omega
  have HO := hide' hO
  have HLS := hide' hls
  clear hO hls
  go_enter Try.func19, Try.ntmps19
  go_wp2
  go_loopw [1, 5] (fun x i wr => ∃ (j : Nat) (y : Int), j ≤ rs.length ∧ i = .int .i64 j ∧ x = .int .i64 y ∧ 0 ≤ y ∧ y ≤ k + 4194304 * j ∧ Hid (Edit (N + 1) hi w wr)) (fun _ i _ => rs.length - (intOf i).toNat)
  case atStart => exact ⟨0, k, Nat.zero_le _, rfl, rfl, by omega, by omega, Edit.refl _ _ _⟩
  case round =>
    obtain ⟨j, y, hj, rfl, rfl, hy0, hy1, hed⟩ := hrel
    by_cases hlt : j < rs.length
    · obtain ⟨M, h1, h2, h3, h4⟩ := HO.out j rs[j] (List.getElem?_eq_getElem hlt)
      have hcell := hed.out.cell h3 (.inl (Nat.lt_succ_self _))
      have HT := hide' (hed.out.th _ _ _ h4)
      have HM := hide' (HLS.out rs[j] (List.getElem_mem hlt))
      clear h3 h4
      generalize rs[j] = l at hcell HT HM
      have hy2 : y ≤ 4611686018427387904 := by omega
      go_wp2_with (go_at_call 12; refine (markints_any _ l.length _ M y hy0 hy2 HM.out (fun _ => rfl) _ HT.out).mono ?_; rintro e w' ⟨rfl, -, he1⟩)
      go_roundw
      case rel => exact ⟨j + 1, y + l.length, by omega, by go_num, rfl, by omega, by have := HM.out; omega, hed.out.trans (he1.mono (by omega) (by omega))⟩
      case measure => simp [intOf]; omega
    · have hke : j = rs.length := by omega
      go_wp2
      go_ret
      exact ⟨⟨y, rfl, hy0, by rw [← hke]; exact hy1⟩, hed.out⟩


end Go.Proofs.Ytddapifljinjeaa
