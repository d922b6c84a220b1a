/- The drawn numbers: spec.l1Cur's among and num. -/
import Derived.Test.YtjijinjedeinmaaDoorCur
import Derived.Test.YtjijinjedeinmaaDoorNumOf
namespace Go.Proofs.YtjijinjedeinmaaDoor
open Go.RowKit
open Fl

set_option maxRecDepth 20000 in
set_option maxHeartbeats 1000000 in
theorem among_any (N lb len cap pos : Nat) (a : Option Addr) (xs : List Int) (w : World) (h : Cur w N a len cap pos) (hs : Src w N a len) (hpos : pos ≤ 2000000) (hx : ∀ i v, xs[i]? = some v → w.cell? ⟨lb, i, none⟩ = some (.int .i64 v)) (hlb : lb ≠ N) (hl : 1 ≤ xs.length) (hl2 : xs.length ≤ 1000) :
    Calls Tryd.prog 97 #[.pointer (some ⟨N, 0, none⟩), .slice (some ⟨lb, 0, none⟩) xs.length xs.length] w fun e w' => (∃ v, v ∈ xs ∧ e = .returned (.int .i64 v)) ∧ (∃ pos', pos' ≤ pos + 2 ∧ Cur w' N a len cap pos') ∧ Off N w w' := by
  have HC := hidec h
  have HS := hidec hs
  have HP := hidec hpos
  have HX := hidec hx
  have HL := hidec hlb
  have h1 : (1 : Int) ≤ xs.length := by omega
  have h2 : (xs.length : Int) ≤ 1000 := by omega
  have HK := hidec (fun w h hs => pick_any N len cap pos a (xs.length : Int) w h hs hpos h1 (by omega))
  clear h hs hpos hx hlb
  go_enter Tryd.func97, Tryd.ntmps97
  go_wp2_with fail
  refine (HK.out _ HC.out HS.out).mono ?_
  rintro e w1 ⟨⟨v1, rfl, hv1, hv2⟩, hc1, hb1⟩
  obtain ⟨j, rfl⟩ : ∃ j : Nat, v1 = j := ⟨v1.toNat, by omega⟩
  have hj : j < xs.length := by omega
  have hcell : w1.cell? ⟨lb, j, none⟩ = some (.int .i64 xs[j]) := (hb1.cell (p := ⟨lb, j, none⟩) HL.out).trans (HX.out j _ (List.getElem?_eq_getElem hj))
  clear hl hl2
  go_wp2_with fail
  go_ret
  exact ⟨⟨xs[j], List.getElem_mem hj, rfl⟩, hc1, hb1⟩

theorem add_words (k : Fin 99) : ∃ r, Ieee.double.add 4607182418800017408 (floatOfInt .f64 (k.val : Int)) = some r ∧ 0 < r ∧ r < 4845873199050653696 := by
  have h : ∀ k : Fin 99, (match Ieee.double.add 4607182418800017408 (floatOfInt .f64 (k.val : Int)) with | some r => decide (0 < r ∧ r < 4845873199050653696) | none => false) = true := by decide +kernel
  have hk := h k
  cases he : Ieee.double.add 4607182418800017408 (floatOfInt .f64 (k.val : Int)) with
  | none => rw [he] at hk; cases hk
  | some r => rw [he] at hk; exact ⟨r, rfl, of_decide_eq_true hk⟩

theorem run_add_one (v : Int) (h0 : 0 ≤ v) (h1 : v < 99) : ∃ r, 0 < r ∧ r < 4845873199050653696 ∧ ∀ w, (binOp .add 24 (.float .f64 4607182418800017408) (.float .f64 (floatOfInt .f64 v))).run Tryd.prog w = .ok (.float .f64 (wd false r)) w := by
  obtain ⟨r, hr, h2, h3⟩ := add_words ⟨v.toNat, by omega⟩
  refine ⟨r, h2, h3, fun w => ?_⟩
  have e : ((v.toNat : Nat) : Int) = v := by omega
  simp only [e] at hr
  exact run_float_arith w .add 24 .f64 _ _ _ hr

theorem zz_none : FloatKind.f64.format.div 0 0 = none := by decide +kernel
theorem run_zz (w : World) : ∃ t q, q < 9223372036854775808 ∧
    (binOp .quo 24 (.float .f64 0) (.float .f64 0)).run Tryd.prog w = .ok (.float .f64 (wd t q)) w.drew := by
  obtain ⟨t, q, h1, h2, h3⟩ := nan_word (w.tape w.drawn (.nanBits .f64 0 0))
  refine ⟨t, q, h1, ?_⟩
  have key : (binOp .quo 24 (.float .f64 0) (.float .f64 0)).run Tryd.prog w =
      .ok (.float .f64 (Question.cut (.nanBits .f64 0 0) (w.tape w.drawn (.nanBits .f64 0 0)))) w.drew := by
    simp [binOp, Op.floatArith, zz_none, Question.forced]
  rw [key, ← h3]
  rfl
theorem run_1z (w : World) : (binOp .quo 24 (.float .f64 4607182418800017408) (.float .f64 0)).run Tryd.prog w = .ok (.float .f64 9218868437227405312) w :=
  run_float_arith w .quo 24 .f64 _ _ _ (by decide +kernel)
theorem run_m1z (w : World) : (binOp .quo 24 (.float .f64 13830554455654793216) (.float .f64 0)).run Tryd.prog w = .ok (.float .f64 18442240474082181120) w :=
  run_float_arith w .quo 24 .f64 _ _ _ (by decide +kernel)

theorem Cur.drew {w : World} {N : Nat} {a : Option Addr} {len cap pos : Nat} (h : Cur w N a len cap pos) : Cur w.drew N a len cap pos := ⟨h.code, h.place, h.seed, h.thaw1, h.thaw2⟩
theorem Cur.alloc {w : World} {N : Nat} {a : Option Addr} {len cap pos : Nat} (h : Cur w N a len cap pos) (hN : N < w.heap.size) (o : Obj) : Cur (w.alloc o) N a len cap pos := by
  obtain ⟨h1, h2, ⟨sd, h3⟩, h4, h5⟩ := h
  refine ⟨(World.cell?_alloc_lt _ _ _ hN).trans h1, (World.cell?_alloc_lt _ _ _ hN).trans h2, ⟨sd, (World.cell?_alloc_lt _ _ _ hN).trans h3⟩, (World.frozen?_alloc_past _ _ _ hN).trans h4, (World.frozen?_alloc_past _ _ _ hN).trans h5⟩

theorem negz_run (w : World) : (Op.unary .neg (.float .f64 0)).run Tryd.prog w = .ok (.float .f64 (wd true 0)) w := by
  have : Op.negFloat .f64 0 = wd true 0 := by decide +kernel
  simp [Op.unary, this]
theorem xor_top (p : Nat) (hp : p < 2 ^ 63) : p ^^^ 2 ^ 63 = 2 ^ 63 + p := by
  have h := Nat.two_pow_add_eq_or_of_lt hp 1
  rw [Nat.mul_one] at h
  rw [h]
  apply Nat.eq_of_testBit_eq
  intro i
  rw [Nat.testBit_xor, Nat.testBit_or, Nat.testBit_two_pow]
  by_cases hi : 63 = i
  · subst hi
    rw [Nat.testBit_lt_two_pow hp]
    decide
  · simp [hi]
theorem neg_run (p : Nat) (hp : p < 9223372036854775808) (w : World) : (Op.unary .neg (.float .f64 (wd false p))).run Tryd.prog w = .ok (.float .f64 (wd true p)) w := by
  have : Op.negFloat .f64 (wd false p) = wd true p := xor_top p hp
  simp [Op.unary, this]

set_option maxHeartbeats 400000 in
theorem negz_any (w : World) : Calls Tryd.prog 95 #[] w fun e w' => e = .returned (.float .f64 (wd true 0)) ∧ w' = w := by
  have hd := negz_run
  go_enter Tryd.func95, Tryd.ntmps95
  go_wp2
  go_ret
  exact ⟨rfl, rfl⟩

theorem scaled_wd (r : Nat) (h0 : 0 < r) (hr : r < 4845873199050653696) (x : Int) (hx1 : -1200 ≤ x) (hx2 : x ≤ 1200) (w : World) :
    Calls Tryd.prog 96 #[.float .f64 (wd false r), .int .i64 x] w fun e w' => (∃ p, p < 9223372036854775808 ∧ e = .returned (.float .f64 (wd false p))) ∧ w' = w := by
  refine (scaled_any false r h0 hr x hx1 hx2 w).mono ?_
  rintro e w' ⟨⟨p, he, h1, h2⟩, hw⟩
  refine ⟨⟨p, ?_, he⟩, hw⟩
  by_cases hx : 0 ≤ x
  · have := (h1 hx).le; omega
  · have := (h2 (by omega)).1; omega

theorem small_wd (v : Int) (h0 : 0 ≤ v) (h1 : v < 5) : ∃ s r, r < 9223372036854775808 ∧ floatOfInt .f64 (v - 1) = wd s r := by
  rcases (by omega : v = 0 ∨ v = 1 ∨ v = 2 ∨ v = 3 ∨ v = 4) with h | h | h | h | h <;> subst h
  · exact ⟨true, 4607182418800017408, by omega, by decide +kernel⟩
  · exact ⟨false, 0, by omega, by decide +kernel⟩
  · exact ⟨false, 4607182418800017408, by omega, by decide +kernel⟩
  · exact ⟨false, 4611686018427387904, by omega, by decide +kernel⟩
  · exact ⟨false, 4613937818241073152, by omega, by decide +kernel⟩

theorem cells_at (w : World) (xs : List Int) (t : TypeId) : ∀ i v, xs[i]? = some v → (w.alloc (.cells (xs.map (Value.int .i64)).toArray t)).cell? ⟨w.heap.size, i, none⟩ = some (.int .i64 v) := by
  intro i v h
  rw [World.cell?_alloc_new]
  simp [h]

/-- A number of a list that has just been laid. -/
theorem among_new (N len cap pos : Nat) (t : TypeId) (a : Option Addr) (xs : List Int) (w : World) (lb : Nat) (hlb : lb = w.heap.size) (h : Cur w N a len cap pos) (hs : Src w N a len) (hpos : pos ≤ 2000000) (hN : N < w.heap.size) (hl : 1 ≤ xs.length) (hl2 : xs.length ≤ 1000) :
    Calls Tryd.prog 97 #[.pointer (some ⟨N, 0, none⟩), .slice (some ⟨lb, 0, none⟩) xs.length xs.length] (w.alloc (.cells (xs.map (Value.int .i64)).toArray t)) fun e w' => (∃ v, v ∈ xs ∧ e = .returned (.int .i64 v)) ∧ (∃ pos', pos' ≤ pos + 2 ∧ Cur w' N a len cap pos') ∧ Below N w w' := by
  subst hlb
  have hb : Below N w (w.alloc (.cells (xs.map (Value.int .i64)).toArray t)) := (Below.refl N w).alloc (by omega) _
  refine (among_any N w.heap.size len cap pos a xs _ (h.alloc hN _) (hs.below hb) hpos (cells_at w xs t) (by omega) hl hl2).mono ?_
  rintro e w' ⟨h1, h2, h3⟩
  exact ⟨h1, h2, hb.trans h3.below⟩

set_option maxRecDepth 20000 in
set_option maxHeartbeats 2000000 in
theorem num_any (N len cap pos : Nat) (a : Option Addr) (w : World) (h : Cur w N a len cap pos) (hs : Src w N a len) (hpos : pos ≤ 1000000) (hN : N < w.heap.size) : Calls Tryd.prog 49 #[.pointer (some ⟨N, 0, none⟩)] w fun e w' => (∃ s r, r < 9223372036854775808 ∧ e = .returned (.float .f64 (wd s r))) ∧ (∃ pos', pos' ≤ pos + 10 ∧ Cur w' N a len cap pos') ∧ Below N w w' := by
  have HC := hidec h
  have HS := hidec hs
  have HP := hidec hpos
  have HN := hidec hN
  clear h hs hpos hN
  go_enter Tryd.func49, Tryd.ntmps49
  go_wp2_with fail
  refine (pick_any N len cap pos a 12 _ HC.out HS.out (by have := HP.out; omega) (by omega) (by omega)).mono ?_
  rintro e w1 ⟨⟨v1, rfl, hv1, hv2⟩, ⟨pos1, hp1, hc1⟩, hb1⟩
  have HV := hidec hp1
  clear hp1
  rcases (by omega : v1 = 0 ∨ v1 = 1 ∨ v1 = 2 ∨ v1 = 3 ∨ v1 = 4 ∨ v1 = 5 ∨ 6 ≤ v1) with h | h | h | h | h | h | h
  · subst h
    obtain ⟨t, q, hq, hrun⟩ := run_zz w1
    have HQ := hidec hq
    clear hq
    go_wp2_with fail
    go_ret
    exact ⟨⟨t, q, HQ.out, rfl⟩, ⟨pos1, by have := HV.out; omega, hc1.drew⟩, hb1.below.trans ⟨rfl, rfl, rfl, Nat.le_refl _, fun _ _ => rfl⟩⟩
  · subst h
    have hrun := run_1z
    go_wp2_with fail
    go_ret
    exact ⟨⟨false, 9218868437227405312, by omega, rfl⟩, ⟨pos1, by have := HV.out; omega, hc1⟩, hb1.below⟩
  · subst h
    have hrun := run_m1z
    go_wp2_with fail
    go_ret
    exact ⟨⟨true, 9218868437227405312, by omega, rfl⟩, ⟨pos1, by have := HV.out; omega, hc1⟩, hb1.below⟩
  · subst h
    go_wp2_with fail
    refine (negz_any _).mono ?_
    rintro e w2 ⟨rfl, rfl⟩
    go_wp2_with fail
    go_ret
    exact ⟨⟨true, 0, by omega, rfl⟩, ⟨pos1, by have := HV.out; omega, hc1⟩, hb1.below⟩
  · subst h
    go_wp2_with fail
    refine (pick_any N len cap pos1 a 9 _ hc1 (HS.out.below hb1.below) (by have := HP.out; have := HV.out; omega) (by omega) (by omega)).mono ?_
    rintro e w2 ⟨⟨v2, rfl, hv3, hv4⟩, ⟨pos2, hp2, hc2⟩, hb2⟩
    obtain ⟨r, hr0, hr1, hrun⟩ := run_add_one v2 hv3 (by omega)
    have HR0 := hidec hr0
    have HR1 := hidec hr1
    have HP2 := hidec hp2
    clear hr0 hr1 hp2
    go_wp2_with fail
    have hsz : N < w2.heap.size := by have := HN.out; have := hb1.size; have := hb2.size; omega
    refine (among_new N len cap pos2 3 a [-1074, -1070, -1022, 1019, 1020, -3, 52] w2 _ rfl hc2 (HS.out.below (hb1.below.trans hb2.below)) (by have := HP.out; have := HV.out; have := HP2.out; omega) hsz (by decide) (by decide)).mono ?_
    rintro e w3 ⟨⟨v3, hv5, rfl⟩, ⟨pos3, hp3, hc3⟩, hb3⟩
    have hx : -1200 ≤ v3 ∧ v3 ≤ 1200 := by
      simp only [List.mem_cons, List.not_mem_nil, or_false] at hv5
      omega
    have HX := hidec hx
    have HP3 := hidec hp3
    clear hx hv5 hp3 hsz
    go_wp2_with fail
    refine (scaled_wd r HR0.out HR1.out v3 HX.out.1 HX.out.2 _).mono ?_
    rintro e w4 ⟨⟨p, hp, rfl⟩, rfl⟩
    have HPP := hidec hp
    clear hp
    go_wp2_with fail
    go_ret
    exact ⟨⟨false, p, HPP.out, rfl⟩, ⟨pos3, by have := HV.out; have := HP2.out; have := HP3.out; omega, hc3⟩, (hb1.below.trans hb2.below).trans hb3⟩
  · subst h
    go_wp2_with fail
    refine (pick_any N len cap pos1 a 99 _ hc1 (HS.out.below hb1.below) (by have := HP.out; have := HV.out; omega) (by omega) (by omega)).mono ?_
    rintro e w2 ⟨⟨v2, rfl, hv3, hv4⟩, ⟨pos2, hp2, hc2⟩, hb2⟩
    obtain ⟨r, hr0, hr1, hrun⟩ := run_add_one v2 hv3 (by omega)
    have HR0 := hidec hr0
    have HR1 := hidec hr1
    have HP2 := hidec hp2
    clear hr0 hr1 hp2
    go_wp2_with fail
    refine (pick_any N len cap pos2 a 9 _ hc2 (HS.out.below (hb1.below.trans hb2.below)) (by have := HP.out; have := HV.out; have := HP2.out; omega) (by omega) (by omega)).mono ?_
    rintro e w3 ⟨⟨v3, rfl, hv5, hv6⟩, ⟨pos3, hp3, hc3⟩, hb3⟩
    have HP3 := hidec hp3
    clear hp3
    go_wp2_with fail
    refine (scaled_wd r HR0.out HR1.out (v3 - 4) (by omega) (by omega) _).mono ?_
    rintro e w4 ⟨⟨p, hp, rfl⟩, rfl⟩
    have HPP := hidec hp
    have hneg := neg_run p hp
    clear hp
    go_wp2_with fail
    go_ret
    exact ⟨⟨true, p, HPP.out, rfl⟩, ⟨pos3, by have := HV.out; have := HP2.out; have := HP3.out; omega, hc3⟩, (hb1.below.trans hb2.below).trans hb3.below⟩
  · have e0 : (v1 == 0) = false := by rw [beq_eq_false_iff_ne]; omega
    go_wp2_with fail
    refine (pick_any N len cap pos1 a 5 _ hc1 (HS.out.below hb1.below) (by have := HP.out; have := HV.out; omega) (by omega) (by omega)).mono ?_
    rintro e w2 ⟨⟨v2, rfl, hv3, hv4⟩, ⟨pos2, hp2, hc2⟩, hb2⟩
    have HP2 := hidec hp2
    clear hp2
    go_wp2_with fail
    go_ret
    obtain ⟨s, r, hr, he⟩ := small_wd v2 hv3 hv4
    rw [he]
    exact ⟨⟨s, r, hr, rfl⟩, ⟨pos2, by have := HV.out; have := HP2.out; omega, hc2⟩, hb1.below.trans hb2.below⟩
end Go.Proofs.YtjijinjedeinmaaDoor
