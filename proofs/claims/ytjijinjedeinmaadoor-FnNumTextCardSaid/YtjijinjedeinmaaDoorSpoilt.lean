/- The drawn texts: spec.l1Cur's spoilt. -/
import Derived.Test.YtjijinjedeinmaaDoorStrs
import Derived.Lib.ItoaNum
import Derived.Lib.ItoaLen
namespace Go.Proofs.YtjijinjedeinmaaDoor
open Go.RowKit
open Fl

theorem run_oneS (W : World) (a : Addr) (x : Int) (h : W.cell? a = some (.int .u8 x)) :
    (convert 22 9 (.slice (some a) 1 1)).run Tryd.prog W = .ok (.string ⟨#[UInt8.ofNat x.toNat]⟩) W := by
  rw [run_convert_bytes_string W 22 9 5 (some a) 1 1 (by kernel_rfl) (by kernel_rfl) (by kernel_rfl)]
  refine run_bytesToString W a 1 1 [x] ?_
  exact run_loadCells_list W a [.int .u8 x] (fun j v hj => by
    cases j with
    | zero =>
      simp only [List.getElem?_cons_zero, Option.some.injEq] at hj
      subst hj
      simpa [Addr.add] using h
    | succ k => simp at hj)

theorem Cur.drewN {w : World} {N : Nat} {a : Option Addr} {len cap pos : Nat} (h : Cur w N a len cap pos) (n : Nat) : Cur (w.drewN n) N a len cap pos := ⟨h.code, h.place, h.seed, h.thaw1, h.thaw2⟩
theorem below_dN {N : Nat} {w w' : World} (h : Below N w w') (n : Nat) : Below N w (w'.drewN n) := ⟨h.os, h.tape, h.output, h.size, h.block⟩

theorem run_addS (a b : ByteArray) (h : a.size + b.size ≤ 9223372036854775807) (w : World) : (binOp .add 9 (.string a) (.string b)).run Tryd.prog w = .ok (.string (a ++ b)) w := by
  have := run_string_add_sum (P := Tryd.prog) w a b h
  simpa [binOp] using this

theorem cut_head (T : ByteArray) (i : Nat) (h : i ≤ T.size) : ∃ L : ByteArray, L.size = i ∧ ∀ w, (Instr.slice 9 (.string T) none (some (.int .i64 i)) none).run Tryd.prog w = .ok (.string L) w := by
  refine ⟨T.extract 0 i, by simp; omega, fun w => ?_⟩
  have := run_slice_string_h (P := Tryd.prog) w 9 T (by kernel_rfl) .i64 (i : Int) (by omega) (by omega)
  simpa using this
theorem cut_tail (T : ByteArray) (i : Nat) (h : i ≤ T.size) : ∃ L : ByteArray, L.size = T.size - i ∧ ∀ w, (Instr.slice 9 (.string T) (some (.int .i64 i)) none none).run Tryd.prog w = .ok (.string L) w := by
  refine ⟨T.extract i T.size, by simp, fun w => ?_⟩
  have := run_slice_string_l (P := Tryd.prog) w 9 T (by kernel_rfl) .i64 (i : Int) (by omega) (by omega)
  simpa using this
theorem cut_tail1 (T : ByteArray) (i : Nat) (h : i + 1 ≤ T.size) : ∃ L : ByteArray, L.size = T.size - (i + 1) ∧ ∀ w, (Instr.slice 9 (.string T) (some (.int .i64 ((i : Int) + 1))) none none).run Tryd.prog w = .ok (.string L) w := by
  obtain ⟨L, h1, h2⟩ := cut_tail T (i + 1) h
  exact ⟨L, h1, fun w => h2 w⟩

set_option maxRecDepth 20000 in
set_option maxHeartbeats 1000000 in
theorem spoilt_any (N len cap pos : Nat) (a : Option Addr) (s x : ByteArray) (w : World) (h : Cur w N a len cap pos) (hs : Src w N a len) (hpos : pos ≤ 1000000) (hN : N < w.heap.size) (hx : 1 ≤ x.size) (hx2 : x.size ≤ 100) (hsz : s.size ≤ 10000) :
    Calls Tryd.prog 51 #[.pointer (some ⟨N, 0, none⟩), .string s, .string x] w fun e w' => (∃ v : ByteArray, e = .returned (.string v) ∧ v.size ≤ s.size + 2) ∧ (∃ pos', pos' ≤ pos + 20 ∧ Cur w' N a len cap pos') ∧ Below N w w' := by
  have HC := hidec h
  have HS := hidec hs
  have HP := hidec hpos
  have HN := hidec hN
  clear h hs hpos hN
  go_enter Tryd.func51, Tryd.ntmps51
  go_wp2_with fail
  refine (pick_any N len cap pos a 2 _ HC.out HS.out (by have := HP.out; omega) (by omega) (by omega)).mono ?_
  rintro e w1 ⟨⟨v1, rfl, hv1, hv2⟩, ⟨pos1, hp1, hc1⟩, hb1⟩
  have HV := hidec hp1
  have HB := hidec hb1.below
  clear hp1 hb1
  go_wp2_with fail
  go_loopw [1, 7] (fun t n wr => ∃ (T : ByteArray) (k : Int) (p : Nat), t = .string T ∧ n = .int .i64 k ∧ 0 ≤ k ∧ k ≤ 2 ∧ (T.size : Int) + k ≤ s.size + 2 ∧ Hid ((p : Int) ≤ pos + 2 + (2 - k) * 6) ∧ Hid (Cur wr N a len cap p) ∧ Hid (Below N w wr)) (fun _ n _ => (intOf n).toNat)
  case atStart => exact ⟨s, _, pos1, rfl, rfl, by omega, by omega, by omega, (by have := HV.out; show (pos1 : Int) ≤ _; omega), hc1, HB.out⟩
  case round =>
    obtain ⟨T, k, p, rfl, rfl, hk0, hk2, hT, hp, hcr, hbr⟩ := hrel
    have HTT := hidec hT
    have hTs : T.size ≤ 20000 := by omega
    clear hT
    by_cases hz : k ≤ 0
    · go_wp2_with fail
      go_ret
      exact ⟨⟨T, rfl, by have := HTT.out; omega⟩, ⟨p, by have := hp.out; omega, hcr.out⟩, hbr.out⟩
    · by_cases hl : T.size = 0
      · have hl0 : (T.size : Int) = 0 := by omega
        go_wp2_with fail
        go_ret
        exact ⟨⟨T, rfl, by have := HTT.out; omega⟩, ⟨p, by have := hp.out; omega, hcr.out⟩, hbr.out⟩
      · have hl1 : 0 < (T.size : Int) := by omega
        go_wp2_with fail
        refine (pick_any N len cap p a (T.size : Int) _ hcr.out (HS.out.below hbr.out) (by have := hp.out; have := HP.out; omega) (by omega) (by omega)).mono ?_
        rintro e w2 ⟨⟨v2, rfl, hv3, hv4⟩, ⟨pos2, hp2, hc2⟩, hb2⟩
        have HP2 := hidec hp2
        have HB2 := hidec (hbr.out.trans hb2.below)
        clear hp2 hb2
        go_wp2_with fail
        refine (pick_any N len cap pos2 a (x.size : Int) _ hc2 (HS.out.below HB2.out) (by have := hp.out; have := HP.out; have := HP2.out; omega) (by omega) (by omega)).mono ?_
        rintro e w3 ⟨⟨v3, rfl, hv5, hv6⟩, ⟨pos3, hp3, hc3⟩, hb3⟩
        have HP3 := hidec hp3
        have HB3 := hidec (HB2.out.trans hb3.below)
        clear hp3 hb3
        obtain ⟨j, rfl⟩ : ∃ j : Nat, v3 = j := ⟨v3.toNat, by omega⟩
        have hj : j < x.size := by omega
        have hcv := run_oneS
        have HZ3 := hidec (show N < w3.heap.size from Nat.lt_of_lt_of_le HN.out HB3.out.size)
        go_wp2_with fail
        generalize hone : (ByteArray.mk #[x[j]]) = one
        have h1s : one.size = 1 := by rw [← hone]; rfl
        refine (pick_any N len cap pos3 a 3 _ (hc3.alloc HZ3.out _) (HS.out.below (HB3.out.alloc (Nat.le_of_lt HZ3.out) _)) (by have := hp.out; have := HP.out; have := HP2.out; have := HP3.out; omega) (by omega) (by omega)).mono ?_
        rintro e w4 ⟨⟨v4, rfl, hv7, hv8⟩, ⟨pos4, hp4, hc4⟩, hb4⟩
        have HP4 := hidec hp4
        have HB4 := hidec ((HB3.out.alloc (Nat.le_of_lt HZ3.out) _).trans hb4.below)
        clear hp4 hb4
        obtain ⟨i, rfl⟩ : ∃ i : Nat, v2 = i := ⟨v2.toNat, by omega⟩
        have hi : i < T.size := by omega
        have hLs : (T.extract 0 i).size = i := by simp; omega
        have hRs : (T.extract i T.size).size = T.size - i := by simp
        have hR1s : (T.extract (i + 1) T.size).size = T.size - (i + 1) := by simp
        have ha1 := run_addS (T.extract 0 i) one (by omega)
        have ha2 := run_addS ((T.extract 0 i) ++ one) (T.extract i T.size) (by rw [ByteArray.size_append]; omega)
        have ha3 := run_addS ((T.extract 0 i) ++ one) (T.extract (i + 1) T.size) (by rw [ByteArray.size_append]; omega)
        have ha4 := run_addS (T.extract 0 i) (T.extract (i + 1) T.size) (by omega)
        have hZ1 : ((T.extract 0 i) ++ one ++ (T.extract i T.size)).size = T.size + 1 := by rw [ByteArray.size_append, ByteArray.size_append]; omega
        have hZ2 : ((T.extract 0 i) ++ one ++ (T.extract (i + 1) T.size)).size = T.size := by rw [ByteArray.size_append, ByteArray.size_append]; omega
        have hZ3 : ((T.extract 0 i) ++ (T.extract (i + 1) T.size)).size + 1 = T.size := by rw [ByteArray.size_append]; omega
        have HZZ := hidec (And.intro hZ1 (And.intro hZ2 hZ3))
        clear hZ1 hZ2 hZ3 hLs hRs hR1s hone
        rcases (by omega : v4 = 0 ∨ v4 = 1 ∨ v4 = 2) with h | h | h
        · subst h
          go_wp2_with fail
          go_quiet (fail)
          go_wp2_with fail
          refine ⟨⟨_, _, pos4, rfl, rfl, by omega, by omega, (by have := HZZ.out.1; have := HTT.out; omega), (by have := HP2.out; have := HP3.out; have := HP4.out; have := hp.out; show (pos4 : Int) ≤ _; omega), Cur.drewN hc4 _, below_dN HB4.out _⟩, ?_⟩
          simp [intOf]; omega
        · subst h
          go_wp2_with fail
          go_quiet (fail)
          go_wp2_with fail
          refine ⟨⟨_, _, pos4, rfl, rfl, by omega, by omega, (by have := HZZ.out.2.1; have := HTT.out; omega), (by have := HP2.out; have := HP3.out; have := HP4.out; have := hp.out; show (pos4 : Int) ≤ _; omega), Cur.drewN hc4 _, below_dN HB4.out _⟩, ?_⟩
          simp [intOf]; omega
        · subst h
          go_wp2_with fail
          go_quiet (fail)
          go_wp2_with fail
          refine ⟨⟨_, _, pos4, rfl, rfl, by omega, by omega, (by have := HZZ.out.2.2; have := HTT.out; omega), (by have := HP2.out; have := HP3.out; have := HP4.out; have := hp.out; show (pos4 : Int) ≤ _; omega), Cur.drewN hc4 _, below_dN HB4.out _⟩, ?_⟩
          simp [intOf]; omega
end Go.Proofs.YtjijinjedeinmaaDoor
