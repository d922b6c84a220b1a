/- The cursor of the drawn inputs: spec.l1Cur's next. -/
import Derived.Test.YtjijinjedeinmaaDoorRows
import Derived.WalkKit
import Derived.WalkSpells
import Derived.WalkLawsBesides
import Derived.Laws.BitsAllLaws
import Derived.Laws.BitsLemmas
import Derived.Deep.QuietTactic
import Derived.BigQuiet
namespace Go.Proofs.YtjijinjedeinmaaDoor
open Go.RowKit

/-- A cursor lies at block N: its bytes, its place, its seed. -/
structure Cur (w : World) (N : Nat) (a : Option Addr) (len cap pos : Nat) : Prop where
  code : w.cell? ⟨N, 0, none⟩ = some (.slice a len cap)
  place : w.cell? ⟨N, 1, none⟩ = some (.int .i64 (pos : Int))
  seed : ∃ sd : Int, w.cell? ⟨N, 2, none⟩ = some (.int .u64 sd)
  thaw1 : w.frozen? ⟨N, 1, none⟩ = false
  thaw2 : w.frozen? ⟨N, 2, none⟩ = false

/-- Of the blocks but N none has turned. -/
structure Off (N : Nat) (w w' : World) : Prop where
  os : w'.os = w.os
  tape : w'.tape = w.tape
  output : w'.output = w.output
  size : w'.heap.size = w.heap.size
  block : ∀ k, k ≠ N → w'.heap[k]? = w.heap[k]?

theorem Off.refl (N : Nat) (w : World) : Off N w w := ⟨rfl, rfl, rfl, rfl, fun _ _ => rfl⟩
theorem Off.trans {N : Nat} {a b c : World} (h : Off N a b) (k : Off N b c) : Off N a c :=
  ⟨k.os.trans h.os, k.tape.trans h.tape, k.output.trans h.output, k.size.trans h.size, fun i hi => (k.block i hi).trans (h.block i hi)⟩
theorem Off.below {N : Nat} {w w' : World} (h : Off N w w') : Below N w w' := ⟨h.os, h.tape, h.output, Nat.le_of_eq h.size.symm, fun k hk => h.block k (by omega)⟩
theorem Off.cell {N : Nat} {w w' : World} (h : Off N w w') {p : Addr} (hp : p.block ≠ N) : w'.cell? p = w.cell? p := World.cell?_of_block (w := w) (h.block p.block hp)

theorem hidec {p : Prop} (h : p) : Hid p := h

theorem cur_step {w : World} {N : Nat} {a : Option Addr} {len cap pos : Nat} (h : Cur w N a len cap pos) (k m : Nat) (x : Int) :
    Cur ((((w.drewN k).setCell ⟨N, 1, none⟩ (.int .i64 ((pos : Int) + 1))).setCell ⟨N, 2, none⟩ (.int .u64 x)).drewN m) N a len cap (pos + 1) ∧
    Off N w ((((w.drewN k).setCell ⟨N, 1, none⟩ (.int .i64 ((pos : Int) + 1))).setCell ⟨N, 2, none⟩ (.int .u64 x)).drewN m) := by
  obtain ⟨c0, c1, ⟨sd, c2⟩, t1, t2⟩ := h
  refine ⟨⟨?_, ?_, ⟨x, ?_⟩, ?_, ?_⟩, ?_⟩
  · show (((w.drewN k).setCell ⟨N, 1, none⟩ _).setCell ⟨N, 2, none⟩ _).cell? _ = _
    rw [World.cell?_setCell_other _ _ _ _ (by simp), World.cell?_setCell_other _ _ _ _ (by simp)]
    exact c0
  · show (((w.drewN k).setCell ⟨N, 1, none⟩ _).setCell ⟨N, 2, none⟩ _).cell? _ = _
    rw [World.cell?_setCell_other _ _ _ _ (by simp)]
    exact World.cell?_setCell_same _ _ _ (show (w.drewN k).cell? _ = _ from c1)
  · show (((w.drewN k).setCell ⟨N, 1, none⟩ _).setCell ⟨N, 2, none⟩ _).cell? _ = _
    refine World.cell?_setCell_same _ _ _ (u := .int .u64 sd) ?_
    rw [World.cell?_setCell_other _ _ _ _ (by simp)]
    exact c2
  · simp [t1]
  · simp [t2]
  · refine ⟨rfl, rfl, rfl, by simp [World.setCell, World.drewN], fun i hi => ?_⟩
    show (((w.drewN k).setCell ⟨N, 1, none⟩ _).setCell ⟨N, 2, none⟩ _).heap[i]? = _
    rw [Below.heap_setCell _ _ _ _ hi, Below.heap_setCell _ _ _ _ hi]
    rfl

set_option maxRecDepth 20000 in
set_option maxHeartbeats 1000000 in
theorem next_in (N ab off len cap pos : Nat) (b : Int) (w : World) (h : Cur w N (some ⟨ab, off, none⟩) len cap pos) (hp : pos < len) (hlen : len ≤ 1048576) (hb : w.cell? ⟨ab, off + pos, none⟩ = some (.int .u8 b)) (hb0 : 0 ≤ b) (hb1 : b < 256) :
    Calls Tryd.prog 121 #[.pointer (some ⟨N, 0, none⟩)] w fun e w' => (∃ v : Int, e = .returned (.int .i64 v) ∧ 0 ≤ v ∧ v < 256) ∧ Cur w' N (some ⟨ab, off, none⟩) len cap (pos + 1) ∧ Off N w w' := by
  obtain ⟨c0, c1, ⟨sd, c2⟩, t1, t2⟩ := h
  have hp1 : (pos : Int) < len := by omega
  have hp2 : (pos : Int) + 1 ≤ len := by omega
  go_enter Tryd.func121, Tryd.ntmps121
  go_wp2
  go_quiet (fail)
  go_wp2
  go_quiet (fail)
  go_wp2
  go_quiet (fail)
  go_wp2
  go_ret
  refine ⟨⟨b, rfl, hb0, hb1⟩, ?_⟩
  exact cur_step ⟨c0, c1, ⟨sd, c2⟩, t1, t2⟩ _ _ _

theorem wraps_u64c (n : Int) (h₀ : 0 ≤ n) (h₁ : n < 2 ^ 64) : IntKind.u64.wrap n = n := by rw [IntKind.wrap_u64]; omega
theorem and255 (Y : Int) : 0 ≤ wrap64 (bits .and .u64 (IntKind.u64.wrap Y / 1099511627776) 255) ∧ wrap64 (bits .and .u64 (IntKind.u64.wrap Y / 1099511627776) 255) < 256 := by
  rw [IntKind.wrap_u64]
  have h1 : 0 ≤ Y % 18446744073709551616 / 1099511627776 := by omega
  have h2 : Y % 18446744073709551616 / 1099511627776 < 18446744073709551616 := by omega
  have h := bits_mask .u64 64 (by decide) wraps_u64c 8 (by decide) (Y % 18446744073709551616 / 1099511627776) h1 h2
  have e : bits .and .u64 (Y % 18446744073709551616 / 1099511627776) 255 = Y % 18446744073709551616 / 1099511627776 % 256 := h
  rw [e]
  unfold wrap64
  omega

set_option maxRecDepth 20000 in
set_option maxHeartbeats 1000000 in
theorem next_out (N len cap pos : Nat) (a : Option Addr) (w : World) (h : Cur w N a len cap pos) (hp : len ≤ pos) (hlen : len ≤ 1048576) (hpos : pos ≤ 2097152) :
    Calls Tryd.prog 121 #[.pointer (some ⟨N, 0, none⟩)] w fun e w' => (∃ v : Int, e = .returned (.int .i64 v) ∧ 0 ≤ v ∧ v < 256) ∧ Cur w' N a len cap (pos + 1) ∧ Off N w w' := by
  obtain ⟨c0, c1, ⟨sd, c2⟩, t1, t2⟩ := h
  have hd1 : ¬ pos < len := by omega
  have hd2 : ¬ pos + 1 ≤ len := by omega
  have hd3 : ¬ (pos : Int) + 1 ≤ len := by omega
  have HP := hidec hp
  have hw : wrap64 ((pos : Int) + 1) = (pos : Int) + 1 := by unfold wrap64; omega
  have HQ := hidec hpos
  clear hp hpos
  go_enter Tryd.func121, Tryd.ntmps121
  go_wp2
  go_quiet (fail)
  go_wp2
  go_quiet (fail)
  go_wp2
  go_ret
  refine ⟨⟨_, rfl, (and255 _).1, (and255 _).2⟩, ?_⟩
  exact cur_step ⟨c0, c1, ⟨sd, c2⟩, t1, t2⟩ _ _ _

/-- The bytes of a cursor lie ahead of it. -/
def Src (w : World) (N : Nat) (a : Option Addr) (len : Nat) : Prop := len ≤ 1048576 ∧ ∀ i, i < len → ∃ ab off b, a = some ⟨ab, off, none⟩ ∧ ab < N ∧ w.cell? ⟨ab, off + i, none⟩ = some (.int .u8 b) ∧ 0 ≤ b ∧ b < 256

theorem Src.below {w w' : World} {N : Nat} {a : Option Addr} {len : Nat} (h : Src w N a len) (hb : Below N w w') : Src w' N a len := by
  refine ⟨h.1, fun i hi => ?_⟩
  obtain ⟨ab, off, b, h1, h2, h3, h4, h5⟩ := h.2 i hi
  exact ⟨ab, off, b, h1, h2, (hb.cell (p := ⟨ab, off + i, none⟩) h2).trans h3, h4, h5⟩

theorem next_any (N len cap pos : Nat) (a : Option Addr) (w : World) (h : Cur w N a len cap pos) (hs : Src w N a len) (hpos : pos ≤ 2097152) :
    Calls Tryd.prog 121 #[.pointer (some ⟨N, 0, none⟩)] w fun e w' => (∃ v : Int, e = .returned (.int .i64 v) ∧ 0 ≤ v ∧ v < 256) ∧ Cur w' N a len cap (pos + 1) ∧ Off N w w' := by
  by_cases hp : pos < len
  · obtain ⟨ab, off, b, rfl, _, h3, h4, h5⟩ := hs.2 pos hp
    exact next_in N ab off len cap pos b w h hp hs.1 h3 h4 h5
  · exact next_out N len cap pos a w h (by omega) hs.1 hpos

set_option maxRecDepth 20000 in
set_option maxHeartbeats 1000000 in
theorem pick_any (N len cap pos : Nat) (a : Option Addr) (n : Int) (w : World) (h : Cur w N a len cap pos) (hs : Src w N a len) (hpos : pos ≤ 2000000) (hn : 1 ≤ n) (hn2 : n ≤ 60000) :
    Calls Tryd.prog 94 #[.pointer (some ⟨N, 0, none⟩), .int .i64 n] w fun e w' => (∃ v : Int, e = .returned (.int .i64 v) ∧ 0 ≤ v ∧ v < n) ∧ (∃ pos', pos' ≤ pos + 2 ∧ Cur w' N a len cap pos') ∧ Off N w w' := by
  have HC := hidec h
  have HS := hidec hs
  have HP := hidec hpos
  clear h hs hpos
  by_cases h1 : n ≤ 1
  · have e1 : n = 1 := by omega
    subst e1
    go_enter Tryd.func94, Tryd.ntmps94
    go_wp2_with fail
    go_ret
    exact ⟨⟨0, rfl, by omega, by omega⟩, ⟨pos, by omega, HC.out⟩, Off.refl _ _⟩
  · by_cases h2 : 200 < n
    · go_enter Tryd.func94, Tryd.ntmps94
      go_wp2_with (go_at_call 121; refine (next_any N len cap pos a _ HC.out HS.out (by have := HP.out; omega)).mono ?_; rintro e w1 ⟨⟨v1, rfl, hv1, hv2⟩, hc1, hb1⟩)
      refine (next_any N len cap (pos + 1) a _ hc1 (HS.out.below hb1.below) (by have := HP.out; omega)).mono ?_
      rintro e w2 ⟨⟨v2, rfl, hv3, hv4⟩, hc2, hb2⟩
      go_wp2_with fail
      go_ret
      exact ⟨⟨_, rfl, Int.emod_nonneg _ (by omega), Int.emod_lt_of_pos _ (by omega)⟩, ⟨pos + 2, by omega, hc2⟩, hb1.trans hb2⟩
    · go_enter Tryd.func94, Tryd.ntmps94
      go_wp2_with (go_at_call 121; refine (next_any N len cap pos a _ HC.out HS.out (by have := HP.out; omega)).mono ?_; rintro e w1 ⟨⟨v1, rfl, hv1, hv2⟩, hc1, hb1⟩)
      go_ret
      exact ⟨⟨_, rfl, Int.emod_nonneg _ (by omega), Int.emod_lt_of_pos _ (by omega)⟩, ⟨pos + 1, by omega, hc1⟩, hb1⟩

set_option maxRecDepth 20000 in
set_option maxHeartbeats 1000000 in
theorem one_any (N len cap pos : Nat) (a : Option Addr) (n : Int) (w : World) (h : Cur w N a len cap pos) (hs : Src w N a len) (hpos : pos ≤ 2000000) (hn : 1 ≤ n) (hn2 : n ≤ 60000) :
    Calls Tryd.prog 50 #[.pointer (some ⟨N, 0, none⟩), .int .i64 n] w fun e w' => (∃ v : Bool, e = .returned (.bool v)) ∧ (∃ pos', pos' ≤ pos + 2 ∧ Cur w' N a len cap pos') ∧ Off N w w' := by
  have HK := hidec (fun w => pick_any N len cap pos a n w)
  have HC := hidec h
  have HS := hidec hs
  have HP := hidec hpos
  clear h hs hpos
  go_enter Tryd.func50, Tryd.ntmps50
  go_wp2_with (go_at_call 94; refine (HK.out _ HC.out HS.out HP.out hn hn2).mono ?_; rintro e w1 ⟨⟨v1, rfl, hv1, hv2⟩, hc1, hb1⟩)
  go_ret
  exact ⟨⟨_, rfl⟩, hc1, hb1⟩
end Go.Proofs.YtjijinjedeinmaaDoor
