/- States in memory: what lies where; the sizes that the exact laws reckon. -/
import Derived.Test.YtddapifljinjeaaPrgC
namespace Go.Proofs.Ytddapifljinjeaa
open Go.RowKit
open Rd Fl

/-- The values of l lie from A on, one a cell. -/
def LAt {α : Type} (f : α → Value) (w : World) (A : Option Addr) (l : List α) : Prop :=
  ∃ b off, (l ≠ [] → A = some ⟨b, off, none⟩) ∧ ∀ i x, l[i]? = some x → w.cell? ⟨b, off + i, none⟩ = some (f x)
def fv (x : Bool × Nat) : Value := .float .f64 (wd x.1 x.2)
def iv (x : Int) : Value := .int .i64 x
theorem LAt.keep {α : Type} {f : α → Value} {w w' : World} {A : Option Addr} {l : List α} (h : LAt f w A l) (hb : Below w.heap.size w w') : LAt f w' A l := by
  obtain ⟨b, off, h1, h2⟩ := h
  exact ⟨b, off, h1, fun i o hi => keep_cell hb (h2 i o hi)⟩

/-- a thread's data -/
structure ThD where
  rt : Int
  pc : Int
  st : Int
  cd : Int
  lk : Int
  sk : List (Bool × Nat)
def ThD.cells (t : ThD) (S : Option Addr) (cap : Nat) : List Value := [.int .i64 t.rt, .int .i64 t.pc, .int .i64 t.st, .int .i64 t.cd, .int .i64 t.lk, .slice S t.sk.length cap]
/-- The threads ts lie from A on. -/
def ThsAt (w : World) (A : Option Addr) (ts : List ThD) : Prop :=
  ∃ b off, (ts ≠ [] → A = some ⟨b, off, none⟩) ∧ ∀ i t, ts[i]? = some t → ∃ S cap, w.rangeAt b (off + i * 6) (t.cells S cap) ∧ LAt fv w S t.sk
theorem ThsAt.keep {w w' : World} {A : Option Addr} {l : List ThD} (h : ThsAt w A l) (hb : Below w.heap.size w w') : ThsAt w' A l := by
  obtain ⟨b, off, h1, h2⟩ := h
  refine ⟨b, off, h1, fun i t hi => ?_⟩
  obtain ⟨S, cap, h3, h4⟩ := h2 i t hi
  exact ⟨S, cap, range_keep hb h3, h4.keep hb⟩
theorem th_range {w : World} {b o : Nat} {t : ThD} {S : Option Addr} {cap : Nat} (h : w.rangeAt b o (t.cells S cap)) : w.cell? ⟨b, o, none⟩ = some (.int .i64 t.rt) ∧ w.cell? ⟨b, o + 1, none⟩ = some (.int .i64 t.pc) ∧ w.cell? ⟨b, o + 2, none⟩ = some (.int .i64 t.st) ∧ w.cell? ⟨b, o + 3, none⟩ = some (.int .i64 t.cd) ∧ w.cell? ⟨b, o + 4, none⟩ = some (.int .i64 t.lk) ∧ w.cell? ⟨b, o + 5, none⟩ = some (.slice S t.sk.length cap) :=
  ⟨h 0 _ rfl, h 1 _ rfl, h 2 _ rfl, h 3 _ rfl, h 4 _ rfl, h 5 _ rfl⟩

set_option maxHeartbeats 400000 in
theorem szfls_any (A : Option Addr) (len cap : Nat) (left : Int) (h0 : 0 ≤ left) (h1 : left ≤ 1048576) (hl : len ≤ 9223372036854775807) (w : World) :
    Calls Try.prog 35 #[.slice A len cap, .int .i64 left] w fun e w' => (∃ n : Int, e = .returned (.int .i64 n) ∧ -1 ≤ n ∧ n ≤ left ∧ (0 ≤ n → (len : Int) ≤ 1048576)) ∧ w' = w := by
  have hl' : (len : Int) ≤ 9223372036854775807 := by omega
  by_cases h : left - len < 0
  · go_enter Try.func35, Try.ntmps35
    go_wp2
    go_ret
    exact ⟨⟨-1, rfl, by omega, by omega, fun h => by omega⟩, rfl⟩
  · go_enter Try.func35, Try.ntmps35
    go_wp2
    go_ret
    exact ⟨⟨left - len, rfl, by omega, by omega, fun h => by omega⟩, rfl⟩

set_option maxHeartbeats 400000 in
theorem szints_any (A : Option Addr) (len cap : Nat) (left : Int) (h0 : 0 ≤ left) (h1 : left ≤ 1048576) (hl : len ≤ 9223372036854775807) (w : World) :
    Calls Try.prog 21 #[.slice A len cap, .int .i64 left] w fun e w' => (∃ n : Int, e = .returned (.int .i64 n) ∧ -1 ≤ n ∧ n ≤ left ∧ (0 ≤ n → (len : Int) ≤ 1048576)) ∧ w' = w := by
  have hl' : (len : Int) ≤ 9223372036854775807 := by omega
  by_cases h : left - len < 0
  · go_enter Try.func21, Try.ntmps21
    go_wp2
    go_ret
    exact ⟨⟨-1, rfl, by omega, by omega, fun h => by omega⟩, rfl⟩
  · go_enter Try.func21, Try.ntmps21
    go_wp2
    go_ret
    exact ⟨⟨left - len, rfl, by omega, by omega, fun h => by omega⟩, rfl⟩

set_option maxRecDepth 20000 in
set_option maxHeartbeats 1000000 in
theorem szth_any (r0 r1 r2 r3 r4 : Int) (S : Option Addr) (len cap : Nat) (left : Int) (h0 : 0 ≤ left) (h1 : left ≤ 1048576) (hl : len ≤ 9223372036854775807) (w : World) :
    Calls Try.prog 48 #[.agg #[.int .i64 r0, .int .i64 r1, .int .i64 r2, .int .i64 r3, .int .i64 r4, .slice S len cap], .int .i64 left] w fun e w' => (∃ n : Int, e = .returned (.int .i64 n) ∧ -1 ≤ n ∧ n ≤ left ∧ (0 ≤ n → (len : Int) ≤ 1048576)) ∧ Below w.heap.size w w' := by
  have HC := hide' (fun w => szfls_any S len cap left h0 h1 hl w)
  clear hl
  go_enter Try.func48, Try.ntmps48
  go_wp2_with fail
  refine (HC.out _).mono ?_
  rintro e w1 ⟨⟨n, rfl, hn1, hn2, hn3⟩, rfl⟩
  have HN := hide' hn3
  clear hn3 h1
  go_wp2_with fail
  · go_ret
    exact ⟨⟨-1, rfl, by omega, by omega, fun h => by omega⟩, (Below.refl _ w).up _⟩
  · go_ret
    exact ⟨⟨n, rfl, hn1, hn2, HN.out⟩, (Below.refl _ w).up _⟩

set_option maxRecDepth 20000 in
set_option maxHeartbeats 1000000 in
theorem szths_any (R : Option Addr) (ts : List ThD) (cap : Nat) (left : Int) (h0 : 0 ≤ left) (h1 : left ≤ 1048576) (hl : ts.length ≤ 9223372036854775807) (hls : ∀ t ∈ ts, t.sk.length ≤ 9223372036854775807) (w : World) (hR : ThsAt w R ts) :
    Calls Try.prog 34 #[.slice R ts.length cap, .int .i64 left] w fun e w' => (∃ n : Int, e = .returned (.int .i64 n) ∧ -1 ≤ n ∧ n ≤ left ∧ (0 ≤ n → ts.length ≤ 1048576 ∧ ∀ t ∈ ts, t.sk.length ≤ 1048576)) ∧ Below w.heap.size w w' := by
  have hl' : (ts.length : Int) ≤ 9223372036854775807 := by omega
  have HLS := hide' hls
  have HR := hide' hR
  clear hls hR hl
  by_cases h : left - ts.length < 0
  · go_enter Try.func34, Try.ntmps34
    go_wp2
    go_ret
    exact ⟨⟨-1, rfl, by omega, by omega, fun h => by omega⟩, Below.refl _ _⟩
  · have hn : (ts.length : Int) ≤ 1048576 := by omega
    obtain ⟨b, off, hA, hc⟩ := HR.out
    by_cases he : ts = []
    · subst he
      go_enter Try.func34, Try.ntmps34
      go_wp2
      go_loop [1, 5] (fun x i => x = .int .i64 left ∧ i = .int .i64 0) (fun _ _ => 0)
      case atStart => exact ⟨by simp, rfl⟩
      case round =>
        obtain ⟨rfl, rfl⟩ := hrel
        go_wp2
        go_ret
        exact ⟨⟨left, rfl, by omega, by omega⟩, Below.refl _ _⟩
    · have hA2 := hA he
      subst hA2
      have HC := hide' (fun i (hi : i < ts.length) => hc i ts[i] (List.getElem?_eq_getElem hi))
      clear hc hA he HR
      go_enter Try.func34, Try.ntmps34
      go_wp2
      go_loopw [1, 5] (fun x i wr => ∃ (k : Nat) (y : Int), k ≤ ts.length ∧ i = .int .i64 k ∧ x = .int .i64 y ∧ 0 ≤ y ∧ y ≤ left ∧ Hid (∀ t ∈ ts.take k, t.sk.length ≤ 1048576) ∧ Hid (Below w.heap.size w wr)) (fun _ i _ => ts.length - (intOf i).toNat)
      case atStart => exact ⟨0, left - ts.length, Nat.zero_le _, rfl, rfl, by omega, by omega, (fun l hl => by cases hl), Below.refl _ _⟩
      case round =>
        obtain ⟨k, y, hk, rfl, rfl, hy0, hy1, HT, hbw⟩ := hrel
        by_cases hlt : k < ts.length
        · obtain ⟨S, cp, hrg, -⟩ := HC.out k hlt
          obtain ⟨c0, c1, c2, c3, c4, c5⟩ := th_range (range_keep hbw.out hrg)
          have HM := hide' (HLS.out ts[k] (List.getElem_mem hlt))
          have HTS := hide' (List.take_succ_eq_append_getElem hlt)
          clear hrg
          generalize ts[k] = t at c0 c1 c2 c3 c4 c5 HM HTS
          go_wp2_with (go_at_call 48; refine (szth_any _ _ _ _ _ _ _ _ y hy0 (by omega) HM.out _).mono ?_; rintro e w1 ⟨⟨n, rfl, hn1, hn2, hn3⟩, hb1⟩)
          · go_ret
            exact ⟨⟨-1, rfl, by omega, by omega, fun h => by omega⟩, hbw.out.trans (hb1.mono hbw.out.size)⟩
          · go_roundw
            case rel =>
              refine ⟨k + 1, n, by omega, by go_num, rfl, by omega, by omega, ?_, hbw.out.trans (hb1.mono hbw.out.size)⟩
              intro x hx
              rw [HTS.out, List.mem_append] at hx
              rcases hx with hx | hx
              · exact HT.out x hx
              · rw [List.mem_singleton] at hx
                subst hx
                have := hn3 (by omega)
                omega
            case measure => simp [intOf]; omega
        · have hke : k = ts.length := by omega
          go_wp2
          go_ret
          refine ⟨⟨y, rfl, by omega, hy1, fun _ => ⟨by omega, fun l hl => HT.out l ?_⟩⟩, hbw.out⟩
          rw [hke, List.take_length]
          exact hl

/-- a state's data -/
structure StD where
  ts : List ThD
  cl : List (Bool × Nat)
  ow : List Int
  ft : Int
structure StFit (s : StD) (m : Nat) : Prop where
  t : s.ts.length ≤ m
  k : ∀ t ∈ s.ts, t.sk.length ≤ m
  c : s.cl.length ≤ m
  o : s.ow.length ≤ m
/-- The lists of a state lie there. -/
structure StAt (w : World) (T C O : Option Addr) (s : StD) : Prop where
  t : ThsAt w T s.ts
  c : LAt fv w C s.cl
  o : LAt iv w O s.ow
theorem StAt.keep {w w' : World} {T C O : Option Addr} {s : StD} (h : StAt w T C O s) (hb : Below w.heap.size w w') : StAt w' T C O s := ⟨h.t.keep hb, h.c.keep hb, h.o.keep hb⟩
/-- A state lies boxed at block N. -/
structure SBox (N : Nat) (T C O : Option Addr) (n1 k1 n2 k2 n3 k3 : Nat) (ft : Int) (w : World) : Prop where
  c0 : w.cell? ⟨N, 0, none⟩ = some (.slice T n1 k1)
  c1 : w.cell? ⟨N, 1, none⟩ = some (.slice C n2 k2)
  c2 : w.cell? ⟨N, 2, none⟩ = some (.slice O n3 k3)
  c3 : w.cell? ⟨N, 3, none⟩ = some (.int .i64 ft)
theorem SBox.keep {N : Nat} {T C O : Option Addr} {n1 k1 n2 k2 n3 k3 : Nat} {ft : Int} {w w' : World} (h : SBox N T C O n1 k1 n2 k2 n3 k3 ft w) (hb : Below w.heap.size w w') : SBox N T C O n1 k1 n2 k2 n3 k3 ft w' :=
  ⟨keep_cell hb h.c0, keep_cell hb h.c1, keep_cell hb h.c2, keep_cell hb h.c3⟩
theorem sbox_new (w : World) (T C O : Option Addr) (n1 k1 n2 k2 n3 k3 : Nat) (ft : Int) (t : TypeId) : SBox w.heap.size T C O n1 k1 n2 k2 n3 k3 ft (w.alloc (.cells #[.slice T n1 k1, .slice C n2 k2, .slice O n3 k3, .int .i64 ft] t)) := by
  refine ⟨?_, ?_, ?_, ?_⟩ <;> (rw [World.cell?_alloc_new]; rfl)

set_option maxRecDepth 20000 in
set_option maxHeartbeats 1000000 in
theorem szstate_any (s : StD) (T C O : Option Addr) (k1 k2 k3 : Nat) (left : Int) (h0 : 0 ≤ left) (h1 : left ≤ 1048576) (hf : StFit s 9223372036854775807) (w : World) (hS : StAt w T C O s) :
    Calls Try.prog 22 #[.agg #[.slice T s.ts.length k1, .slice C s.cl.length k2, .slice O s.ow.length k3, .int .i64 s.ft], .int .i64 left] w fun e w' => (∃ n : Int, e = .returned (.int .i64 n) ∧ -1 ≤ n ∧ n ≤ left ∧ (0 ≤ n → StFit s 1048576)) ∧ Below w.heap.size w w' := by
  have H1 := hide' (fun w h => szths_any T s.ts k1 left h0 h1 hf.t hf.k w h)
  have H2 := hide' (fun (y : Int) (hy : 0 ≤ y) (hy1 : y ≤ left) w => szfls_any C s.cl.length k2 y hy (by omega) hf.c w)
  have H3 := hide' (fun (y : Int) (hy : 0 ≤ y) (hy1 : y ≤ left) w => szints_any O s.ow.length k3 y hy (by omega) hf.o w)
  have HS := hide' hS
  have FT := hide' (fun a b c d => StFit.mk (s := s) (m := 1048576) a b c d)
  generalize s.ts.length = n1 at *
  generalize s.cl.length = n2 at *
  generalize s.ow.length = n3 at *
  generalize s.ft = ft at *
  clear hf hS h1
  go_enter Try.func22, Try.ntmps22
  go_wp2_with fail
  have hbw : Below w.heap.size w (w.alloc (.cells #[.slice T n1 k1, .slice C n2 k2, .slice O n3 k3, .int .i64 ft] 27)) := (Below.refl _ w).up _
  refine (H1.out _ (HS.out.t.keep hbw)).mono ?_
  have hbox := sbox_new w T C O n1 k1 n2 k2 n3 k3 ft 27
  generalize (w.alloc (.cells #[.slice T n1 k1, .slice C n2 k2, .slice O n3 k3, .int .i64 ft] 27)) = w0 at hbw hbox
  rintro e w1 ⟨⟨n, rfl, hn1, hn2, hn3⟩, hb1⟩
  obtain ⟨p0, p1, p2, p3⟩ := hbox.keep hb1
  have HB := hide' (hbw.trans (hb1.mono hbw.size))
  have HN := hide' hn3
  clear hn3 hbw hb1 hbox
  by_cases hn0 : n < 0
  · go_wp2_with fail
    go_ret
    exact ⟨⟨-1, rfl, by omega, by omega, fun h => by omega⟩, HB.out⟩
  · go_wp2_with fail
    refine (H2.out n (by omega) hn2 _).mono ?_
    rintro e w2 ⟨⟨m, rfl, hm1, hm2, hm3⟩, rfl⟩
    have HM := hide' hm3
    clear hm3
    by_cases hm0 : m < 0
    · go_wp2_with fail
      go_ret
      exact ⟨⟨-1, rfl, by omega, by omega, fun h => by omega⟩, HB.out⟩
    · go_wp2_with fail
      refine (H3.out m (by omega) (by omega) _).mono ?_
      rintro e w2 ⟨⟨q, rfl, hq1, hq2, hq3⟩, rfl⟩
      have HQ := hide' hq3
      clear hq3
      by_cases hq0 : q < 0
      · go_wp2_with fail
        go_ret
        exact ⟨⟨-1, rfl, by omega, by omega, fun h => by omega⟩, HB.out⟩
      · go_wp2_with fail
        go_ret
        refine ⟨⟨q, rfl, hq1, by omega, fun _ => ?_⟩, HB.out⟩
        have a1 := HN.out (by omega)
        have a2 := HM.out (by omega)
        have a3 := HQ.out (by omega)
        exact FT.out a1.1 a1.2 (by omega) (by omega)
end Go.Proofs.Ytddapifljinjeaa
