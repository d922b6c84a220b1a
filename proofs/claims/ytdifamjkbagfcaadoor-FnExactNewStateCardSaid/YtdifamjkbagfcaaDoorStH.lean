/- Good states: the specification's side. -/
import Derived.Test.YtdifamjkbagfcaaDoorStG
namespace Go.Proofs.YtdifamjkbagfcaaDoor
open Go.RowKit
open Rd Fl

theorem good_facts {cl lk cd : Int} {rs : List (List OpD)} (h : goodS cl lk cd rs = true) : ((0 ≤ cl ∧ cl ≤ 4) ∧ (0 ≤ lk ∧ lk ≤ 4) ∧ (0 ≤ cd ∧ cd ≤ 2) ∧ (1 ≤ (rs.length : Int) ∧ (rs.length : Int) ≤ 4)) ∧ ∀ l ∈ rs, l.length ≤ 24 := by
  unfold goodS at h
  rw [Bool.and_eq_true] at h
  refine ⟨head_all h.1, fun l hl => ?_⟩
  have h2 := List.all_eq_true.1 h.2 l hl
  unfold routS at h2
  rw [Bool.and_eq_true, decide_eq_true_eq] at h2
  exact h2.2
theorem routs_at {w : World} {R : Option Addr} {rs : List (List OpD)} (hR : RoutsAt w R rs) (hne : rs ≠ []) : ∃ b off, R = some ⟨b, off, none⟩ ∧ ∀ k (h : k < rs.length), ∃ A cap, w.cell? ⟨b, off + k, none⟩ = some (.slice A rs[k].length cap) ∧ OpsAt w A rs[k] := by
  obtain ⟨b, off, h1, h2⟩ := hR
  exact ⟨b, off, h1 hne, fun k h => h2 k rs[k] (List.getElem?_eq_getElem h)⟩

theorem l3thread_any (cl lk cd : Int) (R : Option Addr) (rs : List (List OpD)) (cap : Nat) (hg : goodS cl lk cd rs = true) (t : ThD) (S : Option Addr) (kp : Nat) (w : World) (hR : RoutsAt w R rs) :
    Calls Tryd.prog 119 #[.agg #[.int .i64 cl, .int .i64 lk, .int .i64 cd, .slice R rs.length cap], .agg #[.int .i64 t.rt, .int .i64 t.pc, .int .i64 t.st, .int .i64 t.cd, .int .i64 t.lk, .slice S t.sk.length kp]] w fun e w' => e = .returned (.bool (thB lk cd rs t)) ∧ Below w.heap.size w w' := by
  obtain ⟨⟨-, g2, g3, g4⟩, -⟩ := good_facts hg
  obtain ⟨r0, r1, r2, r3, r4, sk⟩ := t
  simp only
  cases hA : decide (0 ≤ r0 ∧ r0 ≤ (rs.length : Int) - 1)
  · have e : thB lk cd rs ⟨r0, r1, r2, r3, r4, sk⟩ = false := by unfold thB; simp only [hA]; rfl
    rw [e]
    exact l3thread_rt cl lk cd R rs.length cap g4.2 r0 r1 r2 r3 r4 S sk.length kp (.inl hA) w
  · cases hB : decide (1 ≤ r2 ∧ r2 ≤ 4)
    · have e : thB lk cd rs ⟨r0, r1, r2, r3, r4, sk⟩ = false := by unfold thB; simp only [hA, hB]; rfl
      rw [e]
      exact l3thread_rt cl lk cd R rs.length cap g4.2 r0 r1 r2 r3 r4 S sk.length kp (.inr (.inl ⟨hA, hB⟩)) w
    · by_cases hC : sk.length ≤ 8
      · rw [decide_eq_true_eq] at hA hB
        obtain ⟨k, rfl⟩ : ∃ k : Nat, r0 = k := ⟨r0.toNat, by omega⟩
        have hk : k < rs.length := by omega
        obtain ⟨b, off, rfl, h2⟩ := routs_at hR (by intro h; rw [h] at hk; simp at hk)
        obtain ⟨A, cp, h3, -⟩ := h2 k hk
        have e : thB lk cd rs ⟨k, r1, r2, r3, r4, sk⟩ = (decide (0 ≤ r1 ∧ r1 ≤ (rs[k].length : Int)) && restB lk cd r2 r3 r4) := by
          unfold thB
          simp only [decide_eq_true hA, decide_eq_true hB, decide_eq_true hC, Int.toNat_natCast, List.getD_eq_getElem?_getD, List.getElem?_eq_getElem hk, Option.getD_some, Bool.true_and]
        rw [e]
        exact l3thread_in cl lk cd g2 g3 b off rs.length cap g4.2 k (by omega) r1 r2 r3 r4 S sk.length kp (by omega) hB A rs[k].length cp w h3
      · have e : thB lk cd rs ⟨r0, r1, r2, r3, r4, sk⟩ = false := by unfold thB; simp only [hA, hB, decide_eq_false hC]; rfl
        rw [e]
        exact l3thread_rt cl lk cd R rs.length cap g4.2 r0 r1 r2 r3 r4 S sk.length kp (.inr (.inr ⟨hA, hB, by omega⟩)) w

def inB (lo hi x : Int) : Bool := decide (lo ≤ x ∧ x ≤ hi)

set_option maxRecDepth 20000 in
set_option maxHeartbeats 1000000 in
theorem l1all_any (A : Option Addr) (l : List Int) (cap : Nat) (lo hi : Int) (hl : l.length ≤ 1048576) (w : World) (hA : LAt iv w A l) :
    Calls Tryd.prog 120 #[.slice A l.length cap, .int .i64 lo, .int .i64 hi] w fun e w' => e = .returned (.bool (l.all (inB lo hi))) ∧ w' = w := by
  have hl' : (l.length : Int) ≤ 1048576 := by omega
  obtain ⟨b, off, hA1, hc⟩ := hA
  by_cases he : l = []
  · subst he
    clear hc hA1
    go_enter Tryd.func120, Tryd.ntmps120
    go_wp2
    go_loop [11] (fun i => i = .int .i64 0) (fun _ => 0)
    case atStart => rfl
    case round =>
      subst hrel
      go_wp2
      go_ret
      exact ⟨rfl, rfl⟩
  · have hA2 := hA1 he
    subst hA2
    have HC := hide' (fun i (hi : i < l.length) => hc i l[i] (List.getElem?_eq_getElem hi))
    clear hc hA1 he
    go_enter Tryd.func120, Tryd.ntmps120
    go_wp2
    go_loop [11] (fun i => ∃ k : Nat, k ≤ l.length ∧ i = .int .i64 k ∧ Hid (∀ x ∈ l.take k, inB lo hi x = true)) (fun i => l.length - (intOf i).toNat)
    case atStart => exact ⟨0, Nat.zero_le _, rfl, fun x hx => by cases hx⟩
    case round =>
      obtain ⟨k, hk, rfl, hdone⟩ := hrel
      by_cases hlt : k < l.length
      · have c0 : _ = some (Value.int .i64 l[k]) := HC.out k hlt
        have HS := hide' (fun h => all_take_succ (p := inB lo hi) hlt hdone.out h)
        have HF := hide' (fun h => all_false_at (p := inB lo hi) hlt h)
        generalize l[k] = o at c0 HS HF
        cases hd : decide (lo ≤ o ∧ o ≤ hi)
        · have HN := hide' (HF.out (show inB lo hi o = false from hd))
          go_wp2_with (go_at_call 68; refine (l1in_any _ _ _ _).mono ?_; rintro e w' ⟨rfl, rfl⟩)
          go_ret
          exact ⟨by rw [HN.out]; rfl, rfl⟩
        · have HN := hide' (HS.out (show inB lo hi o = true from hd))
          go_wp2_with (go_at_call 68; refine (l1in_any _ _ _ _).mono ?_; rintro e w' ⟨rfl, rfl⟩)
          go_round
          case rel => exact ⟨k + 1, by omega, by go_num, HN.out⟩
          case measure => simp [intOf]; omega
      · have hke : k = l.length := by omega
        subst hke
        have HN := hide' (all_take_all hdone.out)
        go_wp2
        go_ret
        exact ⟨by rw [HN.out]; rfl, rfl⟩

/-- what is asked of a state but for its threads -/
def hdB (cl lk : Int) (n1 n2 n3 : Nat) (ft : Int) : Bool := decide (1 ≤ (n1 : Int) ∧ (n1 : Int) ≤ 5) && decide ((n2 : Int) = cl) && decide ((n3 : Int) = lk) && decide (0 ≤ ft ∧ ft ≤ 4)
def stB (cl lk cd : Int) (rs : List (List OpD)) (s : StD) : Bool := hdB cl lk s.ts.length s.cl.length s.ow.length s.ft && (s.ts.all (thB lk cd rs) && s.ow.all (inB (-1) ((s.ts.length : Int) - 1)))
theorem hd_cases {cl lk : Int} {n1 n2 n3 : Nat} {ft : Int} (h : hdB cl lk n1 n2 n3 ft = false) : decide (1 ≤ (n1 : Int) ∧ (n1 : Int) ≤ 5) = false ∨ (decide (1 ≤ (n1 : Int) ∧ (n1 : Int) ≤ 5) = true ∧ (n2 : Int) ≠ cl) ∨ (decide (1 ≤ (n1 : Int) ∧ (n1 : Int) ≤ 5) = true ∧ (n2 : Int) = cl ∧ (n3 : Int) ≠ lk) ∨ (decide (1 ≤ (n1 : Int) ∧ (n1 : Int) ≤ 5) = true ∧ (n2 : Int) = cl ∧ (n3 : Int) = lk ∧ decide (0 ≤ ft ∧ ft ≤ 4) = false) := by
  unfold hdB at h
  cases h1 : decide (1 ≤ (n1 : Int) ∧ (n1 : Int) ≤ 5)
  · exact .inl rfl
  · by_cases h2 : (n2 : Int) = cl
    · by_cases h3 : (n3 : Int) = lk
      · cases h4 : decide (0 ≤ ft ∧ ft ≤ 4)
        · exact .inr (.inr (.inr ⟨rfl, h2, h3, rfl⟩))
        · rw [h1, decide_eq_true h2, decide_eq_true h3, h4] at h; cases h
      · exact .inr (.inr (.inl ⟨rfl, h2, h3⟩))
    · exact .inr (.inl ⟨rfl, h2⟩)
theorem hd_all {cl lk : Int} {n1 n2 n3 : Nat} {ft : Int} (h : hdB cl lk n1 n2 n3 ft = true) : (1 ≤ (n1 : Int) ∧ (n1 : Int) ≤ 5) ∧ (n2 : Int) = cl ∧ (n3 : Int) = lk ∧ (0 ≤ ft ∧ ft ≤ 4) := by
  unfold hdB at h
  simp only [Bool.and_eq_true, decide_eq_true_eq] at h
  exact ⟨h.1.1.1, h.1.1.2, h.1.2, h.2⟩

set_option maxRecDepth 20000 in
set_option maxHeartbeats 2000000 in
theorem l3good_head (cl lk cd : Int) (R : Option Addr) (n cap : Nat) (T C O : Option Addr) (n1 k1 n2 k2 n3 k3 : Nat) (ft : Int) (hh : hdB cl lk n1 n2 n3 ft = false) (w : World) :
    Calls Tryd.prog 88 #[.agg #[.int .i64 cl, .int .i64 lk, .int .i64 cd, .slice R n cap], .agg #[.slice T n1 k1, .slice C n2 k2, .slice O n3 k3, .int .i64 ft]] w fun e w' => e = .returned (.bool false) ∧ Below w.heap.size w w' := by
  rcases hd_cases hh with h1 | ⟨h1, h2⟩ | ⟨h1, h2, h3⟩ | ⟨h1, h2, h3, h4⟩
  all_goals
    clear hh
    go_enter Tryd.func88, Tryd.ntmps88
    go_wp2_with (go_at_call 68; refine (l1in_any _ _ _ _).mono ?_; rintro e w' ⟨rfl, rfl⟩)
    go_ret
    exact ⟨rfl, ((Below.refl _ w).up _).up _⟩

set_option maxRecDepth 20000 in
set_option maxHeartbeats 4000000 in
theorem l3good_loop (cl lk cd : Int) (R : Option Addr) (rs : List (List OpD)) (cap : Nat) (hg : goodS cl lk cd rs = true) (T C O : Option Addr) (s : StD) (k1 k2 k3 : Nat) (ho : s.ow.length ≤ 1048576) (hh : hdB cl lk s.ts.length s.cl.length s.ow.length s.ft = true) (w : World) (hR : RoutsAt w R rs) (hS : StAt w T C O s) :
    Calls Tryd.prog 88 #[.agg #[.int .i64 cl, .int .i64 lk, .int .i64 cd, .slice R rs.length cap], .agg #[.slice T s.ts.length k1, .slice C s.cl.length k2, .slice O s.ow.length k3, .int .i64 s.ft]] w fun e w' => e = .returned (.bool (s.ts.all (thB lk cd rs) && s.ow.all (inB (-1) ((s.ts.length : Int) - 1)))) ∧ Below w.heap.size w w' := by
  obtain ⟨ts, clls, ow, ft⟩ := s
  obtain ⟨g1, g2, g3, g4⟩ := hd_all hh
  simp only at *
  have e1 : decide (1 ≤ (ts.length : Int) ∧ (ts.length : Int) ≤ 5) = true := decide_eq_true g1
  have e4 : decide (0 ≤ ft ∧ ft ≤ 4) = true := decide_eq_true g4
  have hn1 : (1 : Int) ≤ ts.length := g1.1
  have hl' : (ts.length : Int) ≤ 5 := g1.2
  have HLT := hide' (fun t S kp w hR => l3thread_any cl lk cd R rs cap hg t S kp w hR)
  have HRR := hide' hR
  have HAL := hide' (fun w h => l1all_any O ow k3 (-1) ((ts.length : Int) - 1) ho w h)
  have HOO := hide' hS.o
  obtain ⟨b, off, hA1, hc⟩ := hS.t
  have hA2 := hA1 (by intro h; simp only at h; rw [h] at g1; simp at g1)
  subst hA2
  have HC := hide' (fun i (hi : i < ts.length) => hc i ts[i] (List.getElem?_eq_getElem hi))
  simp only at HOO HC
  generalize clls.length = n2 at *
  generalize rs.length = nr at HLT ⊢
  have hAB : ∀ b : Bool, ts.all (thB lk cd rs) = true → (ts.all (thB lk cd rs) && b) = b := fun b h => by rw [h]; rfl
  have HAB := hide' hAB
  have hAF : ∀ b : Bool, ts.all (thB lk cd rs) = false → (ts.all (thB lk cd rs) && b) = false := fun b h => by rw [h]; rfl
  have HAF := hide' hAF
  clear hc hA1 hh g1 g4 hg hS hR ho hAB hAF
  go_enter Tryd.func88, Tryd.ntmps88
  go_wp2_with (go_at_call 68; refine (l1in_any _ _ _ _).mono ?_; rintro e w' ⟨rfl, rfl⟩)
  clear e1 e4 g2 g3
  have hq := sbox_new (w.alloc (.cells #[.int .i64 cl, .int .i64 lk, .int .i64 cd, .slice R nr cap] 30)) (some ⟨b, off, none⟩) C O ts.length k1 n2 k2 ow.length k3 ft 43
  rw [show (w.alloc (.cells #[.int .i64 cl, .int .i64 lk, .int .i64 cd, .slice R nr cap] 30)).heap.size = w.heap.size + 1 by simp] at hq
  have HQ := hide' hq
  clear hq
  go_loopw [37] (fun i wr => ∃ k : Nat, k ≤ ts.length ∧ i = .int .i64 k ∧ Hid (∀ t ∈ ts.take k, thB lk cd rs t = true) ∧ Hid (PBox w.heap.size cl lk cd R nr cap wr) ∧ Hid (SBox (w.heap.size + 1) (some ⟨b, off, none⟩) C O ts.length k1 n2 k2 ow.length k3 ft wr) ∧ Hid (Below w.heap.size w wr)) (fun i _ => ts.length - (intOf i).toNat)
  case atStart => exact ⟨0, Nat.zero_le _, rfl, (fun l hl => by cases hl), (pbox_new w cl lk cd R nr cap 30).keep ((Below.refl _ _).up _), HQ.out, ((Below.refl _ w).up _).up _⟩
  case round =>
    obtain ⟨k, hk, rfl, hdone, hbox, hsb, hbw⟩ := hrel
    by_cases hlt : k < ts.length
    · obtain ⟨S, cp, x1, -⟩ := HC.out k hlt
      obtain ⟨c0, c1, c2, c3, c4, c5⟩ := th_range (range_keep hbw.out x1)
      have HDS := hide' (fun h => all_take_succ (p := thB lk cd rs) hlt hdone.out h)
      have HDF := hide' (fun h => all_false_at (p := thB lk cd rs) hlt h)
      clear x1
      generalize ts[k] = t at c0 c1 c2 c3 c4 c5 HDS HDF
      obtain ⟨p0, p1, p2, p3⟩ := hbox.out
      have hzx : w.heap.size < wr.heap.size := World.block_lt_of_cell? wr _ p0
      cases hok : thB lk cd rs t
      · have HNO := hide' (HAF.out (ow.all (inB (-1) ((ts.length : Int) - 1))) (HDF.out hok))
        have HL := hide' (fun w hR => HLT.out t S cp w hR)
        rw [hok] at HL
        clear hok HDS HDF HLT HAF
        go_wp2_with (go_at_call 119; refine (HL.out _ (HRR.out.keep (hbw.out.up _))).mono ?_; rintro e w1 ⟨rfl, hb1⟩)
        go_ret
        exact ⟨by rw [HNO.out]; rfl, (hbw.out.up _).trans (hb1.mono (by have := hbw.out.size; simp; omega))⟩
      · have HNO := hide' (HDS.out hok)
        have HL := hide' (fun w hR => HLT.out t S cp w hR)
        rw [hok] at HL
        clear hok HDS HDF HLT HAF
        go_wp2_with (go_at_call 119; refine (HL.out _ (HRR.out.keep (hbw.out.up _))).mono ?_; rintro e w1 ⟨rfl, hb1⟩)
        go_roundw
        case rel => exact ⟨k + 1, by omega, by go_num, HNO.out, hbox.out.keep (((Below.refl _ _).up _).trans (hb1.mono (by simp))), hsb.out.keep (((Below.refl _ _).up _).trans (hb1.mono (by simp))), (hbw.out.up _).trans (hb1.mono (by have := hbw.out.size; simp; omega))⟩
        case measure => simp [intOf]; omega
    · have hke : k = ts.length := by omega
      subst hke
      have HNO := hide' (HAB.out (ow.all (inB (-1) ((ts.length : Int) - 1))) (all_take_all hdone.out))
      obtain ⟨q0, q1, q2, q3⟩ := hsb.out
      obtain ⟨G, hG⟩ : ∃ G : Bool, G = ow.all (inB (-1) ((ts.length : Int) - 1)) := ⟨_, rfl⟩
      rw [← hG] at HAL HNO
      have HG := hide' hG
      clear hG
      go_wp2_with (go_at_call 120; refine (HAL.out _ (HOO.out.keep hbw.out)).mono ?_; rintro e w1 ⟨rfl, rfl⟩)
      go_ret
      exact ⟨by rw [← HG.out, HNO.out]; rfl, hbw.out⟩

theorem l3good_any (cl lk cd : Int) (R : Option Addr) (rs : List (List OpD)) (cap : Nat) (hg : goodS cl lk cd rs = true) (T C O : Option Addr) (s : StD) (k1 k2 k3 : Nat) (ho : s.ow.length ≤ 1048576) (w : World) (hR : RoutsAt w R rs) (hS : StAt w T C O s) :
    Calls Tryd.prog 88 #[.agg #[.int .i64 cl, .int .i64 lk, .int .i64 cd, .slice R rs.length cap], .agg #[.slice T s.ts.length k1, .slice C s.cl.length k2, .slice O s.ow.length k3, .int .i64 s.ft]] w fun e w' => e = .returned (.bool (stB cl lk cd rs s)) ∧ Below w.heap.size w w' := by
  cases hh : hdB cl lk s.ts.length s.cl.length s.ow.length s.ft
  · have e : stB cl lk cd rs s = false := by unfold stB; rw [hh]; rfl
    rw [e]
    exact l3good_head cl lk cd R rs.length cap T C O _ k1 _ k2 _ k3 s.ft hh w
  · have e : stB cl lk cd rs s = (s.ts.all (thB lk cd rs) && s.ow.all (inB (-1) ((s.ts.length : Int) - 1))) := by unfold stB; rw [hh]; rfl
    rw [e]
    exact l3good_loop cl lk cd R rs cap hg T C O s k1 k2 k3 ho hh w hR hS

/-- what is asked of a program and a state -/
def goodSt (cl lk cd : Int) (rs : List (List OpD)) (s : StD) : Bool := goodS cl lk cd rs && stB cl lk cd rs s

set_option maxRecDepth 20000 in
set_option maxHeartbeats 1000000 in
theorem sgoodst_any (cl lk cd : Int) (R : Option Addr) (rs : List (List OpD)) (cap : Nat) (hl : rs.length ≤ 1048576) (hls : ∀ l ∈ rs, l.length ≤ 1048576) (hr : ∀ l ∈ rs, ∀ o ∈ l, o.r < 9223372036854775808) (T C O : Option Addr) (s : StD) (k1 k2 k3 : Nat) (ho : s.ow.length ≤ 1048576) (w : World) (hR : RoutsAt w R rs) (hS : StAt w T C O s) :
    Calls Tryd.prog 59 #[.agg #[.int .i64 cl, .int .i64 lk, .int .i64 cd, .slice R rs.length cap], .agg #[.slice T s.ts.length k1, .slice C s.cl.length k2, .slice O s.ow.length k3, .int .i64 s.ft]] w fun e w' => e = .returned (.bool (goodSt cl lk cd rs s)) ∧ Below w.heap.size w w' := by
  have HG := hide' (fun w hR => (good_both cl lk cd rs hl hls hr).1 R cap w hR)
  have HR := hide' hR
  have HS := hide' hS
  have HST := hide' (fun hg w h1 h2 => l3good_any cl lk cd R rs cap hg T C O s k1 k2 k3 ho w h1 h2)
  clear hl hls hr hR hS ho
  have hbw : Below w.heap.size w ((w.alloc (.cells #[.int .i64 cl, .int .i64 lk, .int .i64 cd, .slice R rs.length cap] 30)).alloc (.cells #[.slice T s.ts.length k1, .slice C s.cl.length k2, .slice O s.ow.length k3, .int .i64 s.ft] 43)) := ((Below.refl _ w).up _).up _
  have HP := hide' ((pbox_new w cl lk cd R rs.length cap 30).keep ((Below.refl _ _).up (.cells #[.slice T s.ts.length k1, .slice C s.cl.length k2, .slice O s.ow.length k3, .int .i64 s.ft] 43)))
  have hq := sbox_new (w.alloc (.cells #[.int .i64 cl, .int .i64 lk, .int .i64 cd, .slice R rs.length cap] 30)) T C O s.ts.length k1 s.cl.length k2 s.ow.length k3 s.ft 43
  rw [show (w.alloc (.cells #[.int .i64 cl, .int .i64 lk, .int .i64 cd, .slice R rs.length cap] 30)).heap.size = w.heap.size + 1 by simp] at hq
  have HQ := hide' hq
  have HB := hide' hbw
  clear hq hbw
  unfold goodSt
  generalize goodS cl lk cd rs = g at HG HST ⊢
  generalize stB cl lk cd rs s = q at HST ⊢
  generalize s.ts.length = n1 at *
  generalize s.cl.length = n2 at *
  generalize s.ow.length = n3 at *
  generalize s.ft = ft at *
  cases g
  · go_enter Tryd.func59, Tryd.ntmps59
    go_wp2_with (go_at_call 34; refine (HG.out _ (HR.out.keep HB.out)).mono ?_; rintro e w1 ⟨rfl, hb1⟩)
    go_ret
    exact ⟨rfl, HB.out.trans (hb1.mono HB.out.size)⟩
  · have HS2 := hide' (HST.out rfl)
    clear HST
    go_enter Tryd.func59, Tryd.ntmps59
    go_wp2_with (first | (go_at_call 34; refine (HG.out _ (HR.out.keep HB.out)).mono ?_; rintro e w1 ⟨rfl, hb1⟩; obtain ⟨p0, p1, p2, p3⟩ := HP.out.keep hb1; obtain ⟨q0, q1, q2, q3⟩ := HQ.out.keep hb1; have B1 := hide' (HB.out.trans (hb1.mono HB.out.size))) | (go_at_call 88; refine (HS2.out _ (HR.out.keep B1.out) (HS.out.keep B1.out)).mono ?_; rintro e w2 ⟨rfl, hb2⟩))
    go_ret
    exact ⟨by simp, B1.out.trans (hb2.mono B1.out.size)⟩
end Go.Proofs.YtdifamjkbagfcaaDoor
