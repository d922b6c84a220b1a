/- A new state: the specification's side. -/
import Derived.Test.YtdifamjkbagfcaaDoorRx
namespace Go.Proofs.YtdifamjkbagfcaaDoor
open Go.RowKit
open Rd Fl

def newTh : ThD := ⟨0, 0, 1, -1, -1, []⟩
def newSt (a b : Nat) : StD := ⟨[newTh], List.replicate a (false, 0), List.replicate b (-1), 0⟩
def zeroSt : StD := ⟨[], [], [], 0⟩

set_option maxHeartbeats 1000000 in
theorem l3newth_any (w : World) : Calls Tryd.prog 84 #[.int .i64 0] w fun e w' => e = .returned (.agg #[.int .i64 0, .int .i64 0, .int .i64 1, .int .i64 (-1), .int .i64 (-1), .slice none 0 0]) ∧ Below w.heap.size w w' := by
  go_enter Tryd.func84, Tryd.ntmps84
  go_wp2
  refine bodyPost_ret (v := .agg #[.int .i64 0, .int .i64 0, .int .i64 1, .int .i64 (-1), .int .i64 (-1), .slice none 0 0]) (by simp [results, Tryd.results84, go_sem]) rfl ⟨rfl, ?_⟩
  repeat refine below_set ?_ _ _ _ (by omega)
  exact (Below.refl _ w).up _
set_option maxHeartbeats 1000000 in
theorem threadat_any (w : World) : Calls Tryd.prog 49 #[.int .i64 0] w fun e w' => e = .returned (.agg #[.int .i64 0, .int .i64 0, .int .i64 1, .int .i64 (-1), .int .i64 (-1), .slice none 0 0]) ∧ Below w.heap.size w w' := by
  go_enter Tryd.func49, Tryd.ntmps49
  go_wp2
  refine bodyPost_ret (v := .agg #[.int .i64 0, .int .i64 0, .int .i64 1, .int .i64 (-1), .int .i64 (-1), .slice none 0 0]) (by simp [results, Tryd.results49, go_sem]) rfl ⟨rfl, ?_⟩
  repeat refine below_set ?_ _ _ _ (by omega)
  exact (Below.refl _ w).up _

theorem flInfo : ∃ i, Tryd.prog.info? 75 = some i ∧ i.zero = some (.float .f64 0) ∧ i.size = 1 ∧ i.bytes = 8 := by
  cases hi : Tryd.prog.info? 75 with
  | none => have := flSize; rw [hi] at this; cases this
  | some i => exact ⟨i, rfl, by have := flZero; rw [hi] at this; simpa using this, by have := flSize; rw [hi] at this; simpa using this, by have := flBytes; rw [hi] at this; simpa using this⟩

/-- What the loops of l3New keep: the program's box at B, the state's at X, the thread at N1. -/
structure Nw (w : World) (B X N1 : Nat) (cl lk cd : Int) (R : Option Addr) (n cap : Nat) (vc vo : Value) (wr : World) : Prop where
  p : PBox B cl lk cd R n cap wr
  x : wr.there X 0 4
  c0 : wr.cell? ⟨X, 0, none⟩ = some (.slice (some ⟨N1, 0, none⟩) 1 1)
  c1 : wr.cell? ⟨X, 1, none⟩ = some vc
  c2 : wr.cell? ⟨X, 2, none⟩ = some vo
  c3 : wr.cell? ⟨X, 3, none⟩ = some (.int .i64 0)
  t : wr.rangeAt N1 0 [.int .i64 0, .int .i64 0, .int .i64 1, .int .i64 (-1), .int .i64 (-1), .slice none 0 0]
  h : wr.there N1 0 6
  r : wr.there (B + 1) 0 4
  b : Below w.heap.size w wr
  q0 : B = w.heap.size
  q1 : B + 1 < N1
  q2 : N1 < X
  z : X < wr.heap.size
theorem Nw.keepB {w : World} {B X N1 : Nat} {cl lk cd : Int} {R : Option Addr} {n cap : Nat} {vc vo : Value} {wr wx : World} (h : Nw w B X N1 cl lk cd R n cap vc vo wr) {Y : Nat} (hY : X < Y) (hb : Below Y wr wx) : Nw w B X N1 cl lk cd R n cap vc vo wx := by
  have q0 := h.q0; have q1 := h.q1; have q2 := h.q2
  have hth : ∀ {N o n : Nat}, N < Y → wr.there N o n → wx.there N o n := fun {N o n} hN ht j hj => ⟨by rw [hb.cell (p := ⟨N, o + j, none⟩) hN]; exact (ht j hj).1, by rw [hb.frozen (p := ⟨N, o + j, none⟩) hN]; exact (ht j hj).2⟩
  exact ⟨⟨cellB hb (by omega) h.p.c0, cellB hb (by omega) h.p.c1, cellB hb (by omega) h.p.c2, cellB hb (by omega) h.p.c3⟩, hth hY h.x, cellB hb hY h.c0, cellB hb hY h.c1, cellB hb hY h.c2, cellB hb hY h.c3, fun j v hv => cellB hb (by omega) (h.t j v hv), hth (by omega) h.h, hth (by omega) h.r, h.b.trans (hb.mono (by omega)), q0, q1, q2, Nat.lt_of_lt_of_le h.z hb.size⟩
theorem Nw.set1 {w : World} {B X N1 : Nat} {cl lk cd : Int} {R : Option Addr} {n cap : Nat} {vc vo : Value} {wr : World} (h : Nw w B X N1 cl lk cd R n cap vc vo wr) (v : Value) : Nw w B X N1 cl lk cd R n cap v vo (wr.setCell ⟨X, 1, none⟩ v) := by
  have q0 := h.q0; have q1 := h.q1; have q2 := h.q2
  exact ⟨⟨set_other h.p.c0 (by omega), set_other h.p.c1 (by omega), set_other h.p.c2 (by omega), set_other h.p.c3 (by omega)⟩, there_set h.x _ _ _, set_other h.c0 (by omega), World.cell?_setCell_same _ _ _ h.c1, set_other h.c2 (by omega), set_other h.c3 (by omega), fun j v hv => set_other (h.t j v hv) (by omega), there_set h.h _ _ _, there_set h.r _ _ _, below_set h.b _ _ _ (by omega), q0, q1, q2, by rw [set_size]; exact h.z⟩
theorem Nw.set2 {w : World} {B X N1 : Nat} {cl lk cd : Int} {R : Option Addr} {n cap : Nat} {vc vo : Value} {wr : World} (h : Nw w B X N1 cl lk cd R n cap vc vo wr) (v : Value) : Nw w B X N1 cl lk cd R n cap vc v (wr.setCell ⟨X, 2, none⟩ v) := by
  have q0 := h.q0; have q1 := h.q1; have q2 := h.q2
  exact ⟨⟨set_other h.p.c0 (by omega), set_other h.p.c1 (by omega), set_other h.p.c2 (by omega), set_other h.p.c3 (by omega)⟩, there_set h.x _ _ _, set_other h.c0 (by omega), set_other h.c1 (by omega), World.cell?_setCell_same _ _ _ h.c2, set_other h.c3 (by omega), fun j v hv => set_other (h.t j v hv) (by omega), there_set h.h _ _ _, there_set h.r _ _ _, below_set h.b _ _ _ (by omega), q0, q1, q2, by rw [set_size]; exact h.z⟩
theorem own_set {w : World} {base : Nat} {e : TypeId} {size : Nat} {v : Value} {n : Nat} {xs : List Value} (h : w.ownsRow base e size v n xs) (N o : Nat) (u : Value) (hN : N < base) : (w.setCell ⟨N, o, none⟩ u).ownsRow base e size v n xs := ownsRow_setCell_below h (a := ⟨N, o, none⟩) hN u
theorem own_belowB {w w' : World} {base : Nat} {e : TypeId} {size : Nat} {v : Value} {n : Nat} {xs : List Value} (h : w.ownsRow base e size v n xs) {Y : Nat} (hu : ∀ k, v.ownBlock = some k → k < Y) (hb : Below Y w w') : w'.ownsRow base e size v n xs := by
  refine ⟨h.1, ?_⟩
  rcases h.2 with hn | ⟨g, cap, cur, rfl, hb2, hgg, rest⟩
  · exact .inl hn
  · exact .inr ⟨g, cap, cur, rfl, hb2, (hb.block g (hu g rfl)).trans hgg, rest⟩

def zf : Value := .float .f64 0
theorem own_slice {w : World} {base : Nat} {e : TypeId} {size : Nat} {v : Value} {n : Nat} {xs : List Value} (h : w.ownsRow base e size v n xs) : ∃ A cap, v = .slice A n cap := by
  rcases h.2 with ⟨rfl, rfl⟩ | ⟨g, cap, cur, rfl, _⟩
  · exact ⟨_, _, rfl⟩
  · exact ⟨_, _, rfl⟩
theorem alloc_there (w : World) (cs : Array Value) (t : TypeId) (n : Nat) (hn : n ≤ cs.size) : (w.alloc (.cells cs t)).there w.heap.size 0 n := by
  intro j hj
  refine ⟨?_, World.frozen?_alloc_new _ _ _ _⟩
  rw [World.cell?_alloc_new, Nat.zero_add, Array.getElem?_eq_getElem (by omega)]
  rfl
theorem nw_new (w w1 : World) (cl lk cd : Int) (R : Option Addr) (n cap : Nat) (hb1 : Below ((w.alloc (.cells #[.int .i64 cl, .int .i64 lk, .int .i64 cd, .slice R n cap] 30)).alloc (.cells #[.slice none 0 0, .slice none 0 0, .slice none 0 0, .int .i64 0] 43)).heap.size ((w.alloc (.cells #[.int .i64 cl, .int .i64 lk, .int .i64 cd, .slice R n cap] 30)).alloc (.cells #[.slice none 0 0, .slice none 0 0, .slice none 0 0, .int .i64 0] 43)) w1) :
    Nw w w.heap.size (w1.heap.size + 1) w1.heap.size cl lk cd R n cap (.slice none 0 0) (.slice none 0 0) ((w1.alloc (.cells #[.int .i64 0, .int .i64 0, .int .i64 1, .int .i64 (-1), .int .i64 (-1), .slice none 0 0] 88)).alloc (.cells #[.slice (some ⟨w1.heap.size, 0, none⟩) 1 1, .slice none 0 0, .slice none 0 0, .int .i64 0] 43)) := by
  have hz := hb1.size
  have hup : Below w1.heap.size w1 ((w1.alloc (.cells #[.int .i64 0, .int .i64 0, .int .i64 1, .int .i64 (-1), .int .i64 (-1), .slice none 0 0] 88)).alloc (.cells #[.slice (some ⟨w1.heap.size, 0, none⟩) 1 1, .slice none 0 0, .slice none 0 0, .int .i64 0] 43)) := below2 w1 _ _
  have hzz : (w1.alloc (.cells #[.int .i64 0, .int .i64 0, .int .i64 1, .int .i64 (-1), .int .i64 (-1), .slice none 0 0] 88)).heap.size = w1.heap.size + 1 := by simp
  have hbox := sbox_new (w1.alloc (.cells #[.int .i64 0, .int .i64 0, .int .i64 1, .int .i64 (-1), .int .i64 (-1), .slice none 0 0] 88)) (some ⟨w1.heap.size, 0, none⟩) none none 1 1 0 0 0 0 0 43
  rw [hzz] at hbox
  have hx := alloc_there (w1.alloc (.cells #[.int .i64 0, .int .i64 0, .int .i64 1, .int .i64 (-1), .int .i64 (-1), .slice none 0 0] 88)) #[.slice (some ⟨w1.heap.size, 0, none⟩) 1 1, .slice none 0 0, .slice none 0 0, .int .i64 0] 43 4 (by simp)
  rw [hzz] at hx
  have ht := alloc_there w1 #[.int .i64 0, .int .i64 0, .int .i64 1, .int .i64 (-1), .int .i64 (-1), .slice none 0 0] 88 6 (by simp)
  have hr0 := alloc_there (w.alloc (.cells #[.int .i64 cl, .int .i64 lk, .int .i64 cd, .slice R n cap] 30)) #[.slice none 0 0, .slice none 0 0, .slice none 0 0, .int .i64 0] 43 4 (by simp)
  rw [show (w.alloc (.cells #[.int .i64 cl, .int .i64 lk, .int .i64 cd, .slice R n cap] 30)).heap.size = w.heap.size + 1 by simp] at hr0
  simp at hz
  refine ⟨(((pbox_new w cl lk cd R n cap 30).keep ((Below.refl _ _).up _)).keep hb1).keep hup, hx, hbox.c0, hbox.c1, hbox.c2, hbox.c3, ?_, there_keep ((Below.refl _ _).up _) ht, there_keep hup (there_keep hb1 hr0), ((below2 w _ _).trans (hb1.mono (by simp; omega))).trans (hup.mono (by omega)), rfl, by omega, by omega, by simp⟩
  refine range_keep ((Below.refl _ _).up _) ?_
  intro j v hv
  rw [World.cell?_alloc_new, Nat.zero_add]
  simpa using hv

set_option maxRecDepth 20000 in
set_option maxHeartbeats 4000000 in
theorem l3new_any (a b : Nat) (ha : (a : Int) ≤ 4) (hb : (b : Int) ≤ 4) (cd : Int) (R : Option Addr) (n cap : Nat) (w : World) :
    Calls Tryd.prog 48 #[.agg #[.int .i64 (a : Int), .int .i64 (b : Int), .int .i64 cd, .slice R n cap]] w fun e w' => (∃ N1 vc vo Y, e = .returned (.agg #[.slice (some ⟨N1, 0, none⟩) 1 1, vc, vo, .int .i64 0]) ∧ w.heap.size ≤ N1 ∧ N1 < w'.heap.size ∧ w'.rangeAt N1 0 [.int .i64 0, .int .i64 0, .int .i64 1, .int .i64 (-1), .int .i64 (-1), .slice none 0 0] ∧ w'.there N1 0 6 ∧ w'.ownsRow (N1 + 1) 75 1 vc a (List.replicate a zf) ∧ w'.ownsRow Y 3 1 vo b (List.replicate b (.int .i64 (-1))) ∧ (∀ k, vc.ownBlock = some k → k < Y) ∧ N1 < Y) ∧ Below w.heap.size w w' := by
  obtain ⟨i0, hi, hz0, hz1, hz2⟩ := flInfo
  obtain ⟨j0, hj, hy0, hy1, hy2⟩ := inInfo
  have hst := store_f
  go_enter Tryd.func48, Tryd.ntmps48
  go_wp2_with (go_at_call 84; refine (l3newth_any _).mono ?_; rintro e w1 ⟨rfl, hb1⟩)
  have HN := hide' (nw_new w w1 a b cd R n cap hb1)
  have ZX := hide' (show w1.heap.size + 1 + 1 = ((w1.alloc (.cells #[.int .i64 0, .int .i64 0, .int .i64 1, .int .i64 (-1), .int .i64 (-1), .slice none 0 0] 88)).alloc (.cells #[.slice (some ⟨w1.heap.size, 0, none⟩) 1 1, .slice none 0 0, .slice none 0 0, .int .i64 0] 43)).heap.size by simp)
  clear hb1
  generalize hN1 : w1.heap.size = N1 at *
  clear hN1
  go_loopw [4] (fun i wr => ∃ (k : Nat) (v : Value), k ≤ a ∧ i = .int .i64 k ∧ Hid (Nw w w.heap.size (N1 + 1) N1 a b cd R n cap v (.slice none 0 0) wr) ∧ Hid (wr.ownsRow (N1 + 1 + 1) 75 1 v k (List.replicate k zf))) (fun i _ => a - (intOf i).toNat)
  case atStart => exact ⟨0, _, Nat.zero_le _, rfl, HN.out, World.ownsRow_nil _ _ _ _⟩
  case round =>
    obtain ⟨k, v, hk, rfl, hnw, hown⟩ := hrel
    obtain ⟨⟨p0, p1, p2, p3⟩, x4, c0, c1, c2, c3, -, -, -, -, -, -, -, zz⟩ := hnw.out
    have f1 := (x4 1 (by omega)).2
    simp only [Nat.zero_add] at f1
    have hq1 : w.heap.size + 1 < N1 := hnw.out.q1
    have HZ := hide' (show N1 + 1 + 1 ≤ wr.heap.size from zz)
    by_cases hlt : k < a
    · have hki : (k : Int) < a := by omega
      clear x4 zz
      go_wp2_with (first
        | (at_builtin; refine wpList_append_own _ rfl _ _ 41 rfl (N1 + 1 + 1) 75 i0 (.float .f64 0) 1 8 Tryd.underlying41 hi hz0 hz1 hz2 rfl (by decide) _ _ _ rfl (hown.out.alloc _) ⟨wr.heap.size, 0, none⟩ 1 1 [zf] rfl rfl ?c1 ?c2 ?c3 ?c4 ?c5 ?_)
        | go_in)
      case c1 =>
        intro j u hj
        match j, hj with
        | 0, hj => simp at hj; subst hj; simp [zf, Addr.add]
      case c2 => intro u hu; simp at hu; subst hu; rfl
      case c3 => unfold maxLen; omega
      case c4 => omega
      case c5 => have := HZ.out; simp; omega
      intro v' w3 hown3 hgrow _
      obtain ⟨A3, cp3, e3⟩ := own_slice hown3
      subst e3
      have HB3 := hide' (Below.grown ((Below.refl (N1 + 1 + 1) wr).alloc HZ.out _) hgrow (by have := HZ.out; simp; omega) (own_base' hown.out))
      have N3 := hide' (hnw.out.keepB (by omega) HB3.out)
      have N4 := hide' (N3.out.set1 (.slice A3 (k + 1) cp3))
      have O4 := hide' (own_set hown3 (N1 + 1) 1 (.slice A3 (k + 1) cp3) (by omega))
      clear hown3 hgrow p0 p1 p2 p3 c0 c1 c2 c3 f1
      obtain ⟨⟨p0, p1, p2, p3⟩, x4, c0, c1, c2, c3, -, -, -, -, -, -, -, zz⟩ := N3.out
      have f1 := (x4 1 (by omega)).2
      simp only [Nat.zero_add] at f1
      clear x4
      go_wp2_with fail
      go_roundw
      case rel => exact ⟨k + 1, _, by omega, by go_num, N4.out, by rw [List.replicate_succ']; exact O4.out⟩
      case measure => simp [intOf]; omega
    · have hke : k = a := by omega
      subst hke
      have hki : (k : Int) = k := rfl
      clear x4 zz f1
      go_wp2_with fail
      have UV := hide' (fun g hg => (hown.out.lt g hg).2)
      have ZY := hide' (show N1 + 1 < wr.heap.size from hnw.out.z)
      generalize hY : wr.heap.size = Y at UV ZY HZ
      go_loopw [5] (fun i wx => ∃ (m : Nat) (u : Value), m ≤ b ∧ i = .int .i64 m ∧ Hid (Nw w w.heap.size (N1 + 1) N1 k b cd R n cap v u wx) ∧ Hid (wx.ownsRow (N1 + 1 + 1) 75 1 v k (List.replicate k zf)) ∧ Hid (wx.ownsRow Y 3 1 u m (List.replicate m (.int .i64 (-1)))) ∧ Hid (Y ≤ wx.heap.size)) (fun i _ => b - (intOf i).toNat)
      case atStart => exact ⟨0, _, Nat.zero_le _, rfl, hnw.out, hown.out, World.ownsRow_nil _ _ _ _, by rw [hY]; exact Nat.le_refl _⟩
      case round =>
        clear p0 p1 p2 p3 c0 c1 c2 c3
        obtain ⟨m, u, hm, rfl, hnx, hoc, hoo, hyz⟩ := hrel
        obtain ⟨⟨p0, p1, p2, p3⟩, x4, c0, c1, c2, c3, -, -, r4, -, -, -, -, zz⟩ := hnx.out
        have f1 := (x4 2 (by omega)).2
        simp only [Nat.zero_add] at f1
        by_cases hml : m < b
        · have hmi : (m : Int) < b := by omega
          clear x4 zz r4
          go_wp2_with (first
            | (at_builtin; refine wpList_append_own _ rfl _ _ 34 rfl Y 3 j0 (.int .i64 0) 1 8 Tryd.underlying34 hj hy0 hy1 hy2 rfl (by decide) _ _ _ rfl (hoo.out.alloc _) ⟨wr.heap.size, 0, none⟩ 1 1 [.int .i64 (-1)] rfl rfl ?c1 ?c2 ?c3 ?c4 ?c5 ?_)
            | go_in)
          case c1 =>
            intro j u hj
            match j, hj with
            | 0, hj => simp at hj; subst hj; simp [Addr.add]
          case c2 => intro u hu; simp at hu; subst hu; rfl
          case c3 => unfold maxLen; omega
          case c4 => omega
          case c5 => have := hyz.out; simp; omega
          intro v' w3 hown3 hgrow _
          obtain ⟨A3, cp3, e3⟩ := own_slice hown3
          subst e3
          have HB3 := hide' (Below.grown ((Below.refl Y wr).alloc hyz.out _) hgrow (by have := hyz.out; simp; omega) (own_base' hoo.out))
          have N3 := hide' (hnx.out.keepB ZY.out HB3.out)
          have N4 := hide' (N3.out.set2 (.slice A3 (m + 1) cp3))
          have O4 := hide' (own_set hown3 (N1 + 1) 2 (.slice A3 (m + 1) cp3) ZY.out)
          have C4 := hide' (own_set (own_belowB hoc.out UV.out HB3.out) (N1 + 1) 2 (.slice A3 (m + 1) cp3) (by omega))
          have Y4 := hide' (show ∀ u, Y ≤ (w3.setCell ⟨N1 + 1, 2, none⟩ u).heap.size from fun u => by rw [set_size]; exact Nat.le_trans hyz.out HB3.out.size)
          clear hown3 hgrow p0 p1 p2 p3 c0 c1 c2 c3 f1
          obtain ⟨⟨p0, p1, p2, p3⟩, x4, c0, c1, c2, c3, -, -, -, -, -, -, -, zz⟩ := N3.out
          have f1 := (x4 2 (by omega)).2
          simp only [Nat.zero_add] at f1
          clear x4
          go_wp2_with fail
          go_roundw
          case rel => exact ⟨m + 1, _, by omega, by go_num, N4.out, C4.out, by rw [List.replicate_succ']; exact O4.out, Y4.out _⟩
          case measure => simp [intOf]; omega
        · have hme : m = b := by omega
          subst hme
          obtain ⟨y0, y1, y2, y3, e0, e1, e2, e3, z0, z1, z2, z3⟩ := four_there r4
          simp only [Nat.zero_add] at e1 e2 e3 z1 z2 z3
          clear x4 zz f1 r4
          obtain ⟨A1, cp1, ev⟩ := own_slice hoc.out
          obtain ⟨A2, cp2, eu⟩ := own_slice hoo.out
          subst ev eu
          go_wp2_with fail
          refine bodyPost_ret (v := .agg #[.slice (some ⟨N1, 0, none⟩) 1 1, .slice A1 k cp1, .slice A2 m cp2, .int .i64 0]) (by simp [results, Tryd.results48, go_sem, e0, e1, e2, e3]) rfl ?_
          have hq := hnx.out.q1
          have hz := hnx.out.z
          have hT := hnx.out.t
          have hH := hnx.out.h
          refine ⟨⟨N1, _, _, Y, rfl, by omega, by simp only [set_size]; omega, ?_, ?_, ?_, ?_, UV.out, by have := ZY.out; omega⟩, ?_⟩
          · intro j x hx
            exact set_other (set_other (set_other (set_other (hT j x hx) (by omega)) (by omega)) (by omega)) (by omega)
          · exact there_set (there_set (there_set (there_set hH _ _ _) _ _ _) _ _ _) _ _ _
          · exact own_less (own_set (own_set (own_set (own_set hoc.out _ _ _ (by omega)) _ _ _ (by omega)) _ _ _ (by omega)) _ _ _ (by omega)) (by omega)
          · have hy := ZY.out
            exact own_set (own_set (own_set (own_set hoo.out _ _ _ (by omega)) _ _ _ (by omega)) _ _ _ (by omega)) _ _ _ (by omega)
          · iterate 4 refine below_set ?_ _ _ _ (by omega)
            exact hnx.out.b
end Go.Proofs.YtdifamjkbagfcaaDoor
