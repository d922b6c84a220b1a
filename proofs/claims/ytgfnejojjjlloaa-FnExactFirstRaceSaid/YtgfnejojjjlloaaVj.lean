/- FirstRace: both sides. -/
import Derived.Test.YtgfnejojjjlloaaVg
namespace Go.Proofs.Ytgfnejojjjlloaa
open Go.RowKit
open Rd Fl

def rcV (x : RcD) : Value := .agg #[.int .i64 x.cl, .int .i64 x.fs, .int .i64 x.sc]
/-- the first one of a list of races, and whether there is one -/
def firstR (rs : List RcD) : RcD × Bool := match rs with
  | [] => (⟨0, 0, 0⟩, false)
  | x :: _ => (x, true)
theorem firstR_yes {rs : List RcD} (h : 0 < rs.length) : firstR rs = (rs[0], true) := by
  cases rs with
  | nil => simp at h
  | cons x t => rfl
/-- an answer's box, made ahead of all else -/
structure RBx (w wr : World) : Prop where
  b : Below w.heap.size w wr
  c : wr.heap[w.heap.size]? = some (.cells #[.int .i64 0, .int .i64 0, .int .i64 0] 35 (0, 0))
theorem rbx_new (w : World) : RBx w (w.alloc (.cells #[.int .i64 0, .int .i64 0, .int .i64 0] 35)) := ⟨(Below.refl _ w).up _, (MapKept.heap_alloc w _).1⟩
theorem RBx.keep {w wr wy : World} (h : RBx w wr) (hb : Below wr.heap.size wr wy) : RBx w wy := ⟨h.b.trans (hb.mono h.b.size), (hb.block w.heap.size (Array.getElem?_eq_some_iff.1 h.c).1).trans h.c⟩
theorem RBx.cells {w wr : World} (h : RBx w wr) : (wr.cell? ⟨w.heap.size, 0, none⟩ = some (.int .i64 0) ∧ wr.cell? ⟨w.heap.size, 1, none⟩ = some (.int .i64 0) ∧ wr.cell? ⟨w.heap.size, 2, none⟩ = some (.int .i64 0)) ∧ wr.frozen? ⟨w.heap.size, 0, none⟩ = false ∧ wr.frozen? ⟨w.heap.size, 1, none⟩ = false ∧ wr.frozen? ⟨w.heap.size, 2, none⟩ = false := by
  have h1 := h.c
  refine ⟨⟨?_, ?_, ?_⟩, ?_, ?_, ?_⟩ <;> simp [World.cell?, World.frozen?, h1]
theorem three_set {w wr : World} (h : RBx w wr) (a b c : Value) : Below w.heap.size w (((wr.setCell ⟨w.heap.size, 0, none⟩ a).setCell ⟨w.heap.size, 1, none⟩ b).setCell ⟨w.heap.size, 2, none⟩ c) :=
  below_set (below_set (below_set h.b _ _ _ (Nat.le_refl _)) _ _ _ (Nat.le_refl _)) _ _ _ (Nat.le_refl _)

/-- a race's box -/
def RcBox (w : World) (N : Nat) (a b c : Int) : Prop := w.cell? ⟨N, 0, none⟩ = some (.int .i64 a) ∧ w.cell? ⟨N, 1, none⟩ = some (.int .i64 b) ∧ w.cell? ⟨N, 2, none⟩ = some (.int .i64 c)
theorem RcBox.keep {w w' : World} {N : Nat} {a b c : Int} (h : RcBox w N a b c) (hb : Below w.heap.size w w') : RcBox w' N a b c := ⟨keep_cell hb h.1, keep_cell hb h.2.1, keep_cell hb h.2.2⟩
theorem rcall_new (w : World) (a b c : Int) : RcBox (w.alloc (.cells #[.int .i64 a, .int .i64 b, .int .i64 c] 35)) w.heap.size a b c := by
  refine ⟨?_, ?_, ?_⟩ <;> (rw [World.cell?_alloc_new]; rfl)

set_option maxRecDepth 20000 in
set_option maxHeartbeats 4000000 in
theorem ifirst_any (A : Option Addr) (l : List EvD) (cap : Nat) (hcap : l.length ≤ cap) (hl : l.length ≤ 1048576) (w : World) (hA : EvsAt w A l) :
    Calls Try.prog 19 #[.slice A l.length cap] w fun e w' => e = .returned (.tuple #[rcV (firstR (racesN l)).1, .bool (firstR (racesN l)).2]) ∧ Below w.heap.size w w' := by
  have HC := hide' (fun w hA => iraces_any A l cap hcap hl w hA)
  have HA := hide' hA
  have hlen := racesN_len l
  generalize racesN l = rs at *
  have hlen2 : (rs.length : Int) ≤ 40200 := by omega
  clear hA
  have X0 := hide' (rbx_new w)
  have A0 := hide' (HA.out.keep ((Below.refl _ w).up (.cells #[.int .i64 0, .int .i64 0, .int .i64 0] 35)))
  by_cases hne : rs = []
  · subst hne
    unfold firstR rcV
    simp only
    go_enter Try.func19, Try.ntmps19
    go_wp2_with (go_at_call 12; refine (HC.out _ A0.out).mono ?_; rintro e w1 ⟨⟨v, rfl, hr⟩, hb1⟩; obtain ⟨A1, M1, cap1, rfl, -, -, -, -⟩ := resc_open hr; have X1 := hide' (X0.out.keep hb1); obtain ⟨⟨b0, b1, b2⟩, f0, f1, f2⟩ := X1.out.cells)
    exact bodyPost_ret (v := .tuple #[.agg #[.int .i64 0, .int .i64 0, .int .i64 0], .bool false]) (by simp [results, Try.results19, go_sem, b0, b1, b2]) rfl ⟨rfl, three_set X1.out _ _ _⟩
  · have hpos : 0 < rs.length := List.length_pos_iff.2 hne
    have hp2 : (0 : Int) < rs.length := by omega
    have hz : ((rs.length : Int) == 0) = false := by rw [beq_eq_false_iff_ne]; omega
    rw [firstR_yes hpos]
    have HX := hide' (List.getElem?_eq_getElem hpos)
    generalize rs[0] = x at HX
    obtain ⟨x0, x1, x2⟩ := x
    unfold rcV
    simp only
    go_enter Try.func19, Try.ntmps19
    go_wp2_with (go_at_call 12; refine (HC.out _ A0.out).mono ?_; rintro e w1 ⟨⟨v, rfl, hr⟩, hb1⟩; obtain ⟨A1, M1, cap1, rfl, h1, -, -, hat⟩ := resc_open hr; have h1' := (h1 (by omega)).1; subst h1'; obtain ⟨b', off', hAA, hcc⟩ := hat; have hA2 := hAA hne; cases hA2; obtain ⟨d0, d1, d2⟩ := rc_range (hcc 0 ⟨x0, x1, x2⟩ HX.out); simp only [Nat.zero_mul, Nat.add_zero] at d0 d1 d2; have X1 := hide' (X0.out.keep hb1); obtain ⟨⟨b0, b1, b2⟩, f0, f1, f2⟩ := X1.out.cells)
    exact bodyPost_ret (v := .tuple #[.agg #[.int .i64 x0, .int .i64 x1, .int .i64 x2], .bool true]) (by simp [results, Try.results19, go_sem, b0, b1, b2]) rfl ⟨rfl, three_set X1.out _ _ _⟩

set_option maxRecDepth 20000 in
set_option maxHeartbeats 4000000 in
theorem sfirst_any (A : Option Addr) (l : List EvD) (cap : Nat) (hcap : l.length ≤ cap) (hl : l.length ≤ 1048576) (w : World) (hA : EvsAt w A l) :
    Calls Try.prog 18 #[.slice A l.length cap] w fun e w' => e = .returned (.tuple #[rcV (firstR (racesN l)).1, .bool (firstR (racesN l)).2]) ∧ Below w.heap.size w w' := by
  have HG := hide' (fun w hA => l6trace_any A l cap hl w hA)
  have HA := hide' hA
  have X0 := hide' (rbx_new w)
  have A0 := hide' (HA.out.keep ((Below.refl _ w).up (.cells #[.int .i64 0, .int .i64 0, .int .i64 0] 35)))
  have hlen := racesN_len l
  cases hg : goodTr l
  · rw [racesN_no hg]
    rw [hg] at HG
    clear hg hA
    unfold firstR rcV
    simp only
    go_enter Try.func18, Try.ntmps18
    go_wp2_with (go_at_call 35; refine (HG.out _ A0.out).mono ?_; rintro e w1 ⟨rfl, hb1⟩; have X1 := hide' (X0.out.keep hb1); obtain ⟨⟨b0, b1, b2⟩, f0, f1, f2⟩ := X1.out.cells)
    exact bodyPost_ret (v := .tuple #[.agg #[.int .i64 0, .int .i64 0, .int .i64 0], .bool false]) (by simp [results, Try.results18, go_sem, b0, b1, b2]) rfl ⟨rfl, three_set X1.out _ _ _⟩
  · have HR := hide' (fun w hA => l7races_any A l cap hcap hg w hA)
    rw [racesN_yes hg] at hlen ⊢
    rw [hg] at HG
    generalize rcAll l l.length = rs at *
    have hlen2 : (rs.length : Int) ≤ 40200 := by omega
    clear hg hA
    by_cases hne : rs = []
    · subst hne
      unfold firstR rcV
      simp only
      go_enter Try.func18, Try.ntmps18
      go_wp2_with (first
        | (go_at_call 35; refine (HG.out _ A0.out).mono ?_; rintro e w1 ⟨rfl, hb1⟩; have A1 := hide' (A0.out.keep hb1); have X1 := hide' (X0.out.keep hb1))
        | (go_at_call 36; refine (HR.out _ A1.out).mono ?_; rintro e w2 ⟨⟨v, rfl, hr⟩, hb2⟩; obtain ⟨A2, M2, cap2, rfl, -, -, -, -⟩ := resc_open hr; have X2 := hide' (X1.out.keep hb2); obtain ⟨⟨b0, b1, b2⟩, f0, f1, f2⟩ := X2.out.cells))
      exact bodyPost_ret (v := .tuple #[.agg #[.int .i64 0, .int .i64 0, .int .i64 0], .bool false]) (by simp [results, Try.results18, go_sem, b0, b1, b2]) rfl ⟨rfl, three_set X2.out _ _ _⟩
    · have hpos : 0 < rs.length := List.length_pos_iff.2 hne
      have hp2 : (0 : Int) < rs.length := by omega
      have hz : ((rs.length : Int) == 0) = false := by rw [beq_eq_false_iff_ne]; omega
      rw [firstR_yes hpos]
      have HX := hide' (List.getElem?_eq_getElem hpos)
      generalize rs[0] = x at HX
      obtain ⟨x0, x1, x2⟩ := x
      unfold rcV
      simp only
      go_enter Try.func18, Try.ntmps18
      go_wp2_with (first
        | (go_at_call 35; refine (HG.out _ A0.out).mono ?_; rintro e w1 ⟨rfl, hb1⟩; have A1 := hide' (A0.out.keep hb1); have X1 := hide' (X0.out.keep hb1); clear A0 X0)
        | (go_at_call 36; refine (HR.out _ A1.out).mono ?_; rintro e w2 ⟨⟨v, rfl, hr⟩, hb2⟩; obtain ⟨A2, M2, cap2, rfl, -, -, -, -⟩ := resc_open hr; have A2' := hide' (A1.out.keep hb2); have X2 := hide' (X1.out.keep hb2); clear A1 X1 hr)
        | (go_at_call 36; refine (HR.out _ A2'.out).mono ?_; rintro e w3 ⟨⟨v, rfl, hr⟩, hb3⟩; obtain ⟨A3, M3, cap3, rfl, h1, -, -, hat⟩ := resc_open hr; have h1' := (h1 (by omega)).1; subst h1'; obtain ⟨b', off', hAA, hcc⟩ := hat; have hA2 := hAA hne; cases hA2; obtain ⟨d0, d1, d2⟩ := rc_range (hcc 0 ⟨x0, x1, x2⟩ HX.out); simp only [Nat.zero_mul, Nat.add_zero] at d0 d1 d2; have X3 := hide' (X2.out.keep hb3); obtain ⟨⟨b0, b1, b2⟩, f0, f1, f2⟩ := X3.out.cells))
      exact bodyPost_ret (v := .tuple #[.agg #[.int .i64 x0, .int .i64 x1, .int .i64 x2], .bool true]) (by simp [results, Try.results18, go_sem, b0, b1, b2]) rfl ⟨rfl, three_set X3.out _ _ _⟩
end Go.Proofs.Ytgfnejojjjlloaa
