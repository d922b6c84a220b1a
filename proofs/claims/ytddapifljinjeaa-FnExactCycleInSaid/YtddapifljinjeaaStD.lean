/- States: the copy of a whole state. -/
import Derived.Test.YtddapifljinjeaaStC
namespace Go.Proofs.Ytddapifljinjeaa
open Go.RowKit
open Rd Fl

theorem below_set {B : Nat} {a w : World} (h : Below B a w) (N o : Nat) (v : Value) (hN : B ≤ N) : Below B a (w.setCell ⟨N, o, none⟩ v) := h.setCell (p := ⟨N, o, none⟩) hN v

set_option maxRecDepth 20000 in
set_option maxHeartbeats 1000000 in
theorem toth_any (r0 r1 r2 r3 r4 : Int) (S : Option Addr) (sk : List (Bool × Nat)) (cap : Nat) (hl : sk.length ≤ 1048576) (w : World) (hS : LAt fv w S sk) :
    Calls Try.prog 49 #[.agg #[.int .i64 r0, .int .i64 r1, .int .i64 r2, .int .i64 r3, .int .i64 r4, .slice S sk.length cap]] w fun e w' => (∃ M, e = .returned (.agg #[.int .i64 r0, .int .i64 r1, .int .i64 r2, .int .i64 r3, .int .i64 r4, .slice (some ⟨M, 0, none⟩) sk.length sk.length]) ∧ w.heap.size ≤ M ∧ M < w'.heap.size ∧ LOwn fv w' M sk) ∧ Below w.heap.size w w' := by
  have HC := hide' (fun w hR => tofls_any S sk cap hl w hR)
  have HR := hide' hS
  clear hl hS
  go_enter Try.func49, Try.ntmps49
  go_wp2_with fail
  refine (HC.out _ (HR.out.keep ((((Below.refl _ w).up _).up _).up _))).mono ?_
  rintro e w1 ⟨rfl, hz1, ho1, hb1⟩
  obtain ⟨hc1, hf1⟩ := bcell hb1
  have hz : w.heap.size + 1 + 1 < w1.heap.size := by simp at hz1; omega
  have HO := hide' ho1
  have HB := hide' hb1
  clear ho1 hb1
  go_wp2_with fail
  refine bodyPost_ret (v := .agg #[.int .i64 r0, .int .i64 r1, .int .i64 r2, .int .i64 r3, .int .i64 r4, .slice (some ⟨w.heap.size + 1 + 1 + 1, 0, none⟩) sk.length sk.length]) (by simp [results, Try.results49, go_sem, hc1]) rfl ?_
  have e3 : ∀ o1 o2 o3, (((w.alloc o1).alloc o2).alloc o3).heap.size = w.heap.size + 1 + 1 + 1 := fun o1 o2 o3 => by simp
  rw [e3] at HO hz1
  refine ⟨⟨w.heap.size + 1 + 1 + 1, rfl, by omega, by simp only [set_size]; exact hz1, ?_⟩, ?_⟩
  · iterate 7 refine LOwn.set ?_ _ _ _ (by omega)
    exact HO.out
  · iterate 7 refine below_set ?_ _ _ _ (by omega)
    exact (((((Below.refl _ w).up _).up _).up _).trans (HB.out.mono (by rw [e3]; omega)))

/-- The first k threads lie at N, their stacks in blocks of their own behind it. -/
def ThOwn (w : World) (N k : Nat) (ts : List ThD) : Prop :=
  ∀ i t, i < k → ts[i]? = some t → ∃ M, N < M ∧ M < w.heap.size ∧ w.rangeAt N (i * 6) (t.cells (some ⟨M, 0, none⟩) t.sk.length) ∧ LOwn fv w M t.sk ∧ w.there N (i * 6) 6
theorem ThOwn.keep {w w' : World} {N k : Nat} {ts : List ThD} (h : ThOwn w N k ts) (hb : Below w.heap.size w w') : ThOwn w' N k ts := by
  intro i l hi hl
  obtain ⟨M, h1, h2, h3, h4, h5⟩ := h i l hi hl
  exact ⟨M, h1, Nat.lt_of_lt_of_le h2 hb.size, range_keep hb h3, h4.keep hb, there_keep hb h5⟩
theorem ThOwn.setc {w : World} {N k : Nat} {ts : List ThD} (h : ThOwn w N k ts) (b o : Nat) (v : Value) (hb : b < N) : ThOwn (w.setCell ⟨b, o, none⟩ v) N k ts := by
  intro i l hi hl
  obtain ⟨M, h1, h2, h3, h4, h5⟩ := h i l hi hl
  exact ⟨M, h1, by rw [set_size]; exact h2, World.rangeAt_setCells_apart h3 b o [v] (.inl (by omega)), h4.set _ _ _ (by omega), World.there_setCells h5 b o [v]⟩
theorem ThOwn.at {w : World} {N : Nat} {ts : List ThD} (h : ThOwn w N ts.length ts) : ThsAt w (some ⟨N, 0, none⟩) ts := by
  refine ⟨N, 0, fun _ => rfl, fun i t ht => ?_⟩
  obtain ⟨M, h1, h2, h3, h4, -⟩ := h i t (List.getElem?_eq_some_iff.1 ht).1 ht
  exact ⟨_, _, by rw [Nat.zero_add]; exact h3, h4.at⟩

/-- The first k threads have been copied. -/
structure ThTo (w wr : World) (ts : List ThD) (k : Nat) : Prop where
  z : w.heap.size < wr.heap.size
  th : wr.there w.heap.size 0 (ts.length * 6)
  o : ThOwn wr w.heap.size k ts
  b : Below w.heap.size w wr
theorem ThTo.step {w wr w1 : World} {ts : List ThD} {k : Nat} {t : ThD} {M : Nat} (h : ThTo w wr ts k) (hk : k < ts.length) (ht : ts[k]? = some t) (hM : wr.heap.size ≤ M) (hM2 : M < w1.heap.size) (ho : LOwn fv w1 M t.sk) (hb1 : Below wr.heap.size wr w1) :
    ThTo w (w1.setCells w.heap.size (k * 6) (t.cells (some ⟨M, 0, none⟩) t.sk.length)) ts (k + 1) := by
  have hz := h.z
  have hth1 := there_keep hb1 h.th
  refine ⟨by rw [cells_size]; have := hb1.size; omega, World.there_setCells hth1 _ _ _, fun i x hi hx => ?_, below_cells (h.b.trans (hb1.mono (by omega))) (Nat.le_refl _) _ _⟩
  by_cases e : i = k
  · subst e
    rw [ht] at hx
    cases hx
    exact ⟨M, by omega, by rw [cells_size]; omega, World.rangeAt_setCells_same w1 _ _ _ (there_part hth1 _ _ (by show i * 6 + 6 ≤ _; omega)), ho.sets _ _ _ (by omega), World.there_setCells (there_part hth1 _ _ (by omega)) _ _ _⟩
  · obtain ⟨M', g1, g2, g3, g4, g5⟩ := (h.o.keep hb1) i x (by omega) hx
    exact ⟨M', g1, by rw [cells_size]; exact g2, World.rangeAt_setCells_apart g3 _ _ _ (.inr (.inl (by show i * 6 + 6 ≤ _; omega))), g4.sets _ _ _ (by omega), World.there_setCells g5 _ _ _⟩
theorem six_there {w : World} {N j : Nat} (h : w.there N j 6) : ∃ x0 x1 x2 x3 x4 x5, (w.cell? ⟨N, j, none⟩ = some x0 ∧ w.cell? ⟨N, j + 1, none⟩ = some x1 ∧ w.cell? ⟨N, j + 2, none⟩ = some x2 ∧ w.cell? ⟨N, j + 3, none⟩ = some x3 ∧ w.cell? ⟨N, j + 4, none⟩ = some x4 ∧ w.cell? ⟨N, j + 5, none⟩ = some x5) ∧ w.frozen? ⟨N, j, none⟩ = false ∧ w.frozen? ⟨N, j + 1, none⟩ = false ∧ w.frozen? ⟨N, j + 2, none⟩ = false ∧ w.frozen? ⟨N, j + 3, none⟩ = false ∧ w.frozen? ⟨N, j + 4, none⟩ = false ∧ w.frozen? ⟨N, j + 5, none⟩ = false := by
  have h0 := h 0 (by omega)
  have h1 := h 1 (by omega)
  have h2 := h 2 (by omega)
  have h3 := h 3 (by omega)
  have h4 := h 4 (by omega)
  have h5 := h 5 (by omega)
  obtain ⟨x0, e0⟩ := Option.isSome_iff_exists.1 h0.1
  obtain ⟨x1, e1⟩ := Option.isSome_iff_exists.1 h1.1
  obtain ⟨x2, e2⟩ := Option.isSome_iff_exists.1 h2.1
  obtain ⟨x3, e3⟩ := Option.isSome_iff_exists.1 h3.1
  obtain ⟨x4, e4⟩ := Option.isSome_iff_exists.1 h4.1
  obtain ⟨x5, e5⟩ := Option.isSome_iff_exists.1 h5.1
  exact ⟨x0, x1, x2, x3, x4, x5, ⟨e0, e1, e2, e3, e4, e5⟩, h0.2, h1.2, h2.2, h3.2, h4.2, h5.2⟩

set_option maxRecDepth 20000 in
set_option maxHeartbeats 1000000 in
theorem toths_any (A : Option Addr) (ts : List ThD) (cap : Nat) (hl : ts.length ≤ 1048576) (hls : ∀ t ∈ ts, t.sk.length ≤ 1048576) (w : World) (hA : ThsAt w A ts) :
    Calls Try.prog 37 #[.slice A ts.length cap] w fun e w' => e = .returned (.slice (some ⟨w.heap.size, 0, none⟩) ts.length ts.length) ∧ w.heap.size < w'.heap.size ∧ ThOwn w' w.heap.size ts.length ts ∧ Below w.heap.size w w' := by
  have hmk := make_ths ts.length hl
  have hl' : (ts.length : Int) ≤ 1048576 := by omega
  obtain ⟨b, off, hA1, hc⟩ := hA
  by_cases he : ts = []
  · subst he
    have hmk0 : ∀ w, (Instr.makeSlice 34 (.int .i64 0) (.int .i64 0)).run Try.prog w = .ok (.slice (some ⟨w.heap.size, 0, none⟩) 0 0) (w.alloc (.cells (madeCells #[.int .i64 0, .int .i64 0, .int .i64 0, .int .i64 0, .int .i64 0, .slice none 0 0] 0) 82)) := fun w => by simpa using make_ths 0 (by omega) w
    clear hc hA1 hmk
    go_enter Try.func37, Try.ntmps37
    go_wp2
    go_loopw [4] (fun i wr => i = .int .i64 0 ∧ wr = w.alloc (.cells (madeCells #[.int .i64 0, .int .i64 0, .int .i64 0, .int .i64 0, .int .i64 0, .slice none 0 0] 0) 82)) (fun _ _ => 0)
    case atStart => exact ⟨rfl, rfl⟩
    case round =>
      obtain ⟨rfl, rfl⟩ := hrel
      go_wp2
      go_ret
      exact ⟨rfl, by simp, (fun i l hi => by simp at hi), (Below.refl _ w).up _⟩
  · have hA2 := hA1 he
    subst hA2
    have HC := hide' (fun i (hi : i < ts.length) => hc i ts[i] (List.getElem?_eq_getElem hi))
    have HLS := hide' hls
    clear hc hA1 he hls
    go_enter Try.func37, Try.ntmps37
    go_wp2
    go_loopw [4] (fun i wr => ∃ k : Nat, k ≤ ts.length ∧ i = .int .i64 k ∧ Hid (ThTo w wr ts k)) (fun i _ => ts.length - (intOf i).toNat)
    case atStart => exact ⟨0, Nat.zero_le _, rfl, (⟨by simp, made_there w _ _ _, fun i o hi _ => by omega, (Below.refl _ w).up _⟩ : ThTo w _ ts 0)⟩
    case round =>
      obtain ⟨k, hk, rfl, hto⟩ := hrel
      by_cases hlt : k < ts.length
      · obtain ⟨S, cp, hrg, hst0⟩ := HC.out k hlt
        obtain ⟨c0, c1, c2, c3, c4, c5⟩ := th_range (range_keep hto.out.b hrg)
        have HO := hide' (hst0.keep hto.out.b)
        have HL := hide' (List.getElem?_eq_getElem hlt)
        have HM := hide' (HLS.out ts[k] (List.getElem_mem hlt))
        clear hrg hst0
        generalize ts[k] = t at c0 c1 c2 c3 c4 c5 HO HL HM
        obtain ⟨r0, r1, r2, r3, r4, sk⟩ := t
        go_wp2_with (go_at_call 49; refine (toth_any r0 r1 r2 r3 r4 S sk cp HM.out _ HO.out).mono ?_; rintro e w1 ⟨⟨M, rfl, hM1, hM2, ho1⟩, hb1⟩; obtain ⟨x0, x1, x2, x3, x4, x5, ⟨d0, d1, d2, d3, d4, d5⟩, z0, z1, z2, z3, z4, z5⟩ := six_there (there_part (there_keep hb1 hto.out.th) (k * 6) 6 (by omega)))
        have q := hto.out.step hlt HL.out hM1 hM2 ho1 hb1
        go_roundw
        case rel => exact ⟨k + 1, by omega, by go_num, q⟩
        case measure => simp [intOf]; omega
      · have hke : k = ts.length := by omega
        subst hke
        go_wp2
        go_ret
        exact ⟨rfl, hto.out.z, hto.out.o, hto.out.b⟩
end Go.Proofs.Ytddapifljinjeaa
