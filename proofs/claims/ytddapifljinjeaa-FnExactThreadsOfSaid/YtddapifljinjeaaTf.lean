/- ThreadsOf: both sides. -/
import Derived.Test.YtddapifljinjeaaRi
import Derived.Test.YtddapifljinjeaaRnD
import Derived.Maps.AppendAt
namespace Go.Proofs.Ytddapifljinjeaa
open Go.RowKit
open Rd Fl

theorem evs_at {w : World} {A : Option Addr} {l : List EvD} (h : EvsAt w A l) (hne : l ≠ []) : ∃ b off, A = some ⟨b, off, none⟩ ∧ ∀ i (hi : i < l.length), w.rangeAt b (off + i * 5) l[i].cells := by
  obtain ⟨b, off, h1, h2⟩ := h
  exact ⟨b, off, h1 hne, fun i hi => h2 i l[i] (List.getElem?_eq_getElem hi)⟩
/-- the threads of the first k events -/
def thTo (l : List EvD) (k : Nat) : List Int := (l.take k).map EvD.th
theorem thTo_succ (l : List EvD) (k : Nat) (h : k < l.length) : thTo l (k + 1) = thTo l k ++ [l[k].th] := by
  unfold thTo; rw [List.take_succ_eq_append_getElem h, List.map_append]; rfl
theorem thTo_len (l : List EvD) (k : Nat) (h : k ≤ l.length) : (thTo l k).length = k := by
  unfold thTo; simp; omega
/-- What the rounds keep. -/
structure Rtf (w : World) (N : Nat) (v : Value) (l : List Int) (wr : World) : Prop where
  b : Below w.heap.size w wr
  o : wr.ownsRow N 3 1 v l.length (l.map iv)
  z : N ≤ wr.heap.size
theorem Rtf.keep {w : World} {N : Nat} {v : Value} {l : List Int} {wr wx : World} (h : Rtf w N v l wr) (hb : Below wr.heap.size wr wx) : Rtf w N v l wx := ⟨h.b.trans (hb.mono h.b.size), own_keep h.o hb, Nat.le_trans h.z hb.size⟩
def threadsN (r : RunD) : List Int := if r.tr.length ≤ 200 then thTo r.tr r.tr.length else []

set_option maxRecDepth 20000 in
set_option maxHeartbeats 2000000 in
theorem sthreads_any (r : RunD) (E P T C O : Option Addr) (k4 k5 k1 k2 k3 : Nat) (hl : r.tr.length ≤ 1048576) (w : World) (hE : EvsAt w E r.tr) :
    Calls Try.prog 6 #[.agg #[.int .i64 r.cd, .slice E r.tr.length k4, .slice P r.pk.length k5, .slice T r.en.ts.length k1, .slice C r.en.cl.length k2, .slice O r.en.ow.length k3, .int .i64 r.en.ft]] w fun e w' => (∃ v, e = .returned (.tuple #[v, .bool (decide (r.tr.length ≤ 200))]) ∧ ResI (threadsN r) w' w.heap.size w'.heap.size v) ∧ Below w.heap.size w w' := by
  obtain ⟨i0, hi, hz0, hz1, hz2⟩ := inInfo
  obtain ⟨rc, tr, pk, en⟩ := r
  simp only at *
  generalize pk.length = n5
  generalize en.ts.length = n1
  generalize en.cl.length = n2
  generalize en.ow.length = n3
  generalize en.ft = ft
  have hl' : (tr.length : Int) ≤ 1048576 := by omega
  by_cases h2 : tr.length ≤ 200
  · have h2' : (tr.length : Int) ≤ 200 := by omega
    have ET := hide' (show threadsN ⟨rc, tr, pk, en⟩ = thTo tr tr.length by unfold threadsN; rw [if_pos h2])
    have HD := hide' (decide_eq_true h2)
    have HL := hide' (fun k (h : k ≤ tr.length) => thTo_len tr k h)
    by_cases he : tr = []
    · subst he
      clear hE
      go_enter Try.func6, Try.ntmps6
      go_wp2
      go_loopw [4, 14] (fun v i wr => v = .slice none 0 0 ∧ i = .int .i64 0 ∧ Hid (Below w.heap.size w wr)) (fun _ _ _ => 0)
      case atStart => exact ⟨rfl, rfl, (Below.refl _ w).up _⟩
      case round =>
        obtain ⟨rfl, rfl, hbw⟩ := hrel
        go_wp2
        go_ret2
        refine ⟨⟨_, rfl, ?_⟩, hbw.out⟩
        rw [ET.out]
        exact resi_of (World.ownsRow_nil _ _ _ _) (by simp [thTo])
    · obtain ⟨b, off, rfl, hc⟩ := evs_at hE he
      have HC := hide' hc
      have HT := hide' (fun k h => thTo_succ tr k h)
      clear hc hE he hl hl'
      go_enter Try.func6, Try.ntmps6
      go_wp2
      go_loopw [4, 14] (fun v i wr => ∃ k : Nat, k ≤ tr.length ∧ i = .int .i64 k ∧ Hid (Rtf w (w.heap.size + 1) v (thTo tr k) wr)) (fun _ i _ => tr.length - (intOf i).toNat)
      case atStart => exact ⟨0, Nat.zero_le _, rfl, (⟨(Below.refl _ w).up _, World.ownsRow_nil _ _ _ _, by simp⟩ : Rtf w _ _ _ _)⟩
      case round =>
        obtain ⟨k, hk, rfl, hrnd⟩ := hrel
        by_cases hlt : k < tr.length
        · obtain ⟨c0, c1, c2, c3, c4⟩ := ev_range (range_keep hrnd.out.b (HC.out k hlt))
          have HTk := hide' (HT.out k hlt)
          have HLk := hide' (HL.out k hk)
          generalize tr[k] = o at c0 c1 c2 c3 c4 HTk
          obtain ⟨r0, r1, r2, r3, r4⟩ := o
          simp only at c0 c1 c2 c3 c4 HTk
          go_wp2_with (at_builtin; refine wpList_append_own _ rfl _ _ 23 rfl (w.heap.size + 1) 3 i0 (.int .i64 0) 1 8 Try.underlying23 hi hz0 hz1 hz2 rfl (by decide) _ _ _ rfl ((hrnd.out.o.alloc _).alloc _) ⟨wr.heap.size + 1, 0, none⟩ 1 1 [iv r0] rfl rfl ?c1 ?c2 ?c3 ?c4 ?c5 ?_)
          case c1 =>
            intro j u hj
            match j, hj with
            | 0, hj => simp at hj; subst hj; simp [iv, Addr.add]
          case c2 => intro u hu; simp at hu; subst hu; rfl
          case c3 => unfold maxLen; have := HLk.out; omega
          case c4 => have := HLk.out; omega
          case c5 => have := hrnd.out.z; simp; omega
          intro v' w3 hown3 hgrow _
          have HB3 := hide' (Below.grown (((Below.refl (w.heap.size + 1) wr).alloc hrnd.out.z _).alloc (by have := hrnd.out.z; simp; omega) _) hgrow (by have := hrnd.out.z; simp; omega) (own_base' hrnd.out.o))
          have R3 := hide' (show Rtf w (w.heap.size + 1) v' (thTo tr (k + 1)) w3 from ⟨hrnd.out.b.trans (HB3.out.mono (by omega)), by rw [HTk.out, List.length_append, List.map_append]; exact hown3, Nat.le_trans hrnd.out.z HB3.out.size⟩)
          clear hown3 hgrow
          go_wp2_with fail
          go_roundw
          case rel => exact ⟨k + 1, by omega, by go_num, R3.out⟩
          case measure => simp [intOf]; omega
        · have hke : k = tr.length := by omega
          subst hke
          go_wp2
          go_ret2
          refine ⟨⟨_, by rw [HD.out]; rfl, ?_⟩, hrnd.out.b⟩
          rw [ET.out]
          exact resi_less (resi_of hrnd.out.o (by rw [HL.out _ (Nat.le_refl _)]; omega)) (by omega)
  · have h2' : (200 : Int) < tr.length := by omega
    have ET := hide' (show threadsN ⟨rc, tr, pk, en⟩ = [] by unfold threadsN; rw [if_neg h2])
    have HD := hide' (decide_eq_false h2)
    clear hE
    go_enter Try.func6, Try.ntmps6
    go_wp2
    go_ret2
    refine ⟨⟨_, by rw [HD.out]; rfl, ?_⟩, (Below.refl _ w).up _⟩
    rw [ET.out]
    exact resi_of (World.ownsRow_nil _ _ _ _) (by simp)

set_option maxRecDepth 20000 in
set_option maxHeartbeats 2000000 in
theorem ithreads_any (r : RunD) (E P T C O : Option Addr) (k4 k5 k1 k2 k3 : Nat) (hl : r.tr.length ≤ 1048576) (w : World) (hE : EvsAt w E r.tr) :
    Calls Try.prog 8 #[.agg #[.int .i64 r.cd, .slice E r.tr.length k4, .slice P r.pk.length k5, .slice T r.en.ts.length k1, .slice C r.en.cl.length k2, .slice O r.en.ow.length k3, .int .i64 r.en.ft]] w fun e w' => (∃ v, e = .returned (.tuple #[v, .bool (decide (r.tr.length ≤ 200))]) ∧ ResI (threadsN r) w' w.heap.size w'.heap.size v) ∧ Below w.heap.size w w' := by
  obtain ⟨i0, hi, hz0, hz1, hz2⟩ := inInfo
  obtain ⟨rc, tr, pk, en⟩ := r
  simp only at *
  generalize pk.length = n5
  generalize en.ts.length = n1
  generalize en.cl.length = n2
  generalize en.ow.length = n3
  generalize en.ft = ft
  have hl' : (tr.length : Int) ≤ 1048576 := by omega
  by_cases h2 : tr.length ≤ 200
  · have h2' : (tr.length : Int) ≤ 200 := by omega
    have ET := hide' (show threadsN ⟨rc, tr, pk, en⟩ = thTo tr tr.length by unfold threadsN; rw [if_pos h2])
    have HD := hide' (decide_eq_true h2)
    have HL := hide' (fun k (h : k ≤ tr.length) => thTo_len tr k h)
    by_cases he : tr = []
    · subst he
      clear hE
      go_enter Try.func8, Try.ntmps8
      go_wp2
      go_loopw [4, 14] (fun v i wr => v = .slice none 0 0 ∧ i = .int .i64 0 ∧ Hid (Below w.heap.size w wr)) (fun _ _ _ => 0)
      case atStart => exact ⟨rfl, rfl, (Below.refl _ w).up _⟩
      case round =>
        obtain ⟨rfl, rfl, hbw⟩ := hrel
        go_wp2
        go_ret2
        refine ⟨⟨_, rfl, ?_⟩, hbw.out⟩
        rw [ET.out]
        exact resi_of (World.ownsRow_nil _ _ _ _) (by simp [thTo])
    · obtain ⟨b, off, rfl, hc⟩ := evs_at hE he
      have HC := hide' hc
      have HT := hide' (fun k h => thTo_succ tr k h)
      clear hc hE he hl hl'
      go_enter Try.func8, Try.ntmps8
      go_wp2
      go_loopw [4, 14] (fun v i wr => ∃ k : Nat, k ≤ tr.length ∧ i = .int .i64 k ∧ Hid (Rtf w (w.heap.size + 1) v (thTo tr k) wr)) (fun _ i _ => tr.length - (intOf i).toNat)
      case atStart => exact ⟨0, Nat.zero_le _, rfl, (⟨(Below.refl _ w).up _, World.ownsRow_nil _ _ _ _, by simp⟩ : Rtf w _ _ _ _)⟩
      case round =>
        obtain ⟨k, hk, rfl, hrnd⟩ := hrel
        by_cases hlt : k < tr.length
        · obtain ⟨c0, c1, c2, c3, c4⟩ := ev_range (range_keep hrnd.out.b (HC.out k hlt))
          have HTk := hide' (HT.out k hlt)
          have HLk := hide' (HL.out k hk)
          generalize tr[k] = o at c0 c1 c2 c3 c4 HTk
          obtain ⟨r0, r1, r2, r3, r4⟩ := o
          simp only at c0 c1 c2 c3 c4 HTk
          go_wp2_with (at_builtin; refine wpList_append_own _ rfl _ _ 23 rfl (w.heap.size + 1) 3 i0 (.int .i64 0) 1 8 Try.underlying23 hi hz0 hz1 hz2 rfl (by decide) _ _ _ rfl ((hrnd.out.o.alloc _).alloc _) ⟨wr.heap.size + 1, 0, none⟩ 1 1 [iv r0] rfl rfl ?c1 ?c2 ?c3 ?c4 ?c5 ?_)
          case c1 =>
            intro j u hj
            match j, hj with
            | 0, hj => simp at hj; subst hj; simp [iv, Addr.add]
          case c2 => intro u hu; simp at hu; subst hu; rfl
          case c3 => unfold maxLen; have := HLk.out; omega
          case c4 => have := HLk.out; omega
          case c5 => have := hrnd.out.z; simp; omega
          intro v' w3 hown3 hgrow _
          have HB3 := hide' (Below.grown (((Below.refl (w.heap.size + 1) wr).alloc hrnd.out.z _).alloc (by have := hrnd.out.z; simp; omega) _) hgrow (by have := hrnd.out.z; simp; omega) (own_base' hrnd.out.o))
          have R3 := hide' (show Rtf w (w.heap.size + 1) v' (thTo tr (k + 1)) w3 from ⟨hrnd.out.b.trans (HB3.out.mono (by omega)), by rw [HTk.out, List.length_append, List.map_append]; exact hown3, Nat.le_trans hrnd.out.z HB3.out.size⟩)
          clear hown3 hgrow
          go_wp2_with fail
          go_roundw
          case rel => exact ⟨k + 1, by omega, by go_num, R3.out⟩
          case measure => simp [intOf]; omega
        · have hke : k = tr.length := by omega
          subst hke
          go_wp2
          go_ret2
          refine ⟨⟨_, by rw [HD.out]; rfl, ?_⟩, hrnd.out.b⟩
          rw [ET.out]
          exact resi_less (resi_of hrnd.out.o (by rw [HL.out _ (Nat.le_refl _)]; omega)) (by omega)
  · have h2' : (200 : Int) < tr.length := by omega
    have ET := hide' (show threadsN ⟨rc, tr, pk, en⟩ = [] by unfold threadsN; rw [if_neg h2])
    have HD := hide' (decide_eq_false h2)
    clear hE
    go_enter Try.func8, Try.ntmps8
    go_wp2
    go_ret2
    refine ⟨⟨_, by rw [HD.out]; rfl, ?_⟩, (Below.refl _ w).up _⟩
    rw [ET.out]
    exact resi_of (World.ownsRow_nil _ _ _ _) (by simp)
end Go.Proofs.Ytddapifljinjeaa
