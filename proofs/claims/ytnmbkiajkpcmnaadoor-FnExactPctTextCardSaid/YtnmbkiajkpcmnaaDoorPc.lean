/- Schedules by rank: their parts counted, copied, compared. -/
import Derived.Test.YtnmbkiajkpcmnaaDoorCf
import Derived.Test.YtnmbkiajkpcmnaaDoorStF
import Derived.Test.YtnmbkiajkpcmnaaDoorRg
namespace Go.Proofs.YtnmbkiajkpcmnaaDoor
open Go.RowKit
open Rd Fl

/-- A schedule lies boxed at block N. -/
structure CBox (N : Nat) (A B : Option Addr) (n ca m cb : Nat) (w : World) : Prop where
  c0 : w.cell? ⟨N, 0, none⟩ = some (.slice A n ca)
  c1 : w.cell? ⟨N, 1, none⟩ = some (.slice B m cb)
theorem CBox.keep {N : Nat} {A B : Option Addr} {n ca m cb : Nat} {w w' : World} (h : CBox N A B n ca m cb w) (hb : Below w.heap.size w w') : CBox N A B n ca m cb w' := ⟨keep_cell hb h.c0, keep_cell hb h.c1⟩
theorem cbox_new (w : World) (A B : Option Addr) (n ca m cb : Nat) (t : TypeId) : CBox w.heap.size A B n ca m cb (w.alloc (.cells #[.slice A n ca, .slice B m cb] t)) := by
  constructor <;> simp [World.cell?_alloc_new]

set_option maxRecDepth 20000 in
set_option maxHeartbeats 1000000 in
theorem szpct_any (A B : Option Addr) (n ca m cb : Nat) (left : Int) (h0 : 0 ≤ left) (h1 : left ≤ 1048576) (hn : n ≤ 9223372036854775807) (hm : m ≤ 9223372036854775807) (w : World) :
    Calls Tryd.prog 5 #[.agg #[.slice A n ca, .slice B m cb], .int .i64 left] w fun e w' => (∃ y : Int, e = .returned (.int .i64 y) ∧ -1 ≤ y ∧ y ≤ left ∧ (0 ≤ y → n ≤ 1048576 ∧ m ≤ 1048576)) ∧ Below w.heap.size w w' := by
  have H1 := hide' (fun w => szints_any A n ca left h0 h1 hn w)
  have H2 := hide' (fun (y : Int) (hy : 0 ≤ y) (hy1 : y ≤ left) w => szints_any B m cb y hy (by omega) hm w)
  clear h1 hn hm
  go_enter Tryd.func5, Tryd.ntmps5
  go_wp2_with fail
  have hbw : Below w.heap.size w (w.alloc (.cells #[.slice A n ca, .slice B m cb] 24)) := (Below.refl _ w).up _
  refine (H1.out _).mono ?_
  have hbox := cbox_new w A B n ca m cb 24
  generalize (w.alloc (.cells #[.slice A n ca, .slice B m cb] 24)) = w0 at hbw hbox
  rintro e w1 ⟨⟨x, rfl, hx1, hx2, hx3⟩, rfl⟩
  obtain ⟨p0, p1⟩ := hbox
  have HB := hide' hbw
  have HN := hide' hx3
  clear hx3 hbw
  by_cases hn0 : x < 0
  · go_wp2_with fail
    go_ret
    exact ⟨⟨-1, rfl, by omega, by omega, fun h => by omega⟩, HB.out⟩
  · go_wp2_with fail
    refine (H2.out x (by omega) hx2 _).mono ?_
    rintro e w2 ⟨⟨y, rfl, hm1, hm2, hm3⟩, rfl⟩
    have HM := hide' hm3
    clear hm3
    by_cases hm0 : y < 0
    · go_wp2_with fail
      go_ret
      exact ⟨⟨-1, rfl, by omega, by omega, fun h => by omega⟩, HB.out⟩
    · go_wp2_with fail
      go_ret
      have k1 := HN.out (by omega)
      have k2 := HM.out (by omega)
      exact ⟨⟨y, rfl, hm1, by omega, fun _ => ⟨by omega, by omega⟩⟩, HB.out⟩

set_option maxRecDepth 20000 in
set_option maxHeartbeats 1000000 in
theorem topct_any (A B : Option Addr) (l m : List Int) (ca cb : Nat) (hl : l.length ≤ 1048576) (hm : m.length ≤ 1048576) (w : World) (hA : LAt iv w A l) (hB : LAt iv w B m) :
    Calls Tryd.prog 7 #[.agg #[.slice A l.length ca, .slice B m.length cb]] w fun e w' => (∃ M N, e = .returned (.agg #[.slice (some ⟨M, 0, none⟩) l.length l.length, .slice (some ⟨N, 0, none⟩) m.length m.length]) ∧ w.heap.size ≤ M ∧ M < N ∧ N < w'.heap.size ∧ LOwn iv w' M l ∧ LOwn iv w' N m) ∧ Below w.heap.size w w' := by
  have H1 := hide' (fun w h => toints_any A l ca hl w h)
  have H2 := hide' (fun w h => toints_any B m cb hm w h)
  have HE := hide' hA
  have HP := hide' hB
  have hl1 : (l.length : Int) ≤ 1048576 := by omega
  have hl2 : (m.length : Int) ≤ 1048576 := by omega
  clear hA hB hl hm
  generalize hn4 : l.length = n4 at *
  generalize hn5 : m.length = n5 at *
  go_enter Tryd.func7, Tryd.ntmps7
  go_wp2_with fail
  have e3 : ∀ o1 o2 o3, (((w.alloc o1).alloc o2).alloc o3).heap.size = w.heap.size + 1 + 1 + 1 := fun o1 o2 o3 => by simp
  have b0 : ∀ o1 o2 o3, Below w.heap.size w (((w.alloc o1).alloc o2).alloc o3) := fun o1 o2 o3 => below3 w o1 o2 o3
  refine (H1.out _ (HE.out.keep (b0 _ _ _))).mono ?_
  rintro e w1 ⟨rfl, hz1, ho1, hb1⟩
  obtain ⟨hc1, hf1⟩ := bcell hb1
  rw [e3] at ho1 hz1
  have hz : w.heap.size + 1 + 1 < w1.heap.size := by omega
  have P1 := hide' ho1
  have B1 := hide' ((b0 _ _ _).trans (hb1.mono (by rw [e3]; omega)))
  clear ho1 hb1
  simp only [e3] at *
  go_wp2_with fail
  refine (H2.out _ (HP.out.keep (below_set B1.out (w.heap.size + 1 + 1) 0 _ (by omega)))).mono ?_
  rintro e w2 ⟨rfl, hz2, ho2, hb2⟩
  obtain ⟨hc2, hf2⟩ := bcell hb2
  rw [set_size] at hz2 ho2
  have P2 := hide' ho2
  have Q2 := hide' ((P1.out.set (w.heap.size + 1 + 1) 0 _ (by omega)).keep hb2)
  have B2 := hide' ((below_set B1.out (w.heap.size + 1 + 1) 0 _ (by omega)).trans (hb2.mono (by rw [set_size]; omega)))
  simp only [set_size] at hc2 hf2
  clear ho2 hb2
  have hza : w.heap.size < w1.heap.size := by omega
  have hzb : w.heap.size + 1 < w1.heap.size := by omega
  have hy2 : w.heap.size + 1 + 1 < w2.heap.size := by omega
  go_wp2_with fail
  refine bodyPost_ret (v := .agg #[.slice (some ⟨w.heap.size + 1 + 1 + 1, 0, none⟩) n4 n4, .slice (some ⟨w1.heap.size, 0, none⟩) n5 n5]) (by simp [results, Tryd.results7, go_sem, hc1, hc2, hzb]) rfl ?_
  refine ⟨⟨w.heap.size + 1 + 1 + 1, w1.heap.size, rfl, by omega, by omega, by simp only [set_size]; omega, ?_, ?_⟩, ?_⟩
  · repeat (first | exact Q2.out | refine LOwn.set ?_ _ _ _ (by omega))
  · repeat (first | exact P2.out | refine LOwn.set ?_ _ _ _ (by omega))
  · repeat (first | exact B2.out | refine below_set ?_ _ _ _ (by omega))

set_option maxRecDepth 20000 in
set_option maxHeartbeats 1000000 in
theorem eqpct_any (A B A' B' : Option Addr) (l m : List Int) (ca cb ca' cb' : Nat) (hl : l.length ≤ 1048576) (hm : m.length ≤ 1048576) (w : World) (hA : LAt iv w A l) (hB : LAt iv w B m) (hA' : LAt iv w A' l) (hB' : LAt iv w B' m) :
    Calls Tryd.prog 9 #[.agg #[.slice A l.length ca, .slice B m.length cb], .agg #[.slice A' l.length ca', .slice B' m.length cb']] w fun e w' => e = .returned (.bool true) ∧ Below w.heap.size w w' := by
  have H1 := hide' (fun w h1 h2 => eqints_any A A' l ca ca' hl w h1 h2)
  have H2 := hide' (fun w h1 h2 => eqints_any B B' m cb cb' hm w h1 h2)
  have HA := hide' (And.intro hA hA')
  have HB := hide' (And.intro hB hB')
  clear hA hB hA' hB' hl hm
  generalize hn4 : l.length = n4 at *
  generalize hn5 : m.length = n5 at *
  go_enter Tryd.func9, Tryd.ntmps9
  go_wp2_with fail
  have b0 : ∀ o1 o2, Below w.heap.size w ((w.alloc o1).alloc o2) := fun o1 o2 => below2 w o1 o2
  refine (H1.out _ (HA.out.1.keep (b0 _ _)) (HA.out.2.keep (b0 _ _))).mono ?_
  rintro e w1 ⟨rfl, hb1⟩
  obtain ⟨hc1, hf1⟩ := bcell hb1
  have hz : w.heap.size + 1 < w1.heap.size := by have := hb1.size; simp at this; omega
  have B1 := hide' ((b0 _ _).trans (hb1.mono (by simp; omega)))
  clear hb1
  go_wp2_with fail
  refine (H2.out _ (HB.out.1.keep B1.out) (HB.out.2.keep B1.out)).mono ?_
  rintro e w2 ⟨rfl, hb2⟩
  have B2 := hide' (B1.out.trans (hb2.mono B1.out.size))
  clear hb2
  go_wp2_with fail
  go_ret
  exact ⟨rfl, B2.out⟩
end Go.Proofs.YtnmbkiajkpcmnaaDoor
