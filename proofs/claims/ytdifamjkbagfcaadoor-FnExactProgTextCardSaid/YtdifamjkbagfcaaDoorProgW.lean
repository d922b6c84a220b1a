/- The law FnExactProgText: the walk, over l2Text's contract. -/
import Derived.Test.YtdifamjkbagfcaaDoorProgO
import Derived.Test.YtdifamjkbagfcaaDoorPrgL
namespace Go.Proofs.YtdifamjkbagfcaaDoor
open Go.RowKit
open Rd Fl

/-- spec.l2Text's contract (the text ProgS) -/
def L2Says : Prop := ∀ (tx : OpD → ByteArray) (cl lk cd : Int) (R : Option Addr) (rs : List (List OpD)) (cap : Nat), rs.length ≤ 4 → rs ≠ [] → (0 ≤ cl ∧ cl ≤ 4) → (0 ≤ lk ∧ lk ≤ 4) → (0 ≤ cd ∧ cd ≤ 4) →
    (∀ l ∈ rs, l.length ≤ 24) → (∀ l ∈ rs, ∀ o ∈ l, TxAt tx o) → ∀ w : World, RoutsAt w R rs →
    Calls Tryd.prog 35 #[.agg #[.int .i64 cl, .int .i64 lk, .int .i64 cd, .slice R rs.length cap]] w fun e w' => e = .returned (.string (routL tx (headT cl lk cd) rs)) ∧ Below w.heap.size w w'

theorem prog_both (cl lk cd : Int) (rs : List (List OpD)) (hl : rs.length ≤ 1048576) (hls : ∀ l ∈ rs, l.length ≤ 1048576) (hr : ∀ l ∈ rs, ∀ o ∈ l, o.r < 9223372036854775808) (hL : L2Says) : ∃ (X : ByteArray) (q : Bool),
    (∀ R cap w, RoutsAt w R rs → Calls Tryd.prog 9 #[.agg #[.int .i64 cl, .int .i64 lk, .int .i64 cd, .slice R rs.length cap]] w fun e w' => e = .returned (.tuple #[.string X, .bool q]) ∧ Below w.heap.size w w') ∧
    (∀ R cap w, RoutsAt w R rs → EnvT w → Forms w → Calls Tryd.prog 11 #[.agg #[.int .i64 cl, .int .i64 lk, .int .i64 cd, .slice R rs.length cap]] w fun e w' => e = .returned (.tuple #[.string X, .bool q]) ∧ Below w.heap.size w w') := by
  obtain ⟨hgs, hgi⟩ := good_both cl lk cd rs hl hls hr
  cases hg : goodS cl lk cd rs
  · rw [hg] at hgs hgi
    exact ⟨⟨#[]⟩, false, fun R cap w hR => sprog_no cl lk cd R rs cap hgs w hR, fun R cap w hR _ hF => iprog_no cl lk cd R rs cap hgi w hR hF⟩
  · rw [hg] at hgs hgi
    obtain ⟨tx, htx⟩ := tx_all
    unfold goodS at hg
    rw [Bool.and_eq_true] at hg
    obtain ⟨g1, g2, g3, g4⟩ := head_all hg.1
    have hne : rs ≠ [] := by intro h; rw [h] at g4; simp at g4
    have hrt := List.all_eq_true.1 hg.2
    have h24 : ∀ l ∈ rs, l.length ≤ 24 := by
      intro l h
      have := hrt l h
      unfold routS at this
      rw [Bool.and_eq_true, decide_eq_true_eq] at this
      exact this.2
    have hT : ∀ l ∈ rs, ∀ o ∈ l, TxAt tx o := by
      intro l h o ho
      have h1 := hrt l h
      unfold routS at h1
      rw [Bool.and_eq_true] at h1
      have h2 := List.all_eq_true.1 h1.1 o ho
      unfold specOK at h2
      rw [Bool.and_eq_true] at h2
      exact htx o (hr l h o ho) h2.1
    have h4 : rs.length ≤ 4 := by omega
    have gc : 0 ≤ cd ∧ cd ≤ 4 := by omega
    exact ⟨routL tx (headT cl lk cd) rs, true, fun R cap w hR => sprog_yes cl lk cd R rs cap _ hgs (fun R cap w hR => hL tx cl lk cd R rs cap h4 hne g1 g2 gc h24 hT w hR) w hR,
      fun R cap w hR hE hF => iprog_any tx cl lk cd R rs cap h4 hne g1 g2 gc h24 hT hgi w hR hE hF⟩

set_option maxRecDepth 20000 in
set_option maxHeartbeats 4000000 in
theorem law_progtext (cl lk cd : Int) (R : Option Addr) (rs : List (List OpD)) (cap : Nat) (hl : rs.length ≤ 9223372036854775807) (hls : ∀ l ∈ rs, l.length ≤ 9223372036854775807) (hr : ∀ l ∈ rs, ∀ o ∈ l, o.r < 9223372036854775808) (w : World) (hR : RoutsAt w R rs) (hE : EnvT w) (hF : Forms w) (hL : L2Says) :
    Calls Tryd.prog 3 #[.agg #[.int .i64 cl, .int .i64 lk, .int .i64 cd, .slice R rs.length cap]] w fun e w' => e = .returned (.bool true) ∧ Below w.heap.size w w' := by
  have HSZ := hide' (fun w hR => szprog_any cl lk cd R rs cap hl hls w hR)
  have HR := hide' hr
  have HRR := hide' hR
  have HF := hide' hF
  have HE := hide' hE
  have HLL := hide' hL
  clear hl hls hr hR hF hE hL
  go_enter Tryd.func3, Tryd.ntmps3
  go_wp2_with fail
  refine (HSZ.out _ (HRR.out.keep ((Below.refl _ w).up _))).mono ?_
  rintro e w1 ⟨⟨n, rfl, hn⟩, hb1⟩
  by_cases hn0 : n < 0
  · have HB1 := hide' (((Below.refl _ w).up _).trans (hb1.mono (by simp)))
    clear hn hb1
    go_wp2_with fail
    go_ret
    exact ⟨rfl, HB1.out⟩
  · obtain ⟨hl, hls⟩ := hn (by omega)
    have hn1 : 0 ≤ n := by omega
    have HT := hide' (fun w hR => toprog_any cl lk cd R rs cap hl hls w hR)
    obtain ⟨X, g, hgs, hgi⟩ := prog_both cl lk cd rs hl hls HR.out HLL.out
    have HGS := hide' hgs
    have HGI := hide' hgi
    have HEQ := hide' (fun A B ca cb w hA hB => eqprog_any cl lk cd A B rs ca cb hl hls HR.out w hA hB)
    have HB1 := hide' (((Below.refl _ w).up _).trans (hb1.mono (by simp)))
    have hbox := (pbox_new w cl lk cd R rs.length cap 24).keep hb1
    have hxx : (X.toList != X.toList) = false := by simp
    clear hn hb1 hgs hgi hl hls HR HSZ hn0
    obtain ⟨p0, p1, p2, p3⟩ := hbox
    go_wp2_with fail
    refine (HT.out _ (HRR.out.keep HB1.out)).mono ?_
    rintro e w2 ⟨⟨N2, rfl, hN2, hM2, ho2⟩, hb2⟩
    have HB2 := hide' (HB1.out.trans (hb2.mono HB1.out.size))
    have HO2 := hide' ho2
    have hbox := PBox.keep (⟨p0, p1, p2, p3⟩ : PBox w.heap.size cl lk cd R rs.length cap w1) hb2
    clear hb2 ho2 p0 p1 p2 p3 hN2 hM2
    go_wp2_with fail
    refine (HGS.out _ _ _ HO2.out.routs).mono ?_
    rintro e w3 ⟨rfl, hb3⟩
    have HB3 := hide' (HB2.out.trans (hb3.mono HB2.out.size))
    obtain ⟨p0, p1, p2, p3⟩ := hbox.keep hb3
    clear hb3 hbox HO2
    go_wp2_with fail
    refine (HT.out _ (HRR.out.keep HB3.out)).mono ?_
    rintro e w4 ⟨⟨N4, rfl, hN4, hM4, ho4⟩, hb4⟩
    have HB4 := hide' (HB3.out.trans (hb4.mono HB3.out.size))
    have HO4 := hide' ho4
    have HBX := hide' (PBox.keep (⟨p0, p1, p2, p3⟩ : PBox w.heap.size cl lk cd R rs.length cap w3) hb4)
    clear hb4 ho4 p0 p1 p2 p3 hN4 hM4
    go_wp2_with fail
    refine (HGI.out _ _ _ (HO4.out.routs.keep ((Below.refl _ _).up _)) (HE.out.below (HB4.out.up _)) (HF.out.below (HB4.out.up _))).mono ?_
    rintro e w5 ⟨rfl, hb5⟩
    have HB5 := hide' ((HB4.out.up _).trans (hb5.mono (by have := HB4.out.size; simp; omega)))
    have HO5 := hide' ((HO4.out.routs.keep ((Below.refl _ _).up _)).keep hb5)
    have hx := (pbox_new w4 cl lk cd (some ⟨N4, 0, none⟩) rs.length rs.length 30).keep hb5
    have hbox := (HBX.out.keep ((Below.refl _ _).up _)).keep hb5
    clear hb5 HBX HO4
    obtain ⟨p0, p1, p2, p3⟩ := hbox
    obtain ⟨x0, x1, x2, x3⟩ := hx
    have hgg : (g != g) = false := by simp
    have hz5 : w4.heap.size < w5.heap.size := World.block_lt_of_cell? w5 _ x0
    have hz0 : w.heap.size < w5.heap.size := World.block_lt_of_cell? w5 _ p0
    go_wp2_with fail
    go_region_with (first | (go_at_call 10; refine (HT.out _ (HRR.out.keep HB5.out.drew)).mono ?_; rintro e w6 ⟨⟨N6, rfl, hN6, hM6, ho6⟩, hb6⟩; obtain ⟨y0, y1, y2, y3⟩ := PBox.keep (⟨x0, x1, x2, x3⟩ : PBox w4.heap.size cl lk cd (some ⟨N4, 0, none⟩) rs.length rs.length w5) (((Below.refl _ w5).drew).trans hb6)) | (go_at_call 12; refine (HEQ.out _ _ _ _ _ (HO5.out.keep (((Below.refl _ w5).drew).trans hb6)) ho6.routs).mono ?_; rintro e w7 ⟨rfl, hb7⟩))
    all_goals
      have HB7 := hide' ((HB5.out.drew.trans (hb6.mono HB5.out.size)).trans (hb7.mono (Nat.le_trans HB5.out.size hb6.size)))
      clear hb6 hb7 ho6
      go_wp2_with fail
      go_ret
      exact ⟨rfl, HB7.out⟩
end Go.Proofs.YtdifamjkbagfcaaDoor
