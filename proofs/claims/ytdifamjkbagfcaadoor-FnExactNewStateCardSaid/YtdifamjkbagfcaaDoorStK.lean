/- Good states: the code's side, its loops. -/
import Derived.Test.YtdifamjkbagfcaaDoorStJ
namespace Go.Proofs.YtdifamjkbagfcaaDoor
open Go.RowKit
open Rd Fl

set_option maxRecDepth 20000 in
set_option maxHeartbeats 8000000 in
theorem igoodst_yes (cl lk cd : Int) (R : Option Addr) (rs : List (List OpD)) (cap : Nat) (T C O : Option Addr) (s : StD) (k1 k2 k3 : Nat) (ho : s.ow.length ≤ 1048576) (hh : hdB cl lk s.ts.length s.cl.length s.ow.length s.ft = true) (w : World) (hR : RoutsAt w R rs) (hS : StAt w T C O s)
    (HG : Hid (Calls Tryd.prog 37 #[.agg #[.int .i64 cl, .int .i64 lk, .int .i64 cd, .slice R rs.length cap]] (stW w cl lk cd R rs.length cap T C O s.ts.length k1 s.cl.length k2 s.ow.length k3 s.ft) fun e w' => e = .returned (.bool true) ∧ Below (stW w cl lk cd R rs.length cap T C O s.ts.length k1 s.cl.length k2 s.ow.length k3 s.ft).heap.size (stW w cl lk cd R rs.length cap T C O s.ts.length k1 s.cl.length k2 s.ow.length k3 s.ft) w')) :
    Calls Tryd.prog 64 #[.agg #[.int .i64 cl, .int .i64 lk, .int .i64 cd, .slice R rs.length cap], .agg #[.slice T s.ts.length k1, .slice C s.cl.length k2, .slice O s.ow.length k3, .int .i64 s.ft]] w fun e w' => e = .returned (.bool (s.ts.all (thB lk cd rs) && s.ow.all (inB (-1) ((s.ts.length : Int) - 1)))) ∧ Below w.heap.size w w' := by
  have HB := hide' (stW_below w cl lk cd R rs.length cap T C O s.ts.length k1 s.cl.length k2 s.ow.length k3 s.ft)
  have HP := hide' (stW_p w cl lk cd R rs.length cap T C O s.ts.length k1 s.cl.length k2 s.ow.length k3 s.ft)
  have HQ := hide' (stW_s w cl lk cd R rs.length cap T C O s.ts.length k1 s.cl.length k2 s.ow.length k3 s.ft)
  obtain ⟨ts, clls, ow, ft⟩ := s
  obtain ⟨g1, g2, g3, g4⟩ := hd_all hh
  simp only at *
  have hn1 : (1 : Int) ≤ ts.length := g1.1
  have hl' : (ts.length : Int) ≤ 5 := g1.2
  have hol : (ow.length : Int) ≤ 1048576 := by omega
  have hf0 : 0 ≤ ft := g4.1
  have hf4 : ft ≤ 4 := g4.2
  have HLT := hide' (fun t S kp w hR => goodth_any cl lk cd R rs cap t S kp w hR)
  have HRR := hide' hR
  obtain ⟨b, off, hA1, hc⟩ := hS.t
  have hA2 := hA1 (by intro h; simp only at h; rw [h] at g1; simp at g1)
  subst hA2
  have HC := hide' (fun i (hi : i < ts.length) => hc i ts[i] (List.getElem?_eq_getElem hi))
  obtain ⟨b2, off2, hO1, hd⟩ := hS.o
  have HD := hide' (fun i (hi : i < ow.length) => hd i ow[i] (List.getElem?_eq_getElem hi))
  have HOA := hide' hO1
  simp only at HD HC HOA
  generalize clls.length = n2 at *
  generalize rs.length = nr at HLT HG HB HP HQ ⊢
  have hAO : ow.all (inB (-1) ((ts.length : Int) - 1)) = false → (ts.all (thB lk cd rs) && ow.all (inB (-1) ((ts.length : Int) - 1))) = false := fun h => by rw [h, Bool.and_false]
  have hAT : ts.all (thB lk cd rs) = false → (ts.all (thB lk cd rs) && ow.all (inB (-1) ((ts.length : Int) - 1))) = false := fun h => by rw [h, Bool.false_and]
  have hAA : ts.all (thB lk cd rs) = true → ow.all (inB (-1) ((ts.length : Int) - 1)) = true → (ts.all (thB lk cd rs) && ow.all (inB (-1) ((ts.length : Int) - 1))) = true := fun h h2 => by rw [h, h2]; rfl
  have HAO := hide' hAO
  have HAT := hide' hAT
  have HAA := hide' hAA
  clear hc hA1 hh g1 g4 hS hR hd hO1 ho hAO hAT hAA
  go_enter Tryd.func64, Tryd.ntmps64
  go_wp2_with (go_at_call 37; refine HG.out.mono ?_; rintro e w1 ⟨rfl, hb1⟩; have P1 := hide' (HP.out.keep hb1); have Q1 := hide' (HQ.out.keep hb1); have B1 := hide' (HB.out.trans (hb1.mono HB.out.size)); obtain ⟨p0, p1, p2, p3⟩ := P1.out; obtain ⟨q0, q1, q2, q3⟩ := Q1.out)
  clear g2 hb1 HG HB HP HQ
  go_loop [51] (fun i => ∃ k : Nat, k ≤ ow.length ∧ i = .int .i64 k ∧ Hid (∀ x ∈ ow.take k, inB (-1) ((ts.length : Int) - 1) x = true)) (fun i => ow.length - (intOf i).toNat)
  case atStart => exact ⟨0, Nat.zero_le _, rfl, fun x hx => by cases hx⟩
  case round =>
    obtain ⟨k, hk, rfl, hdone⟩ := hrel
    by_cases hlt : k < ow.length
    · have hO := HOA.out (by intro h; rw [h] at hlt; simp at hlt)
      subst hO
      have c0 : _ = some (Value.int .i64 ow[k]) := keep_cell B1.out (HD.out k hlt)
      have HS := hide' (fun h => all_take_succ (p := inB (-1) ((ts.length : Int) - 1)) hlt hdone.out h)
      have HF := hide' (fun h => HAO.out (all_false_at (p := inB (-1) ((ts.length : Int) - 1)) hlt h))
      generalize ow[k] = o at c0 HS HF
      rcases (by omega : o < -1 ∨ (-1 ≤ o ∧ (ts.length : Int) ≤ o) ∨ (-1 ≤ o ∧ o < (ts.length : Int))) with h1 | ⟨h1, h2⟩ | ⟨h1, h2⟩
      · have HN := hide' (HF.out (by unfold inB; rw [decide_eq_false_iff_not]; omega))
        clear HS HF
        go_wp2_with fail
        go_ret
        exact ⟨by rw [HN.out]; rfl, B1.out⟩
      · have HN := hide' (HF.out (by unfold inB; rw [decide_eq_false_iff_not]; omega))
        clear HS HF
        go_wp2_with fail
        go_ret
        exact ⟨by rw [HN.out]; rfl, B1.out⟩
      · have HN := hide' (HS.out (by unfold inB; rw [decide_eq_true_eq]; omega))
        clear HS HF
        go_wp2_with fail
        go_round
        case rel => exact ⟨k + 1, by omega, by go_num, HN.out⟩
        case measure => simp [intOf]; omega
    · have hke : k = ow.length := by omega
      subst hke
      have HAW := hide' (all_take_all hdone.out)
      clear hdone hlt hk
      go_wp2_with fail
      go_loopw [68] (fun i wr => ∃ k : Nat, k ≤ ts.length ∧ i = .int .i64 k ∧ Hid (∀ t ∈ ts.take k, thB lk cd rs t = true) ∧ Hid (PBox w.heap.size cl lk cd R nr cap wr) ∧ Hid (Below w.heap.size w wr)) (fun i _ => ts.length - (intOf i).toNat)
      case atStart => exact ⟨0, Nat.zero_le _, rfl, (fun l hl => by cases hl), P1.out, B1.out⟩
      case round =>
        clear p0 p1 p2 p3 q0 q1 q2 q3
        obtain ⟨k, hk, rfl, hdone, hbox, hbw⟩ := hrel
        by_cases hlt : k < ts.length
        · obtain ⟨S, cp, x1, -⟩ := HC.out k hlt
          obtain ⟨c0, c1, c2, c3, c4, c5⟩ := th_range (range_keep hbw.out x1)
          have HDS := hide' (fun h => all_take_succ (p := thB lk cd rs) hlt hdone.out h)
          have HDF := hide' (fun h => HAT.out (all_false_at (p := thB lk cd rs) hlt h))
          clear x1
          generalize ts[k] = t at c0 c1 c2 c3 c4 c5 HDS HDF
          obtain ⟨p0, p1, p2, p3⟩ := hbox.out
          have hzx : w.heap.size < wr.heap.size := World.block_lt_of_cell? wr _ p0
          cases hok : thB lk cd rs t
          · have HNO := hide' (HDF.out hok)
            have HL := hide' (fun w hR => HLT.out t S cp w hR)
            rw [hok] at HL
            clear hok HDS HDF HLT
            go_wp2_with (go_at_call 90; refine (HL.out _ (HRR.out.keep (hbw.out.up _))).mono ?_; rintro e w2 ⟨rfl, hb2⟩)
            go_ret
            exact ⟨by rw [HNO.out]; rfl, (hbw.out.up _).trans (hb2.mono (by have := hbw.out.size; simp; omega))⟩
          · have HNO := hide' (HDS.out hok)
            have HL := hide' (fun w hR => HLT.out t S cp w hR)
            rw [hok] at HL
            clear hok HDS HDF HLT
            go_wp2_with (go_at_call 90; refine (HL.out _ (HRR.out.keep (hbw.out.up _))).mono ?_; rintro e w2 ⟨rfl, hb2⟩)
            go_roundw
            case rel => exact ⟨k + 1, by omega, by go_num, HNO.out, hbox.out.keep (((Below.refl _ _).up _).trans (hb2.mono (by simp))), (hbw.out.up _).trans (hb2.mono (by have := hbw.out.size; simp; omega))⟩
            case measure => simp [intOf]; omega
        · have hke : k = ts.length := by omega
          subst hke
          have HNO := hide' (HAA.out (all_take_all hdone.out) HAW.out)
          go_wp2_with fail
          go_ret
          exact ⟨by rw [HNO.out]; rfl, hbw.out⟩

theorem goodst_both (cl lk cd : Int) (rs : List (List OpD)) (hl : rs.length ≤ 1048576) (hls : ∀ l ∈ rs, l.length ≤ 1048576) (hr : ∀ l ∈ rs, ∀ o ∈ l, o.r < 9223372036854775808) (s : StD) (ho : s.ow.length ≤ 1048576) :
    (∀ R cap T C O k1 k2 k3 w, RoutsAt w R rs → StAt w T C O s → Calls Tryd.prog 59 #[.agg #[.int .i64 cl, .int .i64 lk, .int .i64 cd, .slice R rs.length cap], .agg #[.slice T s.ts.length k1, .slice C s.cl.length k2, .slice O s.ow.length k3, .int .i64 s.ft]] w fun e w' => e = .returned (.bool (goodSt cl lk cd rs s)) ∧ Below w.heap.size w w') ∧
    (∀ R cap T C O k1 k2 k3 w, RoutsAt w R rs → StAt w T C O s → Forms w → Calls Tryd.prog 64 #[.agg #[.int .i64 cl, .int .i64 lk, .int .i64 cd, .slice R rs.length cap], .agg #[.slice T s.ts.length k1, .slice C s.cl.length k2, .slice O s.ow.length k3, .int .i64 s.ft]] w fun e w' => e = .returned (.bool (goodSt cl lk cd rs s)) ∧ Below w.heap.size w w') := by
  refine ⟨fun R cap T C O k1 k2 k3 w hR hS => sgoodst_any cl lk cd R rs cap hl hls hr T C O s k1 k2 k3 ho w hR hS, fun R cap T C O k1 k2 k3 w hR hS hF => ?_⟩
  have hb := stW_below w cl lk cd R rs.length cap T C O s.ts.length k1 s.cl.length k2 s.ow.length k3 s.ft
  have HG := (good_both cl lk cd rs hl hls hr).2 R cap _ (hR.keep hb) (hF.below hb)
  unfold goodSt
  cases hg : goodS cl lk cd rs
  · rw [hg] at HG
    exact igoodst_no cl lk cd R rs cap T C O _ k1 _ k2 _ k3 s.ft false (.inl rfl) w HG
  · rw [hg] at HG
    unfold stB
    cases hh : hdB cl lk s.ts.length s.cl.length s.ow.length s.ft
    · exact igoodst_no cl lk cd R rs cap T C O _ k1 _ k2 _ k3 s.ft true (.inr ⟨rfl, hh⟩) w HG
    · exact igoodst_yes cl lk cd R rs cap T C O s k1 k2 k3 ho hh w hR hS HG
end Go.Proofs.YtdifamjkbagfcaaDoor
