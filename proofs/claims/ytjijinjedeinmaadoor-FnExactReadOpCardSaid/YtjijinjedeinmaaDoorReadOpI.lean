/- impl.codeOf and ReadOp: contracts. -/
import Derived.Test.YtjijinjedeinmaaDoorReadOpM
import Derived.Test.YtjijinjedeinmaaDoorPrgC
namespace Go.Proofs.YtjijinjedeinmaaDoor
open Go.RowKit
open Rd Fl

theorem atoi_fix (x : ByteArray) (hx : x.size ≤ 1048576) : ∃ n : Int, (∀ v, Lib.atoiAll x.data.toList = .ok v → n = v) ∧ (x.data.toList = [] → n = 0) ∧
    ∀ w, Env w → Calls Tryd.prog 71 #[.string x] w fun e w' => (∃ ev, e = .returned (.tuple #[.int .i64 n, ev])) ∧ Below w.heap.size w w' := by
  cases hr : Lib.atoiAll x.data.toList
  · refine ⟨_, (fun v' h => by injection h), fun h => ?_, fun w _ => (atoi_ok x hx _ hr w).mono ?_⟩
    · rw [h] at hr; cases hr
    · rintro e w' ⟨rfl, hb⟩
      exact ⟨⟨_, rfl⟩, hb⟩
  · refine ⟨0, (fun v' h => by cases h), fun _ => rfl, fun w hE => ?_⟩
    obtain ⟨t, p, hc⟩ := hE.syn
    refine (Any.strconv_Atoi_syntax Tryd.laysC172 x (by omega) hr _ w hc (.inr ⟨t, p, rfl⟩)).mono ?_
    rintro e w' ⟨N, rfl, _, _, hb⟩
    exact ⟨⟨_, rfl⟩, hb⟩
  · refine ⟨Lib.atoiSat x.data.toList, (fun v' h => by cases h), (fun h => by rw [h] at hr; cases hr), fun w hE => ?_⟩
    obtain ⟨t, p, hc⟩ := hE.rng
    refine (Tryd.strconv_Atoi_range x (by omega) hr _ w hc (.inr ⟨t, p, rfl⟩)).mono ?_
    rintro e w' ⟨N, rfl, _, _, hb⟩
    exact ⟨⟨_, rfl⟩, hb⟩

theorem cutB_any (s : ByteArray) (hs : s.size ≤ 1048576) (A B : List UInt8) (f : Bool) (hc : Lib.cut s.data.toList [32] = (A, B, f)) (w : World) (hE : Env w) :
    Calls Tryd.prog 69 #[.string s, .string ⟨#[32]⟩] w fun e w' => e = .returned (.tuple #[.string ⟨A.toArray⟩, .string ⟨B.toArray⟩, .bool f]) ∧ Below w.heap.size w w' := by
  obtain ⟨m, hm⟩ := hE.len
  refine (Tryd.strings_Cut s ⟨#[32]⟩ m w (by omega) hm).mono ?_
  rintro e w' ⟨rfl, n, rfl⟩
  refine ⟨?_, below_draws (Below.refl _ _) n⟩
  show Ending.returned (.tuple #[.string ⟨(Lib.cut s.data.toList [32]).1.toArray⟩, .string ⟨(Lib.cut s.data.toList [32]).2.1.toArray⟩, .bool (Lib.cut s.data.toList [32]).2.2]) = _
  rw [hc]

theorem new_there (w : World) (c a b : Int) (v : Nat) (t : TypeId) : (w.alloc (.cells #[.int .i64 c, .int .i64 a, .int .i64 b, .float .f64 v] t)).there w.heap.size 0 4 := by
  intro j hj
  refine ⟨?_, World.frozen?_alloc_new _ _ _ _⟩
  rw [World.cell?_alloc_new]
  rcases (by omega : j = 0 ∨ j = 1 ∨ j = 2 ∨ j = 3) with rfl | rfl | rfl | rfl <;> rfl

set_option maxRecDepth 20000 in
set_option maxHeartbeats 1000000 in
theorem codeof_any (x : ByteArray) (kc : Nat) (hk : kc ≤ 17) (hw : ∀ i, 1 ≤ i → i ≤ 17 → ((formW i).toList == x.toList) = decide (i = kc)) (w : World) (hF : Forms w) :
    Calls Tryd.prog 70 #[.string x] w fun e w' => e = .returned (.int .i64 (kc : Int)) ∧ w' = w := by
  have HF := hide' hF
  have HW := hide' hw
  clear hF hw
  go_enter Tryd.func70, Tryd.ntmps70
  go_wp2_with fail
  go_loop [3] (fun c => ∃ i : Nat, 1 ≤ i ∧ i ≤ 18 ∧ c = .int .i64 i ∧ (kc = 0 ∨ i ≤ kc)) (fun c => 18 - (intOf c).toNat)
  case atStart => exact ⟨1, by omega, by omega, rfl, by omega⟩
  case round =>
    obtain ⟨i, h1, h2, rfl, h3⟩ := hrel
    have i1 : (1 : Int) ≤ i := by omega
    by_cases hi : i ≤ 17
    · have i2 : (i : Int) ≤ 17 := by omega
      have f0 := (HF.out i hi).word
      have hq := HW.out i h1 hi
      by_cases he : i = kc
      · rw [decide_eq_true he] at hq
        subst he
        go_wp2_with fail
        go_ret
        exact ⟨rfl, rfl⟩
      · rw [decide_eq_false he] at hq
        go_wp2_with fail
        go_round
        case rel => exact ⟨i + 1, by omega, by omega, by go_num, by omega⟩
        case measure => simp [intOf]; omega
    · have i2 : (17 : Int) < i := by omega
      have hz : kc = 0 := by omega
      subst hz
      go_wp2_with fail
      go_ret
      exact ⟨rfl, rfl⟩

theorem box_set {N : Nat} {c a b : Int} {v : Nat} {w : World} (h : BoxAt N c a b v w) (v' : Nat) : BoxAt N c a b v' (w.setCell ⟨N, 3, none⟩ (.float .f64 v')) :=
  ⟨(World.cell?_setCell_other _ _ _ _ (by simp)).trans h.c, (World.cell?_setCell_other _ _ _ _ (by simp)).trans h.a, (World.cell?_setCell_other _ _ _ _ (by simp)).trans h.b, World.cell?_setCell_same _ _ _ h.v⟩

set_option maxRecDepth 20000 in
set_option maxHeartbeats 4000000 in
theorem ireadop_v (s : ByteArray) (hs : s.size ≤ 1048576) (W R F G : List UInt8) (f1 f2 : Bool) (h1 : Lib.cut s.data.toList [32] = (W, R, f1)) (h2 : Lib.cut R [32] = (F, G, f2)) (hR : R.length ≤ 1048576) (kc : Nat) (hk : kc ≤ 17) (hv : formV kc = true)
    (hw : ∀ i, 1 ≤ i → i ≤ 17 → ((formW i).toList == (ByteArray.mk W.toArray).toList) = decide (i = kc)) (u : Bool) (p : Nat) (bb : Bool) (hA : AgreeAt ⟨F.toArray⟩ u p bb) (X : ByteArray) (q : Bool)
    (hO : ∀ w, EnvT w → Forms w → Calls Tryd.prog 24 #[.agg #[.int .i64 (kc : Int), .int .i64 0, .int .i64 0, .float .f64 (wd u p)]] w fun e w' => e = .returned (.tuple #[.string X, .bool q]) ∧ Below w.heap.size w w') (w : World) (hE : Env w) (hF : Forms w) :
    Calls Tryd.prog 26 #[.string s] w fun e w' => e = .returned (if (q && (X.toList == s.toList)) = true then .tuple #[.agg #[.int .i64 (kc : Int), .int .i64 0, .int .i64 0, .float .f64 (wd u p)], .bool true] else .tuple #[.agg #[.int .i64 0, .int .i64 0, .int .i64 0, .float .f64 0], .bool false]) ∧ Below w.heap.size w w' := by
  obtain ⟨res, hres⟩ : ∃ res, res = (if (q && (X.toList == s.toList)) = true then Value.tuple #[.agg #[.int .i64 (kc : Int), .int .i64 0, .int .i64 0, .float .f64 (wd u p)], .bool true] else .tuple #[.agg #[.int .i64 0, .int .i64 0, .int .i64 0, .float .f64 0], .bool false]) := ⟨_, rfl⟩
  rw [← hres]
  have HRES := hide' hres
  clear hres
  have HC1 := hide' (fun w hE => cutB_any s hs W R f1 h1 w hE)
  have HC2 := hide' (fun w hE => cutB_any ⟨R.toArray⟩ (by show R.toArray.size ≤ _; simpa using hR) F G f2 h2 w hE)
  have HCO := hide' (fun w hF => codeof_any ⟨W.toArray⟩ kc hk hw w hF)
  have HRD := hide' hA.2.2
  have HO := hide' hO
  have HE := hide' hE
  have HF := hide' hF
  have hst := store_f
  have k0 : (0 : Int) ≤ kc := by omega
  have k1 : (kc : Int) < 18 := by omega
  have hk' := hk
  clear h1 h2 hR hw hA hO hE hF hk hs
  go_enter Tryd.func26, Tryd.ntmps26
  go_wp2_with fail
  refine (HC1.out _ (HE.out.below ((Below.refl _ w).up _))).mono ?_
  rintro e w1 ⟨rfl, hb1⟩
  have HB1 := hide' (((Below.refl _ w).up _).trans (hb1.mono (by simp)))
  have HX1 := hide' ((box_new w 0 0 0 0 46).above hb1)
  have HT1 := hide' (there_keep hb1 (new_there w 0 0 0 0 46))
  clear hb1
  go_wp2_with fail
  refine (HC2.out _ (HE.out.below HB1.out)).mono ?_
  rintro e w2 ⟨rfl, hb2⟩
  have HB2 := hide' (HB1.out.trans (hb2.mono HB1.out.size))
  have HT2 := hide' (there_keep hb2 HT1.out)
  clear hb2 HT1 HX1
  go_wp2_with fail
  refine (HCO.out _ (HF.out.below HB2.out)).mono ?_
  rintro e w' ⟨rfl, rfl⟩
  obtain ⟨f0, f1', f2', f3'⟩ := (HF.out.below HB2.out) kc hk'
  have hsz : 0 < w'.heap.size := World.block_lt_of_cell? w' _ f0
  rw [hv] at f1'
  go_wp2_with fail
  refine (HRD.out _ (HE.out.below (HB2.out.up _))).mono ?_
  rintro e w3 ⟨rfl, hb3⟩
  have HB3 := hide' ((HB2.out.up _).trans (hb3.mono (by have := HB2.out.size; simp; omega)))
  obtain ⟨c0, c1, c2, c3⟩ := (box_new w' kc 0 0 0 46).above hb3
  obtain ⟨x0, x1, x2, x3, d0, d1, d2, d3, z0, z1, z2, z3⟩ := four_there (there_keep hb3 (new_there w' kc 0 0 0 46))
  have HT3 := hide' (there_keep hb3 (there_keep ((Below.refl _ _).up _) HT2.out))
  clear hb3 x0 x1 x2 x3 d0 d1 d2 d3 f0 f1' f2' f3'
  go_wp2_with fail
  have HZ3 := hide' (World.block_lt_of_cell? w3 _ c0)
  have HBS := hide' (HB3.out.setCell (p := ⟨w'.heap.size, 3, none⟩) HB2.out.size (.float .f64 (wd u p)))
  have HCB := hide' (box_set ⟨c0, c1, c2, c3⟩ (wd u p))
  have HTS := hide' (World.there_setCells HT3.out w'.heap.size 3 [.float .f64 (wd u p)])
  refine (HO.out _ (HE.out.below HBS.out).t (HF.out.below HBS.out)).mono ?_
  rintro e w4 ⟨rfl, hb4⟩
  have HB4 := hide' (HBS.out.trans (hb4.mono HBS.out.size))
  obtain ⟨g0, g1, g2, g3⟩ := HCB.out.above hb4
  obtain ⟨y0, y1, y2, y3, e0, e1, e2, e3, z4, z5, z6, z7⟩ := four_there (there_keep hb4 HTS.out)
  clear hb4 c0 c1 c2 c3 z0 z1 z2 z3 HT3 HT2 HCB HTS HBS HB3 HZ3
  simp only [Nat.zero_add] at e1 e2 e3 z5 z6 z7
  by_cases hq : (q && (X.toList == s.toList)) = true
  · have HR2 := hide' (HRES.out.trans (if_pos hq))
    rw [Bool.and_eq_true] at hq
    obtain ⟨rfl, hq2⟩ := hq
    have hne : X.toList = s.toList := by simpa using hq2
    clear hq2 HRES
    go_wp2_with fail
    refine bodyPost_ret (v := .tuple #[.agg #[.int .i64 (kc : Int), .int .i64 0, .int .i64 0, .float .f64 (wd u p)], .bool true]) (by simp [results, Tryd.results26, go_sem, e0, e1, e2, e3]) rfl ⟨by rw [HR2.out], ?_⟩
    exact below_cells HB4.out (Nat.le_refl _) [.int .i64 (kc : Int), .int .i64 0, .int .i64 0, .float .f64 (wd u p)] 0
  · have HR2 := hide' (HRES.out.trans (if_neg hq))
    clear HRES
    cases q
    · clear hq
      go_wp2_with fail
      refine bodyPost_ret (v := .tuple #[.agg #[.int .i64 0, .int .i64 0, .int .i64 0, .float .f64 0], .bool false]) (by simp [results, Tryd.results26, go_sem, e0, e1, e2, e3]) rfl ⟨by rw [HR2.out], ?_⟩
      exact below_cells HB4.out (Nat.le_refl _) [.int .i64 0, .int .i64 0, .int .i64 0, .float .f64 0] 0
    · have hne : (X.toList == s.toList) = false := by
        rw [Bool.true_and] at hq
        exact Bool.eq_false_iff.2 hq
      clear hq
      go_wp2_with fail
      refine bodyPost_ret (v := .tuple #[.agg #[.int .i64 0, .int .i64 0, .int .i64 0, .float .f64 0], .bool false]) (by simp [results, Tryd.results26, go_sem, e0, e1, e2, e3]) rfl ⟨by rw [HR2.out], ?_⟩
      exact below_cells HB4.out (Nat.le_refl _) [.int .i64 0, .int .i64 0, .int .i64 0, .float .f64 0] 0
theorem box_setA {N : Nat} {c a b : Int} {v : Nat} {w : World} (h : BoxAt N c a b v w) (a' : Int) : BoxAt N c a' b v (w.setCell ⟨N, 1, none⟩ (.int .i64 a')) :=
  ⟨(World.cell?_setCell_other _ _ _ _ (by simp)).trans h.c, World.cell?_setCell_same _ _ _ h.a, (World.cell?_setCell_other _ _ _ _ (by simp)).trans h.b, (World.cell?_setCell_other _ _ _ _ (by simp)).trans h.v⟩
theorem box_setB {N : Nat} {c a b : Int} {v : Nat} {w : World} (h : BoxAt N c a b v w) (b' : Int) : BoxAt N c a b' v (w.setCell ⟨N, 2, none⟩ (.int .i64 b')) :=
  ⟨(World.cell?_setCell_other _ _ _ _ (by simp)).trans h.c, (World.cell?_setCell_other _ _ _ _ (by simp)).trans h.a, World.cell?_setCell_same _ _ _ h.b, (World.cell?_setCell_other _ _ _ _ (by simp)).trans h.v⟩

set_option maxRecDepth 20000 in
set_option maxHeartbeats 4000000 in
theorem ireadop_n (s : ByteArray) (hs : s.size ≤ 1048576) (W R F G : List UInt8) (f1 f2 : Bool) (h1 : Lib.cut s.data.toList [32] = (W, R, f1)) (h2 : Lib.cut R [32] = (F, G, f2)) (hR : R.length ≤ 1048576) (kc : Nat) (hk : kc ≤ 17) (hv : formV kc = false)
    (hw : ∀ i, 1 ≤ i → i ≤ 17 → ((formW i).toList == (ByteArray.mk W.toArray).toList) = decide (i = kc)) (a b : Int) (hA : ∀ w, Env w → Calls Tryd.prog 71 #[.string ⟨F.toArray⟩] w fun e w' => (∃ ev, e = .returned (.tuple #[.int .i64 a, ev])) ∧ Below w.heap.size w w') (hB : ∀ w, Env w → Calls Tryd.prog 71 #[.string ⟨G.toArray⟩] w fun e w' => (∃ ev, e = .returned (.tuple #[.int .i64 b, ev])) ∧ Below w.heap.size w w') (X : ByteArray) (q : Bool)
    (hO : ∀ w, EnvT w → Forms w → Calls Tryd.prog 24 #[.agg #[.int .i64 (kc : Int), .int .i64 a, .int .i64 b, .float .f64 0]] w fun e w' => e = .returned (.tuple #[.string X, .bool q]) ∧ Below w.heap.size w w') (w : World) (hE : Env w) (hF : Forms w) :
    Calls Tryd.prog 26 #[.string s] w fun e w' => e = .returned (if (q && (X.toList == s.toList)) = true then .tuple #[.agg #[.int .i64 (kc : Int), .int .i64 a, .int .i64 b, .float .f64 0], .bool true] else .tuple #[.agg #[.int .i64 0, .int .i64 0, .int .i64 0, .float .f64 0], .bool false]) ∧ Below w.heap.size w w' := by
  obtain ⟨res, hres⟩ : ∃ res, res = (if (q && (X.toList == s.toList)) = true then Value.tuple #[.agg #[.int .i64 (kc : Int), .int .i64 a, .int .i64 b, .float .f64 0], .bool true] else .tuple #[.agg #[.int .i64 0, .int .i64 0, .int .i64 0, .float .f64 0], .bool false]) := ⟨_, rfl⟩
  rw [← hres]
  have HRES := hide' hres
  clear hres
  have HC1 := hide' (fun w hE => cutB_any s hs W R f1 h1 w hE)
  have HC2 := hide' (fun w hE => cutB_any ⟨R.toArray⟩ (by show R.toArray.size ≤ _; simpa using hR) F G f2 h2 w hE)
  have HCO := hide' (fun w hF => codeof_any ⟨W.toArray⟩ kc hk hw w hF)
  have HRA := hide' hA
  have HRB := hide' hB
  have HO := hide' hO
  have HE := hide' hE
  have HF := hide' hF
  have hst := store_f
  have k0 : (0 : Int) ≤ kc := by omega
  have k1 : (kc : Int) < 18 := by omega
  have hk' := hk
  clear h1 h2 hR hw hA hB hO hE hF hk hs
  go_enter Tryd.func26, Tryd.ntmps26
  go_wp2_with fail
  refine (HC1.out _ (HE.out.below ((Below.refl _ w).up _))).mono ?_
  rintro e w1 ⟨rfl, hb1⟩
  have HB1 := hide' (((Below.refl _ w).up _).trans (hb1.mono (by simp)))
  have HX1 := hide' ((box_new w 0 0 0 0 46).above hb1)
  have HT1 := hide' (there_keep hb1 (new_there w 0 0 0 0 46))
  clear hb1
  go_wp2_with fail
  refine (HC2.out _ (HE.out.below HB1.out)).mono ?_
  rintro e w2 ⟨rfl, hb2⟩
  have HB2 := hide' (HB1.out.trans (hb2.mono HB1.out.size))
  have HT2 := hide' (there_keep hb2 HT1.out)
  clear hb2 HT1 HX1
  go_wp2_with fail
  refine (HCO.out _ (HF.out.below HB2.out)).mono ?_
  rintro e w' ⟨rfl, rfl⟩
  obtain ⟨f0, f1', f2', f3'⟩ := (HF.out.below HB2.out) kc hk'
  have hsz : 0 < w'.heap.size := World.block_lt_of_cell? w' _ f0
  rw [hv] at f1'
  go_wp2_with fail
  refine (HRA.out _ (HE.out.below (HB2.out.up _))).mono ?_
  rintro e w3 ⟨⟨ev, rfl⟩, hb3⟩
  have HB3 := hide' ((HB2.out.up _).trans (hb3.mono (by have := HB2.out.size; simp; omega)))
  obtain ⟨c0, c1, c2, c3⟩ := (box_new w' kc 0 0 0 46).above hb3
  obtain ⟨x0, x1, x2, x3, d0, d1, d2, d3, z0, z1, z2, z3⟩ := four_there (there_keep hb3 (new_there w' kc 0 0 0 46))
  have HT3 := hide' (there_keep hb3 (there_keep ((Below.refl _ _).up _) HT2.out))
  have HN3 := hide' (there_keep hb3 (new_there w' kc 0 0 0 46))
  clear hb3 x0 x1 x2 x3 d0 d1 d2 d3 f0 f1' f2' f3'
  go_wp2_with fail
  have HBS := hide' (HB3.out.setCell (p := ⟨w'.heap.size, 1, none⟩) HB2.out.size (.int .i64 a))
  have HCB := hide' (box_setA ⟨c0, c1, c2, c3⟩ a)
  have HTS := hide' (World.there_setCells HT3.out w'.heap.size 1 [.int .i64 a])
  have HNS := hide' (World.there_setCells HN3.out w'.heap.size 1 [.int .i64 a])
  clear c0 c1 c2 c3 z0 z1 z2 z3 HT3 HN3
  refine (HRB.out _ (HE.out.below HBS.out)).mono ?_
  rintro e w5 ⟨⟨ev2, rfl⟩, hb5⟩
  have HB5 := hide' (HBS.out.trans (hb5.mono HBS.out.size))
  obtain ⟨c0, c1, c2, c3⟩ := HCB.out.above hb5
  obtain ⟨x0, x1, x2, x3, d0, d1, d2, d3, z0, z1, z2, z3⟩ := four_there (there_keep hb5 HNS.out)
  have HT5 := hide' (there_keep hb5 HTS.out)
  clear hb5 x0 x1 x2 x3 d0 d1 d2 d3 HTS HNS HCB HBS
  simp only [Nat.zero_add] at z1 z2 z3
  go_wp2_with fail
  have HBS := hide' (HB5.out.setCell (p := ⟨w'.heap.size, 2, none⟩) HB2.out.size (.int .i64 b))
  have HCB := hide' (box_setB ⟨c0, c1, c2, c3⟩ b)
  have HTS := hide' (World.there_setCells HT5.out w'.heap.size 2 [.int .i64 b])
  refine (HO.out _ (HE.out.below HBS.out).t (HF.out.below HBS.out)).mono ?_
  rintro e w4 ⟨rfl, hb4⟩
  have HB4 := hide' (HBS.out.trans (hb4.mono HBS.out.size))
  obtain ⟨g0, g1, g2, g3⟩ := HCB.out.above hb4
  obtain ⟨y0, y1, y2, y3, e0, e1, e2, e3, z4, z5, z6, z7⟩ := four_there (there_keep hb4 HTS.out)
  clear hb4 c0 c1 c2 c3 z0 z1 z2 z3 HT5 HT2 HCB HTS HBS HB3 HB5
  simp only [Nat.zero_add] at e1 e2 e3 z5 z6 z7
  by_cases hq : (q && (X.toList == s.toList)) = true
  · have HR2 := hide' (HRES.out.trans (if_pos hq))
    rw [Bool.and_eq_true] at hq
    obtain ⟨rfl, hq2⟩ := hq
    have hne : X.toList = s.toList := by simpa using hq2
    clear hq2 HRES
    go_wp2_with fail
    refine bodyPost_ret (v := .tuple #[.agg #[.int .i64 (kc : Int), .int .i64 a, .int .i64 b, .float .f64 0], .bool true]) (by simp [results, Tryd.results26, go_sem, e0, e1, e2, e3]) rfl ⟨by rw [HR2.out], ?_⟩
    exact below_cells HB4.out (Nat.le_refl _) [.int .i64 (kc : Int), .int .i64 a, .int .i64 b, .float .f64 0] 0
  · have HR2 := hide' (HRES.out.trans (if_neg hq))
    clear HRES
    cases q
    · clear hq
      go_wp2_with fail
      refine bodyPost_ret (v := .tuple #[.agg #[.int .i64 0, .int .i64 0, .int .i64 0, .float .f64 0], .bool false]) (by simp [results, Tryd.results26, go_sem, e0, e1, e2, e3]) rfl ⟨by rw [HR2.out], ?_⟩
      exact below_cells HB4.out (Nat.le_refl _) [.int .i64 0, .int .i64 0, .int .i64 0, .float .f64 0] 0
    · have hne : (X.toList == s.toList) = false := by
        rw [Bool.true_and] at hq
        exact Bool.eq_false_iff.2 hq
      clear hq
      go_wp2_with fail
      refine bodyPost_ret (v := .tuple #[.agg #[.int .i64 0, .int .i64 0, .int .i64 0, .float .f64 0], .bool false]) (by simp [results, Tryd.results26, go_sem, e0, e1, e2, e3]) rfl ⟨by rw [HR2.out], ?_⟩
      exact below_cells HB4.out (Nat.le_refl _) [.int .i64 0, .int .i64 0, .int .i64 0, .float .f64 0] 0
end Go.Proofs.YtjijinjedeinmaaDoor
