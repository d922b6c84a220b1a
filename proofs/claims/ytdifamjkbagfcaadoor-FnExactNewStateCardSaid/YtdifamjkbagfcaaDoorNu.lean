/- A new state: the code's side. -/
import Derived.Test.YtdifamjkbagfcaaDoorNt
import Derived.Deep.RegionWith
namespace Go.Proofs.YtdifamjkbagfcaaDoor
open Go.RowKit
open Rd Fl

set_option maxRecDepth 20000 in
set_option maxHeartbeats 2000000 in
theorem snew_no (cl lk cd : Int) (R : Option Addr) (n cap : Nat) (w : World)
    (HG : ∀ wx, Below w.heap.size w wx → Calls Tryd.prog 34 #[.agg #[.int .i64 cl, .int .i64 lk, .int .i64 cd, .slice R n cap]] wx fun e w' => e = .returned (.bool false) ∧ Below wx.heap.size wx w') :
    Calls Tryd.prog 19 #[.agg #[.int .i64 cl, .int .i64 lk, .int .i64 cd, .slice R n cap]] w fun e w' => (∃ v, e = .returned (.tuple #[v, .bool false]) ∧ ResS zeroSt w' w.heap.size w'.heap.size v) ∧ Below w.heap.size w w' := by
  have HIG := hide' HG
  have hr0 := alloc_there (w.alloc (.cells #[.int .i64 cl, .int .i64 lk, .int .i64 cd, .slice R n cap] 30)) #[.slice none 0 0, .slice none 0 0, .slice none 0 0, .int .i64 0] 43 4 (by simp)
  rw [show (w.alloc (.cells #[.int .i64 cl, .int .i64 lk, .int .i64 cd, .slice R n cap] 30)).heap.size = w.heap.size + 1 by simp] at hr0
  have HR0 := hide' hr0
  have B0 := hide' (below2 w (.cells #[.int .i64 cl, .int .i64 lk, .int .i64 cd, .slice R n cap] 30) (.cells #[.slice none 0 0, .slice none 0 0, .slice none 0 0, .int .i64 0] 43))
  clear HG hr0
  go_enter Tryd.func19, Tryd.ntmps19
  go_wp2_with (go_at_call 34; refine (HIG.out _ B0.out).mono ?_; rintro e w1 ⟨rfl, hb1⟩; have B1 := hide' (B0.out.trans (hb1.mono B0.out.size)); obtain ⟨y0, y1, y2, y3, e0, e1, e2, e3, z0, z1, z2, z3⟩ := four_there (there_keep hb1 HR0.out); simp only [Nat.zero_add] at e1 e2 e3 z1 z2 z3)
  refine bodyPost_ret (v := .tuple #[.agg #[.slice none 0 0, .slice none 0 0, .slice none 0 0, .int .i64 0], .bool false]) (by simp [results, Tryd.results19, go_sem, e0, e1, e2, e3]) rfl ?_
  refine ⟨⟨_, rfl, zero_res _ _⟩, ?_⟩
  iterate 4 refine below_set ?_ _ _ _ (by omega)
  exact B1.out

set_option maxRecDepth 20000 in
set_option maxHeartbeats 2000000 in
theorem inew_no (cl lk cd : Int) (R : Option Addr) (n cap : Nat) (w : World)
    (HG : ∀ wx, Below w.heap.size w wx → Calls Tryd.prog 37 #[.agg #[.int .i64 cl, .int .i64 lk, .int .i64 cd, .slice R n cap]] wx fun e w' => e = .returned (.bool false) ∧ Below wx.heap.size wx w') :
    Calls Tryd.prog 20 #[.agg #[.int .i64 cl, .int .i64 lk, .int .i64 cd, .slice R n cap]] w fun e w' => (∃ v, e = .returned (.tuple #[v, .bool false]) ∧ ResS zeroSt w' w.heap.size w'.heap.size v) ∧ Below w.heap.size w w' := by
  have HIG := hide' HG
  have hr0 := alloc_there (w.alloc (.cells #[.int .i64 cl, .int .i64 lk, .int .i64 cd, .slice R n cap] 30)) #[.slice none 0 0, .slice none 0 0, .slice none 0 0, .int .i64 0] 43 4 (by simp)
  rw [show (w.alloc (.cells #[.int .i64 cl, .int .i64 lk, .int .i64 cd, .slice R n cap] 30)).heap.size = w.heap.size + 1 by simp] at hr0
  have HR0 := hide' hr0
  have B0 := hide' (below2 w (.cells #[.int .i64 cl, .int .i64 lk, .int .i64 cd, .slice R n cap] 30) (.cells #[.slice none 0 0, .slice none 0 0, .slice none 0 0, .int .i64 0] 43))
  clear HG hr0
  go_enter Tryd.func20, Tryd.ntmps20
  go_wp2_with (go_at_call 37; refine (HIG.out _ B0.out).mono ?_; rintro e w1 ⟨rfl, hb1⟩; have B1 := hide' (B0.out.trans (hb1.mono B0.out.size)); obtain ⟨y0, y1, y2, y3, e0, e1, e2, e3, z0, z1, z2, z3⟩ := four_there (there_keep hb1 HR0.out); simp only [Nat.zero_add] at e1 e2 e3 z1 z2 z3)
  refine bodyPost_ret (v := .tuple #[.agg #[.slice none 0 0, .slice none 0 0, .slice none 0 0, .int .i64 0], .bool false]) (by simp [results, Tryd.results20, go_sem, e0, e1, e2, e3]) rfl ?_
  refine ⟨⟨_, rfl, zero_res _ _⟩, ?_⟩
  iterate 4 refine below_set ?_ _ _ _ (by omega)
  exact B1.out

/-- What the code's loop keeps: the program's box, the answer's cell, the owners. -/
structure Iw (w : World) (a b : Nat) (cd : Int) (R : Option Addr) (n cap M k : Nat) (wr : World) : Prop where
  p : PBox w.heap.size a b cd R n cap wr
  r : wr.there (w.heap.size + 1) 0 4
  bl : Below w.heap.size w wr
  o : wr.there M 0 b
  c : ∀ i : Nat, i < k → wr.cell? ⟨M, i, none⟩ = some (.int .i64 (-1))
  q : w.heap.size + 1 < M
  z : M < wr.heap.size
theorem Iw.keep {w : World} {a b : Nat} {cd : Int} {R : Option Addr} {n cap M k : Nat} {wr wx : World} (h : Iw w a b cd R n cap M k wr) (hb : Below wr.heap.size wr wx) : Iw w a b cd R n cap M k wx :=
  ⟨h.p.keep hb, there_keep hb h.r, h.bl.trans (hb.mono h.bl.size), there_keep hb h.o, fun i hi => keep_cell hb (h.c i hi), h.q, Nat.lt_of_lt_of_le h.z hb.size⟩
theorem Iw.step {w : World} {a b : Nat} {cd : Int} {R : Option Addr} {n cap M k : Nat} {wr : World} (h : Iw w a b cd R n cap M k wr) (hk : k < b) : Iw w a b cd R n cap M (k + 1) (wr.setCell ⟨M, k, none⟩ (.int .i64 (-1))) := by
  have q := h.q
  refine ⟨⟨set_other h.p.c0 (by omega), set_other h.p.c1 (by omega), set_other h.p.c2 (by omega), set_other h.p.c3 (by omega)⟩, there_set h.r _ _ _, below_set h.bl _ _ _ (by omega), there_set h.o _ _ _, fun i hi => ?_, q, by rw [set_size]; exact h.z⟩
  by_cases e : i = k
  · subst e
    obtain ⟨y, hy⟩ := Option.isSome_iff_exists.1 (h.o i hk).1
    rw [Nat.zero_add] at hy
    exact World.cell?_setCell_same _ _ _ hy
  · exact set_other (h.c i (by omega)) (by omega)
theorem Iw.own {w : World} {a b : Nat} {cd : Int} {R : Option Addr} {n cap M : Nat} {wr : World} (h : Iw w a b cd R n cap M b wr) : LOwn iv wr M (List.replicate b (-1)) := by
  refine ⟨by rw [List.length_replicate]; exact h.o, fun i x hx => ?_⟩
  have hi := (List.getElem?_eq_some_iff.1 hx).1
  rw [List.getElem?_replicate, if_pos (by simpa using hi)] at hx
  cases hx
  exact h.c i (by simpa using hi)
theorem made_own (w : World) (a : Nat) : LOwn fv (w.alloc (.cells (madeCells #[.float .f64 0] a) 75)) w.heap.size (List.replicate a (false, 0)) := by
  refine ⟨by rw [List.length_replicate]; exact made_there w _ _ _, fun i x hx => ?_⟩
  have hi : i < a := by simpa using (List.getElem?_eq_some_iff.1 hx).1
  rw [List.getElem?_replicate, if_pos hi] at hx
  cases hx
  rw [World.cell?_alloc_new]
  have : (madeCells #[.float .f64 0] a)[i]? = some (.float .f64 0) := by
    rw [← Array.getElem?_toList, toList_madeCells_one, List.getElem?_replicate, if_pos hi]
  rw [this]; rfl

/-- four cells of the answer's block -/
def set4 (w : World) (N : Nat) (v0 v1 v2 v3 : Value) : World := (((w.setCell ⟨N, 0, none⟩ v0).setCell ⟨N, 1, none⟩ v1).setCell ⟨N, 2, none⟩ v2).setCell ⟨N, 3, none⟩ v3
theorem set4_size (w : World) (N : Nat) (v0 v1 v2 v3 : Value) : (set4 w N v0 v1 v2 v3).heap.size = w.heap.size := by unfold set4; simp only [set_size]
theorem set4_cells {w : World} {N : Nat} (h : w.there N 0 4) (v0 v1 v2 v3 : Value) : (set4 w N v0 v1 v2 v3).cell? ⟨N, 0, none⟩ = some v0 ∧ (set4 w N v0 v1 v2 v3).cell? ⟨N, 1, none⟩ = some v1 ∧ (set4 w N v0 v1 v2 v3).cell? ⟨N, 2, none⟩ = some v2 ∧ (set4 w N v0 v1 v2 v3).cell? ⟨N, 3, none⟩ = some v3 := by
  obtain ⟨y0, y1, y2, y3, e0, e1, e2, e3, -⟩ := four_there h
  simp only [Nat.zero_add] at e1 e2 e3
  unfold set4
  exact ⟨set_other (set_other (set_other (World.cell?_setCell_same _ _ _ e0) (by omega)) (by omega)) (by omega), set_other (set_other (World.cell?_setCell_same _ _ _ (set_other e1 (by omega))) (by omega)) (by omega), set_other (World.cell?_setCell_same _ _ _ (set_other (set_other e2 (by omega)) (by omega))) (by omega), World.cell?_setCell_same _ _ _ (set_other (set_other (set_other e3 (by omega)) (by omega)) (by omega))⟩
theorem Iw.set4 {w : World} {a b : Nat} {cd : Int} {R : Option Addr} {n cap M k : Nat} {wr : World} (h : Iw w a b cd R n cap M k wr) (v0 v1 v2 v3 : Value) : Iw w a b cd R n cap M k (set4 wr (w.heap.size + 1) v0 v1 v2 v3) := by
  have q := h.q
  have so : ∀ {N o : Nat} {u : Value}, N ≠ w.heap.size + 1 → wr.cell? ⟨N, o, none⟩ = some u → (_root_.Go.Proofs.YtdifamjkbagfcaaDoor.set4 wr (w.heap.size + 1) v0 v1 v2 v3).cell? ⟨N, o, none⟩ = some u := fun hN hc => set_other (set_other (set_other (set_other hc (.inl hN)) (.inl hN)) (.inl hN)) (.inl hN)
  have st : ∀ {N o n : Nat}, wr.there N o n → (_root_.Go.Proofs.YtdifamjkbagfcaaDoor.set4 wr (w.heap.size + 1) v0 v1 v2 v3).there N o n := fun ht => there_set (there_set (there_set (there_set ht _ _ _) _ _ _) _ _ _) _ _ _
  exact ⟨⟨so (by omega) h.p.c0, so (by omega) h.p.c1, so (by omega) h.p.c2, so (by omega) h.p.c3⟩, st h.r, below_set (below_set (below_set (below_set h.bl _ _ _ (by omega)) _ _ _ (by omega)) _ _ _ (by omega)) _ _ _ (by omega), st h.o, fun i hi => so (by omega) (h.c i hi), q, by rw [set4_size]; exact h.z⟩
theorem inew_end {w : World} {a b : Nat} (ha : a ≤ 4) (hb : b ≤ 4) {cd : Int} {R : Option Addr} {n cap M N1 N2 : Nat} {w3 : World} (h : Iw w a b cd R n cap M b w3) (h1 : w.heap.size + 1 < N1) (h2 : N1 < w3.heap.size)
    (ht : w3.rangeAt N1 0 [.int .i64 0, .int .i64 0, .int .i64 1, .int .i64 (-1), .int .i64 (-1), .slice none 0 0]) (hth : w3.there N1 0 6) (h3 : w.heap.size + 1 < N2) (h4 : N2 < w3.heap.size) (hc : LOwn fv w3 N2 (List.replicate a (false, 0))) (e12 : N1 ≠ N2) (e13 : N1 ≠ M) (e23 : N2 ≠ M) :
    ResS (newSt a b) w3 w.heap.size w3.heap.size (.agg #[.slice (some ⟨N1, 0, none⟩) 1 1, .slice (some ⟨N2, 0, none⟩) a a, .slice (some ⟨M, 0, none⟩) b b, .int .i64 0]) ∧ Below w.heap.size w w3 := by
  have q := h.q
  have z := h.z
  exact ⟨new_res ha hb (by omega) h2 ht hth (fun _ => ⟨rfl, by omega, h4, h4, hc⟩) (fun _ => ⟨rfl, by omega, z, z, h.own⟩) (fun _ => e12) (fun _ => e13) (fun _ _ => e23), h.bl⟩
theorem th_new (w : World) (t : TypeId) : (w.alloc (.cells #[.int .i64 0, .int .i64 0, .int .i64 1, .int .i64 (-1), .int .i64 (-1), .slice none 0 0] t)).rangeAt w.heap.size 0 [.int .i64 0, .int .i64 0, .int .i64 1, .int .i64 (-1), .int .i64 (-1), .slice none 0 0] := by
  intro j v hv
  rw [World.cell?_alloc_new, Nat.zero_add]
  simpa using hv

theorem inew_end1 {w : World} {a b : Nat} (ha : a ≤ 4) (hb : b ≤ 4) {cd : Int} {R : Option Addr} {n cap M : Nat} {w2 : World} (I2 : Iw w a b cd R n cap M b w2) :
    ResS (newSt a b) ((w2.alloc (.cells #[.int .i64 0, .int .i64 0, .int .i64 1, .int .i64 (-1), .int .i64 (-1), .slice none 0 0] 88)).alloc (.cells (madeCells #[.float .f64 0] a) 75)) w.heap.size ((w2.alloc (.cells #[.int .i64 0, .int .i64 0, .int .i64 1, .int .i64 (-1), .int .i64 (-1), .slice none 0 0] 88)).alloc (.cells (madeCells #[.float .f64 0] a) 75)).heap.size (.agg #[.slice (some ⟨w2.heap.size, 0, none⟩) 1 1, .slice (some ⟨w2.heap.size + 1, 0, none⟩) a a, .slice (some ⟨M, 0, none⟩) b b, .int .i64 0]) ∧ Below w.heap.size w ((w2.alloc (.cells #[.int .i64 0, .int .i64 0, .int .i64 1, .int .i64 (-1), .int .i64 (-1), .slice none 0 0] 88)).alloc (.cells (madeCells #[.float .f64 0] a) 75)) := by
  have hq := I2.q
  have hz := I2.z
  exact inew_end ha hb (I2.keep (below2 w2 _ _)) (by omega) (by simp; omega) (range_keep ((Below.refl _ _).up _) (th_new w2 _)) (there_keep ((Below.refl _ _).up _) (alloc_there w2 _ _ 6 (by simp))) (by omega) (by simp) (by have := made_own (w2.alloc (.cells #[.int .i64 0, .int .i64 0, .int .i64 1, .int .i64 (-1), .int .i64 (-1), .slice none 0 0] 88)) a; simpa using this) (by omega) (by omega) (by omega)
theorem inew_end2 {w : World} {a b : Nat} (ha : a ≤ 4) (hb : b ≤ 4) {cd : Int} {R : Option Addr} {n cap M : Nat} {w2 : World} (I2 : Iw w a b cd R n cap M b w2) :
    ResS (newSt a b) ((w2.alloc (.cells (madeCells #[.float .f64 0] a) 75)).alloc (.cells #[.int .i64 0, .int .i64 0, .int .i64 1, .int .i64 (-1), .int .i64 (-1), .slice none 0 0] 88)) w.heap.size ((w2.alloc (.cells (madeCells #[.float .f64 0] a) 75)).alloc (.cells #[.int .i64 0, .int .i64 0, .int .i64 1, .int .i64 (-1), .int .i64 (-1), .slice none 0 0] 88)).heap.size (.agg #[.slice (some ⟨w2.heap.size + 1, 0, none⟩) 1 1, .slice (some ⟨w2.heap.size, 0, none⟩) a a, .slice (some ⟨M, 0, none⟩) b b, .int .i64 0]) ∧ Below w.heap.size w ((w2.alloc (.cells (madeCells #[.float .f64 0] a) 75)).alloc (.cells #[.int .i64 0, .int .i64 0, .int .i64 1, .int .i64 (-1), .int .i64 (-1), .slice none 0 0] 88)) := by
  have hq := I2.q
  have hz := I2.z
  exact inew_end ha hb (I2.keep (below2 w2 _ _)) (by omega) (by simp) (by have := th_new (w2.alloc (.cells (madeCells #[.float .f64 0] a) 75)) 88; simpa using this) (by have := alloc_there (w2.alloc (.cells (madeCells #[.float .f64 0] a) 75)) #[.int .i64 0, .int .i64 0, .int .i64 1, .int .i64 (-1), .int .i64 (-1), .slice none 0 0] 88 6 (by simp); simpa using this) (by omega) (by simp; omega) ((made_own w2 a).keep ((Below.refl _ _).up _)) (by omega) (by omega) (by omega)
theorem inew_end3 {w : World} {a b : Nat} (ha : a ≤ 4) (hb : b ≤ 4) {cd : Int} {R : Option Addr} {n cap M N2 : Nat} {w2 : World} (I2 : Iw w a b cd R n cap M b w2) (h3 : w.heap.size + 1 < N2) (h4 : N2 < w2.heap.size) (hc : LOwn fv w2 N2 (List.replicate a (false, 0))) (e23 : N2 ≠ M) :
    ResS (newSt a b) (w2.alloc (.cells #[.int .i64 0, .int .i64 0, .int .i64 1, .int .i64 (-1), .int .i64 (-1), .slice none 0 0] 88)) w.heap.size (w2.alloc (.cells #[.int .i64 0, .int .i64 0, .int .i64 1, .int .i64 (-1), .int .i64 (-1), .slice none 0 0] 88)).heap.size (.agg #[.slice (some ⟨w2.heap.size, 0, none⟩) 1 1, .slice (some ⟨N2, 0, none⟩) a a, .slice (some ⟨M, 0, none⟩) b b, .int .i64 0]) ∧ Below w.heap.size w (w2.alloc (.cells #[.int .i64 0, .int .i64 0, .int .i64 1, .int .i64 (-1), .int .i64 (-1), .slice none 0 0] 88)) := by
  have hq := I2.q
  have hz := I2.z
  exact inew_end ha hb (I2.keep ((Below.refl _ w2).up _)) (by omega) (by simp) (th_new w2 _) (alloc_there w2 _ _ 6 (by simp)) h3 (by simp; omega) (hc.keep ((Below.refl _ _).up _)) (by omega) (by omega) e23
set_option maxRecDepth 20000 in
set_option maxHeartbeats 4000000 in
theorem inew_yes (a b : Nat) (ha : a ≤ 4) (hb : b ≤ 4) (cd : Int) (R : Option Addr) (n cap : Nat) (w : World)
    (HG : ∀ wx, Below w.heap.size w wx → Calls Tryd.prog 37 #[.agg #[.int .i64 (a : Int), .int .i64 (b : Int), .int .i64 cd, .slice R n cap]] wx fun e w' => e = .returned (.bool true) ∧ Below wx.heap.size wx w') :
    Calls Tryd.prog 20 #[.agg #[.int .i64 (a : Int), .int .i64 (b : Int), .int .i64 cd, .slice R n cap]] w fun e w' => (∃ v, e = .returned (.tuple #[v, .bool true]) ∧ ResS (newSt a b) w' w.heap.size w'.heap.size v) ∧ Below w.heap.size w w' := by
  have HIG := hide' HG
  have hmi := make_ints b (by omega)
  have hmf := make_fls a (by omega)
  have P0 := hide' ((pbox_new w a b cd R n cap 30).keep ((Below.refl _ _).up (.cells #[.slice none 0 0, .slice none 0 0, .slice none 0 0, .int .i64 0] 43)))
  have hr0 := alloc_there (w.alloc (.cells #[.int .i64 (a : Int), .int .i64 (b : Int), .int .i64 cd, .slice R n cap] 30)) #[.slice none 0 0, .slice none 0 0, .slice none 0 0, .int .i64 0] 43 4 (by simp)
  rw [show (w.alloc (.cells #[.int .i64 (a : Int), .int .i64 (b : Int), .int .i64 cd, .slice R n cap] 30)).heap.size = w.heap.size + 1 by simp] at hr0
  have HR0 := hide' hr0
  have B0 := hide' (below2 w (.cells #[.int .i64 (a : Int), .int .i64 (b : Int), .int .i64 cd, .slice R n cap] 30) (.cells #[.slice none 0 0, .slice none 0 0, .slice none 0 0, .int .i64 0] 43))
  have ha' : (a : Int) ≤ 4 := by omega
  have hb' : (b : Int) ≤ 4 := by omega
  clear HG hr0
  go_enter Tryd.func20, Tryd.ntmps20
  go_wp2_with (go_at_call 37; refine (HIG.out _ B0.out).mono ?_; rintro e w1 ⟨rfl, hb1⟩; have B1 := hide' (B0.out.trans (hb1.mono B0.out.size)); have P1 := hide' (P0.out.keep hb1); obtain ⟨p0, p1, p2, p3⟩ := P1.out; have R1 := hide' (there_keep hb1 HR0.out))
  have I1 := hide' (show Iw w a b cd R n cap w1.heap.size 0 (w1.alloc (.cells (madeCells #[.int .i64 0] b) 3)) from ⟨P1.out.keep ((Below.refl _ _).up _), there_keep ((Below.refl _ _).up _) R1.out, B1.out.up _, made_there w1 _ _ _, fun i hi => by omega, World.block_lt_of_cell? w1 _ (Option.isSome_iff_exists.1 (R1.out 0 (by omega)).1).choose_spec, by simp⟩)
  clear hb1 B1 P1 R1 p0 p1 p2 p3 P0 HR0 B0 HIG hmi
  generalize hM : w1.heap.size = M at *
  clear hM
  go_loopw [15] (fun i wr => ∃ k : Nat, k ≤ b ∧ i = .int .i64 k ∧ Hid (Iw w a b cd R n cap M k wr)) (fun i _ => b - (intOf i).toNat)
  case atStart => exact ⟨0, Nat.zero_le _, rfl, I1.out⟩
  case round =>
    obtain ⟨k, hk, rfl, hiw⟩ := hrel
    by_cases hlt : k < b
    · obtain ⟨y, hy⟩ := Option.isSome_iff_exists.1 (hiw.out.o k hlt).1
      have hfz := (hiw.out.o k hlt).2
      rw [Nat.zero_add] at hy hfz
      have HS := hide' (hiw.out.step hlt)
      have hki : (k : Int) < b := by omega
      go_wp2_with fail
      go_roundw
      case rel => exact ⟨k + 1, by omega, by go_num, HS.out⟩
      case measure => simp [intOf]; omega
    · have hke : k = b := by omega
      subst hke
      obtain ⟨p0, p1, p2, p3⟩ := hiw.out.p
      go_wp2_with fail
      have D0 := hide' (hiw.out.keep (Below.refl _ wr).drew)
      have zw : w.heap.size < wr.heap.size := World.block_lt_of_cell? wr _ p0
      go_region_with (go_at_call 49; refine (threadat_any _).mono ?_; rintro e w2 ⟨rfl, hb2⟩; have I2 := hide' (Iw.keep (by first | exact D0.out | exact (D0.out.keep ((Below.refl _ _).up _))) hb2); have HB2 := hide' hb2; obtain ⟨y0, y1, y2, y3, e0, e1, e2, e3, z0, z1, z2, z3⟩ := four_there I2.out.r; simp only [Nat.zero_add] at e1 e2 e3 z1 z2 z3; have zz : w.heap.size + 1 < w2.heap.size := World.block_lt_of_cell? w2 _ e0; clear p0 p1 p2 p3; obtain ⟨p0, p1, p2, p3⟩ := I2.out.p; have zy : w.heap.size < w2.heap.size := World.block_lt_of_cell? w2 _ p0)
      all_goals
        go_wp2_with fail
        first
          | (obtain ⟨s0, s1, s2, s3⟩ := set4_cells I2.out.r (.slice (some ⟨w2.heap.size, 0, none⟩) 1 1) (.slice (some ⟨w2.heap.size + 1, 0, none⟩) a a) (.slice (some ⟨M, 0, none⟩) k k) (.int .i64 0)
             have t0 := keep_cell (below2 _ (.cells #[.int .i64 0, .int .i64 0, .int .i64 1, .int .i64 (-1), .int .i64 (-1), .slice none 0 0] 88) (.cells (madeCells #[.float .f64 0] a) 75)) s0
             have t1 := keep_cell (below2 _ (.cells #[.int .i64 0, .int .i64 0, .int .i64 1, .int .i64 (-1), .int .i64 (-1), .slice none 0 0] 88) (.cells (madeCells #[.float .f64 0] a) 75)) s1
             have t2 := keep_cell (below2 _ (.cells #[.int .i64 0, .int .i64 0, .int .i64 1, .int .i64 (-1), .int .i64 (-1), .slice none 0 0] 88) (.cells (madeCells #[.float .f64 0] a) 75)) s2
             have t3 := keep_cell (below2 _ (.cells #[.int .i64 0, .int .i64 0, .int .i64 1, .int .i64 (-1), .int .i64 (-1), .slice none 0 0] 88) (.cells (madeCells #[.float .f64 0] a) 75)) s3
             clear s0 s1 s2 s3
             unfold set4 at t0 t1 t2 t3
             refine bodyPost_ret (v := .tuple #[.agg #[.slice (some ⟨w2.heap.size, 0, none⟩) 1 1, .slice (some ⟨w2.heap.size + 1, 0, none⟩) a a, .slice (some ⟨M, 0, none⟩) k k, .int .i64 0], .bool true]) (by simp [results, Tryd.results20, go_sem, t0, t1, t2, t3]) rfl ?_
             have hend := inew_end1 ha hb (I2.out.set4 (.slice (some ⟨w2.heap.size, 0, none⟩) 1 1) (.slice (some ⟨w2.heap.size + 1, 0, none⟩) a a) (.slice (some ⟨M, 0, none⟩) k k) (.int .i64 0))
             rw [set4_size] at hend
             exact ⟨⟨_, rfl, hend.1⟩, hend.2⟩)
          | (obtain ⟨s0, s1, s2, s3⟩ := set4_cells I2.out.r (.slice (some ⟨w2.heap.size + 1, 0, none⟩) 1 1) (.slice (some ⟨w2.heap.size, 0, none⟩) a a) (.slice (some ⟨M, 0, none⟩) k k) (.int .i64 0)
             have t0 := keep_cell (below2 _ (.cells (madeCells #[.float .f64 0] a) 75) (.cells #[.int .i64 0, .int .i64 0, .int .i64 1, .int .i64 (-1), .int .i64 (-1), .slice none 0 0] 88)) s0
             have t1 := keep_cell (below2 _ (.cells (madeCells #[.float .f64 0] a) 75) (.cells #[.int .i64 0, .int .i64 0, .int .i64 1, .int .i64 (-1), .int .i64 (-1), .slice none 0 0] 88)) s1
             have t2 := keep_cell (below2 _ (.cells (madeCells #[.float .f64 0] a) 75) (.cells #[.int .i64 0, .int .i64 0, .int .i64 1, .int .i64 (-1), .int .i64 (-1), .slice none 0 0] 88)) s2
             have t3 := keep_cell (below2 _ (.cells (madeCells #[.float .f64 0] a) 75) (.cells #[.int .i64 0, .int .i64 0, .int .i64 1, .int .i64 (-1), .int .i64 (-1), .slice none 0 0] 88)) s3
             clear s0 s1 s2 s3
             unfold set4 at t0 t1 t2 t3
             refine bodyPost_ret (v := .tuple #[.agg #[.slice (some ⟨w2.heap.size + 1, 0, none⟩) 1 1, .slice (some ⟨w2.heap.size, 0, none⟩) a a, .slice (some ⟨M, 0, none⟩) k k, .int .i64 0], .bool true]) (by simp [results, Tryd.results20, go_sem, t0, t1, t2, t3]) rfl ?_
             have hend := inew_end2 ha hb (I2.out.set4 (.slice (some ⟨w2.heap.size + 1, 0, none⟩) 1 1) (.slice (some ⟨w2.heap.size, 0, none⟩) a a) (.slice (some ⟨M, 0, none⟩) k k) (.int .i64 0))
             rw [set4_size] at hend
             exact ⟨⟨_, rfl, hend.1⟩, hend.2⟩)
          | (obtain ⟨s0, s1, s2, s3⟩ := set4_cells I2.out.r (.slice (some ⟨w2.heap.size, 0, none⟩) 1 1) (.slice (some ⟨wr.heap.size, 0, none⟩) a a) (.slice (some ⟨M, 0, none⟩) k k) (.int .i64 0)
             have t0 := keep_cell ((Below.refl _ _).up (.cells #[.int .i64 0, .int .i64 0, .int .i64 1, .int .i64 (-1), .int .i64 (-1), .slice none 0 0] 88)) s0
             have t1 := keep_cell ((Below.refl _ _).up (.cells #[.int .i64 0, .int .i64 0, .int .i64 1, .int .i64 (-1), .int .i64 (-1), .slice none 0 0] 88)) s1
             have t2 := keep_cell ((Below.refl _ _).up (.cells #[.int .i64 0, .int .i64 0, .int .i64 1, .int .i64 (-1), .int .i64 (-1), .slice none 0 0] 88)) s2
             have t3 := keep_cell ((Below.refl _ _).up (.cells #[.int .i64 0, .int .i64 0, .int .i64 1, .int .i64 (-1), .int .i64 (-1), .slice none 0 0] 88)) s3
             clear s0 s1 s2 s3
             unfold set4 at t0 t1 t2 t3
             refine bodyPost_ret (v := .tuple #[.agg #[.slice (some ⟨w2.heap.size, 0, none⟩) 1 1, .slice (some ⟨wr.heap.size, 0, none⟩) a a, .slice (some ⟨M, 0, none⟩) k k, .int .i64 0], .bool true]) (by simp [results, Tryd.results20, go_sem, t0, t1, t2, t3]) rfl ?_
             have hend := inew_end3 ha hb (N2 := wr.heap.size) (I2.out.set4 (.slice (some ⟨w2.heap.size, 0, none⟩) 1 1) (.slice (some ⟨wr.heap.size, 0, none⟩) a a) (.slice (some ⟨M, 0, none⟩) k k) (.int .i64 0)) (by have := hiw.out.q; have := hiw.out.z; omega) (by rw [set4_size]; have := HB2.out.size; simp at this; omega) ((((((made_own wr.drew a).keep HB2.out).set _ _ _ (by show wr.heap.size ≠ w.heap.size + 1; have := hiw.out.q; have := hiw.out.z; omega)).set _ _ _ (by show wr.heap.size ≠ w.heap.size + 1; have := hiw.out.q; have := hiw.out.z; omega)).set _ _ _ (by show wr.heap.size ≠ w.heap.size + 1; have := hiw.out.q; have := hiw.out.z; omega)).set _ _ _ (by show wr.heap.size ≠ w.heap.size + 1; have := hiw.out.q; have := hiw.out.z; omega)) (by have := hiw.out.z; omega)
             rw [set4_size] at hend
             exact ⟨⟨_, rfl, hend.1⟩, hend.2⟩)

/-- the new state of a program -/
def newN (cl lk cd : Int) (rs : List (List OpD)) : StD := if goodS cl lk cd rs = true then newSt cl.toNat lk.toNat else zeroSt
theorem new_both (cl lk cd : Int) (rs : List (List OpD)) (hl : rs.length ≤ 1048576) (hls : ∀ l ∈ rs, l.length ≤ 1048576) (hr : ∀ l ∈ rs, ∀ o ∈ l, o.r < 9223372036854775808) :
    (∀ R cap w, RoutsAt w R rs → Calls Tryd.prog 19 #[.agg #[.int .i64 cl, .int .i64 lk, .int .i64 cd, .slice R rs.length cap]] w fun e w' => (∃ v, e = .returned (.tuple #[v, .bool (goodS cl lk cd rs)]) ∧ ResS (newN cl lk cd rs) w' w.heap.size w'.heap.size v) ∧ Below w.heap.size w w') ∧
    (∀ R cap w, RoutsAt w R rs → Forms w → Calls Tryd.prog 20 #[.agg #[.int .i64 cl, .int .i64 lk, .int .i64 cd, .slice R rs.length cap]] w fun e w' => (∃ v, e = .returned (.tuple #[v, .bool (goodS cl lk cd rs)]) ∧ ResS (newN cl lk cd rs) w' w.heap.size w'.heap.size v) ∧ Below w.heap.size w w') := by
  obtain ⟨hgs, hgi⟩ := good_both cl lk cd rs hl hls hr
  unfold newN
  cases hg : goodS cl lk cd rs
  · rw [hg] at hgs hgi
    exact ⟨fun R cap w hR => snew_no cl lk cd R rs.length cap w fun wx hb => hgs R cap wx (hR.keep hb), fun R cap w hR hF => inew_no cl lk cd R rs.length cap w fun wx hb => hgi R cap wx (hR.keep hb) (hF.below hb)⟩
  · rw [hg] at hgs hgi
    obtain ⟨⟨g1, g2, -, -⟩, -⟩ := good_facts hg
    obtain ⟨a, rfl⟩ : ∃ a : Nat, cl = a := ⟨cl.toNat, by omega⟩
    obtain ⟨b, rfl⟩ : ∃ b : Nat, lk = b := ⟨lk.toNat, by omega⟩
    rw [if_pos rfl, Int.toNat_natCast, Int.toNat_natCast]
    exact ⟨fun R cap w hR => snew_yes a b (by omega) (by omega) cd R rs.length cap w fun wx hb => hgs R cap wx (hR.keep hb), fun R cap w hR hF => inew_yes a b (by omega) (by omega) cd R rs.length cap w fun wx hb => hgi R cap wx (hR.keep hb) (hF.below hb)⟩
end Go.Proofs.YtdifamjkbagfcaaDoor
