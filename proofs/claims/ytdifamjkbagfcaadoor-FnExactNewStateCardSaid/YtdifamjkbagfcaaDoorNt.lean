/- A new state: both sides. -/
import Derived.Test.YtdifamjkbagfcaaDoorNs
namespace Go.Proofs.YtdifamjkbagfcaaDoor
open Go.RowKit
open Rd Fl

theorem own_blk {α : Type} {f : α → Value} {e : TypeId} {l : List α} {w : World} {base : Nat} {v : Value} (h : w.ownsRow base e 1 v l.length (l.map f)) : ∃ A M cap, v = .slice A l.length cap ∧ Blk f l w base w.heap.size A M ∧ (l.length ≠ 0 → v.ownBlock = some M) := by
  rcases h.2 with ⟨rfl, hn⟩ | ⟨g, cap, cur, rfl, hb2, hgg, h1, h2, h3, h4⟩
  · exact ⟨none, 0, 0, by rw [hn], fun hne => absurd hn hne, fun hne => absurd hn hne⟩
  · have hlt := (Array.getElem?_eq_some_iff.1 hgg).1
    have hcell : ∀ i x, l[i]? = some x → w.cell? ⟨g, i, none⟩ = some (f x) := by
      intro i x hx
      have hi := (List.getElem?_eq_some_iff.1 hx).1
      have hk := h.cellAt i (by omega)
      rw [hk, List.getElem?_map, hx]; rfl
    have hth : w.there g 0 l.length := by
      intro j hj
      refine ⟨?_, h.frozenAt _⟩
      rw [Nat.zero_add, hcell j l[j] (List.getElem?_eq_getElem hj)]; rfl
    exact ⟨some ⟨g, 0, none⟩, g, cap, rfl, fun _ => ⟨rfl, hb2, hlt, hlt, hth, hcell⟩, fun _ => rfl⟩

/-- The parts of a new state. -/
theorem new_res {a b : Nat} (ha : a ≤ 4) (hb : b ≤ 4) {w : World} {lo N1 N2 N3 : Nat} {C O : Option Addr} {k2 k3 : Nat} (hlo : lo ≤ N1) (hN : N1 < w.heap.size)
    (ht : w.rangeAt N1 0 [.int .i64 0, .int .i64 0, .int .i64 1, .int .i64 (-1), .int .i64 (-1), .slice none 0 0]) (hth : w.there N1 0 6)
    (hc : Blk fv (List.replicate a (false, 0)) w lo w.heap.size C N2) (ho : Blk iv (List.replicate b (-1)) w lo w.heap.size O N3) (e12 : a ≠ 0 → N1 ≠ N2) (e13 : b ≠ 0 → N1 ≠ N3) (e23 : a ≠ 0 → b ≠ 0 → N2 ≠ N3) :
    ResS (newSt a b) w lo w.heap.size (.agg #[.slice (some ⟨N1, 0, none⟩) 1 1, .slice C a k2, .slice O b k3, .int .i64 0]) := by
  have l2 : (newSt a b).cl.length = a := by simp [newSt]
  have l3 : (newSt a b).ow.length = b := by simp [newSt]
  refine ⟨⟨some ⟨N1, 0, none⟩, C, O, N1, N2, N3, fun _ => 0, 1, k2, k3, by rw [l2, l3]; rfl, ?_⟩, ⟨by simp [newSt], fun t h => ?_, by rw [l2]; exact ha, by rw [l3]; exact hb⟩, ⟨fun t h x hx => ?_, fun x hx => ?_⟩⟩
  · refine ⟨fun _ => ⟨rfl, hlo, hN⟩, fun i hi => ?_, hc, ho, fun i j hi hj hij => ?_, fun _ h => e12 (by rw [l2] at h; exact h), fun _ h => e13 (by rw [l3] at h; exact h), fun h h' => e23 (by rw [l2] at h; exact h) (by rw [l3] at h'; exact h'), fun i hi h => ?_, fun i hi h => ?_⟩
    · have : i = 0 := by simp [newSt] at hi; exact hi
      subst this
      exact ⟨none, 0, ht, hth, fun h => absurd rfl h, fun h => absurd rfl h⟩
    · simp [newSt] at hi hj; omega
    · have : i = 0 := by simp [newSt] at hi; exact hi
      subst this
      exact absurd rfl h
    · have : i = 0 := by simp [newSt] at hi; exact hi
      subst this
      exact absurd rfl h
  · simp [newSt, newTh] at h; subst h; simp
  · simp [newSt, newTh] at h; subst h; simp at hx
  · simp [newSt] at hx; rw [hx.2]; simp
theorem zero_res (w : World) (lo : Nat) : ResS zeroSt w lo w.heap.size (.agg #[.slice none 0 0, .slice none 0 0, .slice none 0 0, .int .i64 0]) := by
  refine ⟨⟨none, none, none, 0, 0, 0, fun _ => 0, 0, 0, 0, rfl, ?_⟩, ⟨by simp [zeroSt], fun t h => by simp [zeroSt] at h, by simp [zeroSt], by simp [zeroSt]⟩, ⟨fun t h => by simp [zeroSt] at h, fun x h => by simp [zeroSt] at h⟩⟩
  exact ⟨fun h => absurd rfl h, fun i hi => absurd hi (by simp [zeroSt]), fun h => absurd rfl h, fun h => absurd rfl h, fun i j hi => absurd hi (by simp [zeroSt]), fun h => absurd rfl h, fun h => absurd rfl h, fun h => absurd rfl h, fun i hi => absurd hi (by simp [zeroSt]), fun i hi => absurd hi (by simp [zeroSt])⟩

theorem l3new_res (a b : Nat) (ha : a ≤ 4) (hb : b ≤ 4) (cd : Int) (R : Option Addr) (n cap : Nat) (w : World) :
    Calls Tryd.prog 48 #[.agg #[.int .i64 (a : Int), .int .i64 (b : Int), .int .i64 cd, .slice R n cap]] w fun e w' => (∃ T C O k1 k2 k3, e = .returned (.agg #[.slice T 1 k1, .slice C a k2, .slice O b k3, .int .i64 0]) ∧ ResS (newSt a b) w' w.heap.size w'.heap.size (.agg #[.slice T 1 k1, .slice C a k2, .slice O b k3, .int .i64 0])) ∧ Below w.heap.size w w' := by
  refine (l3new_any a b (by omega) (by omega) cd R n cap w).mono ?_
  rintro e w' ⟨⟨N1, vc, vo, Y, rfl, h1, h2, h3, h4, h5, h6, h7, h8⟩, hbw⟩
  have h5' : w'.ownsRow (N1 + 1) 75 1 vc (List.replicate a ((false, 0) : Bool × Nat)).length ((List.replicate a ((false, 0) : Bool × Nat)).map fv) := by rw [List.length_replicate, List.map_replicate]; exact h5
  have h6' : w'.ownsRow Y 3 1 vo (List.replicate b (-1 : Int)).length ((List.replicate b (-1 : Int)).map iv) := by rw [List.length_replicate, List.map_replicate]; exact h6
  obtain ⟨C, N2, k2, e2, b2, u2⟩ := own_blk h5'
  obtain ⟨O, N3, k3, e3, b3, u3⟩ := own_blk h6'
  rw [List.length_replicate] at e2 e3
  subst e2 e3
  refine ⟨⟨_, C, O, _, k2, k3, rfl, new_res ha hb h1 h2 h3 h4 (b2.less (by omega) (Nat.le_refl _)) (b3.less (by omega) (Nat.le_refl _)) (N2 := N2) (N3 := N3) (fun h => ?_) (fun h => ?_) (fun h h' => ?_)⟩, hbw⟩
  · have := (b2 (by simpa using h)).2.1; omega
  · have := (b3 (by simpa using h)).2.1; omega
  · have q1 := h7 N2 (u2 (by simpa using h))
    have q2 := (b3 (by simpa using h')).2.1
    omega

set_option maxRecDepth 20000 in
set_option maxHeartbeats 2000000 in
theorem snew_yes (a b : Nat) (ha : a ≤ 4) (hb : b ≤ 4) (cd : Int) (R : Option Addr) (n cap : Nat) (w : World)
    (HG : ∀ wx, Below w.heap.size w wx → Calls Tryd.prog 34 #[.agg #[.int .i64 (a : Int), .int .i64 (b : Int), .int .i64 cd, .slice R n cap]] wx fun e w' => e = .returned (.bool true) ∧ Below wx.heap.size wx w') :
    Calls Tryd.prog 19 #[.agg #[.int .i64 (a : Int), .int .i64 (b : Int), .int .i64 cd, .slice R n cap]] w fun e w' => (∃ v, e = .returned (.tuple #[v, .bool true]) ∧ ResS (newSt a b) w' w.heap.size w'.heap.size v) ∧ Below w.heap.size w w' := by
  have HIG := hide' HG
  have HNW := hide' (fun w => l3new_res a b ha hb cd R n cap w)
  have P0 := hide' ((pbox_new w a b cd R n cap 30).keep ((Below.refl _ _).up (.cells #[.slice none 0 0, .slice none 0 0, .slice none 0 0, .int .i64 0] 43)))
  have hr0 := alloc_there (w.alloc (.cells #[.int .i64 (a : Int), .int .i64 (b : Int), .int .i64 cd, .slice R n cap] 30)) #[.slice none 0 0, .slice none 0 0, .slice none 0 0, .int .i64 0] 43 4 (by simp)
  rw [show (w.alloc (.cells #[.int .i64 (a : Int), .int .i64 (b : Int), .int .i64 cd, .slice R n cap] 30)).heap.size = w.heap.size + 1 by simp] at hr0
  have HR0 := hide' hr0
  have B0 := hide' (below2 w (.cells #[.int .i64 (a : Int), .int .i64 (b : Int), .int .i64 cd, .slice R n cap] 30) (.cells #[.slice none 0 0, .slice none 0 0, .slice none 0 0, .int .i64 0] 43))
  clear HG hr0 ha hb
  have hst := store_f
  go_enter Tryd.func19, Tryd.ntmps19
  go_wp2_with (first | (go_at_call 34; refine (HIG.out _ B0.out).mono ?_; rintro e w1 ⟨rfl, hb1⟩; have B1 := hide' (B0.out.trans (hb1.mono B0.out.size)); obtain ⟨p0, p1, p2, p3⟩ := P0.out.keep hb1; have R1 := hide' (there_keep hb1 HR0.out)) | (go_at_call 48; refine (HNW.out _).mono ?_; rintro e w2 ⟨⟨T, C, O, k1, k2, k3, rfl, hres⟩, hb2⟩; have B2 := hide' (B1.out.trans (hb2.mono B1.out.size)); obtain ⟨y0, y1, y2, y3, e0, e1, e2, e3, z0, z1, z2, z3⟩ := four_there (there_keep hb2 R1.out); simp only [Nat.zero_add] at e1 e2 e3 z1 z2 z3; have Z1 := hide' (World.block_lt_of_cell? w1 _ (Option.isSome_iff_exists.1 (R1.out 0 (by omega)).1).choose_spec)))
  refine bodyPost_ret (v := .tuple #[.agg #[.slice T 1 k1, .slice C a k2, .slice O b k3, .int .i64 0], .bool true]) (by simp [results, Tryd.results19, go_sem, e0, e1, e2, e3]) rfl ?_
  have hz : w.heap.size + 1 < w1.heap.size := Z1.out
  refine ⟨⟨_, rfl, ?_⟩, ?_⟩
  · have he : ∀ (v0 v1 v2 v3 : Value), Edit (w.heap.size + 1) (w.heap.size + 2) w2 ((((w2.setCell ⟨w.heap.size + 1, 0, none⟩ v0).setCell ⟨w.heap.size + 1, 1, none⟩ v1).setCell ⟨w.heap.size + 1, 2, none⟩ v2).setCell ⟨w.heap.size + 1, 3, none⟩ v3) := fun v0 v1 v2 v3 => ((((Edit.refl _ _ w2).set _ _ _ (by omega) (by omega)).set _ _ _ (by omega) (by omega)).set _ _ _ (by omega) (by omega)).set _ _ _ (by omega) (by omega)
    have := ress_edit hres (he (.slice T 1 k1) (.slice C a k2) (.slice O b k3) (.int .i64 0)) (.inl (by omega))
    have h2 := ress_less this (lo' := w.heap.size) (by have := B1.out.size; omega)
    simpa only [set_size] using h2
  · iterate 4 refine below_set ?_ _ _ _ (by omega)
    exact B2.out
end Go.Proofs.YtdifamjkbagfcaaDoor
