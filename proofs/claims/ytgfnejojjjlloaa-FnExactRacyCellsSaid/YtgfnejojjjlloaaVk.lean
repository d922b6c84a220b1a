/- RacyCells: both sides. -/
import Derived.Test.YtgfnejojjjlloaaVg
import Derived.Test.YtgfnejojjjlloaaVr
import Derived.Test.YtgfnejojjjlloaaVs
import Derived.Test.YtgfnejojjjlloaaVf
namespace Go.Proofs.Ytgfnejojjjlloaa
open Go.RowKit Go.Maps
open Rd Fl

/-- the cells of races, rising -/
def cellsR (rs : List RcD) : List Int := putAll (rs.map RcD.cl)
theorem cellsR_snoc {rs : List RcD} {k : Nat} (hk : k < rs.length) : cellsR (rs.take (k + 1)) = putR (cellsR (rs.take k)) rs[k].cl := by
  unfold cellsR
  rw [List.take_succ_eq_append_getElem hk, List.map_append]
  exact putAll_snoc _ _
theorem rises_len : ∀ (l : List Int) (a : Int), (∀ x ∈ l, a ≤ x ∧ x ≤ 99) → l.Pairwise (· < ·) → (l.length : Int) ≤ 100 - a ∨ l = []
  | [], _, _, _ => .inr rfl
  | x :: t, a, h, hp => by
    have hx := h x (List.mem_cons_self ..)
    obtain ⟨h1, h2⟩ := List.pairwise_cons.1 hp
    left
    rcases rises_len t (x + 1) (fun y hy => ⟨by have := h1 y hy; omega, (h y (List.mem_cons_of_mem _ hy)).2⟩) h2 with h3 | rfl
    · rw [List.length_cons]; omega
    · simp; omega
theorem rc_cl (l : List EvD) (hg : goodTr l = true) : ∀ x ∈ rcAll l l.length, 0 ≤ x.cl ∧ x.cl ≤ 99 := by
  have one : ∀ j, j < l.length → ∀ i, ∀ x ∈ rcTo l j i, 0 ≤ x.cl ∧ x.cl ≤ 99 := by
    intro j hj i
    induction i with
    | zero => intro x hx; cases hx
    | succ i ih =>
      intro x hx
      unfold rcTo at hx
      rw [List.mem_append] at hx
      rcases hx with hx | hx
      · exact ih x hx
      · split at hx
        · rename_i hb
          rw [List.mem_singleton] at hx
          subst hx
          have hge : goodEv (evA l j) = true := by rw [evA_get hj]; exact good_ev hg hj
          have ht : tchB (evA l j) = true := by
            unfold rcB mayB at hb
            generalize tchB (evA l j) = t at *
            cases t
            · simp at hb
            · rfl
          have := goodev_all hge
          have := tch_ob hge ht
          simp only
          omega
        · cases hx
  have all : ∀ j, j ≤ l.length → ∀ x ∈ rcAll l j, 0 ≤ x.cl ∧ x.cl ≤ 99 := by
    intro j
    induction j with
    | zero => intro _ x hx; cases hx
    | succ j ih =>
      intro hj x hx
      unfold rcAll at hx
      rw [List.mem_append] at hx
      rcases hx with hx | hx
      · exact ih (by omega) x hx
      · exact one j (by omega) j x hx
  exact all l.length (Nat.le_refl _)
theorem racesN_cl (l : List EvD) : ∀ x ∈ racesN l, 0 ≤ x.cl ∧ x.cl ≤ 99 := by
  cases hg : goodTr l
  · rw [racesN_no hg]; intro x hx; cases hx
  · rw [racesN_yes hg]; exact rc_cl l hg
theorem cellsR_in {rs : List RcD} (h : ∀ x ∈ rs, 0 ≤ x.cl ∧ x.cl ≤ 99) : ∀ x ∈ cellsR rs, 0 ≤ x ∧ x ≤ 99 := by
  intro x hx
  unfold cellsR at hx
  rw [putAll_mem] at hx
  obtain ⟨y, hy, rfl⟩ := List.mem_map.1 hx
  exact h y hy
theorem cellsR_len {rs : List RcD} (h : ∀ x ∈ rs, 0 ≤ x.cl ∧ x.cl ≤ 99) : (cellsR rs).length ≤ 100 := by
  rcases rises_len (cellsR rs) 0 (cellsR_in h) (putAll_rises _) with h1 | h1
  · omega
  · rw [h1]; simp
theorem take_cl {rs : List RcD} (h : ∀ x ∈ rs, 0 ≤ x.cl ∧ x.cl ≤ 99) (k : Nat) : ∀ x ∈ rs.take k, 0 ≤ x.cl ∧ x.cl ≤ 99 := fun x hx => h x (List.mem_of_mem_take hx)

/-- What a map holds are ints. -/
def IntsF (f : Int → Option Value) : Prop := ∀ x, ∃ m : Int, (f x).getD (.int .i64 0) = .int .i64 m
theorem ints_none : IntsF fun _ => none := fun _ => ⟨0, rfl⟩
theorem IntsF.put {f : Int → Option Value} (h : IntsF f) (x m : Int) : IntsF (putF f x (.int .i64 m)) := by
  intro y
  unfold putF
  by_cases e : y = x
  · rw [if_pos e]; exact ⟨m, rfl⟩
  · rw [if_neg e]; exact h y
/-- The map in block M has the cells of the races rs as its keys. -/
structure CeM (rs : List RcD) (M : Nat) (w wr : World) (k : Nat) : Prop where
  b : Below w.heap.size w wr
  l : w.heap.size ≤ M
  m : ∃ n f, MapV wr M n f ∧ n ≤ k ∧ KeysAre f (cellsR (rs.take k)) ∧ IntsF f
theorem CeM.keep {rs : List RcD} {M : Nat} {w wr wy : World} {k : Nat} (h : CeM rs M w wr k) (hb : Below wr.heap.size wr wy) : CeM rs M w wy k := by
  obtain ⟨n, f, h1, h2, h3, h4⟩ := h.m
  exact ⟨h.b.trans (hb.mono h.b.size), h.l, n, f, h1.keep hb, h2, h3, h4⟩
theorem rcbox_new (w : World) (a b c : Int) : (w.alloc (.cells #[.int .i64 a, .int .i64 b, .int .i64 c] 35)).cell? ⟨w.heap.size, 0, none⟩ = some (.int .i64 a) := by
  rw [World.cell?_alloc_new]; rfl
theorem zeroInt (w : World) : (zeroValue 3).run Try.prog w = .ok (.int .i64 0) w := by kernel_rfl

set_option maxRecDepth 20000 in
set_option maxHeartbeats 4000000 in
theorem iracy_any (hsort : SortMany) (hnil : SortNil) (A : Option Addr) (l : List EvD) (cap : Nat) (hcap : l.length ≤ cap) (hl : l.length ≤ 1048576) (w : World) (hA : EvsAt w A l) :
    Calls Try.prog 24 #[.slice A l.length cap] w fun e w' => (∃ v, e = .returned (.tuple #[v, .bool (goodTr l)]) ∧ ResI (cellsR (racesN l)) w' w.heap.size w'.heap.size v) ∧ Below w.heap.size w w' := by
  have hmm := @run_makeMap Try.prog
  have HR := hide' (iraces_any A l cap hcap hl w hA)
  have HRK := hide' (fun b n f hn w hm => rkeysx_any hsort hnil b n f hn w hm)
  have hlen := racesN_len l
  have HCL := hide' (racesN_cl l)
  generalize racesN l = rs at *
  generalize goodTr l = gd at *
  have hlen2 : (rs.length : Int) ≤ 40200 := by omega
  clear hA hsort hnil
  go_enter Try.func24, Try.ntmps24
  go_wp2_with (go_at_call 12; refine HR.out.mono ?_; rintro e w1 ⟨⟨v, rfl, hr⟩, hb1⟩; obtain ⟨A1, M1, cap1, rfl, -, -, -, hat⟩ := resc_open hr)
  have B1 := hide' hb1
  have AT := hide' hat
  have M0 := hide' (show CeM rs w1.heap.size w (w1.alloc (.map #[] 0)) 0 from ⟨hb1.up _, hb1.size, 0, _, mapv_made w1, Nat.le_refl _, keys_none, ints_none⟩)
  have W0 := hide' ((Below.refl w1.heap.size w1).up (.map #[] 0))
  clear hr hb1 hat HR
  go_loopw [17] (fun x wr => ∃ k : Nat, k ≤ rs.length ∧ x = .int .i64 k ∧ Hid (CeM rs w1.heap.size w wr k) ∧ Hid (Below w1.heap.size w1 wr)) (fun x _ => rs.length - (intOf x).toNat)
  case atStart => exact ⟨0, Nat.zero_le _, rfl, M0.out, W0.out⟩
  case round =>
    clear M0 W0
    obtain ⟨k, hk, rfl, hr, hw⟩ := hrel
    by_cases hlt : k < rs.length
    · obtain ⟨b, off, hA1, hc⟩ := AT.out
      have hA2 := hA1 (by intro h; rw [h] at hlt; simp at hlt)
      subst hA2
      have hk2 : (k : Int) < rs.length := by omega
      obtain ⟨c0, c1, c2⟩ := rc_range (range_keep hw.out (hc k rs[k] (List.getElem?_eq_getElem hlt)))
      have HS := hide' (cellsR_snoc hlt)
      have HX := HCL.out rs[k] (List.getElem_mem hlt)
      clear hc hA1
      generalize rs[k] = x at c0 c1 c2 HS HX
      obtain ⟨r0, r1, r2⟩ := x
      simp only at c0 c1 c2 HS HX
      have hwx : wfI r0 := wfI_small (by omega) (by omega)
      obtain ⟨n, f, hm, hn, hkf, hif⟩ := hr.out.m
      obtain ⟨m, hfm⟩ := hif r0
      have HKF := hide' hkf
      have HIF := hide' hif
      have HMV := hide' (hm.keep ((Below.refl _ _).up (.cells #[.int .i64 r0, .int .i64 r1, .int .i64 r2] 35)))
      have HB := hide' (hr.out.b.up (.cells #[.int .i64 r0, .int .i64 r1, .int .i64 r2] 35))
      have HB2 := hide' (hw.out.up (.cells #[.int .i64 r0, .int .i64 r1, .int .i64 r2] 35))
      have q0 := rcbox_new wr r0 r1 r2
      have HLM := hide' hr.out.l
      have hn2 : n ≤ 1048576 := by omega
      clear hr hm hkf hif hw
      go_wp2_with (first
        | (at_lookup; refine mv_look _ rfl _ _ 76 rfl 3 Try.underlying76 _ (zeroInt _) w1.heap.size n f rfl HMV.out r0 hwx rfl _ hfm ?_)
        | (at_mapUpdate; refine mv_put _ rfl _ _ _ 76 rfl 3 Try.underlying76 w1.heap.size n f rfl HMV.out hn2 r0 hwx _ rfl rfl ?_; intro w4 hm4 hg4; go_frame))
      have R4 := hide' (show CeM rs w1.heap.size w w4 (k + 1) from ⟨Below.grown HB.out hg4 HB.out.size (fun j hj => by cases hj; exact HLM.out), HLM.out, n + 1, _, hm4, by omega, HKF.out.put (fun y => by rw [HS.out, putR_mem]), HIF.out.put _ _⟩)
      have W4 := hide' (Below.grown HB2.out hg4 HB2.out.size (fun j hj => by cases hj; exact Nat.le_refl _))
      go_roundw
      case rel => exact ⟨k + 1, by omega, by go_num, R4.out, W4.out⟩
      case measure => simp [intOf]; omega
    · have hke : k = rs.length := by omega
      subst hke
      obtain ⟨n, f, hm, hn, hkf, -⟩ := hr.out.m
      have HO := hide' (HRK.out w1.heap.size n f (by omega) wr hm)
      have HF := hide' (show KeysAre f (cellsR rs) by rw [List.take_length] at hkf; exact hkf)
      have HB := hide' hr.out.b
      have HW := hide' (show ∀ x ∈ cellsR rs, wfI x from fun x hx => by have := cellsR_in HCL.out x hx; exact wfI_small (by omega) (by omega))
      have HN := hide' (show (cellsR rs).length ≤ 1000 by have := cellsR_len HCL.out; omega)
      clear hm hkf hr hw HRK
      go_wp2_with (go_at_call 49; refine HO.out.mono ?_; rintro e w5 ⟨⟨v, ks, rfl, hl', hris, hkeys, hwf, hown⟩, hb5⟩)
      have e1 : ks = cellsR rs := keys_eq hkeys HF.out hris (putAll_rises _) hwf HW.out
      subst e1
      go_ret2
      exact ⟨⟨_, rfl, resi_less (resi_of hown HN.out) HB.out.size⟩, HB.out.trans (hb5.mono HB.out.size)⟩

set_option maxRecDepth 20000 in
set_option maxHeartbeats 4000000 in
theorem sracy_any (A : Option Addr) (l : List EvD) (cap : Nat) (hcap : l.length ≤ cap) (hl : l.length ≤ 1048576) (w : World) (hA : EvsAt w A l) :
    Calls Try.prog 23 #[.slice A l.length cap] w fun e w' => (∃ v, e = .returned (.tuple #[v, .bool (goodTr l)]) ∧ ResI (cellsR (racesN l)) w' w.heap.size w'.heap.size v) ∧ Below w.heap.size w w' := by
  have HG := hide' (l6trace_any A l cap hl w hA)
  have HA := hide' hA
  have hlen := racesN_len l
  have HCL := hide' (racesN_cl l)
  cases hg : goodTr l
  · rw [racesN_no hg]
    rw [hg] at HG
    clear hg hA
    go_enter Try.func23, Try.ntmps23
    go_wp2_with (go_at_call 35; refine HG.out.mono ?_; rintro e w1 ⟨rfl, hb1⟩)
    go_ret2
    exact ⟨⟨_, rfl, (resi_of (l := []) (World.ownsRow_nil _ _ _ _) (by simp) : ResI [] _ _ _ _)⟩, hb1⟩
  · have HR := hide' (fun w hA => l7races_any A l cap hcap hg w hA)
    rw [racesN_yes hg] at hlen HCL ⊢
    rw [hg] at HG
    generalize rcAll l l.length = rs at *
    have hlen2 : (rs.length : Int) ≤ 40200 := by omega
    clear hg hA
    go_enter Try.func23, Try.ntmps23
    go_wp2_with (first
      | (go_at_call 35; refine HG.out.mono ?_; rintro e w1 ⟨rfl, hb1⟩; have B1 := hide' hb1)
      | (go_at_call 36; refine (HR.out _ (HA.out.keep B1.out)).mono ?_; rintro e w2 ⟨⟨v, rfl, hr⟩, hb2⟩; obtain ⟨A1, M1, cap1, rfl, -, -, -, hat⟩ := resc_open hr; have AT := hide' hat; have B2 := hide' (B1.out.trans (hb2.mono B1.out.size))))
    clear hr hb1 hb2 hat HR HG B1
    go_loopw [4, 13] (fun v x wr => ∃ k : Nat, k ≤ rs.length ∧ x = .int .i64 k ∧ Hid (Rsp w2 v (cellsR (rs.take k)) wr)) (fun _ x _ => rs.length - (intOf x).toNat)
    case atStart => exact ⟨0, Nat.zero_le _, rfl, Below.refl _ _, World.ownsRow_nil _ _ _ _⟩
    case round =>
      obtain ⟨k, hk, rfl, hr⟩ := hrel
      by_cases hlt : k < rs.length
      · obtain ⟨b, off, hA1, hc⟩ := AT.out
        have hA2 := hA1 (by intro h; rw [h] at hlt; simp at hlt)
        subst hA2
        have hk2 : (k : Int) < rs.length := by omega
        obtain ⟨c0, c1, c2⟩ := rc_range (range_keep hr.out.b (hc k rs[k] (List.getElem?_eq_getElem hlt)))
        have HS := hide' (cellsR_snoc hlt)
        have HN := hide' (show (cellsR (rs.take k)).length ≤ 1000 by have := cellsR_len (take_cl HCL.out k); omega)
        clear hc hA1
        generalize rs[k] = x at c0 c1 c2 HS
        obtain ⟨r0, r1, r2⟩ := x
        simp only at c0 c1 c2 HS
        have R0 := hide' (hr.out.keep ((Below.refl _ _).up (.cells #[.int .i64 r0, .int .i64 r1, .int .i64 r2] 35)))
        have q0 := rcbox_new wr r0 r1 r2
        clear hr
        go_wp2_with (go_at_call 48; refine (l1put_any _ r0 _ HN.out w2 _ R0.out).mono ?_; rintro e w5 ⟨⟨v5, rfl, hr5⟩, hb5⟩; have R5 := hide' hr5)
        go_roundw
        case rel => exact ⟨k + 1, by omega, by go_num, by rw [HS.out]; exact R5.out⟩
        case measure => simp [intOf]; omega
      · have hke : k = rs.length := by omega
        subst hke
        have HB := hide' B2.out
        have HD := hide' (show Rsp w2 _ (cellsR rs) wr by have := hr.out; rwa [List.take_length] at this)
        have HN := hide' (show (cellsR rs).length ≤ 1000 by have := cellsR_len HCL.out; omega)
        go_wp2_with fail
        go_ret2
        exact ⟨⟨_, rfl, resi_less (resi_of HD.out.o HN.out) HB.out.size⟩, HB.out.trans (HD.out.b.mono HB.out.size)⟩
end Go.Proofs.Ytgfnejojjjlloaa
