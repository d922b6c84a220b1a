/- The pairs of locks had and taken: data. spec.l8Pairs. -/
import Derived.Test.YtmflbibogkebmaaUd
import Derived.Test.YtmflbibogkebmaaQi
import Derived.Deep.DeepCutAuto
namespace Go.Proofs.Ytmflbibogkebmaa
open Go.RowKit
open Rd Fl

/-- the locks taken while a is had, by the first m of us -/
def toM (us : List UnD) (a : Int) : Nat → List Int
  | 0 => []
  | m + 1 => match us[m]? with
    | some u => if u.hd = a then putR (toM us a m) u.tkn else toM us a m
    | none => toM us a m
def toN (us : List UnD) (a : Int) : List Int := toM us a us.length
theorem toM_yes {us : List UnD} {a : Int} {m : Nat} {u : UnD} (h : us[m]? = some u) (e : u.hd = a) : toM us a (m + 1) = putR (toM us a m) u.tkn := by
  conv => lhs; unfold toM
  rw [h]; simp only; rw [if_pos e]
theorem toM_no {us : List UnD} {a : Int} {m : Nat} {u : UnD} (h : us[m]? = some u) (e : ¬ u.hd = a) : toM us a (m + 1) = toM us a m := by
  conv => lhs; unfold toM
  rw [h]; simp only; rw [if_neg e]
theorem toM_rises (us : List UnD) (a : Int) : ∀ m, (toM us a m).Pairwise (· < ·)
  | 0 => List.Pairwise.nil
  | m + 1 => by
    unfold toM
    cases us[m]? with
    | none => exact toM_rises us a m
    | some u =>
      simp only
      split
      · exact putR_rises _ _ (toM_rises us a m)
      · exact toM_rises us a m
theorem toM_mem {us : List UnD} {a x : Int} : ∀ {m : Nat}, x ∈ toM us a m ↔ ∃ k u, k < m ∧ us[k]? = some u ∧ u.hd = a ∧ u.tkn = x
  | 0 => by simp [toM]
  | m + 1 => by
    have ih := toM_mem (us := us) (a := a) (x := x) (m := m)
    unfold toM
    cases h : us[m]? with
    | none =>
      simp only
      rw [ih]
      constructor
      · rintro ⟨k, u, h1, h2⟩; exact ⟨k, u, by omega, h2⟩
      · rintro ⟨k, u, h1, h2, h3⟩
        have : k ≠ m := fun e => by rw [e, h] at h2; cases h2
        exact ⟨k, u, by omega, h2, h3⟩
    | some u =>
      simp only
      split
      · rename_i e
        rw [putR_mem, ih]
        constructor
        · rintro (rfl | ⟨k, v, h1, h2⟩)
          · exact ⟨m, u, by omega, h, e, rfl⟩
          · exact ⟨k, v, by omega, h2⟩
        · rintro ⟨k, v, h1, h2, h3, h4⟩
          by_cases hk : k = m
          · subst hk; rw [h] at h2; cases h2; exact .inl h4.symm
          · exact .inr ⟨k, v, by omega, h2, h3, h4⟩
      · rename_i e
        rw [ih]
        constructor
        · rintro ⟨k, v, h1, h2⟩; exact ⟨k, v, by omega, h2⟩
        · rintro ⟨k, v, h1, h2, h3, h4⟩
          have : k ≠ m := fun hk => by subst hk; rw [h] at h2; cases h2; exact e h3
          exact ⟨k, v, by omega, h2, h3, h4⟩
/-- a rising list between two bounds is short -/
theorem rises_short : ∀ (l : List Int) (lo hi : Int), l.Pairwise (· < ·) → (∀ x ∈ l, lo ≤ x ∧ x < hi) → (l.length : Int) ≤ max 0 (hi - lo)
  | [], lo, hi, _, _ => by rw [List.length_nil]; omega
  | x :: r, lo, hi, h, hb => by
    rw [List.pairwise_cons] at h
    have ih := rises_short r (x + 1) hi h.2 (fun y hy => ⟨by have := h.1 y hy; omega, (hb y (List.mem_cons_of_mem _ hy)).2⟩)
    have hx := hb x (List.mem_cons_self ..)
    rw [List.length_cons]
    omega
/-- locks in what is told are numbers from 0 to 99 -/
theorem undsAt_in {t : List EvD} (hg : goodTr t = true) {i : Nat} (hi : i < t.length) : ∀ u ∈ undsAt t i, (0 ≤ u.hd ∧ u.hd ≤ 99) ∧ (0 ≤ u.tkn ∧ u.tkn ≤ 99) := by
  intro u hu
  unfold undsAt at hu
  split at hu
  · rename_i ht
    rw [List.mem_map] at hu
    obtain ⟨h, hh, rfl⟩ := hu
    have hge : goodEv (evA t i) = true := by rw [evA_get hi]; exact good_ev hg hi
    have := tkE_good hge
    have h2 := heldTo_in hg _ i (by omega) h hh
    exact ⟨h2, by simp only; omega⟩
  · cases hu
theorem undTo_in {t : List EvD} (hg : goodTr t = true) : ∀ n, n ≤ t.length → ∀ u ∈ undTo t n, (0 ≤ u.hd ∧ u.hd ≤ 99) ∧ (0 ≤ u.tkn ∧ u.tkn ≤ 99)
  | 0, _, u, hu => by simp [undTo] at hu
  | n + 1, hn, u, hu => by
    rw [undTo_succ, List.mem_append] at hu
    rcases hu with hu | hu
    · exact undTo_in hg n (by omega) u hu
    · exact undsAt_in hg (by omega) u hu
theorem toM_len {us : List UnD} (hin : ∀ u ∈ us, (0 ≤ u.hd ∧ u.hd ≤ 99) ∧ (0 ≤ u.tkn ∧ u.tkn ≤ 99)) (a : Int) (m : Nat) : (toM us a m).length ≤ 100 := by
  have := rises_short (toM us a m) 0 100 (toM_rises us a m) (fun x hx => by
    obtain ⟨k, u, -, h2, -, rfl⟩ := toM_mem.1 hx
    have := hin u (List.mem_of_getElem? h2)
    omega)
  omega
/-- the pairs of which the first number is less than n, rising -/
def pairsTo (us : List UnD) (n : Nat) : List (List Int) := (List.range n).flatMap fun (a : Nat) => (toN us (a : Int)).map fun (b : Int) => [(a : Int), b]
theorem pairsTo_zero (us : List UnD) : pairsTo us 0 = [] := rfl
theorem pairsTo_succ (us : List UnD) (n : Nat) : pairsTo us (n + 1) = pairsTo us n ++ (toN us (n : Int)).map fun b => [(n : Int), b] := by
  unfold pairsTo; rw [List.range_succ, List.flatMap_append]; simp
/-- in the midst of n: of the locks taken the first m are told -/
def pairsMid (us : List UnD) (n m : Nat) : List (List Int) := pairsTo us n ++ ((toN us (n : Int)).take m).map fun b => [(n : Int), b]
theorem pairsMid_zero (us : List UnD) (n : Nat) : pairsMid us n 0 = pairsTo us n := by simp [pairsMid]
theorem pairsMid_step {us : List UnD} {n m : Nat} (h : m < (toN us (n : Int)).length) : pairsMid us n (m + 1) = pairsMid us n m ++ [[(n : Int), (toN us (n : Int))[m]]] := by
  unfold pairsMid
  rw [List.take_succ_eq_append_getElem h, List.map_append, List.append_assoc]
  rfl
theorem pairsMid_end (us : List UnD) (n : Nat) : pairsMid us n (toN us (n : Int)).length = pairsTo us (n + 1) := by
  unfold pairsMid
  rw [List.take_length, pairsTo_succ]
theorem pairsTo_len {us : List UnD} (hin : ∀ u ∈ us, (0 ≤ u.hd ∧ u.hd ≤ 99) ∧ (0 ≤ u.tkn ∧ u.tkn ≤ 99)) : ∀ n, (pairsTo us n).length ≤ n * 100
  | 0 => by simp [pairsTo]
  | n + 1 => by
    have ih := pairsTo_len hin n
    have h1 : (toN us (n : Int)).length ≤ 100 := toM_len hin _ _
    rw [pairsTo_succ, List.length_append, List.length_map]
    omega
theorem pairsMid_len {us : List UnD} (hin : ∀ u ∈ us, (0 ≤ u.hd ∧ u.hd ≤ 99) ∧ (0 ≤ u.tkn ∧ u.tkn ≤ 99)) {n m : Nat} (hn : n < 100) : (pairsMid us n m).length ≤ 10000 := by
  have h0 := pairsTo_len hin n
  have h1 : (toN us (n : Int)).length ≤ 100 := toM_len hin _ _
  unfold pairsMid
  rw [List.length_append, List.length_map, List.length_take]
  omega
/-- of a trace: of one that is not good there are none -/
def pairsN (l : List EvD) : List (List Int) := pairsTo (undersN l) 100
end Go.Proofs.Ytmflbibogkebmaa
namespace Go.Proofs.Ytmflbibogkebmaa
open Go.RowKit Go.Maps
open Rd Fl

set_option maxRecDepth 20000 in
set_option maxHeartbeats 8000000 in
theorem l8pairs_any (A : Option Addr) (l : List EvD) (cap : Nat) (hcap : l.length ≤ cap) (hg : goodTr l = true) (w : World) (hA : EvsAt w A l) :
    Calls Try.prog 53 #[.slice A l.length cap] w fun e w' => ∃ v Ms, e = .returned v ∧ PrR w w' (pairsTo (undTo l l.length) 100) v Ms := by
  obtain ⟨i0, hi, hz0, hz1, hz2⟩ := intsInfo
  have HU := hide' (fun w1 (hb : Below w.heap.size w w1) => l8unders_any A l cap hcap hg w1 (hA.keep hb))
  have HIN := hide' (undTo_in hg l.length (Nat.le_refl _))
  have HUL := hide' (show (undTo l l.length).length ≤ 40000 by have := undTo_len (t := l) (n := l.length) (good_len hg); have := good_len hg; omega)
  clear hA hg hcap
  generalize undTo l l.length = us at *
  go_enter Try.func53, Try.ntmps53
  go_wp2_with fail
  go_loopw [3, 4] (fun v x wr => ∃ (n : Nat) (Ms : List Nat), n ≤ 100 ∧ x = .int .i64 n ∧ Hid (PrR w wr (pairsTo us n) v Ms)) (fun _ x _ => 100 - (intOf x).toNat)
  case atStart => exact ⟨0, [], by omega, rfl, Below.refl _ _, rowss_nil _ _⟩
  case round =>
    obtain ⟨n, Ms, hn, rfl, hr⟩ := hrel
    by_cases hlt : n < 100
    · have hn2 : (n : Int) < 100 := by omega
      have HTL := hide' (fun m => toM_len HIN.out (n : Int) m)
      have HYES := hide' (fun m u h e => toM_yes (us := us) (a := (n : Int)) (m := m) (u := u) h e)
      have HNO := hide' (fun m u h e => toM_no (us := us) (a := (n : Int)) (m := m) (u := u) h e)
      go_wp2_with (go_at_call 49; refine (HU.out _ hr.out.b).mono ?_; rintro e w1 ⟨v1, rfl, hr1⟩; obtain ⟨A1, cc1, e1⟩ := own_shape_z hr1.o; subst e1; have U1 := hide' hr1; have R1 := hide' (hr.out.keep hr1.b))
      have L1 := hide' (show Rsp w1 (.slice none 0 0) (toM us n 0) w1 from ⟨Below.refl _ _, World.ownsRow_nil _ _ _ _⟩)
      have hul : (us.length : Int) ≤ 40000 := by have := HUL.out; omega
      obtain ⟨wo, rfl⟩ : ∃ wo, wo = wr := ⟨_, rfl⟩
      clear hr
      go_loopw [5, 17] (fun v x wx => ∃ m : Nat, m ≤ us.length ∧ x = .int .i64 m ∧ Hid (Rsp w1 v (toM us n m) wx)) (fun _ x _ => us.length - (intOf x).toNat)
      case atStart => exact ⟨0, Nat.zero_le _, rfl, L1.out⟩
      case round =>
        obtain ⟨m, hm, rfl, hl⟩ := hrel
        by_cases hml : m < us.length
        · have hmi : (m : Int) < us.length := by omega
          have U2 := hide' (U1.out.keep hl.out.b)
          obtain ⟨b3, hb3⟩ : ∃ b3, A1 = some ⟨b3, 0, none⟩ := by
            rcases U2.out.o.2 with ⟨e, h0⟩ | ⟨g, c, cur, e, -⟩
            · omega
            · injection e with e1 e2 e3; exact ⟨g, e1⟩
          subst hb3
          have hu := List.getElem?_eq_getElem hml
          have e0 := (U2.out.o.cellAt (m * 4) (by omega)).trans (unC_get us m 0 _ hu (by omega))
          have e1 := (U2.out.o.cellAt (m * 4 + 1) (by omega)).trans (unC_get us m 1 _ hu (by omega))
          have e2 := (U2.out.o.cellAt (m * 4 + 2) (by omega)).trans (unC_get us m 2 _ hu (by omega))
          have e3 := (U2.out.o.cellAt (m * 4 + 3) (by omega)).trans (unC_get us m 3 _ hu (by omega))
          have HY := hide' (fun e => HYES.out m _ hu e)
          have HN := hide' (fun e => HNO.out m _ hu e)
          have HL := hide' (HTL.out m)
          generalize us[m] = u at e0 e1 e2 e3 HY HN
          clear hu
          obtain ⟨r0, r1, r2, r3⟩ := u
          simp only [UnD.cells, List.getElem?_cons_zero, List.getElem?_cons_succ] at e0 e1 e2 e3 HY HN
          have X := hide' ((Below.refl wr.heap.size wr).up (.cells #[.int .i64 r0, .int .i64 r1, .int .i64 r2, .int .i64 r3] 64))
          have L2 := hide' (hl.out.keep X.out)
          cases hb : (r0 == (n : Int))
          · have HE := hide' (HN.out (by simpa using hb))
            go_wp2_with fail
            go_roundw
            case rel => exact ⟨m + 1, by omega, by go_num, by rw [HE.out]; exact L2.out⟩
            case measure => simp [intOf]; omega
          · have HE := hide' (HY.out (by simpa using hb))
            have HP := hide' (l1put_any (toM us n m) r1 u5 (by have := HL.out; omega) w1 _ L2.out)
            go_wp2_with (go_at_call 42; refine HP.out.mono ?_; rintro e w5 ⟨⟨v5, rfl, hr5⟩, hb5⟩; have R5 := hide' hr5)
            go_roundw
            case rel => exact ⟨m + 1, by omega, by go_num, by rw [HE.out]; exact R5.out⟩
            case measure => simp [intOf]; omega
        · have hme : m = us.length := by omega
          subst hme
          have R2 := hide' (R1.out.keep hl.out.b)
          have L2 := hide' (own_less hl.out.o (show w.heap.size ≤ w1.heap.size from R1.out.b.size))
          have HTL2 := hide' (show (toN us n).length ≤ 100 from HTL.out _)
          have HSTEP := hide' (fun m (h : m < (toN us n).length) => pairsMid_step h)
          have HEND := hide' (pairsMid_end us n)
          have HPL := hide' (fun m => pairsMid_len (m := m) HIN.out hlt)
          have e9 : toM us n us.length = toN us n := rfl
          rw [e9] at L2
          generalize toN us n = tn at *
          obtain ⟨A5, c5, e5⟩ := own_shape_z L2.out
          subst e5
          have htn : (tn.length : Int) ≤ 100 := by have := HTL2.out; omega
          clear hl R1 L1 HYES HNO HTL U1 e9
          go_wp2_with fail
          obtain ⟨wu, rfl⟩ : ∃ wu, wu = wr := ⟨_, rfl⟩
          go_loopw [3, 32] (fun v x wx => ∃ (m : Nat) (Ms : List Nat), m ≤ tn.length ∧ x = .int .i64 m ∧ Hid (PrR w wx (pairsMid us n m) v Ms) ∧ Hid (wx.ownsRow w.heap.size 3 1 (.slice A5 tn.length c5) tn.length (tn.map iv))) (fun _ x _ => tn.length - (intOf x).toNat)
          case atStart => exact ⟨0, _, Nat.zero_le _, rfl, by rw [pairsMid_zero]; exact R2.out, L2.out⟩
          case round =>
            clear R2 L2
            obtain ⟨m, Ms, hm, rfl, R2, L2⟩ := hrel
            by_cases hml : m < tn.length
            · have hmi : (m : Int) < tn.length := by omega
              have HS := hide' (HSTEP.out m hml)
              obtain ⟨b3, hb3⟩ : ∃ b3, A5 = some ⟨b3, 0, none⟩ := by
                rcases L2.out.2 with ⟨e, h0⟩ | ⟨g, c, cur, e, -⟩
                · omega
                · injection e with e1 e2 e3; exact ⟨g, e1⟩
              subst hb3
              have e0 := L2.out.cellAt m (by omega)
              have hbm : (tn.map iv)[m]? = some (iv tn[m]) := by rw [List.getElem?_map, List.getElem?_eq_getElem hml]; rfl
              rw [hbm] at e0
              unfold iv at e0
              generalize tn[m] = h0 at e0 HS
              clear hbm
              have HL := hide' (HPL.out m)
              have HZ := hide' R2.out.b.size
              have HLN := hide' (fun (w5 : World) (v5 : Value) (o1 o2 : Obj) (hv : v5 = u3) (hg5 : ((wr.alloc o1).alloc o2).grownBy w5 v5.ownBlock) => ((L2.out.alloc o1).alloc o2).kept hg5 (by rw [hv]; exact types_ne_z L2.out R2.out.r.o (by decide)))
              go_wp2_with (first
                | (at_builtin; refine wpList_append_own_at _ rfl _ _ 34 rfl w.heap.size 24 i0 (.slice none 0 0) 1 24 Try.underlying34 hi hz0 hz1 hz2 rfl (by decide) _ _ _ rfl ((R2.out.r.o.alloc _).alloc _) ⟨wr.heap.size + 1, 0, none⟩ 1 1 [slV wr.heap.size [(n : Int), h0]] rfl rfl ?c1 ?c2 ?c3 ?c4 ?c5 ?_)
                | go_in)
              case c1 =>
                intro j u hj
                match j, hj with
                | 0, hj => simp at hj; subst hj; simp [slV, Addr.add]
              case c2 => intro u hu; simp at hu; subst hu; rfl
              case c3 => unfold maxLen; have := HL.out; omega
              case c4 => have := HL.out; omega
              case c5 => have := HZ.out; simp; omega
              intro v' w3 hown3 hgrow _ hblk
              have R3 := hide' (R2.out.snoc (n : Int) h0 hown3 hgrow hblk)
              have L3 := hide' (HLN.out _ _ _ _ rfl hgrow)
              clear hown3 hgrow hblk
              go_wp2_with fail
              go_roundw
              case rel => exact ⟨m + 1, _, by omega, by go_num, by rw [HS.out]; exact R3.out, L3.out⟩
              case measure => simp [intOf]; omega
            · have hme : m = tn.length := by omega
              subst hme
              go_wp2_with fail
              go_roundw
              case rel => exact ⟨n + 1, _, by omega, by go_num, by rw [← HEND.out]; exact R2.out⟩
              case measure => simp [intOf]; omega
    · have hne : n = 100 := by omega
      subst hne
      go_wp2_with fail
      go_ret
      exact ⟨_, _, rfl, hr.out⟩
end Go.Proofs.Ytmflbibogkebmaa
