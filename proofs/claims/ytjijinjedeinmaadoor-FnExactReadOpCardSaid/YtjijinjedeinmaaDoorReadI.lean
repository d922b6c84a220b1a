/- What impl.readParts and impl.ReadNum answer of a text that is no edge's: contracts. -/
import Derived.Test.YtjijinjedeinmaaDoorReadS
import Derived.Test.YtjijinjedeinmaaDoorText
import Derived.Test.YtjijinjedeinmaaDoorNumOfJ
namespace Go.Proofs.YtjijinjedeinmaaDoor
open Go.RowKit
open Rd Fl

/-- What the road reads of the package's variables. -/
structure Env (w : World) : Prop where
  tab : Tab w
  pow : Lib.TabIs Tryd.prog w "internal/strconv.uint64pow10" .u64 Lib.pow10Tab
  len : ∃ m, w.cell? ⟨3, 0, none⟩ = some (.int .i64 m)
  syn : ∃ t p, w.cell? ⟨4, 0, none⟩ = some (.iface t p)
  rng : ∃ t p, w.cell? ⟨5, 0, none⟩ = some (.iface t p)

theorem cell_keep {w w' : World} (hb : Below w.heap.size w w') {a : Addr} {v : Value} (hc : w.cell? a = some v) : w'.cell? a = some v := (hb.cell (World.block_lt_of_cell? w a hc)).trans hc
theorem Env.below {w w' : World} (h : Env w) (hb : Below w.heap.size w w') : Env w' where
  tab := fun i hi => cell_keep hb (h.tab i hi)
  pow := tab_below gPow h.pow hb
  len := let ⟨m, hm⟩ := h.len; ⟨m, cell_keep hb hm⟩
  syn := let ⟨t, p, hm⟩ := h.syn; ⟨t, p, cell_keep hb hm⟩
  rng := let ⟨t, p, hm⟩ := h.rng; ⟨t, p, cell_keep hb hm⟩

theorem atoi_ok (s : ByteArray) (hs : s.size ≤ 1048576) (v : Int) (h : Lib.atoiAll s.data.toList = .ok v) (w : World) :
    Calls Tryd.prog 71 #[.string s] w fun e w' => e = .returned (.tuple #[.int .i64 v, .nilIface]) ∧ Below w.heap.size w w' := by
  refine (Tryd.strconv_Atoi_ok s (by omega) v h w).mono ?_
  rintro e w' ⟨rfl, rfl | ⟨t, rfl⟩⟩
  · exact ⟨rfl, Below.refl _ _⟩
  · exact ⟨rfl, Lib.bytesWorld_below _ _ _⟩

theorem atoi_err (s : ByteArray) (hs : s.size ≤ 1048576) (h : ∀ v, Lib.atoiAll s.data.toList ≠ .ok v) (w : World) (hE : Env w) :
    Calls Tryd.prog 71 #[.string s] w fun e w' => (∃ n a, e = .returned (.tuple #[.int .i64 n, .iface 147 (.pointer (some a))])) ∧ Below w.heap.size w w' := by
  cases hr : Lib.atoiAll s.data.toList
  · exact absurd hr (h _)
  · obtain ⟨t, p, hc⟩ := hE.syn
    refine (Any.strconv_Atoi_syntax Tryd.laysC172 s (by omega) hr _ w hc (.inr ⟨t, p, rfl⟩)).mono ?_
    rintro e w' ⟨N, rfl, _, _, hb⟩
    exact ⟨⟨_, _, rfl⟩, hb⟩
  · obtain ⟨t, p, hc⟩ := hE.rng
    refine (Tryd.strconv_Atoi_range s (by omega) hr _ w hc (.inr ⟨t, p, rfl⟩)).mono ?_
    rintro e w' ⟨N, rfl, _, _, hb⟩
    exact ⟨⟨_, _, rfl⟩, hb⟩

theorem atoi_weak (s : ByteArray) (hs : s.size ≤ 1048576) (w : World) (hE : Env w) :
    Calls Tryd.prog 71 #[.string s] w fun e w' => (∃ n ev, e = .returned (.tuple #[.int .i64 n, ev])) ∧ Below w.heap.size w w' := by
  by_cases h : ∃ v, Lib.atoiAll s.data.toList = .ok v
  · obtain ⟨v, h⟩ := h
    refine (atoi_ok s hs v h w).mono ?_
    rintro e w' ⟨rfl, hb⟩
    exact ⟨⟨_, _, rfl⟩, hb⟩
  · refine (atoi_err s hs (fun v hv => h ⟨v, hv⟩) w hE).mono ?_
    rintro e w' ⟨⟨n, a, rfl⟩, hb⟩
    exact ⟨⟨_, _, rfl⟩, hb⟩

theorem noW_pr (m x : Int) (h : noB m x = true) : ∃ p, 0 < p ∧ p < 9218868437227405312 ∧ noW m x = wd (decide (m < 0)) p ∧ PR p m.natAbs x := by
  have hb := of_decide_eq_true h
  obtain ⟨ho, hl, hx1, hx2, hx3⟩ := hb
  have hm0 : 0 < m.natAbs := by omega
  refine ⟨rg m.natAbs (x + 1074).toNat, rg_pos _ _ hm0 hl, rg_lt _ _ hm0 hl (by omega), by unfold noW; rw [if_pos h], ho, hl, by omega, by omega, val_rg _ _ hm0 hl⟩

theorem itext_noW (m x : Int) (h : noB m x = true) (w : World) (hE : Env w) :
    Calls Tryd.prog 11 #[.float .f64 (noW m x)] w fun e w' => e = .returned (.string (numT m x)) ∧ Below w.heap.size w w' := by
  obtain ⟨p, h0, hp, hw, hpr⟩ := noW_pr m x h
  rw [hw]
  refine (itext_num (decide (m < 0)) p h0 hp w hE.tab hE.pow).mono ?_
  rintro e w' ⟨⟨q, x2, rfl, hx⟩, hb⟩
  obtain ⟨rfl, rfl⟩ := pr_unique hx hpr
  rw [sg_self]
  exact ⟨rfl, hb⟩

theorem cut_any (s : ByteArray) (hs : s.size ≤ 1048576) (w : World) (hE : Env w) :
    Calls Tryd.prog 69 #[.string s, .string ⟨#[112]⟩] w fun e w' => e = .returned (.tuple #[.string ⟨(Lib.cut s.data.toList [112]).1.toArray⟩, .string ⟨(Lib.cut s.data.toList [112]).2.1.toArray⟩, .bool (Lib.cut s.data.toList [112]).2.2]) ∧ Below w.heap.size w w' := by
  obtain ⟨m, hm⟩ := hE.len
  refine (Tryd.strings_Cut s ⟨#[112]⟩ m w (by omega) hm).mono ?_
  rintro e w' ⟨rfl, n, rfl⟩
  exact ⟨rfl, below_draws (Below.refl _ _) n⟩

theorem cut_small (l : List UInt8) : (Lib.cut l [112]).1.length ≤ l.length ∧ (Lib.cut l [112]).2.1.length ≤ l.length := by
  unfold Lib.cut
  split
  · simp only [List.length_take, List.length_drop]; omega
  · simp

set_option maxRecDepth 20000 in
set_option maxHeartbeats 1000000 in
theorem rparts_err1 (s : ByteArray) (hs : s.size ≤ 1048576) (h : ∀ v, Lib.atoiAll (Lib.cut s.data.toList [112]).1 ≠ .ok v) (w : World) (hE : Env w) :
    Calls Tryd.prog 44 #[.string s] w fun e w' => e = .returned (.tuple #[.float .f64 0, .bool false]) ∧ Below w.heap.size w w' := by
  have HC := hide' (cut_any s hs)
  have hc := cut_small s.data.toList
  have hz : s.data.toList.length = s.size := by simp
  have HA := hide' (fun w hE => atoi_err ⟨(Lib.cut s.data.toList [112]).1.toArray⟩ (by show (List.toArray _).size ≤ _; rw [List.size_toArray]; omega) h w hE)
  have HB := hide' (fun w hE => atoi_weak ⟨(Lib.cut s.data.toList [112]).2.1.toArray⟩ (by show (List.toArray _).size ≤ _; rw [List.size_toArray]; omega) w hE)
  generalize (⟨(Lib.cut s.data.toList [112]).1.toArray⟩ : ByteArray) = T1 at HC HA
  generalize (⟨(Lib.cut s.data.toList [112]).2.1.toArray⟩ : ByteArray) = T2 at HC HB
  generalize (Lib.cut s.data.toList [112]).2.2 = f at HC
  have HE := hide' hE
  clear hE hc hz h
  go_enter Tryd.func44, Tryd.ntmps44
  go_wp2_with (first | (go_at_call 69; refine (HC.out _ HE.out).mono ?_; rintro e w1 ⟨rfl, hb1⟩) | (go_at_call_of 71 T1; refine (HA.out _ (HE.out.below hb1)).mono ?_; rintro e w2 ⟨⟨n2, a2, rfl⟩, hb2⟩) | (go_at_call_of 71 T2; refine (HB.out _ ((HE.out.below hb1).below hb2)).mono ?_; rintro e w3 ⟨⟨n3, a3, rfl⟩, hb3⟩))
  go_ret2
  exact ⟨rfl, (hb1.trans (hb2.mono hb1.size)).trans (hb3.mono (Nat.le_trans hb1.size hb2.size))⟩

set_option maxRecDepth 20000 in
set_option maxHeartbeats 1000000 in
theorem rparts_err2 (s : ByteArray) (hs : s.size ≤ 1048576) (m : Int) (h1 : Lib.atoiAll (Lib.cut s.data.toList [112]).1 = .ok m) (h : ∀ v, Lib.atoiAll (Lib.cut s.data.toList [112]).2.1 ≠ .ok v) (w : World) (hE : Env w) :
    Calls Tryd.prog 44 #[.string s] w fun e w' => e = .returned (.tuple #[.float .f64 0, .bool false]) ∧ Below w.heap.size w w' := by
  have HC := hide' (cut_any s hs)
  have hc := cut_small s.data.toList
  have hz : s.data.toList.length = s.size := by simp
  have HA := hide' (fun w => atoi_ok ⟨(Lib.cut s.data.toList [112]).1.toArray⟩ (by show (List.toArray _).size ≤ _; rw [List.size_toArray]; omega) m h1 w)
  have HB := hide' (fun w hE => atoi_err ⟨(Lib.cut s.data.toList [112]).2.1.toArray⟩ (by show (List.toArray _).size ≤ _; rw [List.size_toArray]; omega) h w hE)
  generalize (⟨(Lib.cut s.data.toList [112]).1.toArray⟩ : ByteArray) = T1 at HC HA
  generalize (⟨(Lib.cut s.data.toList [112]).2.1.toArray⟩ : ByteArray) = T2 at HC HB
  generalize (Lib.cut s.data.toList [112]).2.2 = f at HC
  have HE := hide' hE
  clear hE hc hz h h1
  go_enter Tryd.func44, Tryd.ntmps44
  go_wp2_with (first | (go_at_call 69; refine (HC.out _ HE.out).mono ?_; rintro e w1 ⟨rfl, hb1⟩) | (go_at_call_of 71 T1; refine (HA.out _).mono ?_; rintro e w2 ⟨rfl, hb2⟩) | (go_at_call_of 71 T2; refine (HB.out _ ((HE.out.below hb1).below hb2)).mono ?_; rintro e w3 ⟨⟨n3, a3, rfl⟩, hb3⟩))
  go_ret2
  exact ⟨rfl, (hb1.trans (hb2.mono hb1.size)).trans (hb3.mono (Nat.le_trans hb1.size hb2.size))⟩

set_option maxRecDepth 20000 in
set_option maxHeartbeats 1000000 in
theorem rparts_both (s : ByteArray) (hs : s.size ≤ 1048576) (m x : Int) (h1 : Lib.atoiAll (Lib.cut s.data.toList [112]).1 = .ok m) (h2 : Lib.atoiAll (Lib.cut s.data.toList [112]).2.1 = .ok x) (hm1 : -9223372036854775808 ≤ m) (hm2 : m ≤ 9223372036854775807) (g : Bool) (hg : (noB m x && ((numT m x).toList == s.toList)) = g) (w : World) (hE : Env w) :
    Calls Tryd.prog 44 #[.string s] w fun e w' => e = .returned (.tuple #[.float .f64 (if g = true then noW m x else 0), .bool g]) ∧ Below w.heap.size w w' := by
  have HC := hide' (cut_any s hs)
  have hc := cut_small s.data.toList
  have hz : s.data.toList.length = s.size := by simp
  have HA := hide' (fun w => atoi_ok ⟨(Lib.cut s.data.toList [112]).1.toArray⟩ (by show (List.toArray _).size ≤ _; rw [List.size_toArray]; omega) m h1 w)
  have HB := hide' (fun w => atoi_ok ⟨(Lib.cut s.data.toList [112]).2.1.toArray⟩ (by show (List.toArray _).size ≤ _; rw [List.size_toArray]; omega) x h2 w)
  generalize (⟨(Lib.cut s.data.toList [112]).1.toArray⟩ : ByteArray) = T1 at HC HA
  generalize (⟨(Lib.cut s.data.toList [112]).2.1.toArray⟩ : ByteArray) = T2 at HC HB
  generalize (Lib.cut s.data.toList [112]).2.2 = f at HC
  have HE := hide' hE
  have HN := hide' (fun w => inumof_any m x hm1 hm2 w)
  clear hE hc hz h1 h2 hm1 hm2
  cases hb : noB m x
  · rw [hb, Bool.false_and] at hg
    subst hg
    rw [hb, noW_false hb] at HN
    clear hb
    go_enter Tryd.func44, Tryd.ntmps44
    go_wp2_with (first | (go_at_call 69; refine (HC.out _ HE.out).mono ?_; rintro e w1 ⟨rfl, hb1⟩) | (go_at_call_of 71 T1; refine (HA.out _).mono ?_; rintro e w2 ⟨rfl, hb2⟩) | (go_at_call_of 71 T2; refine (HB.out _).mono ?_; rintro e w3 ⟨rfl, hb3⟩) | (go_at_call 90; refine (HN.out _).mono ?_; rintro e w4 ⟨rfl, rfl⟩))
    go_ret2
    exact ⟨rfl, (hb1.trans (hb2.mono hb1.size)).trans (hb3.mono (Nat.le_trans hb1.size hb2.size))⟩
  · have HX := hide' (fun w hE => itext_noW m x hb w hE)
    rw [hb, Bool.true_and] at hg
    rw [hb] at HN
    clear hb
    generalize noW m x = v at HN HX
    generalize numT m x = T at hg HX
    cases g
    all_goals
      go_enter Tryd.func44, Tryd.ntmps44
      go_wp2_with (first | (go_at_call 69; refine (HC.out _ HE.out).mono ?_; rintro e w1 ⟨rfl, hb1⟩) | (go_at_call_of 71 T1; refine (HA.out _).mono ?_; rintro e w2 ⟨rfl, hb2⟩) | (go_at_call_of 71 T2; refine (HB.out _).mono ?_; rintro e w3 ⟨rfl, hb3⟩) | (go_at_call 90; refine (HN.out _).mono ?_; rintro e w4 ⟨rfl, rfl⟩) | (go_at_call 11; refine (HX.out _ (((HE.out.below hb1).below hb2).below hb3)).mono ?_; rintro e w5 ⟨rfl, hb5⟩))
      go_ret2
      exact ⟨rfl, ((hb1.trans (hb2.mono hb1.size)).trans (hb3.mono (Nat.le_trans hb1.size hb2.size))).trans (hb5.mono (Nat.le_trans (Nat.le_trans hb1.size hb2.size) hb3.size))⟩

set_option maxRecDepth 20000 in
set_option maxHeartbeats 1000000 in
theorem iread_long (s : ByteArray) (he : noEdge s) (hl : 40 < (s.size : Int)) (w : World) :
    Calls Tryd.prog 12 #[.string s] w fun e w' => e = .returned (.tuple #[.float .f64 0, .bool false]) ∧ Below w.heap.size w w' := by
  obtain ⟨n1, n2, n3, n4, n5⟩ := he
  go_enter Tryd.func12, Tryd.ntmps12
  go_wp2_with fail
  go_ret2
  exact ⟨rfl, Below.refl _ _⟩

set_option maxRecDepth 20000 in
set_option maxHeartbeats 1000000 in
theorem iread_parts (s : ByteArray) (hs : (s.size : Int) ≤ 40) (he : noEdge s) (v : Nat) (b : Bool) (H : ∀ w, Env w → Calls Tryd.prog 44 #[.string s] w fun e w' => e = .returned (.tuple #[.float .f64 v, .bool b]) ∧ Below w.heap.size w w') (w : World) (hE : Env w) :
    Calls Tryd.prog 12 #[.string s] w fun e w' => e = .returned (.tuple #[.float .f64 v, .bool b]) ∧ Below w.heap.size w w' := by
  obtain ⟨n1, n2, n3, n4, n5⟩ := he
  have HH := hide' (H w hE)
  clear H hE
  go_enter Tryd.func12, Tryd.ntmps12
  go_wp2_with (go_at_call 44; refine HH.out.mono ?_; rintro e w1 ⟨rfl, hb⟩)
  go_ret2
  exact ⟨rfl, hb⟩

theorem numT_list (m x : Int) : (numT m x).data.toList = Lib.itoa m ++ 112 :: Lib.itoa x := by
  unfold numT tx
  rw [ByteArray.mk_append_mk _ [112], ByteArray.mk_append_mk]
  simp

theorem atoi_range {l : List UInt8} {m : Int} (h : Lib.atoiAll l = .ok m) : -9223372036854775808 ≤ m ∧ m ≤ 9223372036854775807 := by
  unfold Lib.atoiAll at h
  cases l with
  | nil => cases h
  | cons c r =>
    simp only at h
    split at h
    · cases h
    · cases h
    · split at h
      · cases h
      · split at h
        · cases h
        · rename_i h1 h2
          injection h with h
          subst h
          split <;> omega

theorem read_parts (s : ByteArray) (hs : (s.size : Int) ≤ 40) (A B : List UInt8) (hl : s.data.toList = A ++ 112 :: B) (hA : (112 : UInt8) ∉ A) (w : World) (hE : Env w) :
    Calls Tryd.prog 44 #[.string s] w fun e w' => e = .returned (.tuple #[.float .f64 (if (sgB A && sgB B) = true then noW (sgV A) (sgV B) else 0), .bool (sgB A && sgB B && noB (sgV A) (sgV B))]) ∧ Below w.heap.size w w' := by
  have hc := cut_at A B hA
  rw [← hl] at hc
  by_cases ha : ∃ m, Lib.atoiAll A = .ok m
  · obtain ⟨m, ha⟩ := ha
    by_cases hb : ∃ x, Lib.atoiAll B = .ok x
    · obtain ⟨x, hb⟩ := hb
      have hr := atoi_range ha
      have key : (if (sgB A && sgB B) = true then noW (sgV A) (sgV B) else 0) = (if (noB m x && ((numT m x).toList == s.toList)) = true then noW m x else 0) ∧ (sgB A && sgB B && noB (sgV A) (sgV B)) = (noB m x && ((numT m x).toList == s.toList)) := by
        rw [ByteArray.toList_eq, ByteArray.toList_eq, numT_list, hl]
        by_cases hg : (noB m x && (Lib.itoa m ++ 112 :: Lib.itoa x == A ++ 112 :: B)) = true
        · rw [hg]
          rw [Bool.and_eq_true] at hg
          obtain ⟨hn, hq⟩ := hg
          have hq2 : Lib.itoa m ++ 112 :: Lib.itoa x = A ++ 112 :: B := by simpa using hq
          obtain ⟨e1, e2⟩ := split_unique _ _ _ _ (itoa_nop m) hA hq2
          subst e1; subst e2
          have hb2 := of_decide_eq_true hn
          have i1 := itoa_sg m (by have := hb2.2.1; omega)
          have i2 := itoa_sg x (by have := hb2.2.2.1; have := hb2.2.2.2.1; omega)
          rw [i1.1, i1.2, i2.1, i2.2, hn]
          exact ⟨rfl, rfl⟩
        · rw [Bool.eq_false_iff.2 hg]
          have h3 : (sgB A && sgB B && noB (sgV A) (sgV B)) = false := by
            rw [Bool.eq_false_iff]
            intro h
            rw [Bool.and_eq_true, Bool.and_eq_true] at h
            obtain ⟨⟨g1, g2⟩, g3⟩ := h
            obtain ⟨j1, j2⟩ := sg_itoa A g1
            obtain ⟨j3, j4⟩ := sg_itoa B g2
            have k1 := atoi_itoa (sgV A) j2
            have k2 := atoi_itoa (sgV B) j4
            rw [← j1, ha] at k1
            rw [← j3, hb] at k2
            have e1 : m = sgV A := by injection k1
            have e2 : x = sgV B := by injection k2
            apply hg
            rw [e1, e2, g3, ← j1, ← j3]
            simp
          refine ⟨?_, h3⟩
          by_cases h4 : (sgB A && sgB B) = true
          · rw [if_pos h4]
            rw [h4, Bool.true_and] at h3
            rw [noW_false h3]
            simp
          · rw [if_neg h4]; simp
      rw [key.1, key.2]
      exact rparts_both s (by omega) m x (by rw [hc]; exact ha) (by rw [hc]; exact hb) hr.1 hr.2 _ rfl w hE
    · have hf : sgB B = false := by
        rw [Bool.eq_false_iff]; intro h
        obtain ⟨j1, j2⟩ := sg_itoa B h
        exact hb ⟨_, by rw [j1]; exact atoi_itoa _ j2⟩
      rw [hf]
      simp only [Bool.and_false, Bool.false_and, Bool.false_eq_true, if_false]
      exact rparts_err2 s (by omega) m (by rw [hc]; exact ha) (by rw [hc]; exact fun v hv => hb ⟨v, hv⟩) w hE
  · have hf : sgB A = false := by
      rw [Bool.eq_false_iff]; intro h
      obtain ⟨j1, j2⟩ := sg_itoa A h
      exact ha ⟨_, by rw [j1]; exact atoi_itoa _ j2⟩
    rw [hf]
    simp only [Bool.false_and, Bool.false_eq_true, if_false]
    exact rparts_err1 s (by omega) (by rw [hc]; exact fun v hv => ha ⟨v, hv⟩) w hE

theorem read_none (s : ByteArray) (hs : (s.size : Int) ≤ 40) (hp : (112 : UInt8) ∉ s.data.toList) (w : World) (hE : Env w) :
    Calls Tryd.prog 44 #[.string s] w fun e w' => e = .returned (.tuple #[.float .f64 0, .bool false]) ∧ Below w.heap.size w w' := by
  have hc := cut_none _ hp
  by_cases ha : ∃ m, Lib.atoiAll s.data.toList = .ok m
  · obtain ⟨m, ha⟩ := ha
    exact rparts_err2 s (by omega) m (by rw [hc]; exact ha) (by rw [hc]; intro v hv; cases hv) w hE
  · exact rparts_err1 s (by omega) (by rw [hc]; exact fun v hv => ha ⟨v, hv⟩) w hE

/-- Of a text that is no edge's both tell the same. -/
theorem read_same (s : ByteArray) (hs : s.size ≤ 1048576) (he : noEdge s) : ∃ v b, (∃ t r, r < 9223372036854775808 ∧ v = wd t r) ∧
    (∀ w, Calls Tryd.prog 16 #[.string s] w fun e w' => e = .returned (.tuple #[.float .f64 v, .bool b]) ∧ ∃ n, w' = w.drewN n) ∧
    (∀ w, Env w → Calls Tryd.prog 12 #[.string s] w fun e w' => e = .returned (.tuple #[.float .f64 v, .bool b]) ∧ Below w.heap.size w w') := by
  by_cases hl : 40 < (s.size : Int)
  · exact ⟨0, false, ⟨false, 0, by omega, rfl⟩, sread_long s hs he hl, fun w _ => iread_long s he hl w⟩
  · have hl2 : (s.size : Int) ≤ 40 := by omega
    by_cases hp : (112 : UInt8) ∈ s.data.toList
    · obtain ⟨A, B, h1, h2⟩ := List.eq_append_cons_of_mem hp
      refine ⟨_, _, ?_, sread_some s hl2 he A B h1 h2, fun w hE => iread_parts s hl2 he _ _ (fun w hE => read_parts s hl2 A B h1 h2 w hE) w hE⟩
      split
      · exact noW_wd _ _
      · exact ⟨false, 0, by omega, rfl⟩
    · exact ⟨0, false, ⟨false, 0, by omega, rfl⟩, sread_none s hl2 he hp, fun w hE => iread_parts s hl2 he _ _ (fun w hE => read_none s hl2 hp w hE) w hE⟩
end Go.Proofs.YtjijinjedeinmaaDoor
