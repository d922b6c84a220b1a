/- What spec.l1Digits, spec.l1Signed and spec.ReadNum answer: contracts. -/
import Derived.Test.YtjijinjedeinmaaDoorReadM
import Derived.Test.YtjijinjedeinmaaDoorRows
import Derived.WalkKit
import Derived.WalkSpells
import Derived.WalkLawsBesides
namespace Go.Proofs.YtjijinjedeinmaaDoor
open Go.RowKit
open Rd

theorem take_snoc (s : ByteArray) (k : Nat) (h : k < s.size) : s.data.toList.take (k + 1) = s.data.toList.take k ++ [s[k]] := by
  rw [List.take_succ_eq_append_getElem (by simpa using h)]; rfl

theorem dgN_bad {l : List UInt8} (h : canonB l = false) : dgN l = -1 := by unfold dgN; rw [h]; rfl

theorem hide' {p : Prop} (h : p) : Hid p := h

/-- a test on the first byte -/
theorem head_byte (s : ByteArray) (h : 0 < s.size) : s.data.toList.head? = some s[0] := by
  rw [List.head?_eq_getElem?, List.getElem?_eq_getElem (by simpa using h)]; rfl

set_option maxRecDepth 20000 in
set_option maxHeartbeats 1000000 in
theorem l1digits_any (s : ByteArray) (w : World) (hs : s.size ≤ 1048576) :
    Calls Tryd.prog 68 #[.string s] w fun e w' => e = .returned (.int .i64 (dgN s.data.toList)) ∧ w' = w := by
  by_cases h0 : s.size = 0
  · have hb : canonB s.data.toList = false := by
      have : s.data.toList = [] := List.length_eq_zero_iff.1 (by simpa using h0)
      rw [this]; rfl
    rw [dgN_bad hb]
    have h1 : ((s.size : Int) == 0) = true := by simp [h0]
    clear hb
    have H0 := hide' h0
    clear h0
    go_enter Tryd.func68, Tryd.ntmps68
    go_wp2
    go_ret
    exact ⟨rfl, rfl⟩
  have h1 : ((s.size : Int) == 0) = false := by
    have : ¬ (s.size : Int) = 0 := by omega
    simpa using this
  by_cases h2 : 16 < (s.size : Int)
  · have hb : canonB s.data.toList = false := by
      rw [Bool.eq_false_iff]
      intro h
      have := ((canonB_iff _).1 h).2
      simp at this
      have : s.size ≤ 16 := this
      omega
    rw [dgN_bad hb]
    clear hb h0
    go_enter Tryd.func68, Tryd.ntmps68
    go_wp2
    go_ret
    exact ⟨rfl, rfl⟩
  have hpos : 0 < s.size := by omega
  have hidx : (0 : Int) < s.size := by omega
  have hhd := head_byte s hpos
  by_cases h3 : ((s[0].toNat : Int) == 48) = true ∧ 1 < (s.size : Int)
  · obtain ⟨h3, h4⟩ := h3
    have hb : canonB s.data.toList = false := by
      rw [Bool.eq_false_iff]
      intro h
      have h48 : s[0].toNat = 48 := by
        have : (s[0].toNat : Int) = 48 := by simpa using h3
        omega
      have h5 := ((canonB_iff _).1 h).1.2.2 (by
        rw [hhd]
        exact congrArg some (UInt8.toNat_inj.1 h48))
      simp at h5
      have : s.size = 1 := h5
      omega
    rw [dgN_bad hb]
    clear hb h0 hhd
    go_enter Tryd.func68, Tryd.ntmps68
    go_wp2
    go_ret
    exact ⟨rfl, rfl⟩
  have hend : ((s[0].toNat : Int) == 48) = false ∨ (((s[0].toNat : Int) == 48) = true ∧ (s.size : Int) = 1) := by
    cases hq : ((s[0].toNat : Int) == 48)
    · exact .inl rfl
    · refine .inr ⟨rfl, ?_⟩
      by_cases h4 : 1 < (s.size : Int)
      · exact absurd ⟨hq, h4⟩ h3
      · omega
  have HC : Hid (canonB s.data.toList = s.data.toList.all fun c => decide (48 ≤ c.toNat ∧ c.toNat ≤ 57)) := by
    show _ = _
    unfold canonB
    have e1 : s.data.toList.isEmpty = false := by
      cases hd : s.data.toList with
      | nil => rw [hd] at hhd; cases hhd
      | cons a r => rfl
    have hl : s.data.toList.length = s.size := by simp
    have e2 : decide (s.data.toList.length ≤ 16) = true := decide_eq_true (by rw [hl]; omega)
    have e3 : (s.data.toList.head? == some 48 && decide (1 < s.data.toList.length)) = false := by
      rw [hhd, hl]
      rcases hend with h | ⟨_, h⟩
      · have : ¬ s[0] = 48 := by
          intro e
          rw [e] at h
          exact absurd h (by decide)
        simp [this]
      · have : ¬ 1 < s.size := by omega
        simp [this]
    rw [e1, e2, e3]; simp
  clear h3 hhd h0
  have hle : (s.size : Int) ≤ 16 := by omega
  clear h2
  rcases hend with h5 | ⟨h5, h6⟩
  all_goals
    go_enter Tryd.func68, Tryd.ntmps68
    go_wp2
    go_loop [3, 4] (fun n i => ∃ k : Nat, k ≤ s.size ∧ i = .int .i64 k ∧ n = .int .i64 ((v10 0 (s.data.toList.take k) : Nat) : Int) ∧ Hid (∀ c ∈ s.data.toList.take k, isD c)) (fun _ i => s.size - (intOf i).toNat)
    case atStart => exact ⟨0, Nat.zero_le _, rfl, rfl, fun c hc => by simp at hc⟩
    case round =>
      obtain ⟨k, hk, rfl, rfl, HA⟩ := hrel
      by_cases hlt : k < s.size
      · by_cases hdig : 48 ≤ (s[k].toNat : Int) ∧ (s[k].toNat : Int) ≤ 57
        · obtain ⟨hd1, hd2⟩ := hdig
          have hvl := v10_lt _ HA.out 0
          have hlen : (s.data.toList.take k).length ≤ 15 := by rw [List.length_take]; omega
          have hp := Nat.pow_le_pow_right (show 0 < 10 by omega) hlen
          rw [show (10 : Nat) ^ 15 = 1000000000000000 by simp] at hp
          have hsn := v10_snoc (s.data.toList.take k) s[k] 0
          rw [← take_snoc s k hlt] at hsn
          have HB : Hid (∀ c ∈ s.data.toList.take (k + 1), isD c) := by
            intro c hc
            rw [take_snoc s k hlt, List.mem_append, List.mem_singleton] at hc
            rcases hc with hc | hc
            · exact HA.out c hc
            · rw [hc]; exact ⟨by omega, by omega⟩
          generalize hV : v10 0 (s.data.toList.take k) = V at hvl hsn
          have HS : Hid (v10 0 (s.data.toList.take (k + 1)) = V * 10 + (s[k].toNat - 48)) := hsn
          have hw1 : wrap64 (10 * (V : Int)) = 10 * (V : Int) := by unfold wrap64; omega
          have hw2 : wrap64 (10 * (V : Int) + ((s[k].toNat : Int) - 48)) = 10 * (V : Int) + ((s[k].toNat : Int) - 48) := by unfold wrap64; omega
          clear hvl hsn hp hlen hV
          go_wp2
          go_round
          case rel => exact ⟨k + 1, by omega, by go_num, by rw [hw2, HS.out]; exact congrArg (Value.int .i64) (by omega), HB⟩
          case measure => simp [intOf]; omega
        · have hb : canonB s.data.toList = false := by
            rw [HC.out, Bool.eq_false_iff]
            intro h
            have := List.all_eq_true.1 h s[k] (by
              have : s[k] = s.data.toList[k]'(by simpa using hlt) := rfl
              rw [this]; exact List.getElem_mem _)
            have h7 : 48 ≤ s[k].toNat ∧ s[k].toNat ≤ 57 := by simpa using this
            exact hdig ⟨by omega, by omega⟩
          have HB := hide' (dgN_bad hb)
          clear hb
          by_cases hd1 : (s[k].toNat : Int) < 48
          · clear hdig
            go_wp2
            go_ret
            exact ⟨by rw [HB.out]; rfl, rfl⟩
          · have hd2 : 57 < (s[k].toNat : Int) := by omega
            clear hdig
            go_wp2
            go_ret
            exact ⟨by rw [HB.out]; rfl, rfl⟩
      · have hks : k = s.size := by omega
        have HD : Hid (dgN s.data.toList = ((v10 0 (s.data.toList.take k) : Nat) : Int)) := by
          show _ = _
          have ht : s.data.toList.take k = s.data.toList := List.take_of_length_le (by simp; omega)
          rw [ht]
          have ha := HA.out
          rw [ht] at ha
          unfold dgN
          rw [if_pos (by
            rw [HC.out, List.all_eq_true]
            intro c hc
            exact decide_eq_true (ha c hc))]
        clear hks
        go_wp2
        go_ret
        refine ⟨?_, rfl⟩
        rw [HD.out]
        rfl

set_option maxRecDepth 20000 in
set_option maxHeartbeats 1000000 in
theorem l1signed_any (s : ByteArray) (w : World) (hs : s.size ≤ 1048576) :
    Calls Tryd.prog 53 #[.string s] w fun e w' => e = .returned (.tuple #[.int .i64 (sgV s.data.toList), .bool (sgB s.data.toList)]) ∧ w' = w := by
  by_cases h0 : s.size = 0
  · obtain rfl : s = ⟨#[]⟩ := by
      cases s with
      | mk d =>
        have : d = #[] := Array.eq_empty_of_size_eq_zero h0
        rw [this]
    have e1 : sgV [] = dgN [] := rfl
    have e2 : sgB [] = decide (0 ≤ dgN []) := rfl
    show Calls Tryd.prog 53 #[.string ⟨#[]⟩] w fun e w' => e = .returned (.tuple #[.int .i64 (sgV []), .bool (sgB [])]) ∧ w' = w
    rw [e1, e2]
    clear e1 e2 h0 hs
    go_enter Tryd.func53, Tryd.ntmps53
    go_wp2_with (go_at_call 68; refine (l1digits_any ⟨#[]⟩ _ (by decide)).mono ?_; rintro e w' ⟨rfl, rfl⟩)
    go_ret2
    exact ⟨rfl, rfl⟩
  · have hpos : 0 < s.size := by omega
    have hidx : (0 : Int) < s.size := by omega
    have hhd := head_byte s hpos
    by_cases h3 : ((s[0].toNat : Int) == 45) = true
    · have h45 : s[0] = 45 := UInt8.toNat_inj.1 (by
        have : (s[0].toNat : Int) = 45 := by simpa using h3
        show s[0].toNat = 45
        omega)
      have e1 : sgV s.data.toList = -(dgN s.data.toList.tail) := by unfold sgV; rw [if_pos (by rw [hhd, h45])]
      have e2 : sgB s.data.toList = decide (0 < dgN s.data.toList.tail) := by unfold sgB; rw [if_pos (by rw [hhd, h45])]
      rw [e1, e2]
      have hex : (s.extract 1 s.size).data.toList = s.data.toList.tail := by
        rw [ByteArray.data_extract, Array.toList_extract]
        simp only [List.extract, List.drop_one]
        exact List.take_of_length_le (by simp)
      have HD : Hid (∀ w, Calls Tryd.prog 68 #[.string (s.extract 1 s.size)] w fun e w' => e = .returned (.int .i64 (dgN s.data.toList.tail)) ∧ w' = w) := by
        intro w
        have := l1digits_any (s.extract 1 s.size) w (by rw [ByteArray.size_extract]; omega)
        rw [hex] at this
        exact this
      have hle := dgN_le s.data.toList.tail
      generalize dgN s.data.toList.tail = D at HD hle
      have hwn : wrap64 (-D) = -D := by unfold wrap64; omega
      clear e1 e2 hhd h45 h0 hex hle
      go_enter Tryd.func53, Tryd.ntmps53
      go_wp2_with (go_at_call 68; refine (HD.out _).mono ?_; rintro e w' ⟨rfl, rfl⟩)
      go_ret2
      refine ⟨?_, rfl⟩
      first
        | rfl
        | (show Ending.returned (.tuple #[.int .i64 (wrap64 (-D)), .bool (decide (0 < D))]) = _; rw [hwn])
    · have h45 : ((s[0].toNat : Int) == 45) = false := by simpa using h3
      have hne : ¬ s.data.toList.head? = some 45 := by
        rw [hhd]
        intro e
        have : s[0] = 45 := by simpa using e
        rw [this] at h45
        exact absurd h45 (by decide)
      have e1 : sgV s.data.toList = dgN s.data.toList := by unfold sgV; rw [if_neg hne]
      have e2 : sgB s.data.toList = decide (0 ≤ dgN s.data.toList) := by unfold sgB; rw [if_neg hne]
      rw [e1, e2]
      clear e1 e2 hhd hne h0 h3
      go_enter Tryd.func53, Tryd.ntmps53
      go_wp2_with (go_at_call 68; refine (l1digits_any _ _ hs).mono ?_; rintro e w' ⟨rfl, rfl⟩)
      go_ret2
      exact ⟨rfl, rfl⟩
end Go.Proofs.YtjijinjedeinmaaDoor
