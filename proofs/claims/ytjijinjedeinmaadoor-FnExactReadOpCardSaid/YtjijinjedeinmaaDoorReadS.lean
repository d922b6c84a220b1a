/- What spec.ReadNum answers of a text that is no edge's: contract. -/
import Derived.Test.YtjijinjedeinmaaDoorRead
import Derived.Test.YtjijinjedeinmaaDoorNumOf
import Derived.Deep.RegionWith
namespace Go.Proofs.YtjijinjedeinmaaDoor
open Go.RowKit
open Rd Fl

/-- the word and the bool of a text that is no edge's -/
def rdB (l : List UInt8) : Bool := (Lib.cut l [112]).2.2 && sgB (Lib.cut l [112]).1 && sgB (Lib.cut l [112]).2.1 && noB (sgV (Lib.cut l [112]).1) (sgV (Lib.cut l [112]).2.1)
def rdW (l : List UInt8) : Nat := if rdB l = true then noW (sgV (Lib.cut l [112]).1) (sgV (Lib.cut l [112]).2.1) else 0

theorem rdW_false {l : List UInt8} (h : rdB l = false) : rdW l = 0 := by unfold rdW; rw [h]; rfl

theorem ext_left (s : ByteArray) (A B : List UInt8) (h : s.data.toList = A ++ 112 :: B) : (s.extract 0 A.length).data.toList = A := by
  rw [ByteArray.data_extract, Array.toList_extract, h]
  simp [List.extract]
theorem ext_right (s : ByteArray) (A B : List UInt8) (h : s.data.toList = A ++ 112 :: B) : (s.extract (A.length + 1) s.size).data.toList = B := by
  have hz : s.size = A.length + 1 + B.length := by
    have := congrArg List.length h
    simp at this
    have h2 : s.size = s.data.size := rfl
    omega
  rw [ByteArray.data_extract, Array.toList_extract, h, hz]
  simp [List.extract]
theorem at_left (s : ByteArray) (A B : List UInt8) (h : s.data.toList = A ++ 112 :: B) (hA : (112 : UInt8) ∉ A) (k : Nat) (hk : k < A.length) (hs : k < s.size) : ((s[k].toNat : Int) != 112) = true := by
  have e : s[k] = A[k] := by
    have h1 : s[k] = s.data.toList[k]'(by simpa using hs) := rfl
    rw [h1]
    simp only [h]
    exact List.getElem_append_left hk
  have : ¬ s[k].toNat = 112 := by
    intro e2
    rw [e] at e2
    have e3 : A[k] = 112 := UInt8.toNat_inj.1 e2
    exact hA (e3 ▸ List.getElem_mem hk)
  have h2 : ¬ (s[k].toNat : Int) = 112 := by omega
  simpa using h2
theorem at_place (s : ByteArray) (A B : List UInt8) (h : s.data.toList = A ++ 112 :: B) (hs : A.length < s.size) : ((s[A.length].toNat : Int) != 112) = false := by
  have e : s[A.length] = 112 := by
    have h1 : s[A.length] = s.data.toList[A.length]'(by simpa using hs) := rfl
    rw [h1]
    simp only [h]
    simp
  rw [e]; rfl
theorem not_at (s : ByteArray) (h : (112 : UInt8) ∉ s.data.toList) (k : Nat) (hs : k < s.size) : ((s[k].toNat : Int) != 112) = true := by
  have : ¬ s[k].toNat = 112 := by
    intro e2
    have e3 : s[k] = 112 := UInt8.toNat_inj.1 e2
    have h1 : s[k] = s.data.toList[k]'(by simpa using hs) := rfl
    exact h (e3 ▸ h1 ▸ List.getElem_mem _)
  have h2 : ¬ (s[k].toNat : Int) = 112 := by omega
  simpa using h2

/-- no edge's text -/
def noEdge (s : ByteArray) : Prop := (s.toList == [110, 97, 110]) = false ∧ (s.toList == [105, 110, 102]) = false ∧ (s.toList == [45, 105, 110, 102]) = false ∧ (s.toList == [48]) = false ∧ (s.toList == [45, 48]) = false

set_option maxRecDepth 20000 in
set_option maxHeartbeats 1000000 in
theorem sread_long (s : ByteArray) (hs : s.size ≤ 1048576) (he : noEdge s) (hl : 40 < (s.size : Int)) (w : World) :
    Calls Tryd.prog 16 #[.string s] w fun e w' => e = .returned (.tuple #[.float .f64 0, .bool false]) ∧ ∃ n, w' = w.drewN n := by
  obtain ⟨n1, n2, n3, n4, n5⟩ := he
  go_enter Tryd.func16, Tryd.ntmps16
  go_wp2_with fail
  go_loop [5] (fun i => i = .int .i64 0) (fun _ => 0)
  case atStart => rfl
  case round =>
    subst hrel
    go_wp2_with fail
    go_ret2
    exact ⟨rfl, 0, rfl⟩

set_option maxRecDepth 20000 in
set_option maxHeartbeats 1000000 in
theorem sread_none (s : ByteArray) (hs : (s.size : Int) ≤ 40) (he : noEdge s) (hp : (112 : UInt8) ∉ s.data.toList) (w : World) :
    Calls Tryd.prog 16 #[.string s] w fun e w' => e = .returned (.tuple #[.float .f64 0, .bool false]) ∧ ∃ n, w' = w.drewN n := by
  obtain ⟨n1, n2, n3, n4, n5⟩ := he
  have HP := hide' hp
  clear hp
  go_enter Tryd.func16, Tryd.ntmps16
  go_wp2_with fail
  go_loop [5] (fun i => ∃ k : Nat, k ≤ s.size ∧ i = .int .i64 k) (fun i => s.size - (intOf i).toNat)
  case atStart => exact ⟨0, Nat.zero_le _, rfl⟩
  case round =>
    obtain ⟨k, hk, rfl⟩ := hrel
    by_cases hlt : k < s.size
    · have hb := not_at s HP.out k hlt
      go_wp2_with fail
      go_round
      case rel => exact ⟨k + 1, by omega, by go_num⟩
      case measure => simp [intOf]; omega
    · go_wp2_with fail
      go_ret2
      exact ⟨rfl, 0, rfl⟩

set_option maxRecDepth 20000 in
set_option maxHeartbeats 1000000 in
theorem sread_some (s : ByteArray) (hs : (s.size : Int) ≤ 40) (he : noEdge s) (A B : List UInt8) (hl : s.data.toList = A ++ 112 :: B) (hA : (112 : UInt8) ∉ A) (w : World) :
    Calls Tryd.prog 16 #[.string s] w fun e w' => e = .returned (.tuple #[.float .f64 (if (sgB A && sgB B) = true then noW (sgV A) (sgV B) else 0), .bool (sgB A && sgB B && noB (sgV A) (sgV B))]) ∧ ∃ n, w' = w.drewN n := by
  obtain ⟨n1, n2, n3, n4, n5⟩ := he
  have hsz : A.length < s.size := by
    have := congrArg List.length hl
    simp at this
    have h2 : s.size = s.data.size := rfl
    omega
  have HA := hide' hA
  have HL := hide' hl
  have hat := at_place s A B hl hsz
  have HD1 : Hid (∀ w, Calls Tryd.prog 53 #[.string (s.extract 0 A.length)] w fun e w' => e = .returned (.tuple #[.int .i64 (sgV A), .bool (sgB A)]) ∧ w' = w) := by
    intro w
    have := l1signed_any (s.extract 0 A.length) w (by rw [ByteArray.size_extract]; omega)
    rw [ext_left s A B hl] at this
    exact this
  have HD2 : Hid (∀ w, Calls Tryd.prog 53 #[.string (s.extract (A.length + 1) s.size)] w fun e w' => e = .returned (.tuple #[.int .i64 (sgV B), .bool (sgB B)]) ∧ w' = w) := by
    intro w
    have := l1signed_any (s.extract (A.length + 1) s.size) w (by rw [ByteArray.size_extract]; omega)
    rw [ext_right s A B hl] at this
    exact this
  clear hA hl
  have HN : Hid (sgB A = true → sgB B = true → ∀ w, Calls Tryd.prog 54 #[.int .i64 (sgV A), .int .i64 (sgV B)] w fun e w' => e = .returned (.tuple #[.float .f64 (noW (sgV A) (sgV B)), .bool (noB (sgV A) (sgV B))]) ∧ ∃ n, w' = w.drewN n) := by
    intro h1 h2 w
    have := (sg_itoa A h1).2
    exact snumof_any (sgV A) (sgV B) (by omega) (by omega) w
  generalize sgV A = a at HD1 HN
  generalize sgV B = b at HD2 HN
  generalize sgB A = p at HD1 HN
  generalize sgB B = q at HD2 HN
  generalize hn : A.length = n at hsz hat HD1 HD2
  have HNN := hide' hn
  clear hn
  go_enter Tryd.func16, Tryd.ntmps16
  go_wp2_with fail
  go_loop [5] (fun i => ∃ k : Nat, k ≤ n ∧ i = .int .i64 k) (fun i => s.size - (intOf i).toNat)
  case atStart => exact ⟨0, Nat.zero_le _, rfl⟩
  case round =>
    obtain ⟨k, hk, rfl⟩ := hrel
    by_cases hlt : k < n
    · have hks : k < s.size := by omega
      have hb := at_left s A B HL.out HA.out k (by rw [HNN.out]; exact hlt) hks
      go_wp2_with fail
      go_round
      case rel => exact ⟨k + 1, by omega, by go_num⟩
      case measure => simp [intOf]; omega
    · obtain rfl : k = n := by omega
      cases p
      · clear HN
        go_wp2_with (first | (go_at_call_of 53 (s.extract 0 k); refine (HD1.out _).mono ?_; rintro e w' ⟨rfl, rfl⟩) | (go_at_call 53; refine (HD2.out _).mono ?_; rintro e w' ⟨rfl, rfl⟩))
        go_ret2
        exact ⟨rfl, 0, rfl⟩
      · cases q
        · clear HN
          go_wp2_with (first | (go_at_call_of 53 (s.extract 0 k); refine (HD1.out _).mono ?_; rintro e w' ⟨rfl, rfl⟩) | (go_at_call 53; refine (HD2.out _).mono ?_; rintro e w' ⟨rfl, rfl⟩))
          go_ret2
          exact ⟨rfl, 0, rfl⟩
        · have HM := hide' (HN.out rfl rfl)
          clear HN
          go_wp2_with (first | (go_at_call_of 53 (s.extract 0 k); refine (HD1.out _).mono ?_; rintro e w' ⟨rfl, rfl⟩) | (go_at_call 53; refine (HD2.out _).mono ?_; rintro e w' ⟨rfl, rfl⟩))
          refine (HM.out _).mono ?_
          rintro e w2 ⟨rfl, m, rfl⟩
          go_wp2_with fail
          go_ret2
          exact ⟨rfl, m, rfl⟩
end Go.Proofs.YtjijinjedeinmaaDoor
