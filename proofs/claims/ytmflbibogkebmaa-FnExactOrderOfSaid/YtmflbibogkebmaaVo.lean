/- slices.Contains and slices.DeleteFunc at lists of ints, walked. -/
import Derived.Test.YtmflbibogkebmaaVr
import Derived.Test.YtmflbibogkebmaaQs
namespace Go.Proofs.Ytmflbibogkebmaa
open Go.RowKit Go.Maps
open Rd Fl

set_option maxRecDepth 20000 in
set_option maxHeartbeats 1000000 in
theorem indexi_any (A : Option Addr) (l : List Int) (cap : Nat) (n : Int) (hl : l.length ≤ 1000) (w : World) (hA : LAt iv w A l) :
    Calls Try.prog 70 #[.slice A l.length cap, .int .i64 n] w fun e w' => (∃ r : Int, e = .returned (.int .i64 r) ∧ ((0 ≤ r ∧ n ∈ l) ∨ (r = -1 ∧ n ∉ l))) ∧ w' = w := by
  have hl' : (l.length : Int) ≤ 1000 := by omega
  obtain ⟨b, off, hA1, hc⟩ := hA
  by_cases he : l = []
  · subst he
    clear hc hA1
    go_enter Try.func70, Try.ntmps70
    go_wp2
    go_loop [8] (fun i => i = .int .i64 0) (fun _ => 0)
    case atStart => rfl
    case round =>
      subst hrel
      go_wp2
      go_ret
      first | exact ⟨⟨-1, rfl, .inr ⟨rfl, by simp⟩⟩, rfl⟩ | exact ⟨rfl, rfl⟩
  · have hA2 := hA1 he
    subst hA2
    have HC := hide' (fun i (hi : i < l.length) => hc i l[i] (List.getElem?_eq_getElem hi))
    clear hc hA1 he
    go_enter Try.func70, Try.ntmps70
    go_wp2
    go_loop [8] (fun i => ∃ k : Nat, k ≤ l.length ∧ i = .int .i64 k ∧ Hid (n ∉ l.take k)) (fun i => l.length - (intOf i).toNat)
    case atStart => exact ⟨0, Nat.zero_le _, rfl, by simp [Hid]⟩
    case round =>
      obtain ⟨k, hk, rfl, hn⟩ := hrel
      by_cases hlt : k < l.length
      · have hk2 : (k : Int) < l.length := by omega
        have c0 := HC.out k hlt
        have HT := hide' (List.take_succ_eq_append_getElem hlt)
        have HM := hide' (List.getElem_mem hlt)
        unfold iv at c0
        generalize l[k] = x at c0 HT HM
        cases hb : (n == x)
        · have HE := hide' (show n ∉ l.take (k + 1) by rw [HT.out, List.mem_append, List.mem_singleton]; rintro (h | h); exact hn.out h; subst h; simp at hb)
          clear HT HM
          go_wp2
          go_round
          case rel => exact ⟨k + 1, by omega, by go_num, HE.out⟩
          case measure => simp [intOf]; omega
        · have HE := hide' (show n ∈ l by have : n = x := by simpa using hb
                                          rw [this]; exact HM.out)
          clear HT HM
          go_wp2
          go_ret
          exact ⟨⟨k, rfl, .inl ⟨by omega, HE.out⟩⟩, rfl⟩
      · have hke : k = l.length := by omega
        subst hke
        have HE := hide' (show n ∉ l by have := hn.out; rwa [List.take_length] at this)
        go_wp2
        go_ret
        exact ⟨⟨-1, rfl, .inr ⟨rfl, HE.out⟩⟩, rfl⟩

set_option maxRecDepth 20000 in
set_option maxHeartbeats 1000000 in
theorem containsi_any (A : Option Addr) (l : List Int) (cap : Nat) (n : Int) (hl : l.length ≤ 1000) (w : World) (hA : LAt iv w A l) :
    Calls Try.prog 47 #[.slice A l.length cap, .int .i64 n] w fun e w' => e = .returned (.bool (decide (n ∈ l))) ∧ w' = w := by
  have HI := hide' (indexi_any A l cap n hl w hA)
  clear hA
  go_enter Try.func47, Try.ntmps47
  go_wp2_with (go_at_call 70; refine HI.out.mono ?_; rintro e w1 ⟨⟨r, rfl, hr⟩, rfl⟩)
  rcases hr with ⟨h1, h2⟩ | ⟨rfl, h2⟩
  · go_wp2
    go_ret
    exact ⟨by simp [h1, h2], rfl⟩
  · go_wp2
    go_ret
    exact ⟨by simp [h2], rfl⟩

set_option maxRecDepth 20000 in
set_option maxHeartbeats 1000000 in
theorem ishared1_any (A : Option Addr) (m : List Int) (cap : Nat) (B : Nat) (x : Int) (hl : m.length ≤ 1000) (w : World) (hB : w.cell? ⟨B, 0, none⟩ = some (.slice A m.length cap)) (hA : LAt iv w A m) :
    Calls Try.prog 46 #[.int .i64 x, .pointer (some ⟨B, 0, none⟩)] w fun e w' => e = .returned (.bool (!decide (x ∈ m))) ∧ w' = w := by
  have HC := hide' (containsi_any A m cap x hl w hA)
  clear hA
  generalize decide (x ∈ m) = g at *
  go_enter Try.func46, Try.ntmps46
  go_wp2_with (go_at_call 47; refine HC.out.mono ?_; rintro e w1 ⟨rfl, rfl⟩)
  go_ret
  exact ⟨rfl, rfl⟩

set_option maxRecDepth 20000 in
set_option maxHeartbeats 1000000 in
theorem indexf_any (p : Int → Bool) (B : Nat) (A : Option Addr) (l : List Int) (cap : Nat) (hl : l.length ≤ 1000) (w : World) (hA : LAt iv w A l)
    (hC : ∀ x, Calls Try.prog 46 #[.int .i64 x, .pointer (some ⟨B, 0, none⟩)] w fun e w' => e = .returned (.bool (p x)) ∧ w' = w) :
    Calls Try.prog 69 #[.slice A l.length cap, .func (.func 46) #[] #[.pointer (some ⟨B, 0, none⟩)]] w fun e w' => ((e = .returned (.int .i64 (-1)) ∧ ∀ x ∈ l, p x = false) ∨ ∃ i : Nat, ∃ h : i < l.length, e = .returned (.int .i64 (i : Int)) ∧ p l[i] = true ∧ ∀ x ∈ l.take i, p x = false) ∧ w' = w := by
  have hl' : (l.length : Int) ≤ 1000 := by omega
  have HCC := hide' hC
  obtain ⟨b, off, hA1, hc⟩ := hA
  by_cases he : l = []
  · subst he
    clear hc hA1
    go_enter Try.func69, Try.ntmps69
    go_wp2
    go_loop [8] (fun i => i = .int .i64 0) (fun _ => 0)
    case atStart => rfl
    case round =>
      subst hrel
      go_wp2
      go_ret
      first | exact ⟨.inl ⟨rfl, fun x hx => by cases hx⟩, rfl⟩ | exact ⟨.inl rfl, rfl⟩
  · have hA2 := hA1 he
    subst hA2
    have HC := hide' (fun i (hi : i < l.length) => hc i l[i] (List.getElem?_eq_getElem hi))
    clear hc hA1 he hC
    go_enter Try.func69, Try.ntmps69
    go_wp2
    go_loop [8] (fun i => ∃ k : Nat, k ≤ l.length ∧ i = .int .i64 k ∧ Hid (∀ x ∈ l.take k, p x = false)) (fun i => l.length - (intOf i).toNat)
    case atStart => exact ⟨0, Nat.zero_le _, rfl, fun x hx => by simp at hx⟩
    case round =>
      obtain ⟨k, hk, rfl, hn⟩ := hrel
      by_cases hlt : k < l.length
      · have hk2 : (k : Int) < l.length := by omega
        have c0 := HC.out k hlt
        have HT := hide' (List.take_succ_eq_append_getElem hlt)
        have HP := hide' (fun (h : p l[k] = true) => (show ∃ h : k < l.length, Ending.returned (.int .i64 (k : Int)) = Ending.returned (Value.int .i64 (k : Int)) ∧ p l[k] = true ∧ ∀ x ∈ l.take k, p x = false from ⟨hlt, rfl, h, hn.out⟩))
        unfold iv at c0
        have HX := HCC.out l[k]
        generalize l[k] = x at c0 HT HP HX
        cases hb : p x
        · rw [hb] at HX
          have HE := hide' (show ∀ y ∈ l.take (k + 1), p y = false by
            intro y hy
            rw [HT.out, List.mem_append, List.mem_singleton] at hy
            rcases hy with hy | rfl
            · exact hn.out y hy
            · exact hb)
          have HX2 := hide' HX
          clear HT HP HX hb
          go_wp2_with (go_at_call 46; refine HX2.out.mono ?_; rintro e w1 ⟨rfl, rfl⟩)
          go_round
          case rel => exact ⟨k + 1, by omega, by go_num, HE.out⟩
          case measure => simp [intOf]; omega
        · rw [hb] at HX
          have HE := hide' (HP.out hb)
          have HX2 := hide' HX
          clear HT HP HX hb
          go_wp2_with (go_at_call 46; refine HX2.out.mono ?_; rintro e w1 ⟨rfl, rfl⟩)
          go_ret
          obtain ⟨h1, -, h2, h3⟩ := HE.out
          exact ⟨.inr ⟨k, h1, rfl, h2, h3⟩, rfl⟩
      · have hke : k = l.length := by omega
        subst hke
        have HE := hide' (show ∀ x ∈ l, p x = false by have := hn.out; rwa [List.take_length] at this)
        go_wp2
        go_ret
        exact ⟨.inl ⟨rfl, HE.out⟩, rfl⟩
end Go.Proofs.Ytmflbibogkebmaa
