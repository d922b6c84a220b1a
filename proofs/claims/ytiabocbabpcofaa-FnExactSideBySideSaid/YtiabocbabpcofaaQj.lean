/- impl.pairsWhere, with each of its two closures. -/
import Derived.Test.YtiabocbabpcofaaQi
namespace Go.Proofs.Ytiabocbabpcofaa
open Go.RowKit
open Rd Fl

set_option maxRecDepth 20000 in
set_option maxHeartbeats 4000000 in
theorem pairsw_next (n B : Nat) (p : Nat → Nat → Bool) (hn : n ≤ 200) (w : World)
    (hC : ∀ i j : Nat, i < j → j < n → ∀ wx, Below w.heap.size w wx → Calls Try.prog 36 #[.int .i64 (i : Int), .int .i64 (j : Int), .pointer (some ⟨B, 0, none⟩)] wx fun e w' => e = .returned (.bool (p i j)) ∧ Below wx.heap.size wx w') :
    Calls Try.prog 35 #[.int .i64 (n : Int), .func (.func 36) #[] #[.pointer (some ⟨B, 0, none⟩)]] w fun e w' => (∃ v Ms, e = .returned v ∧ RowSS (prAll p n n) w' w.heap.size v Ms) ∧ Below w.heap.size w w' := by
  obtain ⟨i0, hi, hz0, hz1, hz2⟩ := intsInfo
  have HC := hide' hC
  have HS := hide' (fun i j h hp => prTo_yes (p := p) (i := i) (j := j) h hp)
  have HN := hide' (fun i j hp => prTo_no (p := p) (i := i) (j := j) hp)
  have HL0 := hide' (fun i => prTo_low p i (i + 1) (Nat.le_refl _))
  have HLA := hide' (fun k => prAll_len p n k)
  have HLT := hide' (fun i j => prTo_len p i j)
  have hn' : (n : Int) ≤ 200 := by omega
  clear hC
  go_enter Try.func35, Try.ntmps35
  go_wp2
  go_loopw [5, 9] (fun v i wr => ∃ (k : Nat) (Ms : List Nat), k ≤ n ∧ i = .int .i64 k ∧ Hid (PrR w wr (prAll p n k) v Ms)) (fun _ i _ => n - (intOf i).toNat)
  case atStart => exact ⟨0, [], Nat.zero_le _, rfl, ⟨Below.refl _ _, rowss_nil _ _⟩⟩
  case round =>
    obtain ⟨k, Ms, hk, rfl, hrnd⟩ := hrel
    by_cases hlt : k < n
    · have HLAk := hide' (Nat.le_trans (HLA.out k) (Nat.mul_le_mul (show k ≤ 200 by omega) hn))
      have hk2 : (k : Int) < n := by omega
      obtain ⟨wo, hwo⟩ : ∃ wo, wo = wr := ⟨_, rfl⟩
      rw [← hwo] at hrnd
      have HR0 := hide' (show PrR w wr (prAll p n k ++ prTo p k (k + 1)) _ Ms by rw [HL0.out, List.append_nil, ← hwo]; exact hrnd.out)
      clear hrnd hwo
      go_wp2_with fail
      go_loopw [5, 7] (fun v i wr => ∃ (j : Nat) (Ms : List Nat), k + 1 ≤ j ∧ j ≤ n ∧ i = .int .i64 j ∧ Hid (PrR w wr (prAll p n k ++ prTo p k j) v Ms)) (fun _ i _ => n - (intOf i).toNat)
      case atStart => exact ⟨k + 1, Ms, Nat.le_refl _, hlt, by simp, HR0.out⟩
      case round =>
        clear HR0
        obtain ⟨j, Ns, hj1, hj2, rfl, hrnd⟩ := hrel
        by_cases hjl : j < n
        · have HCL := hide' (HC.out k j (by omega) hjl _ hrnd.out.b)
          have HSj := hide' (HS.out k j (by omega))
          have HNj := hide' (HN.out k j)
          have HL := hide' (show (prAll p n k ++ prTo p k j).length ≤ 40200 by rw [List.length_append]; have := HLAk.out; have := HLT.out k j; omega)
          cases hp : p k j
          · have HE := hide' (show prAll p n k ++ prTo p k (j + 1) = prAll p n k ++ prTo p k j by rw [HNj.out hp])
            rw [hp] at HCL
            clear hp HSj HNj HL
            go_wp2_with (go_at_call 36; refine HCL.out.mono ?_; rintro e w2 ⟨rfl, hb2⟩)
            go_roundw
            case rel => exact ⟨j + 1, Ns, by omega, by omega, by go_num, by rw [HE.out]; exact hrnd.out.keep hb2⟩
            case measure => simp [intOf]; omega
          · have HE := hide' (show prAll p n k ++ prTo p k (j + 1) = prAll p n k ++ prTo p k j ++ [[(k : Int), (j : Int)]] by rw [HSj.out hp, List.append_assoc])
            rw [hp] at HCL
            clear hp HSj HNj
            generalize hls : prAll p n k ++ prTo p k j = ls at *
            clear hls
            go_wp2_with (first
              | (go_at_call 36; refine HCL.out.mono ?_; rintro e w2 ⟨rfl, hb2⟩; have R2 := hide' (hrnd.out.keep hb2))
              | (at_builtin; refine wpList_append_own_at _ rfl _ _ 29 rfl w.heap.size 38 i0 (.slice none 0 0) 1 24 Try.underlying29 hi hz0 hz1 hz2 rfl (by decide) _ _ _ rfl ((R2.out.r.o.alloc _).alloc _) ⟨w2.heap.size + 1, 0, none⟩ 1 1 [slV w2.heap.size [(k : Int), (j : Int)]] rfl rfl ?c1 ?c2 ?c3 ?c4 ?c5 ?_)
              | go_in)
            case c1 =>
              intro j u hj
              match j, hj with
              | 0, hj => simp at hj; subst hj; simp [slV, Addr.add]
            case c2 => intro u hu; simp at hu; subst hu; rfl
            case c3 => unfold maxLen; have := HL.out; omega
            case c4 => have := HL.out; omega
            case c5 => have := R2.out.b.size; simp; omega
            intro v' w3 hown3 hgrow _ hblk
            have R3 := hide' (R2.out.snoc (k : Int) (j : Int) hown3 hgrow hblk)
            clear hown3 hgrow hblk
            go_wp2_with fail
            go_roundw
            case rel => exact ⟨j + 1, _, by omega, by omega, by go_num, by rw [HE.out]; exact R3.out⟩
            case measure => simp [intOf]; omega
        · have hje : j = n := by omega
          subst hje
          have HE := hide' (show PrR w wr (prAll p j (k + 1)) _ Ns from hrnd.out)
          go_wp2_with fail
          go_roundw
          case rel => exact ⟨k + 1, Ns, by omega, by go_num, HE.out⟩
          case measure => simp [intOf]; omega
    · have hke : k = n := by omega
      subst hke
      go_wp2_with fail
      go_ret
      exact ⟨⟨_, Ms, rfl, hrnd.out.r⟩, hrnd.out.b⟩

set_option maxRecDepth 20000 in
set_option maxHeartbeats 4000000 in
theorem pairsw_side (n B : Nat) (p : Nat → Nat → Bool) (hn : n ≤ 200) (w : World)
    (hC : ∀ i j : Nat, i < j → j < n → ∀ wx, Below w.heap.size w wx → Calls Try.prog 48 #[.int .i64 (i : Int), .int .i64 (j : Int), .pointer (some ⟨B, 0, none⟩)] wx fun e w' => e = .returned (.bool (p i j)) ∧ Below wx.heap.size wx w') :
    Calls Try.prog 35 #[.int .i64 (n : Int), .func (.func 48) #[] #[.pointer (some ⟨B, 0, none⟩)]] w fun e w' => (∃ v Ms, e = .returned v ∧ RowSS (prAll p n n) w' w.heap.size v Ms) ∧ Below w.heap.size w w' := by
  obtain ⟨i0, hi, hz0, hz1, hz2⟩ := intsInfo
  have HC := hide' hC
  have HS := hide' (fun i j h hp => prTo_yes (p := p) (i := i) (j := j) h hp)
  have HN := hide' (fun i j hp => prTo_no (p := p) (i := i) (j := j) hp)
  have HL0 := hide' (fun i => prTo_low p i (i + 1) (Nat.le_refl _))
  have HLA := hide' (fun k => prAll_len p n k)
  have HLT := hide' (fun i j => prTo_len p i j)
  have hn' : (n : Int) ≤ 200 := by omega
  clear hC
  go_enter Try.func35, Try.ntmps35
  go_wp2
  go_loopw [5, 9] (fun v i wr => ∃ (k : Nat) (Ms : List Nat), k ≤ n ∧ i = .int .i64 k ∧ Hid (PrR w wr (prAll p n k) v Ms)) (fun _ i _ => n - (intOf i).toNat)
  case atStart => exact ⟨0, [], Nat.zero_le _, rfl, ⟨Below.refl _ _, rowss_nil _ _⟩⟩
  case round =>
    obtain ⟨k, Ms, hk, rfl, hrnd⟩ := hrel
    by_cases hlt : k < n
    · have HLAk := hide' (Nat.le_trans (HLA.out k) (Nat.mul_le_mul (show k ≤ 200 by omega) hn))
      have hk2 : (k : Int) < n := by omega
      obtain ⟨wo, hwo⟩ : ∃ wo, wo = wr := ⟨_, rfl⟩
      rw [← hwo] at hrnd
      have HR0 := hide' (show PrR w wr (prAll p n k ++ prTo p k (k + 1)) _ Ms by rw [HL0.out, List.append_nil, ← hwo]; exact hrnd.out)
      clear hrnd hwo
      go_wp2_with fail
      go_loopw [5, 7] (fun v i wr => ∃ (j : Nat) (Ms : List Nat), k + 1 ≤ j ∧ j ≤ n ∧ i = .int .i64 j ∧ Hid (PrR w wr (prAll p n k ++ prTo p k j) v Ms)) (fun _ i _ => n - (intOf i).toNat)
      case atStart => exact ⟨k + 1, Ms, Nat.le_refl _, hlt, by simp, HR0.out⟩
      case round =>
        clear HR0
        obtain ⟨j, Ns, hj1, hj2, rfl, hrnd⟩ := hrel
        by_cases hjl : j < n
        · have HCL := hide' (HC.out k j (by omega) hjl _ hrnd.out.b)
          have HSj := hide' (HS.out k j (by omega))
          have HNj := hide' (HN.out k j)
          have HL := hide' (show (prAll p n k ++ prTo p k j).length ≤ 40200 by rw [List.length_append]; have := HLAk.out; have := HLT.out k j; omega)
          cases hp : p k j
          · have HE := hide' (show prAll p n k ++ prTo p k (j + 1) = prAll p n k ++ prTo p k j by rw [HNj.out hp])
            rw [hp] at HCL
            clear hp HSj HNj HL
            go_wp2_with (go_at_call 48; refine HCL.out.mono ?_; rintro e w2 ⟨rfl, hb2⟩)
            go_roundw
            case rel => exact ⟨j + 1, Ns, by omega, by omega, by go_num, by rw [HE.out]; exact hrnd.out.keep hb2⟩
            case measure => simp [intOf]; omega
          · have HE := hide' (show prAll p n k ++ prTo p k (j + 1) = prAll p n k ++ prTo p k j ++ [[(k : Int), (j : Int)]] by rw [HSj.out hp, List.append_assoc])
            rw [hp] at HCL
            clear hp HSj HNj
            generalize hls : prAll p n k ++ prTo p k j = ls at *
            clear hls
            go_wp2_with (first
              | (go_at_call 48; refine HCL.out.mono ?_; rintro e w2 ⟨rfl, hb2⟩; have R2 := hide' (hrnd.out.keep hb2))
              | (at_builtin; refine wpList_append_own_at _ rfl _ _ 29 rfl w.heap.size 38 i0 (.slice none 0 0) 1 24 Try.underlying29 hi hz0 hz1 hz2 rfl (by decide) _ _ _ rfl ((R2.out.r.o.alloc _).alloc _) ⟨w2.heap.size + 1, 0, none⟩ 1 1 [slV w2.heap.size [(k : Int), (j : Int)]] rfl rfl ?c1 ?c2 ?c3 ?c4 ?c5 ?_)
              | go_in)
            case c1 =>
              intro j u hj
              match j, hj with
              | 0, hj => simp at hj; subst hj; simp [slV, Addr.add]
            case c2 => intro u hu; simp at hu; subst hu; rfl
            case c3 => unfold maxLen; have := HL.out; omega
            case c4 => have := HL.out; omega
            case c5 => have := R2.out.b.size; simp; omega
            intro v' w3 hown3 hgrow _ hblk
            have R3 := hide' (R2.out.snoc (k : Int) (j : Int) hown3 hgrow hblk)
            clear hown3 hgrow hblk
            go_wp2_with fail
            go_roundw
            case rel => exact ⟨j + 1, _, by omega, by omega, by go_num, by rw [HE.out]; exact R3.out⟩
            case measure => simp [intOf]; omega
        · have hje : j = n := by omega
          subst hje
          have HE := hide' (show PrR w wr (prAll p j (k + 1)) _ Ns from hrnd.out)
          go_wp2_with fail
          go_roundw
          case rel => exact ⟨k + 1, Ns, by omega, by go_num, HE.out⟩
          case measure => simp [intOf]; omega
    · have hke : k = n := by omega
      subst hke
      go_wp2_with fail
      go_ret
      exact ⟨⟨_, Ms, rfl, hrnd.out.r⟩, hrnd.out.b⟩

end Go.Proofs.Ytiabocbabpcofaa
