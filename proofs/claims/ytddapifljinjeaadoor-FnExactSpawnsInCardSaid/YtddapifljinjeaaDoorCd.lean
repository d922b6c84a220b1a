/- slices.Concat over lists of ops: the walk. -/
import Derived.Test.YtddapifljinjeaaDoorCc
namespace Go.Proofs.YtddapifljinjeaaDoor
open Go.RowKit
open Rd Fl

/-- the first k lists, one behind the other -/
def flatTo (rs : List (List OpD)) (k : Nat) : List OpD := (rs.take k).flatten
theorem flatTo_succ (rs : List (List OpD)) (k : Nat) (h : k < rs.length) : flatTo rs (k + 1) = flatTo rs k ++ rs[k] := by
  unfold flatTo; rw [List.take_succ_eq_append_getElem h, List.flatten_append]; simp
theorem flatTo_all (rs : List (List OpD)) : flatTo rs rs.length = rs.flatten := by unfold flatTo; rw [List.take_length]
theorem flatTo_len (rs : List (List OpD)) (hls : ∀ l ∈ rs, l.length ≤ 24) : ∀ k, k ≤ rs.length → (flatTo rs k).length ≤ 24 * k
  | 0, _ => by simp [flatTo]
  | k + 1, h => by
    have ih := flatTo_len rs hls k (by omega)
    rw [flatTo_succ rs k (by omega), List.length_append]
    have := hls rs[k] (List.getElem_mem (by omega))
    omega

/-- What the second loop's rounds keep. -/
structure Rcc (w : World) (v : Value) (l : List OpD) (wr : World) : Prop where
  b : Below w.heap.size w wr
  o : wr.ownsRow w.heap.size 43 4 v l.length (opsC l)

set_option maxRecDepth 20000 in
set_option maxHeartbeats 4000000 in
theorem concat_any (R : Option Addr) (rs : List (List OpD)) (cap : Nat) (hl : rs.length ≤ 4) (hls : ∀ l ∈ rs, l.length ≤ 24) (w : World) (hR : RoutsAt w R rs) :
    Calls Tryd.prog 18 #[.slice R rs.length cap] w fun e w' => (∃ A c, e = .returned (.slice A rs.flatten.length c) ∧ OpsAt w' A rs.flatten) ∧ Below w.heap.size w w' := by
  obtain ⟨i0, hi, hz0, hz1, hz2⟩ := opInfo
  have hl' : (rs.length : Int) ≤ 4 := by omega
  have HFL := hide' (flatTo_len rs hls)
  have HFS := hide' (flatTo_succ rs)
  have HFA := hide' (flatTo_all rs)
  have HGR := hide' growop_any
  by_cases he : rs = []
  · subst he
    clear hR
    go_enter Tryd.func18, Tryd.ntmps18
    go_wp2
    go_loop [3, 11] (fun s i => s = .int .i64 0 ∧ i = .int .i64 0) (fun _ _ => 0)
    case atStart => exact ⟨rfl, rfl⟩
    case round =>
      obtain ⟨rfl, rfl⟩ := hrel
      go_wp2_with (go_at_call 28; refine (HGR.out 0 (by omega) _).mono ?_; rintro e w1 ⟨⟨v1, rfl, ho1⟩, hb1⟩)
      have B1 := hide' hb1
      have O1 := hide' ho1
      clear hb1 ho1
      go_loop [6, 27] (fun v i => v = v1 ∧ i = .int .i64 0) (fun _ _ => 0)
      case atStart => exact ⟨rfl, rfl⟩
      case round =>
        obtain ⟨rfl, rfl⟩ := hrel
        go_wp2
        go_ret
        obtain ⟨A, c, h1, h2⟩ := opsC_at (l := []) O1.out rfl
        exact ⟨⟨A, ⟨c, by rw [h1]; rfl⟩, h2⟩, B1.out⟩
  · obtain ⟨b, off, hA1, hc⟩ := hR
    have hA2 := hA1 he
    subst hA2
    have HC := hide' (fun i (hi : i < rs.length) => hc i rs[i] (List.getElem?_eq_getElem hi))
    have HLL := hide' (fun i (hi : i < rs.length) => hls rs[i] (List.getElem_mem hi))
    clear hc hA1 he hls
    go_enter Tryd.func18, Tryd.ntmps18
    go_wp2
    go_loop [3, 11] (fun s i => ∃ (k : Nat) (m : Nat), k ≤ rs.length ∧ i = .int .i64 k ∧ s = .int .i64 m ∧ m ≤ 24 * k ∧ Hid (m = (flatTo rs k).length)) (fun _ i => rs.length - (intOf i).toNat)
    case atStart => exact ⟨0, 0, Nat.zero_le _, rfl, rfl, by omega, show 0 = (flatTo rs 0).length by simp [flatTo]⟩
    case round =>
      obtain ⟨k, m, hk, rfl, rfl, hm, hmf⟩ := hrel
      by_cases hlt : k < rs.length
      · obtain ⟨A, cp, x1, -⟩ := HC.out k hlt
        have hlk := HLL.out k hlt
        have HSk := hide' (HFS.out k hlt)
        generalize rs[k] = l at x1 hlk HSk
        have h0 : ¬ (((m : Int) + (l.length : Int)) < 0) := by omega
        have hmi : ((m : Int)) ≤ 96 := by omega
        have hli : ((l.length : Int)) ≤ 24 := by omega
        go_wp2
        go_round
        case rel => exact ⟨k + 1, m + l.length, by omega, by go_num, by go_num, by omega, show m + l.length = _ by rw [HSk.out, List.length_append, ← hmf.out]⟩
        case measure => simp [intOf]; omega
      · have hke : k = rs.length := by omega
        subst hke
        have hmi : ((m : Int)) ≤ 96 := by omega
        go_wp2_with (go_at_call 28; refine (HGR.out m (by omega) _).mono ?_; rintro e w1 ⟨⟨v1, rfl, ho1⟩, hb1⟩)
        have R1 := hide' (show Rcc w v1 (flatTo rs 0) w1 from ⟨hb1, ho1⟩)
        clear hb1 ho1 hmf
        go_loopw [6, 27] (fun v i wr => ∃ k : Nat, k ≤ rs.length ∧ i = .int .i64 k ∧ Hid (Rcc w v (flatTo rs k) wr)) (fun _ i _ => rs.length - (intOf i).toNat)
        case atStart => exact ⟨0, Nat.zero_le _, rfl, R1.out⟩
        case round =>
          obtain ⟨k, hk, rfl, hr⟩ := hrel
          by_cases hlt : k < rs.length
          · obtain ⟨A, cp, x1, b2, off2, hA1, hc2⟩ := HC.out k hlt
            have c1 := keep_cell hr.out.b x1
            have hlk := HLL.out k hlt
            have HSk := hide' (HFS.out k hlt)
            have HLk := hide' (HFL.out k hk)
            clear x1
            generalize rs[k] = l at c1 hlk HSk hA1 hc2
            by_cases hle : l = []
            · subst hle
              have R3 := hide' (show Rcc w u6 (flatTo rs (k + 1)) wr by rw [HSk.out, List.append_nil]; exact hr.out)
              clear hA1 hc2
              cases A with
              | none =>
                go_wp2_with (at_builtin; refine wpList_append_none rfl _ _ 40 rfl 43 i0 Tryd.underlying40 hi w.heap.size 4 _ _ cp _ rfl hr.out.o rfl ?_)
                go_roundw
                case rel => exact ⟨k + 1, by omega, by go_num, R3.out⟩
                case measure => simp [intOf]; omega
              | some a =>
                clear R3
                have HLk2 := hide' (show (flatTo rs k).length ≤ 1000 by have := HLk.out; omega)
                go_wp2_with (at_builtin; refine wpList_append_own _ rfl _ _ 40 rfl w.heap.size 43 i0 _ 4 32 Tryd.underlying40 hi hz0 hz1 hz2 rfl (by decide) _ _ _ rfl hr.out.o a 0 cp [] rfl rfl (fun j u h => by cases h) (fun u h => by cases h) (by have := HLk2.out; unfold maxLen; omega) (by have := HLk2.out; omega) hr.out.b.size ?_)
                intro v' w3 hown3 hgrow _
                have R3 := hide' (show Rcc w v' (flatTo rs (k + 1)) w3 from ⟨Below.grown hr.out.b hgrow hr.out.b.size (own_base' hr.out.o), by rw [HSk.out, List.append_nil]; simpa using hown3⟩)
                clear hown3 hgrow
                go_wp2_with fail
                go_roundw
                case rel => exact ⟨k + 1, by omega, by go_num, R3.out⟩
                case measure => simp [intOf]; omega
            · have hA2 := hA1 hle
              subst hA2
              have CN := hide' (opsC_news (w := wr) (fun i o h => range_keep hr.out.b (hc2 i o h)))
              have LN := hide' (opsC_len l)
              clear hA1 hc2 hle
              go_wp2_with (at_builtin; refine wpList_append_own _ rfl _ _ 40 rfl w.heap.size 43 i0 _ 4 32 Tryd.underlying40 hi hz0 hz1 hz2 rfl (by decide) _ _ _ rfl hr.out.o ⟨b2, off2, none⟩ l.length cp (opsC l) rfl LN.out CN.out (opsC_one l) (by have := HLk.out; unfold maxLen; omega) (by have := HLk.out; omega) hr.out.b.size ?_)
              intro v' w3 hown3 hgrow _
              have R3 := hide' (show Rcc w v' (flatTo rs (k + 1)) w3 from ⟨Below.grown hr.out.b hgrow hr.out.b.size (own_base' hr.out.o), by rw [HSk.out, List.length_append, opsC_append]; exact hown3⟩)
              clear hown3 hgrow
              go_wp2_with fail
              go_roundw
              case rel => exact ⟨k + 1, by omega, by go_num, R3.out⟩
              case measure => simp [intOf]; omega
          · have hke : k = rs.length := by omega
            subst hke
            go_wp2
            go_ret
            obtain ⟨A, c, h1, h2⟩ := opsC_at hr.out.o rfl
            rw [HFA.out] at h1 h2
            exact ⟨⟨A, c, by rw [← h1]; rfl, h2⟩, hr.out.b⟩
end Go.Proofs.YtddapifljinjeaaDoor
