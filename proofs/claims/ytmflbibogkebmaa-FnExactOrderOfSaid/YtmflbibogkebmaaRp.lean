/- Lists of lists of ints: compared, marked, held. -/
import Derived.Test.YtmflbibogkebmaaRs
import Derived.Deep.RegionWith
namespace Go.Proofs.Ytmflbibogkebmaa
open Go.RowKit
open Rd Fl

/-- The lists ls lie from R on. -/
def LLAt (w : World) (R : Option Addr) (ls : List (List Int)) : Prop :=
  ∃ b off, (ls ≠ [] → R = some ⟨b, off, none⟩) ∧ ∀ i l, ls[i]? = some l → ∃ A cap, w.cell? ⟨b, off + i, none⟩ = some (.slice A l.length cap) ∧ LAt iv w A l

set_option maxRecDepth 20000 in
set_option maxHeartbeats 1000000 in
theorem eqintss_any (A B : Option Addr) (rs : List (List Int)) (ca cb : Nat) (hl : rs.length ≤ 1048576) (hls : ∀ l ∈ rs, l.length ≤ 1048576) (w : World) (hA : LLAt w A rs) (hB : LLAt w B rs) :
    Calls Try.prog 20 #[.slice A rs.length ca, .slice B rs.length cb] w fun e w' => e = .returned (.bool true) ∧ Below w.heap.size w w' := by
  have hl' : (rs.length : Int) ≤ 1048576 := by omega
  obtain ⟨b, off, hA1, hc⟩ := hA
  obtain ⟨b', off', hB1, hc'⟩ := hB
  by_cases he : rs = []
  · subst he
    clear hc hA1 hc' hB1
    go_enter Try.func20, Try.ntmps20
    go_wp2
    go_loop [5] (fun i => i = .int .i64 0) (fun _ => 0)
    case atStart => rfl
    case round =>
      subst hrel
      go_wp2
      go_ret
      exact ⟨rfl, Below.refl _ _⟩
  · have hA2 := hA1 he
    have hB2 := hB1 he
    subst hA2 hB2
    have HC := hide' (fun i (hi : i < rs.length) => hc i rs[i] (List.getElem?_eq_getElem hi))
    have HD := hide' (fun i (hi : i < rs.length) => hc' i rs[i] (List.getElem?_eq_getElem hi))
    have HLL := hide' hls
    clear hc hA1 he hc' hB1 hls
    go_enter Try.func20, Try.ntmps20
    go_wp2
    go_loopw [5] (fun i wr => ∃ k : Nat, k ≤ rs.length ∧ i = .int .i64 k ∧ Hid (Below w.heap.size w wr)) (fun i _ => rs.length - (intOf i).toNat)
    case atStart => exact ⟨0, Nat.zero_le _, rfl, Below.refl _ _⟩
    case round =>
      obtain ⟨k, hk, rfl, hbw⟩ := hrel
      by_cases hlt : k < rs.length
      · obtain ⟨A1, p1, x1, y1⟩ := HC.out k hlt
        obtain ⟨A2, p2, x2, y2⟩ := HD.out k hlt
        have z1 := keep_cell hbw.out x1
        have z2 := keep_cell hbw.out x2
        have Y1 := hide' (y1.keep hbw.out.drew)
        have Y2 := hide' (y2.keep hbw.out.drew)
        have HL := hide' (HLL.out rs[k] (List.getElem_mem hlt))
        clear x1 x2 y1 y2
        generalize rs[k] = l at z1 z2 Y1 Y2 HL
        go_wp2_with fail
        go_region_with (go_at_call 13; refine (eqints_any A1 A2 l p1 p2 HL.out _ Y1.out Y2.out).mono ?_; rintro e w1 ⟨rfl, hb1⟩)
        all_goals
          go_wp2_with fail
          go_roundw
          case rel => exact ⟨k + 1, by omega, by go_num, first_below hbw.out hb1⟩
          case measure => simp [intOf]; omega
      · go_wp2
        go_ret
        exact ⟨rfl, hbw.out⟩

/-- how many numbers stand ahead of the i-th list -/
def offs (ls : List (List Int)) (i : Nat) : Nat := ((ls.take i).map List.length).sum
theorem offs_succ (ls : List (List Int)) (i : Nat) (h : i < ls.length) : offs ls (i + 1) = offs ls i + ls[i].length := by
  unfold offs
  rw [List.take_succ_eq_append_getElem h, List.map_append, List.sum_append]
  simp
theorem offs_le (ls : List (List Int)) (hls : ∀ l ∈ ls, l.length ≤ 1000) (i : Nat) : offs ls i ≤ 1000 * i := by
  induction i with
  | zero => simp [offs]
  | succ i ih =>
    by_cases h : i < ls.length
    · rw [offs_succ ls i h]; have := hls ls[i] (List.getElem_mem h); omega
    · have : offs ls (i + 1) = offs ls i := by unfold offs; rw [List.take_of_length_le (by omega), List.take_of_length_le (by omega)]
      omega

set_option maxRecDepth 20000 in
set_option maxHeartbeats 2000000 in
theorem markintss_any (A : Option Addr) (ls : List (List Int)) (cap g lo hi : Nat) (Ms : List Nat) (hM : Ms.length = ls.length) (hl : ls.length ≤ 1000) (hls : ∀ l ∈ ls, l.length ≤ 1000) (hA : ls.length ≠ 0 → A = some ⟨g, 0, none⟩) (w : World)
    (hc : ∀ i (h : i < ls.length), w.cell? ⟨g, i, none⟩ = some (slV (Ms[i]'(by omega)) ls[i]) ∧ w.there (Ms[i]'(by omega)) 0 ls[i].length ∧ Ms[i]'(by omega) ≠ g ∧ lo ≤ Ms[i]'(by omega) ∧ Ms[i]'(by omega) < hi)
    (hd : ∀ i j (_ : i < j) (h : j < ls.length), Ms[i]'(by omega) < Ms[j]'(by omega)) :
    Calls Try.prog 21 #[.slice A ls.length cap, .int .i64 1] w fun e w' => e = .returned (.int .i64 (1 + offs ls ls.length)) ∧ (∀ i (h : i < ls.length), w'.cell? ⟨g, i, none⟩ = some (slV (Ms[i]'(by omega)) ls[i]) ∧ ∀ t : Nat, t < ls[i].length → w'.cell? ⟨Ms[i]'(by omega), t, none⟩ = some (.int .i64 (1 + offs ls i + t))) ∧ Edit lo hi w w' := by
  have hn' : (ls.length : Int) ≤ 1000 := by omega
  by_cases he : ls.length = 0
  · have : ls = [] := List.length_eq_zero_iff.1 he
    subst this
    clear hA hc hd
    go_enter Try.func21, Try.ntmps21
    go_wp2
    go_loop [1, 5] (fun x i => x = .int .i64 1 ∧ i = .int .i64 0) (fun _ _ => 0)
    case atStart => exact ⟨rfl, rfl⟩
    case round =>
      obtain ⟨rfl, rfl⟩ := hrel
      go_wp2
      go_ret
      exact ⟨rfl, Edit.refl _ _ _⟩
  · have hA2 := hA he
    subst hA2
    have HC := hide' hc
    have HD := hide' hd
    have HLS := hide' hls
    have HOS := hide' (fun i h => offs_succ ls i h)
    have HOL := hide' (fun i => offs_le ls hls i)
    have HO0 : offs ls 0 = 0 := rfl
    clear hA he hc hd hls
    go_enter Try.func21, Try.ntmps21
    go_wp2
    go_loopw [1, 5] (fun x i wr => ∃ (j : Nat) (y : Int), j ≤ ls.length ∧ i = .int .i64 j ∧ x = .int .i64 y ∧ y = 1 + offs ls j ∧ Hid (∀ i (h : i < ls.length), wr.cell? ⟨g, i, none⟩ = some (slV (Ms[i]'(by omega)) ls[i]) ∧ (i < j → ∀ t : Nat, t < ls[i].length → wr.cell? ⟨Ms[i]'(by omega), t, none⟩ = some (.int .i64 (1 + offs ls i + t)))) ∧ Hid (Edit lo hi w wr)) (fun _ i _ => ls.length - (intOf i).toNat)
    case atStart => exact ⟨0, 1, Nat.zero_le _, rfl, rfl, by rw [HO0]; rfl, (fun i h => ⟨(HC.out i h).1, fun h => by omega⟩), Edit.refl _ _ _⟩
    case round =>
      obtain ⟨j, y, hj, rfl, rfl, hy, hdo, hed⟩ := hrel
      by_cases hlt : j < ls.length
      · have HOLj := hide' (HOL.out j)
        have hcell := (hdo.out j hlt).1
        obtain ⟨-, g1, g2, g3, g4⟩ := HC.out j hlt
        have HT := hide' (hed.out.th _ _ _ g1)
        have HM := hide' (HLS.out ls[j] (List.getElem_mem hlt))
        have HOSj := hide' (HOS.out j hlt)
        have HNX := hide' (fun (wx : World) (hx : ∀ t : Nat, t < ls[j].length → wx.cell? ⟨Ms[j]'(by omega), t, none⟩ = some (.int .i64 (y + t))) (he : Edit (Ms[j]'(by omega)) (Ms[j]'(by omega) + 1) wr wx) => (show (∀ i (h : i < ls.length), wx.cell? ⟨g, i, none⟩ = some (slV (Ms[i]'(by omega)) ls[i]) ∧ (i < j + 1 → ∀ t : Nat, t < ls[i].length → wx.cell? ⟨Ms[i]'(by omega), t, none⟩ = some (.int .i64 (1 + offs ls i + t)))) from fun i h => by
          refine ⟨he.cell (hdo.out i h).1 (by omega), fun hij t ht => ?_⟩
          by_cases e : i = j
          · subst e
            rw [hx t ht, hy]
          · have hlt2 := HD.out i j (by omega) hlt
            exact he.cell ((hdo.out i h).2 (by omega) t ht) (.inl hlt2)))
        have HE := hide' (fun (wx : World) (he : Edit (Ms[j]'(by omega)) (Ms[j]'(by omega) + 1) wr wx) => hed.out.trans (he.mono g3 (by omega)))
        have HY := hide' hy
        have hy0 : 0 ≤ y := by omega
        have hy1 : y ≤ 4611686018427387904 := by have := HOLj.out; omega
        unfold slV at hcell
        clear g1 g2 g3 g4 hy
        generalize ls[j] = x at hcell HT HM HNX HOSj
        generalize Ms[j]'_ = M at hcell HT HNX HE
        go_wp2_with (go_at_call 16; refine (markints_any _ x.length _ M y hy0 hy1 (by have := HM.out; omega) (fun _ => rfl) _ HT.out).mono ?_; rintro e w' ⟨rfl, hx1, he1⟩)
        go_roundw
        case rel => exact ⟨j + 1, y + x.length, by omega, by go_num, rfl, by rw [HOSj.out, HY.out]; omega, HNX.out _ hx1 he1, HE.out _ he1⟩
        case measure => simp [intOf]; omega
      · have hke : j = ls.length := by omega
        have HY := hide' hy
        clear hy
        go_wp2
        go_ret
        exact ⟨by rw [HY.out, hke]; rfl, (fun i h => ⟨(hdo.out i h).1, (hdo.out i h).2 (by omega)⟩), hed.out⟩

set_option maxRecDepth 20000 in
set_option maxHeartbeats 2000000 in
theorem heldintss_any (A : Option Addr) (ls : List (List Int)) (cap g : Nat) (Ms : List Nat) (hM : Ms.length = ls.length) (hl : ls.length ≤ 1000) (hls : ∀ l ∈ ls, l.length ≤ 1000) (hA : ls.length ≠ 0 → A = some ⟨g, 0, none⟩) (w : World)
    (hc : ∀ i (h : i < ls.length), w.cell? ⟨g, i, none⟩ = some (slV (Ms[i]'(by omega)) ls[i]) ∧ ∀ t : Nat, t < ls[i].length → w.cell? ⟨Ms[i]'(by omega), t, none⟩ = some (.int .i64 (1 + offs ls i + t))) :
    Calls Try.prog 22 #[.slice A ls.length cap, .int .i64 1] w fun e w' => e = .returned (.int .i64 (1 + offs ls ls.length)) ∧ w' = w := by
  have hn' : (ls.length : Int) ≤ 1000 := by omega
  by_cases he : ls.length = 0
  · have : ls = [] := List.length_eq_zero_iff.1 he
    subst this
    clear hA hc
    go_enter Try.func22, Try.ntmps22
    go_wp2
    go_loop [1, 5] (fun x i => x = .int .i64 1 ∧ i = .int .i64 0) (fun _ _ => 0)
    case atStart => exact ⟨rfl, rfl⟩
    case round =>
      obtain ⟨rfl, rfl⟩ := hrel
      go_wp2
      go_ret
      exact ⟨rfl, rfl⟩
  · have hA2 := hA he
    subst hA2
    have HC := hide' hc
    have HLS := hide' hls
    have HOS := hide' (fun i h => offs_succ ls i h)
    have HOL := hide' (fun i => offs_le ls hls i)
    have HO0 : offs ls 0 = 0 := rfl
    clear hA he hc hls
    go_enter Try.func22, Try.ntmps22
    go_wp2
    go_loop [1, 5] (fun x i => ∃ (j : Nat) (y : Int), j ≤ ls.length ∧ i = .int .i64 j ∧ x = .int .i64 y ∧ y = 1 + offs ls j) (fun _ i => ls.length - (intOf i).toNat)
    case atStart => exact ⟨0, 1, Nat.zero_le _, rfl, rfl, by rw [HO0]; rfl⟩
    case round =>
      obtain ⟨j, y, hj, rfl, rfl, hy⟩ := hrel
      by_cases hlt : j < ls.length
      · have HOLj := hide' (HOL.out j)
        obtain ⟨hcell, hx⟩ := HC.out j hlt
        rw [← hy] at hx
        have HX := hide' hx
        have HM := hide' (HLS.out ls[j] (List.getElem_mem hlt))
        have HOSj := hide' (HOS.out j hlt)
        have HY := hide' hy
        have hy0 : 0 ≤ y := by omega
        have hy1 : y ≤ 4611686018427387904 := by have := HOLj.out; omega
        unfold slV at hcell
        clear hy hx
        generalize ls[j] = x at hcell HX HM HOSj
        generalize Ms[j]'_ = M at hcell HX
        have hyx : ¬ y + x.length < 0 := by omega
        go_wp2_with (go_at_call 17; refine (heldints_any _ x.length _ M y hy0 hy1 (by have := HM.out; omega) (fun _ => rfl) _ HX.out).mono ?_; rintro e w' ⟨rfl, rfl⟩)
        go_round
        case rel => exact ⟨j + 1, y + x.length, by omega, by go_num, rfl, by rw [HOSj.out, HY.out]; omega⟩
        case measure => simp [intOf]; omega
      · have hke : j = ls.length := by omega
        have HY := hide' hy
        clear hy
        go_wp2
        go_ret
        exact ⟨by rw [HY.out, hke]; rfl, rfl⟩
end Go.Proofs.Ytmflbibogkebmaa
