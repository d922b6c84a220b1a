/- spec.l1Split at a blank: contract. -/
import Derived.Test.YtjijinjedeinmaaDoorOps
namespace Go.Proofs.YtjijinjedeinmaaDoor
open Go.RowKit
open Rd Fl

/-- one byte more of a text that is cut at blanks: the parts that are done, and the one that is begun -/
def cutStep (p : List (List UInt8) × List UInt8) (x : UInt8) : List (List UInt8) × List UInt8 := if x = 32 then (p.1 ++ [p.2], []) else (p.1, p.2 ++ [x])
def cutAt (l : List UInt8) : List (List UInt8) × List UInt8 := l.foldl cutStep ([], [])
def splitF (l : List UInt8) : List (List UInt8) := (cutAt l).1 ++ [(cutAt l).2]
def strV (p : List UInt8) : Value := .string ⟨p.toArray⟩

theorem cutAt_snoc (l : List UInt8) (x : UInt8) : cutAt (l ++ [x]) = cutStep (cutAt l) x := by unfold cutAt; rw [List.foldl_append]; rfl
theorem cut_len (l : List UInt8) : (cutAt l).1.length ≤ l.length ∧ (cutAt l).2.length ≤ l.length := by
  unfold cutAt
  have : ∀ (l : List UInt8) p, (l.foldl cutStep p).1.length ≤ p.1.length + l.length ∧ (l.foldl cutStep p).2.length ≤ p.2.length + l.length := by
    intro l
    induction l with
    | nil => intro p; simp
    | cons x r ih =>
      intro p
      have h := ih (cutStep p x)
      simp only [List.foldl_cons, List.length_cons]
      unfold cutStep at h ⊢
      split <;> rename_i hx <;> simp only [hx, if_true, if_false] at h <;> simp at h ⊢ <;> omega
  have h := this l ([], [])
  simpa using h
theorem cut_suffix (l : List UInt8) : ∃ d, l = d ++ (cutAt l).2 := by
  unfold cutAt
  have : ∀ (l : List UInt8) p, ∃ d, p.2 ++ l = d ++ (l.foldl cutStep p).2 := by
    intro l
    induction l with
    | nil => intro p; exact ⟨[], by simp⟩
    | cons x r ih =>
      intro p
      obtain ⟨d, hd⟩ := ih (cutStep p x)
      simp only [List.foldl_cons]
      unfold cutStep at hd ⊢
      split
      · rename_i hx
        simp only [hx, if_true] at hd
        exact ⟨p.2 ++ [x] ++ d, by simp at hd ⊢; rw [← hd]⟩
      · rename_i hx
        simp only [hx, if_false] at hd
        exact ⟨d, by rw [← hd]; simp⟩
  simpa using this l ([], [])

theorem strSize : (Tryd.prog.info? 9).map (·.size) = some 1 := by kernel_rfl
theorem strBytes : (Tryd.prog.info? 9).map (·.bytes) = some 16 := by kernel_rfl
theorem strZero : (Tryd.prog.info? 9).bind (·.zero) = some (.string ⟨#[]⟩) := by kernel_rfl
theorem strInfo : ∃ i, Tryd.prog.info? 9 = some i ∧ i.zero = some (.string ⟨#[]⟩) ∧ i.size = 1 ∧ i.bytes = 16 := by
  cases hi : Tryd.prog.info? 9 with
  | none => have := strSize; rw [hi] at this; cases this
  | some i =>
    exact ⟨i, rfl, by have := strZero; rw [hi] at this; simpa using this, by have := strSize; rw [hi] at this; simpa using this, by have := strBytes; rw [hi] at this; simpa using this⟩

/-- the place where the part that is begun begins -/
def fromAt (l : List UInt8) (k : Nat) : Nat := k - (cutAt (l.take k)).2.length
theorem part_at (s : ByteArray) (k : Nat) (h : k ≤ s.size) : Value.string (s.extract (fromAt s.data.toList k) k) = strV (cutAt (s.data.toList.take k)).2 := by
  unfold strV
  congr 1
  apply ba_eq
  obtain ⟨d, hd⟩ := cut_suffix (s.data.toList.take k)
  have hlen : (s.data.toList.take k).length = k := by rw [List.length_take]; simp; omega
  have hdl : d.length = fromAt s.data.toList k := by
    have := congrArg List.length hd
    rw [List.length_append, hlen] at this
    unfold fromAt
    omega
  rw [ByteArray.data_extract, Array.toList_extract]
  have e : s.data.toList.extract (fromAt s.data.toList k) k = (s.data.toList.take k).drop (fromAt s.data.toList k) := by
    rw [List.extract_eq_take_drop, List.drop_take]
  rw [e, ← hdl]
  generalize (cutAt (s.data.toList.take k)).2 = X at hd ⊢
  rw [hd]
  simp
theorem from_le (l : List UInt8) (k : Nat) : fromAt l k ≤ k := Nat.sub_le _ _
theorem from_next (l : List UInt8) (k : Nat) (h : k < l.length) : fromAt l (k + 1) = if l[k] = 32 then k + 1 else fromAt l k := by
  unfold fromAt
  rw [List.take_succ_eq_append_getElem h, cutAt_snoc]
  have := (cut_len (l.take k)).2
  rw [List.length_take] at this
  unfold cutStep
  split
  · simp
  · simp
theorem done_next (l : List UInt8) (k : Nat) (h : k < l.length) : (cutAt (l.take (k + 1))).1 = if l[k] = 32 then (cutAt (l.take k)).1 ++ [(cutAt (l.take k)).2] else (cutAt (l.take k)).1 := by
  rw [List.take_succ_eq_append_getElem h, cutAt_snoc]
  unfold cutStep
  split <;> rfl

theorem own_base {w : World} {base : Nat} {e : TypeId} {size : Nat} {v : Value} {n : Nat} {xs : List Value} (h : w.ownsRow base e size v n xs) : ∀ k, v.ownBlock = some k → base ≤ k := by
  intro k hk
  rcases h.2 with ⟨rfl, _⟩ | ⟨g, cap, cur, rfl, hb, _⟩
  · cases hk
  · cases hk; exact hb

set_option maxRecDepth 20000 in
set_option maxHeartbeats 2000000 in
theorem split_any (s : ByteArray) (hs : s.size ≤ 1048576) (w : World) :
    Calls Tryd.prog 65 #[.string s, .int .u8 32] w fun e w' => (∃ v, e = .returned v ∧ w'.ownsRow w.heap.size 9 1 v (splitF s.data.toList).length ((splitF s.data.toList).map strV)) ∧ Below w.heap.size w w' := by
  obtain ⟨i0, hi, hz0, hz1, hz2⟩ := strInfo
  have hs' : (s.size : Int) ≤ 1048576 := by omega
  go_enter Tryd.func65, Tryd.ntmps65
  go_wp2
  go_loopw [5, 6, 7] (fun v f i wr => ∃ k : Nat, k ≤ s.size ∧ i = .int .i64 k ∧ f = .int .i64 (fromAt s.data.toList k) ∧ Hid (wr.ownsRow w.heap.size 9 1 v (cutAt (s.data.toList.take k)).1.length ((cutAt (s.data.toList.take k)).1.map strV)) ∧ Hid (Below w.heap.size w wr)) (fun _ _ i _ => s.size - (intOf i).toNat)
  case atStart => exact ⟨0, Nat.zero_le _, rfl, rfl, World.ownsRow_nil _ _ _ _, Below.refl _ _⟩
  case round =>
    obtain ⟨k, hk, rfl, rfl, hown, hbw⟩ := hrel
    by_cases hlt : k < s.size
    · have hpt := part_at s k hk
      have hfl := from_le s.data.toList k
      have hfi : ((fromAt s.data.toList k : Nat) : Int) ≤ (k : Int) := by omega
      have hki : (k : Int) < s.size := by omega
      have hl : k < s.data.toList.length := by simpa using hlt
      have HFN := hide' (from_next s.data.toList k hl)
      have HDN := hide' (done_next s.data.toList k hl)
      have HCL := hide' (cut_len (s.data.toList.take k))
      have hget : s.data.toList[k] = s[k] := rfl
      rw [hget] at HFN HDN
      by_cases hb : s[k] = 32
      · have hb1 : (s[k].toNat : Int) = 32 := by rw [hb]; rfl
        have HFN2 := hide' (show fromAt s.data.toList (k + 1) = k + 1 by rw [HFN.out, if_pos hb])
        have HDN2 := hide' (show (cutAt (s.data.toList.take (k + 1))).1 = (cutAt (s.data.toList.take k)).1 ++ [(cutAt (s.data.toList.take k)).2] by rw [HDN.out, if_pos hb])
        have HPT := hide' hpt
        clear HFN HDN hget hb hpt
        generalize fromAt s.data.toList k = fr at HPT hfl hfi
        generalize hD : (cutAt (s.data.toList.take k)).1 = D at hown HDN2 HCL
        generalize hC : (cutAt (s.data.toList.take k)).2 = C at HPT HDN2 HCL
        have hlen : D.length ≤ 1048576 := by have := HCL.out.1; rw [List.length_take] at this; omega
        clear hD hC HCL
        go_wp2_with (first
          | (at_builtin; refine wpList_append_own _ rfl _ _ 77 rfl w.heap.size 9 i0 (.string ⟨#[]⟩) 1 16 Tryd.underlying77 hi hz0 hz1 hz2 rfl (by decide) _ _ _ rfl (hown.out.alloc _) ⟨wr.heap.size, 0, none⟩ 1 1 [strV C] rfl rfl ?c1 ?c2 ?c3 ?c4 ?c5 ?_)
          | go_in)
        case c1 =>
          intro j u hj
          match j, hj with
          | 0, hj => simp at hj; subst hj; rw [← HPT.out]; simp [Addr.add]
        case c2 => intro u hu; simp at hu; subst hu; rfl
        case c3 => unfold maxLen; omega
        case c4 => omega
        case c5 => have := hbw.out.size; simp; omega
        intro v' w1 hown1 hgrow _
        have HB := hide' (Below.grown (hbw.out.up _) hgrow (by have := hbw.out.size; simp; omega) (own_base hown.out))
        have HO := hide' hown1
        clear hown1 hgrow hown
        go_wp2_with fail
        go_roundw
        case rel => exact ⟨k + 1, by omega, by go_num, by rw [HFN2.out]; go_num, (by rw [HDN2.out, List.length_append, List.map_append]; exact HO.out), HB.out⟩
        case measure => simp [intOf]; omega
      · have hb1 : ¬ (s[k].toNat : Int) = 32 := by
          intro e
          apply hb
          have : s[k].toNat = (32 : UInt8).toNat := by show s[k].toNat = 32; omega
          exact UInt8.toNat_inj.1 this
        have HFN2 := hide' (show fromAt s.data.toList (k + 1) = fromAt s.data.toList k by rw [HFN.out, if_neg hb])
        have HDN2 := hide' (show (cutAt (s.data.toList.take (k + 1))).1 = (cutAt (s.data.toList.take k)).1 by rw [HDN.out, if_neg hb])
        clear HFN HDN hget hb hpt
        generalize fromAt s.data.toList k = fr at HFN2 hfl hfi
        generalize (cutAt (s.data.toList.take k)).1 = D at hown HDN2 HCL
        go_wp2_with fail
        go_roundw
        case rel => exact ⟨k + 1, by omega, by go_num, by rw [HFN2.out], (by rw [HDN2.out]; exact hown.out), hbw.out⟩
        case measure => simp [intOf]; omega
    · have hke : k = s.size := by omega
      have hpt := part_at s k hk
      have hfl := from_le s.data.toList k
      have hfi : ((fromAt s.data.toList k : Nat) : Int) ≤ (s.size : Int) := by omega
      have HCL := hide' (cut_len (s.data.toList.take k))
      have hT : s.data.toList.take k = s.data.toList := by rw [hke]; exact List.take_of_length_le (by simp)
      rw [hT] at hown HCL hpt
      rw [hke] at hpt
      have HPT := hide' hpt
      have hki : (k : Int) = s.size := by omega
      rw [← hke] at hfi
      subst hke
      clear hpt hT
      have HSP := hide' (show splitF s.data.toList = (cutAt s.data.toList).1 ++ [(cutAt s.data.toList).2] from rfl)
      generalize fromAt s.data.toList s.size = fr at HPT hfl hfi
      generalize (cutAt s.data.toList).1 = D at hown HCL HSP
      generalize (cutAt s.data.toList).2 = C at HPT HCL HSP
      have hlen : D.length ≤ 1048576 := by have := HCL.out.1; simp at this; omega
      clear HCL
      go_wp2_with (first
        | (at_builtin; refine wpList_append_own _ rfl _ _ 77 rfl w.heap.size 9 i0 (.string ⟨#[]⟩) 1 16 Tryd.underlying77 hi hz0 hz1 hz2 rfl (by decide) _ _ _ rfl (hown.out.alloc _) ⟨wr.heap.size, 0, none⟩ 1 1 [strV C] rfl rfl ?c1 ?c2 ?c3 ?c4 ?c5 ?_)
        | go_in)
      case c1 =>
        intro j u hj
        match j, hj with
        | 0, hj => simp at hj; subst hj; rw [← HPT.out]; simp
      case c2 => rfl
      case c3 => unfold maxLen; omega
      case c4 => omega
      case c5 => have := hbw.out.size; simp; omega
      intro v' w1 hown1 hgrow _
      have HB := hide' (Below.grown (hbw.out.up _) hgrow (by have := hbw.out.size; simp; omega) (own_base hown.out))
      have HO := hide' hown1
      clear hown1 hgrow hown
      go_wp2_with fail
      go_ret
      exact ⟨⟨v', rfl, by rw [HSP.out, List.length_append, List.map_append]; exact HO.out⟩, HB.out⟩
end Go.Proofs.YtjijinjedeinmaaDoor
