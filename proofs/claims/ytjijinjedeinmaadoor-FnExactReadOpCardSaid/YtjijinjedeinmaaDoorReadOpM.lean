/- Texts of ops: splitting, facts. -/
import Derived.Test.YtjijinjedeinmaaDoorSplit
import Derived.Test.YtjijinjedeinmaaDoorOpTi
namespace Go.Proofs.YtjijinjedeinmaaDoor
open Go.RowKit
open Rd Fl

theorem cut_none32 (A : List UInt8) (h : (32 : UInt8) ∉ A) : ∀ p : List (List UInt8) × List UInt8, A.foldl cutStep p = (p.1, p.2 ++ A) := by
  induction A with
  | nil => intro p; simp
  | cons x r ih =>
    intro p
    have hx : ¬ x = 32 := by rintro rfl; simp at h
    have hr : (32 : UInt8) ∉ r := by intro hm; simp [hm] at h
    rw [List.foldl_cons, ih hr]
    simp [cutStep, hx]
theorem cut_from (B : List UInt8) : ∀ (d : List (List UInt8)) (c : List UInt8), B.foldl cutStep (d, c) = (d ++ (B.foldl cutStep ([], c)).1, (B.foldl cutStep ([], c)).2) := by
  induction B with
  | nil => intro d c; simp
  | cons x r ih =>
    intro d c
    simp only [List.foldl_cons]
    unfold cutStep
    by_cases hx : x = 32
    · simp only [hx, if_true, List.nil_append]
      have h1 := ih (d ++ [c]) []
      have h2 := ih [c] []
      unfold cutStep at h1 h2
      rw [h1, h2]
      simp
    · simp only [hx, if_false]
      exact ih d (c ++ [x])
theorem split_none (A : List UInt8) (h : (32 : UInt8) ∉ A) : splitF A = [A] := by
  unfold splitF cutAt
  rw [cut_none32 A h]
  simp
theorem split_cons (A B : List UInt8) (h : (32 : UInt8) ∉ A) : splitF (A ++ 32 :: B) = A :: splitF B := by
  unfold splitF cutAt
  rw [List.foldl_append, cut_none32 A h, List.foldl_cons]
  simp only [cutStep, if_true, List.nil_append]
  rw [cut_from]
  simp
theorem split_len (l : List UInt8) : 1 ≤ (splitF l).length := by unfold splitF; simp

theorem index_noneB (l : List UInt8) (h : (32 : UInt8) ∉ l) : Lib.index l [32] = -1 := by
  induction l with
  | nil => rfl
  | cons a r ih =>
    have ha : (32 : UInt8) ≠ a := fun e => h (by simp [e])
    have hr := ih (fun hm => h (by simp [hm]))
    unfold Lib.index
    rw [if_neg (by simp [List.isPrefixOf, ha]), hr]
    rfl

theorem index_atB (A B : List UInt8) (h : (32 : UInt8) ∉ A) : Lib.index (A ++ 32 :: B) [32] = A.length := by
  induction A with
  | nil =>
    show Lib.index (32 :: B) [32] = 0
    unfold Lib.index
    rw [if_pos (by simp [List.isPrefixOf])]
  | cons a r ih =>
    have ha : (32 : UInt8) ≠ a := fun e => h (by simp [e])
    have hr := ih (fun hm => h (by simp [hm]))
    show Lib.index (a :: (r ++ 32 :: B)) [32] = _
    unfold Lib.index
    rw [if_neg (by simp [List.isPrefixOf, ha]), hr]
    have : ((r.length : Int) == -1) = false := by simp
    rw [this]
    simp

theorem cut_noneB (l : List UInt8) (h : (32 : UInt8) ∉ l) : Lib.cut l [32] = (l, [], false) := by
  unfold Lib.cut; rw [index_noneB l h]; simp
theorem cut_atB (A B : List UInt8) (h : (32 : UInt8) ∉ A) : Lib.cut (A ++ 32 :: B) [32] = (A, B, true) := by
  unfold Lib.cut; rw [index_atB A B h]
  rw [if_pos (by omega), Int.toNat_natCast]
  simp

theorem dec_nopB (n : Nat) : (32 : UInt8) ∉ Lib.decDigits n := by
  intro h
  have := (v10_dec n).2.1.2.1 _ h
  exact absurd this.1 (by decide)
theorem itoa_nopB (n : Int) : (32 : UInt8) ∉ Lib.itoa n := by
  unfold Lib.itoa
  split
  · intro h
    rw [List.mem_cons] at h
    rcases h with h | h
    · exact absurd h (by decide)
    · exact dec_nopB _ h
  · exact dec_nopB _

theorem split_uniqueB (A B C D : List UInt8) (hA : (32 : UInt8) ∉ A) (hC : (32 : UInt8) ∉ C) (h : A ++ 32 :: B = C ++ 32 :: D) : A = C ∧ B = D := by
  have h1 := cut_atB A B hA
  rw [h, cut_atB C D hC] at h1
  simp at h1
  exact ⟨h1.1.symm, h1.2.symm⟩

/-- whether ReadNum tells true of a text -/
def numB (s : ByteArray) : Bool := (s.toList == [110, 97, 110]) || (s.toList == [105, 110, 102]) || (s.toList == [45, 105, 110, 102]) || (s.toList == [48]) || (s.toList == [45, 48]) || (decide (s.size ≤ 40) && rdB s.data.toList)

theorem numB_small (s : ByteArray) (h : numB s = true) : s.size ≤ 40 := by
  unfold numB at h
  simp only [Bool.or_eq_true, Bool.and_eq_true, decide_eq_true_eq] at h
  have key : ∀ l : List UInt8, l.length ≤ 40 → (s.toList == l) = true → s.size ≤ 40 := by
    intro l hl he
    rw [ByteArray.toList_eq] at he
    have : s.data.toList = l := by simpa using he
    have h2 := congrArg List.length this
    simp at h2
    have h3 : s.size = s.data.size := rfl
    omega
  rcases h with ((((h | h) | h) | h) | h) | h
  · exact key _ (by decide) h
  · exact key _ (by decide) h
  · exact key _ (by decide) h
  · exact key _ (by decide) h
  · exact key _ (by decide) h
  · exact h.1

theorem numB_edge {s : ByteArray} (h : (s.toList == [110, 97, 110]) = true ∨ (s.toList == [105, 110, 102]) = true ∨ (s.toList == [45, 105, 110, 102]) = true ∨ (s.toList == [48]) = true ∨ (s.toList == [45, 48]) = true) : numB s = true := by
  unfold numB
  rcases h with h | h | h | h | h <;> rw [h] <;> simp
theorem numB_noEdge {s : ByteArray} (h : noEdge s) : numB s = (decide (s.size ≤ 40) && rdB s.data.toList) := by
  obtain ⟨h1, h2, h3, h4, h5⟩ := h
  unfold numB
  rw [h1, h2, h3, h4, h5]
  simp
theorem rdB_at (A B : List UInt8) (hA : (112 : UInt8) ∉ A) : rdB (A ++ 112 :: B) = (sgB A && sgB B && noB (sgV A) (sgV B)) := by
  unfold rdB
  rw [cut_at A B hA]
  simp
theorem rdB_none (l : List UInt8) (h : (112 : UInt8) ∉ l) : rdB l = false := by
  unfold rdB
  rw [cut_none l h]
  rfl

/-- Of any text both tell the same, true just where numB says so, and what is told true has just that text. -/
theorem agree_num (s : ByteArray) (hs : s.size ≤ 1048576) : ∃ u p, AgreeAt s u p (numB s) ∧ (numB s = true → SaysAt s u p) := by
  cases n1 : (s.toList == [110, 97, 110])
  · cases n2 : (s.toList == [105, 110, 102])
    · cases n3 : (s.toList == [45, 105, 110, 102])
      · cases n4 : (s.toList == [48])
        · cases n5 : (s.toList == [45, 48])
          · have he : noEdge s := ⟨n1, n2, n3, n4, n5⟩
            have hno : ∀ {P : Prop}, false = true → P := fun h => by cases h
            rw [numB_noEdge he]
            by_cases hl : 40 < (s.size : Int)
            · rw [decide_eq_false (by omega : ¬ s.size ≤ 40), Bool.false_and]
              refine ⟨false, 0, ⟨by omega, fun w => (sread_long s hs he hl w).mono ?_, fun w _ => iread_long s he hl w⟩, hno⟩
              rintro e w' ⟨rfl, hn⟩
              exact ⟨⟨false, 0, by omega, rfl, sameB_refl _ _⟩, hn⟩
            · have hl2 : (s.size : Int) ≤ 40 := by omega
              rw [decide_eq_true (by omega : s.size ≤ 40), Bool.true_and]
              by_cases hp : (112 : UInt8) ∈ s.data.toList
              · obtain ⟨A, B, h1, h2⟩ := List.eq_append_cons_of_mem hp
                rw [h1, rdB_at A B h2]
                by_cases hg : (sgB A && sgB B && noB (sgV A) (sgV B)) = true
                · rw [hg]
                  rw [Bool.and_eq_true, Bool.and_eq_true] at hg
                  obtain ⟨⟨g1, g2⟩, g3⟩ := hg
                  have j1 := (sg_itoa A g1).1
                  have j2 := (sg_itoa B g2).1
                  have e : numT (sgV A) (sgV B) = s := ba_eq (by rw [numT_list, ← j1, ← j2, h1])
                  obtain ⟨p, p0, p1, hw, hpr⟩ := noW_pr _ _ g3
                  refine ⟨_, p, e ▸ agree_numT _ _ g3 _ p (by omega) hw, fun _ w hE => ?_⟩
                  have := itext_noWT _ _ g3 w hE
                  rwa [e, hw] at this
                · have hg2 := Bool.eq_false_iff.2 hg
                  rw [hg2]
                  have hS := sread_some s hl2 he A B h1 h2
                  have hI := fun w hE => iread_parts s hl2 he _ _ (fun w hE => read_parts s hl2 A B h1 h2 w hE) w hE
                  have hv : ∃ t r, r < 9223372036854775808 ∧ (if (sgB A && sgB B) = true then noW (sgV A) (sgV B) else 0) = wd t r := by
                    split
                    · exact noW_wd _ _
                    · exact ⟨false, 0, by omega, rfl⟩
                  obtain ⟨t, r, hr, hv⟩ := hv
                  rw [hg2, hv] at hS hI
                  refine ⟨t, r, ⟨hr, fun w => (hS w).mono ?_, hI⟩, hno⟩
                  rintro e w' ⟨rfl, hn⟩
                  exact ⟨⟨t, r, hr, rfl, sameB_refl _ _⟩, hn⟩
              · rw [rdB_none _ hp]
                refine ⟨false, 0, ⟨by omega, fun w => (sread_none s hl2 he hp w).mono ?_, fun w hE => iread_parts s hl2 he _ _ (fun w hE => read_none s hl2 hp w hE) w hE⟩, hno⟩
                rintro e w' ⟨rfl, hn⟩
                exact ⟨⟨false, 0, by omega, rfl, sameB_refl _ _⟩, hn⟩
          · rw [numB_edge (.inr (.inr (.inr (.inr n5))))]
            exact ⟨_, _, agree_negzero s n1 n2 n3 n4 n5, fun _ => says_edge s true 0 (by omega) (Or.inl rfl) _ n5 (by unfold edgeT; rw [if_neg (by omega), if_neg (by omega)]; rfl)⟩
        · rw [numB_edge (.inr (.inr (.inr (.inl n4))))]
          exact ⟨_, _, agree_zero s n1 n2 n3 n4, fun _ => says_edge s false 0 (by omega) (Or.inl rfl) _ n4 (by unfold edgeT; rw [if_neg (by omega), if_neg (by omega)]; rfl)⟩
      · rw [numB_edge (.inr (.inr (.inl n3)))]
        exact ⟨_, _, agree_neginf s n1 n2 n3, fun _ => says_edge s true 9218868437227405312 (by omega) (Or.inr (by omega)) _ n3 (by unfold edgeT; rw [if_neg (by omega), if_pos rfl]; rfl)⟩
    · rw [numB_edge (.inr (.inl n2))]
      exact ⟨_, _, agree_inf s n1 n2, fun _ => says_edge s false 9218868437227405312 (by omega) (Or.inr (by omega)) _ n2 (by unfold edgeT; rw [if_neg (by omega), if_pos rfl]; rfl)⟩
  · rw [numB_edge (.inl n1)]
    exact ⟨_, _, agree_nan s n1, fun _ => says_edge s false 9221120237041090561 (by omega) (Or.inr (by omega)) _ n1 (by unfold edgeT; rw [if_pos (by omega)])⟩

/-- A number's text: it is one that is read, and has no blank. -/
theorem text_num (s : Bool) (r : Nat) (hr : r < 9223372036854775808) : ∃ T, T.size ≤ 43 ∧ numB T = true ∧ (32 : UInt8) ∉ T.data.toList ∧
    (∀ w, EnvT w → Calls Tryd.prog 11 #[.float .f64 (wd s r)] w fun e w' => e = .returned (.string T) ∧ Below w.heap.size w w') := by
  by_cases h : r = 0 ∨ 9218868437227405312 ≤ r
  · have hI := itext_edge s r hr h
    by_cases h1 : 9218868437227405312 < r
    · have e : edgeT s r = ⟨#[110, 97, 110]⟩ := by unfold edgeT; rw [if_pos h1]
      rw [e] at hI
      exact ⟨_, by decide, numB_edge (.inl (by rw [ByteArray.toList_eq]; decide)), by decide, fun w _ => hI w⟩
    · by_cases h2 : r = 9218868437227405312
      · subst h2
        have e : edgeT s 9218868437227405312 = (if s then ⟨#[45, 105, 110, 102]⟩ else ⟨#[105, 110, 102]⟩) := by unfold edgeT; rw [if_neg h1, if_pos rfl]
        rw [e] at hI
        cases s
        · exact ⟨_, by decide, numB_edge (.inr (.inl (by rw [ByteArray.toList_eq]; decide))), by decide, fun w _ => hI w⟩
        · exact ⟨_, by decide, numB_edge (.inr (.inr (.inl (by rw [ByteArray.toList_eq]; decide)))), by decide, fun w _ => hI w⟩
      · have h0 : r = 0 := by omega
        subst h0
        have e : edgeT s 0 = (if s then ⟨#[45, 48]⟩ else ⟨#[48]⟩) := by unfold edgeT; rw [if_neg h1, if_neg h2]
        rw [e] at hI
        cases s
        · exact ⟨_, by decide, numB_edge (.inr (.inr (.inr (.inl (by rw [ByteArray.toList_eq]; decide))))), by decide, fun w _ => hI w⟩
        · exact ⟨_, by decide, numB_edge (.inr (.inr (.inr (.inr (by rw [ByteArray.toList_eq]; decide))))), by decide, fun w _ => hI w⟩
  · have h0 : 0 < r := by omega
    have h1 : r < 9218868437227405312 := by omega
    obtain ⟨q, x, hx⟩ := pr_some r h0 h1
    obtain ⟨hb, hw⟩ := made_again s r q x h0 h1 hx
    have hz := numT_size _ _ hb
    refine ⟨numT (sg s q) x, by omega, ?_, ?_, fun w hE => (itext_num s r h0 h1 w hE.tab hE.pow).mono ?_⟩
    · obtain ⟨ho, hl, hx1, hx2, hx3⟩ := of_decide_eq_true hb
      have i1 := itoa_sg (sg s q) (by omega)
      have i2 := itoa_sg x (by omega)
      rw [numB_noEdge (numT_noEdge _ _), decide_eq_true hz, Bool.true_and, numT_list, rdB_at _ _ (itoa_nop _), i1.1, i1.2, i2.1, i2.2, hb]
      rfl
    · rw [numT_list]
      intro hm
      rw [List.mem_append, List.mem_cons] at hm
      rcases hm with hm | hm | hm
      · exact itoa_nopB _ hm
      · exact absurd hm (by decide)
      · exact itoa_nopB _ hm
    · rintro e w' ⟨⟨q2, x2, rfl, hx2⟩, hb2⟩
      obtain ⟨rfl, rfl⟩ := pr_unique hx2 hx
      exact ⟨rfl, hb2⟩
end Go.Proofs.YtjijinjedeinmaaDoor
