/- The law FnExactReadOp: both sides, and the walk. -/
import Derived.Test.YtjijinjedeinmaaDoorReadOpL
namespace Go.Proofs.YtjijinjedeinmaaDoor
open Go.RowKit
open Rd Fl

theorem mk_list (l : List UInt8) : (ByteArray.mk l.toArray).data.toList = l := rfl
theorem mk_size (l : List UInt8) : (ByteArray.mk l.toArray).size = l.length := by show l.toArray.size = _; simp
theorem okN_text {kc : Nat} {a b : Int} {L : List UInt8} (h : okN kc a b L = true) : 1 ≤ kc ∧ plainB kc a b true = true ∧ L = (formW kc).data.toList ++ (useT kc).data.toList.flatMap (fun u => 32 :: (argX ⟨#[]⟩ a b u).data.toList) := by
  unfold okN at h
  simp only [Bool.and_eq_true, decide_eq_true_eq] at h
  exact ⟨h.1.1, h.1.2, h.2⟩
theorem plain_range {c a b : Int} {z : Bool} (h : plainB c a b z = true) : 0 ≤ a ∧ a ≤ 999 ∧ 0 ≤ b ∧ b ≤ 999 := by
  unfold plainB at h
  simp only [Bool.and_eq_true, decide_eq_true_eq] at h
  obtain ⟨⟨⟨⟨⟨-, h2⟩, h3⟩, -⟩, -⟩, -⟩ := h
  exact ⟨h2.1, h2.2, h3.1, h3.2⟩
theorem dg_decB (n : Int) (h0 : 0 ≤ n) (h : n ≤ 999) : dgN (decB n).data.toList = n := by
  show dgN (Lib.decDigits n.toNat) = n
  rw [dgN_dec _ (by omega)]
  omega
theorem decB_dg (l : List UInt8) (h : 0 ≤ dgN l) : (decB (dgN l)).data.toList = l := dec_dgN l h
theorem atoi_dg (l : List UInt8) (h : 0 ≤ dgN l) (h9 : dgN l ≤ 999) : Lib.atoiAll l = .ok (dgN l) := by
  have e := dec_dgN l h
  have := atoi_itoa (dgN l) (by omega)
  unfold Lib.itoa at this
  rw [if_neg (by omega), e] at this
  exact this

/-- the ways in which a text has blanks -/
theorem blanks (L : List UInt8) : (32 : UInt8) ∉ L ∨ ∃ W R, L = W ++ 32 :: R ∧ (32 : UInt8) ∉ W := by
  by_cases h : (32 : UInt8) ∈ L
  · obtain ⟨A, B, h1, h2⟩ := List.eq_append_cons_of_mem h
    exact .inr ⟨A, B, h1, h2⟩
  · exact .inl h

theorem plain_zero (k : Nat) (h1 : 1 ≤ k) (h2 : k ≤ 17) : plainB k 0 0 true = true := by
  rw [plain_good k h1 h2]
  unfold goodB endT
  by_cases ha : formA k = 0 <;> by_cases hb : formB k = 0 <;> simp [ha, hb]
theorem plain_a (k : Nat) (h1 : 1 ≤ k) (h2 : k ≤ 17) (hA : formA k ≠ 0) (a : Int) (h0 : 0 ≤ a) (h9 : a ≤ 999) : plainB k a 0 true = true := by
  rw [plain_good k h1 h2]
  unfold goodB endT
  by_cases hb : formB k = 0 <;> simp [hA, hb] <;> omega
theorem plain_ab (k : Nat) (h1 : 1 ≤ k) (h2 : k ≤ 17) (hA : formA k ≠ 0) (hB : formB k ≠ 0) (a b : Int) (h0 : 0 ≤ a) (h9 : a ≤ 999) (b0 : 0 ≤ b) (b9 : b ≤ 999) : plainB k a b true = true := by
  rw [plain_good k h1 h2]
  unfold goodB endT
  simp [hA, hB]
  omega

theorem ba_of_list {l : List UInt8} {x : ByteArray} (h : x.data.toList = l) : ByteArray.mk l.toArray = x := ba_eq (by rw [mk_list, h])
theorem use_eq (k : Nat) {l : List UInt8} (h : (useT k).data.toList = l) : useT k = ⟨l.toArray⟩ := ba_eq (by rw [h])

/-- How a text of words lies: the word W, what is cut off behind it, and the parts. -/
structure Shape (L W R F G : List UInt8) (f1 f2 : Bool) (ws : List (List UInt8)) : Prop where
  c1 : Lib.cut L [32] = (W, R, f1)
  c2 : Lib.cut R [32] = (F, G, f2)
  sp : splitF L = W :: ws
  lens : R.length ≤ L.length ∧ F.length ≤ L.length ∧ G.length ≤ L.length ∧ (W :: ws).length ≤ L.length + 1
  way : (L = W ∧ F = [] ∧ G = [] ∧ ws = []) ∨ (L = W ++ 32 :: F ∧ G = [] ∧ (32 : UInt8) ∉ F ∧ ws = [F]) ∨ (L = W ++ 32 :: (F ++ 32 :: G) ∧ (32 : UInt8) ∉ F ∧ (32 : UInt8) ∉ G ∧ ws = [F, G]) ∨ (L = W ++ 32 :: (F ++ 32 :: G) ∧ (32 : UInt8) ∉ F ∧ (32 : UInt8) ∈ G ∧ 3 ≤ ws.length)

theorem shape (L : List UInt8) : ∃ W R F G f1 f2 ws, Shape L W R F G f1 f2 ws := by
  have hl := (cut_len L).1
  have hlen : ∀ l, splitF L = l → l.length ≤ L.length + 1 := by
    intro l h
    rw [← h]
    unfold splitF
    simp; omega
  rcases blanks L with h | ⟨W, R, rfl, h⟩
  · exact ⟨L, [], [], [], false, false, [], cut_noneB L h, cut_noneB [] (by simp), split_none L h, ⟨by simp, by simp, by simp, hlen _ (split_none L h)⟩, .inl ⟨rfl, rfl, rfl, rfl⟩⟩
  · rcases blanks R with h2 | ⟨F, G, rfl, h2⟩
    · have e : splitF (W ++ 32 :: R) = W :: [R] := by rw [split_cons W R h, split_none R h2]
      exact ⟨W, R, R, [], true, false, [R], cut_atB W R h, cut_noneB R h2, e, ⟨by simp; omega, by simp; omega, by simp, hlen _ e⟩, .inr (.inl ⟨rfl, rfl, h2, rfl⟩)⟩
    · by_cases h3 : (32 : UInt8) ∈ G
      · have e : splitF (W ++ 32 :: (F ++ 32 :: G)) = W :: (F :: splitF G) := by rw [split_cons W _ h, split_cons F G h2]
        refine ⟨W, F ++ 32 :: G, F, G, true, true, F :: splitF G, cut_atB W _ h, cut_atB F G h2, e, ⟨by simp; omega, by simp; omega, by simp; omega, hlen _ e⟩, .inr (.inr (.inr ⟨rfl, h2, h3, ?_⟩))⟩
        obtain ⟨A, B, rfl, h4⟩ := List.eq_append_cons_of_mem h3
        rw [split_cons A B h4]
        have := split_len B
        simp only [List.length_cons]
        omega
      · have e : splitF (W ++ 32 :: (F ++ 32 :: G)) = W :: [F, G] := by rw [split_cons W _ h, split_cons F G h2, split_none G h3]
        exact ⟨W, F ++ 32 :: G, F, G, true, true, [F, G], cut_atB W _ h, cut_atB F G h2, e, ⟨by simp; omega, by simp; omega, by simp; omega, hlen _ e⟩, .inr (.inr (.inl ⟨rfl, h2, h3, rfl⟩))⟩

theorem readop_same (s : ByteArray) (hs : s.size ≤ 1048576) : SameRead s := by
  have hsl : s.data.toList.length ≤ 1048576 := by simpa using hs
  obtain ⟨W, R, F, G, f1, f2, ws, S⟩ := shape s.data.toList
  obtain ⟨kc, hk, hkw, hw⟩ := code_of ⟨W.toArray⟩
  obtain ⟨l1, l2, l3, l4⟩ := S.lens
  have hno : (kc = 0 ∨ (W :: ws).length ≠ (useT kc).size + 1) → ∀ w, Calls Tryd.prog 25 #[.string s] w fun e w' => e = .returned (.tuple #[.agg #[.int .i64 0, .int .i64 0, .int .i64 0, .float .f64 0], .bool false]) ∧ Below w.heap.size w w' :=
    fun h w => sreadop_no s hs W _ rfl ws S.sp kc hk hw (by omega) h w
  by_cases hk1 : 1 ≤ kc
  · have hWk : (formW kc).data.toList = W := by rw [hkw hk1]
    have hus := useT_nat kc hk1 hk
    rcases form_classes kc hk1 hk with ⟨hv, hfa, hfb⟩ | ⟨hv, hfa, hfb⟩ | ⟨hv, hfa, hfb⟩ | ⟨hv, hfa, hfb⟩
    · -- the number V is named
      rw [hv, if_pos rfl] at hus
      have hsz : (useT kc).size = 1 := by rw [use_eq kc hus]; rfl
      obtain ⟨u, p, hA, hSay⟩ := agree_num ⟨F.toArray⟩ (by rw [mk_size]; omega)
      have hpl : plainB kc 0 0 (sameB u p false 0) = true := by
        rw [plain_good kc hk1 hk, hv, hfa, hfb]
        unfold goodB endT
        simp
      have hI := fun (T : ByteArray) hT hIT => fun w hE hF => ireadop_v s hs W R F G f1 f2 S.c1 S.c2 (by omega) kc hk hv hw u p (numB ⟨F.toArray⟩) hA _ true (fun w hE hF => iopText_yes kc hk1 hk 0 0 u p hA.1 T hT hIT hpl w hE hF) w hE hF
      have htx : ∀ T : ByteArray, (true && ((accT (formW kc) (argX T 0 0) (useT kc).data.toList).toList == s.toList)) = decide (s.data.toList = W ++ 32 :: T.data.toList) := by
        intro T
        rw [Bool.true_and, ByteArray.toList_eq, ByteArray.toList_eq, accT_list, beq_swap, hus, hWk]
        simp [argX]
      obtain ⟨T, hT, hnT, h32, hIT⟩ := text_num u p hA.1
      rcases S.way with ⟨hl, hF, hG, hws⟩ | ⟨hl, hG, hF, hws⟩ | ⟨hl, _, _, hws⟩ | ⟨hl, _, _, hws⟩
      · have h0 := hI T hT hIT
        rw [htx T, decide_eq_false (by rw [hl]; intro h; have := congrArg List.length h; simp at this)] at h0
        exact same_zero (hno (.inr (by rw [hws, hsz]; simp))) h0
      · cases hn : numB ⟨F.toArray⟩
        · have h0 := hI T hT hIT
          rw [htx T, decide_eq_false (by
            rw [hl]; intro h
            have h3 : F = T.data.toList := by simpa using h
            have h4 : (ByteArray.mk F.toArray) = T := ba_eq (by rw [mk_list]; exact h3)
            rw [h4, hnT] at hn
            cases hn)] at h0
          rw [hn] at hA
          exact same_zero (sreadop_vf s hs W _ rfl ws S.sp kc hk hw (by omega) hk1 (use_eq kc hus) F ⟨F.toArray⟩ rfl hws u p hA) h0
        · have h0 := hI ⟨F.toArray⟩ (by have := numB_small _ hn; omega) (hSay hn)
          rw [htx, decide_eq_true (by rw [hl])] at h0
          have hA2 := hA
          rw [hn] at hA2
          exact ⟨true, kc, 0, 0, u, p, hA.1, sreadop_vt s hs W _ rfl ws S.sp kc hk hw (by omega) hk1 (use_eq kc hus) F ⟨F.toArray⟩ rfl hws u p hA2, h0⟩
      all_goals
        have h0 := hI T hT hIT
        rw [htx T, decide_eq_false (by
          rw [hl]; intro h
          have h3 : F ++ 32 :: G = T.data.toList := by simpa using h
          exact h32 (by rw [← h3]; simp))] at h0
        refine same_zero (hno (.inr ?_)) h0
        first
          | (rw [hws, hsz]; simp)
          | (rw [hsz]; simp only [List.length_cons]; omega)
    · -- nothing is named
      rw [hv, if_neg (by simp), if_pos hfa] at hus
      obtain ⟨a, b, ha1, ha2, hb1, hb2, hI⟩ := ireadop_nn s hs W R F G f1 f2 S.c1 S.c2 (by omega) (by omega) (by omega) kc hk hv hw
      have hsz : (useT kc).size = 0 := by rw [use_eq kc hus]; rfl
      rcases S.way with ⟨hl, rfl, rfl, rfl⟩ | ⟨hl, _, _, hws⟩ | ⟨hl, _, _, hws⟩ | ⟨hl, _, _, hws⟩
      · have a0 := ha2 rfl
        have b0 := hb2 rfl
        subst a0 b0
        have hok : okN kc 0 0 s.data.toList = true := by
          unfold okN
          rw [decide_eq_true hk1, plain_zero kc hk1 hk, hl, hus, hWk]
          simp
        rw [hok] at hI
        exact same_plain (sreadop_0 s hs W _ rfl [] S.sp kc hk hw (by omega) hk1 (use_eq kc hus) rfl) hI
      all_goals
        have hok : okN kc a b s.data.toList = false := by
          rw [Bool.eq_false_iff]
          intro h
          have h2 := (okN_text h).2.2
          rw [hus, hWk, hl] at h2
          have := congrArg List.length h2
          simp at this
        rw [hok] at hI
        refine same_zero (hno (.inr ?_)) hI
        first
          | (rw [hws, hsz]; simp)
          | (rw [hsz]; simp only [List.length_cons]; omega)
    · -- a number is named
      rw [hv, if_neg (by simp), if_neg hfa, if_pos hfb] at hus
      obtain ⟨a, b, ha1, ha2, hb1, hb2, hI⟩ := ireadop_nn s hs W R F G f1 f2 S.c1 S.c2 (by omega) (by omega) (by omega) kc hk hv hw
      have hsz : (useT kc).size = 1 := by rw [use_eq kc hus]; rfl
      have htx : okN kc a b s.data.toList = true → (0 ≤ a ∧ a ≤ 999) ∧ s.data.toList = W ++ 32 :: (decB a).data.toList := by
        intro h
        obtain ⟨-, hp, h2⟩ := okN_text h
        rw [hus, hWk] at h2
        exact ⟨⟨(plain_range hp).1, (plain_range hp).2.1⟩, by rw [h2]; simp [argX]⟩
      rcases S.way with ⟨hl, hF, hG, hws⟩ | ⟨hl, hG, hF, hws⟩ | ⟨hl, _, _, hws⟩ | ⟨hl, _, _, hws⟩
      · have hok : okN kc a b s.data.toList = false := by
          rw [Bool.eq_false_iff]
          intro h
          have h2 := congrArg List.length (hl.symm.trans (htx h).2)
          simp at h2
        rw [hok] at hI
        exact same_zero (hno (.inr (by rw [hws, hsz]; simp))) hI
      · have b0 := hb2 hG
        subst b0
        by_cases hm : 0 ≤ dgN F ∧ dgN F ≤ 999
        · have a0 := ha1 _ (atoi_dg F hm.1 hm.2)
          have hok : okN kc a 0 s.data.toList = true := by
            unfold okN
            rw [decide_eq_true hk1, a0, plain_a kc hk1 hk hfa _ hm.1 hm.2, hus, hWk, hl]
            have := decB_dg F hm.1
            simp [argX, this]
          rw [hok, a0] at hI
          exact same_plain (sreadop_at s hs W _ rfl ws S.sp kc hk hw (by omega) hk1 (use_eq kc hus) F ⟨F.toArray⟩ rfl hws (dgN F) (by rw [mk_size]; omega) rfl hm.1 hm.2) hI
        · have hok : okN kc a 0 s.data.toList = false := by
            rw [Bool.eq_false_iff]
            intro h
            obtain ⟨⟨r1, r2⟩, h2⟩ := htx h
            rw [hl] at h2
            have h3 : F = (decB a).data.toList := by simpa using h2
            have h4 := dg_decB a r1 r2
            rw [← h3] at h4
            omega
          rw [hok] at hI
          exact same_zero (sreadop_af s hs W _ rfl ws S.sp kc hk hw (by omega) hk1 (use_eq kc hus) F ⟨F.toArray⟩ rfl hws (dgN F) (by rw [mk_size]; omega) rfl (decide_eq_false hm)) hI
      all_goals
        have hok : okN kc a b s.data.toList = false := by
          rw [Bool.eq_false_iff]
          intro h
          have h2 := (htx h).2
          rw [hl] at h2
          have h3 : F ++ 32 :: G = (decB a).data.toList := by simpa using h2
          exact dec_nopI a (by rw [← h3]; simp)
        rw [hok] at hI
        refine same_zero (hno (.inr ?_)) hI
        first
          | (rw [hws, hsz]; simp)
          | (rw [hsz]; simp only [List.length_cons]; omega)
    · -- two numbers are named
      rw [hv, if_neg (by simp), if_neg hfa, if_neg hfb] at hus
      obtain ⟨a, b, ha1, ha2, hb1, hb2, hI⟩ := ireadop_nn s hs W R F G f1 f2 S.c1 S.c2 (by omega) (by omega) (by omega) kc hk hv hw
      have hsz : (useT kc).size = 2 := by rw [use_eq kc hus]; rfl
      have htx : okN kc a b s.data.toList = true → (0 ≤ a ∧ a ≤ 999) ∧ (0 ≤ b ∧ b ≤ 999) ∧ s.data.toList = W ++ 32 :: ((decB a).data.toList ++ 32 :: (decB b).data.toList) := by
        intro h
        obtain ⟨-, hp, h2⟩ := okN_text h
        rw [hus, hWk] at h2
        obtain ⟨r1, r2, r3, r4⟩ := plain_range hp
        exact ⟨⟨r1, r2⟩, ⟨r3, r4⟩, by rw [h2]; simp [argX]⟩
      rcases S.way with ⟨hl, hF, hG, hws⟩ | ⟨hl, hG, hF, hws⟩ | ⟨hl, hF, hG, hws⟩ | ⟨hl, hF, hG, hws⟩
      · have hok : okN kc a b s.data.toList = false := by
          rw [Bool.eq_false_iff]
          intro h
          have h2 := congrArg List.length (hl.symm.trans (htx h).2.2)
          simp at h2
        rw [hok] at hI
        exact same_zero (hno (.inr (by rw [hws, hsz]; simp))) hI
      · have hok : okN kc a b s.data.toList = false := by
          rw [Bool.eq_false_iff]
          intro h
          have h2 := (htx h).2.2
          rw [hl] at h2
          have h3 : F = (decB a).data.toList ++ 32 :: (decB b).data.toList := by simpa using h2
          exact hF (by rw [h3]; simp)
        rw [hok] at hI
        exact same_zero (hno (.inr (by rw [hws, hsz]; simp))) hI
      · have hpart : okN kc a b s.data.toList = true → F = (decB a).data.toList ∧ G = (decB b).data.toList := by
          intro h
          have h2 := (htx h).2.2
          rw [hl] at h2
          have h3 : F ++ 32 :: G = (decB a).data.toList ++ 32 :: (decB b).data.toList := by simpa using h2
          exact split_uniqueB _ _ _ _ hF (dec_nopI a) h3
        by_cases hm : 0 ≤ dgN F ∧ dgN F ≤ 999
        · by_cases hq : 0 ≤ dgN G ∧ dgN G ≤ 999
          · have a0 := ha1 _ (atoi_dg F hm.1 hm.2)
            have b0 := hb1 _ (atoi_dg G hq.1 hq.2)
            have hok : okN kc a b s.data.toList = true := by
              unfold okN
              rw [decide_eq_true hk1, a0, b0, plain_ab kc hk1 hk hfa hfb _ _ hm.1 hm.2 hq.1 hq.2, hus, hWk, hl]
              have e1 := decB_dg F hm.1
              have e2 := decB_dg G hq.1
              simp [argX, e1, e2]
            rw [hok, a0, b0] at hI
            exact same_plain (sreadop_bt s hs W _ rfl ws S.sp kc hk hw (by omega) hk1 (use_eq kc hus) F ⟨F.toArray⟩ rfl G ⟨G.toArray⟩ rfl hws (dgN F) (dgN G) (by rw [mk_size]; omega) rfl (by rw [mk_size]; omega) rfl hm.1 hm.2 hq.1 hq.2) hI
          · have hok : okN kc a b s.data.toList = false := by
              rw [Bool.eq_false_iff]
              intro h
              have h4 := dg_decB b (htx h).2.1.1 (htx h).2.1.2
              rw [← (hpart h).2] at h4
              have := (htx h).2.1
              omega
            rw [hok] at hI
            exact same_zero (sreadop_b2 s hs W _ rfl ws S.sp kc hk hw (by omega) hk1 (use_eq kc hus) F ⟨F.toArray⟩ rfl G ⟨G.toArray⟩ rfl hws (dgN F) (dgN G) (by rw [mk_size]; omega) rfl (by rw [mk_size]; omega) rfl hm.1 hm.2 (decide_eq_false hq)) hI
        · have hok : okN kc a b s.data.toList = false := by
            rw [Bool.eq_false_iff]
            intro h
            have h4 := dg_decB a (htx h).1.1 (htx h).1.2
            rw [← (hpart h).1] at h4
            have := (htx h).1
            omega
          rw [hok] at hI
          exact same_zero (sreadop_b1 s hs W _ rfl ws S.sp kc hk hw (by omega) hk1 (use_eq kc hus) F ⟨F.toArray⟩ rfl G hws (dgN F) (by rw [mk_size]; omega) rfl (decide_eq_false hm)) hI
      · have hok : okN kc a b s.data.toList = false := by
          rw [Bool.eq_false_iff]
          intro h
          have h2 := (htx h).2.2
          rw [hl] at h2
          have h3 : F ++ 32 :: G = (decB a).data.toList ++ 32 :: (decB b).data.toList := by simpa using h2
          have h4 := (split_uniqueB _ _ _ _ hF (dec_nopI a) h3).2
          exact dec_nopI b (by rw [← h4]; exact hG)
        rw [hok] at hI
        refine same_zero (hno (.inr ?_)) hI
        rw [hsz]; simp only [List.length_cons]; omega
  · have hz : kc = 0 := by omega
    obtain ⟨a, b, ha1, ha2, hb1, hb2, hI⟩ := ireadop_nn s hs W R F G f1 f2 S.c1 S.c2 (by omega) (by omega) (by omega) kc hk (by rw [hz]; rfl) hw
    have hok : okN kc a b s.data.toList = false := by unfold okN; rw [decide_eq_false hk1]; rfl
    rw [hok] at hI
    exact same_zero (hno (.inl hz)) hI

set_option maxRecDepth 20000 in
set_option maxHeartbeats 1000000 in
theorem law_readop (s : ByteArray) (w : World) (hE : Env w) (hF : Forms w) :
    Calls Tryd.prog 6 #[.string s] w fun e w' => e = .returned (.bool true) ∧ Below w.heap.size w w' := by
  have HE := hide' hE
  have HF := hide' hF
  have hst := store_f
  clear hE hF
  by_cases h : s.size ≤ 1048576
  · obtain ⟨q, c, a, b, u, p, hp, hS, hI⟩ := readop_same s h
    have h1 : decide ((1048576 : Int) < s.size) = false := decide_eq_false (by omega)
    have HS := hide' hS
    have HI := hide' hI
    have HP := hide' hp
    clear hS hI hp h
    go_enter Tryd.func6, Tryd.ntmps6
    go_wp2_with fail
    refine (HS.out _).mono ?_
    rintro e w1 ⟨⟨t, r, hr, rfl, hsm⟩, hb1⟩
    have HR := hide' hr
    have HSM := hide' hsm
    have HB1 := hide' hb1
    clear hr hsm hb1
    go_wp2_with fail
    refine (HI.out _ (HE.out.below (HB1.out.up _)) (HF.out.below (HB1.out.up _))).mono ?_
    rintro e w2 ⟨rfl, hb2⟩
    have HB2 := hide' ((HB1.out.up _).trans (hb2.mono (by have := HB1.out.size; simp; omega)))
    obtain ⟨c0, c1, c2, c3⟩ := (box_new w1 c a b (wd t r) 46).above hb2
    clear hb2
    have hz : w1.heap.size < w2.heap.size := World.block_lt_of_cell? w2 _ c0
    go_wp2_with fail
    refine (eqop_any c a b u t p r HP.out HR.out HSM.out _).mono ?_
    rintro e w3 ⟨rfl, hb3⟩
    have HB3 := hide' ((HB2.out.up _).trans (hb3.mono (by have := HB2.out.size; simp; omega)))
    clear hb3
    cases q
    all_goals
      go_wp2_with fail
      go_ret
      exact ⟨rfl, HB3.out⟩
  · have h1 : decide ((1048576 : Int) < s.size) = true := decide_eq_true (by omega)
    clear h
    go_enter Tryd.func6, Tryd.ntmps6
    go_wp2_with fail
    go_ret
    exact ⟨rfl, Below.refl _ _⟩
end Go.Proofs.YtjijinjedeinmaaDoor
