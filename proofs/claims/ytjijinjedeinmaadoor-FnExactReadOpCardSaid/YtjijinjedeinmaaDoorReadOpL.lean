/- Of any text both sides' ReadOp tell the same. -/
import Derived.Test.YtjijinjedeinmaaDoorReadOpT
import Derived.Test.YtjijinjedeinmaaDoorReadOpU
import Derived.Test.YtjijinjedeinmaaDoorReadOpV
import Derived.Test.YtjijinjedeinmaaDoorPrgE
namespace Go.Proofs.YtjijinjedeinmaaDoor
open Go.RowKit
open Rd Fl

/-- Both sides' answers to a text: the program's word in V, the specification's one alike. -/
def SameRead (s : ByteArray) : Prop := ∃ (q : Bool) (c a b : Int) (u : Bool) (p : Nat), p < 9223372036854775808 ∧
    (∀ w, Calls Tryd.prog 25 #[.string s] w fun e w' => (∃ t r, r < 9223372036854775808 ∧ e = .returned (.tuple #[.agg #[.int .i64 c, .int .i64 a, .int .i64 b, .float .f64 (wd t r)], .bool q]) ∧ sameB u p t r = true) ∧ Below w.heap.size w w') ∧
    (∀ w, Env w → Forms w → Calls Tryd.prog 26 #[.string s] w fun e w' => e = .returned (.tuple #[.agg #[.int .i64 c, .int .i64 a, .int .i64 b, .float .f64 (wd u p)], .bool q]) ∧ Below w.heap.size w w')

theorem same_zero {s : ByteArray} (hS : ∀ w, Calls Tryd.prog 25 #[.string s] w fun e w' => e = .returned (.tuple #[.agg #[.int .i64 0, .int .i64 0, .int .i64 0, .float .f64 0], .bool false]) ∧ Below w.heap.size w w')
    (hI : ∀ w, Env w → Forms w → Calls Tryd.prog 26 #[.string s] w fun e w' => e = .returned (.tuple #[.agg #[.int .i64 0, .int .i64 0, .int .i64 0, .float .f64 0], .bool false]) ∧ Below w.heap.size w w') : SameRead s := by
  refine ⟨false, 0, 0, 0, false, 0, by omega, fun w => (hS w).mono ?_, hI⟩
  rintro e w' ⟨rfl, hb⟩
  exact ⟨⟨false, 0, by omega, rfl, sameB_refl _ _⟩, hb⟩
theorem same_plain {s : ByteArray} {c a b : Int} (hS : ∀ w, Calls Tryd.prog 25 #[.string s] w fun e w' => e = .returned (.tuple #[.agg #[.int .i64 c, .int .i64 a, .int .i64 b, .float .f64 0], .bool true]) ∧ Below w.heap.size w w')
    (hI : ∀ w, Env w → Forms w → Calls Tryd.prog 26 #[.string s] w fun e w' => e = .returned (.tuple #[.agg #[.int .i64 c, .int .i64 a, .int .i64 b, .float .f64 0], .bool true]) ∧ Below w.heap.size w w') : SameRead s := by
  refine ⟨true, c, a, b, false, 0, by omega, fun w => (hS w).mono ?_, hI⟩
  rintro e w' ⟨rfl, hb⟩
  exact ⟨⟨false, 0, by omega, rfl, sameB_refl _ _⟩, hb⟩

/-- which code a word has: 0 where it is none's -/
theorem code_of (x : ByteArray) : ∃ kc, kc ≤ 17 ∧ (1 ≤ kc → formW kc = x) ∧ ∀ i, 1 ≤ i → i ≤ 17 → ((formW i).toList == x.toList) = decide (i = kc) := by
  have hinj : ∀ i j, 1 ≤ i → i ≤ 17 → 1 ≤ j → j ≤ 17 → formW i = formW j → i = j := by
    intro i j h1 h2 h3 h4 he
    have key : ∀ i : Fin 18, ∀ j : Fin 18, 1 ≤ i.val → 1 ≤ j.val → (formW i.val).data.toList = (formW j.val).data.toList → i = j := by decide
    have := key ⟨i, by omega⟩ ⟨j, by omega⟩ h1 h3 (by show (formW i).data.toList = (formW j).data.toList; rw [he])
    exact congrArg Fin.val this
  by_cases h : ∃ k, 1 ≤ k ∧ k ≤ 17 ∧ formW k = x
  · obtain ⟨k, h1, h2, rfl⟩ := h
    refine ⟨k, h2, fun _ => rfl, fun i i1 i2 => ?_⟩
    by_cases e : i = k
    · subst e; simp
    · rw [decide_eq_false e, Bool.eq_false_iff]
      intro h3
      rw [ByteArray.toList_eq, ByteArray.toList_eq] at h3
      exact e (hinj i k i1 i2 h1 h2 (ba_eq (by simpa using h3)))
  · refine ⟨0, by omega, fun h1 => by omega, fun i i1 i2 => ?_⟩
    rw [decide_eq_false (by omega), Bool.eq_false_iff]
    intro h3
    rw [ByteArray.toList_eq, ByteArray.toList_eq] at h3
    exact h ⟨i, i1, i2, ba_eq (by simpa using h3)⟩

theorem formW_nop (k : Nat) (h : k ≤ 17) : (32 : UInt8) ∉ (formW k).data.toList := by
  have key : ∀ i : Fin 18, (32 : UInt8) ∉ (formW i.val).data.toList := by decide
  exact key ⟨k, by omega⟩

theorem dec_nopI (n : Int) : (32 : UInt8) ∉ (decB n).data.toList := by
  exact dec_nopB n.toNat

theorem accT_list (X : UInt8 → ByteArray) : ∀ (l : List UInt8) (W : ByteArray), (accT W X l).data.toList = W.data.toList ++ l.flatMap (fun u => 32 :: (X u).data.toList) := by
  intro l
  induction l with
  | nil => intro W; simp [accT]
  | cons u l ih =>
    intro W
    have h := ih (W ++ (⟨#[32]⟩ ++ X u))
    have h3 : accT W X (u :: l) = accT (W ++ (⟨#[32]⟩ ++ X u)) X l := rfl
    rw [h3, h]
    simp

/-- what decides of a text whose word names no number V -/
def okN (kc : Nat) (a b : Int) (L : List UInt8) : Bool := decide (1 ≤ kc) && plainB kc a b true && decide (L = (formW kc).data.toList ++ (useT kc).data.toList.flatMap (fun u => 32 :: (argX ⟨#[]⟩ a b u).data.toList))

theorem use_noV (k : Nat) (h1 : 1 ≤ k) (h2 : k ≤ 17) (hv : formV k = false) : ∀ u ∈ (useT k).data.toList, u ≠ 118 := by
  rw [useT_nat k h1 h2, hv]
  simp only [Bool.false_eq_true, if_false]
  split
  · intro u hu; simp at hu
  · split
    · intro u hu; simp at hu; rw [hu]; decide
    · intro u hu; simp at hu; rcases hu with rfl | rfl <;> decide

theorem flat_same {f g : UInt8 → List UInt8} : ∀ {l : List UInt8}, (∀ u ∈ l, f u = g u) → l.flatMap f = l.flatMap g
  | [], _ => rfl
  | u :: l, h => by rw [List.flatMap_cons, List.flatMap_cons, h u (by simp), flat_same (fun v hv => h v (by simp [hv]))]
theorem beq_swap (A L : List UInt8) : (A == L) = decide (L = A) := by
  by_cases h : L = A
  · subst h; simp
  · rw [decide_eq_false h, Bool.eq_false_iff]
    intro h2
    exact h (by simpa using h2 : A = L).symm

theorem ireadop_nn (s : ByteArray) (hs : s.size ≤ 1048576) (W R F G : List UInt8) (f1 f2 : Bool) (h1 : Lib.cut s.data.toList [32] = (W, R, f1)) (h2 : Lib.cut R [32] = (F, G, f2)) (hR : R.length ≤ 1048576) (hFl : F.length ≤ 1048576) (hGl : G.length ≤ 1048576) (kc : Nat) (hk : kc ≤ 17) (hv : formV kc = false)
    (hw : ∀ i, 1 ≤ i → i ≤ 17 → ((formW i).toList == (ByteArray.mk W.toArray).toList) = decide (i = kc)) : ∃ a b : Int, (∀ v, Lib.atoiAll F = .ok v → a = v) ∧ (F = [] → a = 0) ∧ (∀ v, Lib.atoiAll G = .ok v → b = v) ∧ (G = [] → b = 0) ∧
    ∀ w, Env w → Forms w → Calls Tryd.prog 26 #[.string s] w fun e w' => e = .returned (if okN kc a b s.data.toList = true then .tuple #[.agg #[.int .i64 (kc : Int), .int .i64 a, .int .i64 b, .float .f64 0], .bool true] else .tuple #[.agg #[.int .i64 0, .int .i64 0, .int .i64 0, .float .f64 0], .bool false]) ∧ Below w.heap.size w w' := by
  obtain ⟨a, ha1, ha2, ha3⟩ := atoi_fix ⟨F.toArray⟩ (by show F.toArray.size ≤ _; simpa using hFl)
  obtain ⟨b, hb1, hb2, hb3⟩ := atoi_fix ⟨G.toArray⟩ (by show G.toArray.size ≤ _; simpa using hGl)
  have z0 : sameB false 0 false 0 = true := sameB_refl _ _
  refine ⟨a, b, (by simpa using ha1), (by simpa using ha2), (by simpa using hb1), (by simpa using hb2), fun w hE hF => ?_⟩
  by_cases hk1 : 1 ≤ kc
  · cases hp : plainB kc a b true
    · have hI := fun w (_ : EnvT w) hF => iopText_no kc hk1 hk a b false 0 (by omega) (by rw [z0]; exact hp) w hF
      have := ireadop_n s hs W R F G f1 f2 h1 h2 hR kc hk hv hw a b ha3 hb3 ⟨#[]⟩ false hI w hE hF
      simpa [okN, hp] using this
    · obtain ⟨T, hT, -, -, hIT⟩ := text_num false 0 (by omega)
      have hI := fun w hE hF => iopText_yes kc hk1 hk a b false 0 (by omega) T hT hIT (by rw [z0]; exact hp) w hE hF
      have := ireadop_n s hs W R F G f1 f2 h1 h2 hR kc hk hv hw a b ha3 hb3 _ true hI w hE hF
      have e : (true && ((accT (formW kc) (argX T a b) (useT kc).data.toList).toList == s.toList)) = okN kc a b s.data.toList := by
        unfold okN
        rw [decide_eq_true hk1, hp, ByteArray.toList_eq, ByteArray.toList_eq, accT_list, Bool.true_and, Bool.true_and, Bool.true_and]
        have e2 : (useT kc).data.toList.flatMap (fun u => 32 :: (argX T a b u).data.toList) = (useT kc).data.toList.flatMap (fun u => 32 :: (argX ⟨#[]⟩ a b u).data.toList) := by
          exact flat_same (fun u hu => by
            have := use_noV kc hk1 hk hv u hu
            unfold argX
            rw [if_neg this, if_neg this])
        rw [e2]
        exact beq_swap _ _
      rw [e] at this
      exact this
  · have hz : kc = 0 := by omega
    subst hz
    have hI := fun w (_ : EnvT w) (_ : Forms w) => iopText_out ((0 : Nat) : Int) a b 0 (by omega) w
    have := ireadop_n s hs W R F G f1 f2 h1 h2 hR 0 hk hv hw a b ha3 hb3 ⟨#[]⟩ false hI w hE hF
    simpa [okN] using this
end Go.Proofs.YtjijinjedeinmaaDoor
