/- Traces: what comes ahead of what, clocks, layers. Data alone. -/
import Derived.Test.YtmflbibogkebmaaRnA
namespace Go.Proofs.Ytmflbibogkebmaa
def inR (lo hi x : Int) : Bool := decide (lo ≤ x ∧ x ≤ hi)
/-- a good event -/
def goodEv (e : EvD) : Bool := decide (0 ≤ e.th ∧ e.th ≤ 4 ∧ 1 ≤ e.kd ∧ e.kd ≤ 12 ∧ -1 ≤ e.ob ∧ e.ob ≤ 99 ∧ -1 ≤ e.lk ∧ e.lk ≤ 99 ∧ 0 ≤ e.pc ∧ e.pc ≤ 99 ∧ (e.kd < 2 ∨ 10 < e.kd ∨ 0 ≤ e.ob) ∧ (¬ e.kd = 8 ∧ ¬ e.kd = 9 ∨ 0 ≤ e.lk))
def goodTr (l : List EvD) : Bool := decide (l.length ≤ 200) && l.all goodEv
/-- a comes right ahead of b -/
def rightB (a b : EvD) : Bool := decide (a.th = b.th ∨ (a.kd = 5 ∧ b.kd = 4 ∧ a.ob = b.ob) ∨ (a.kd = 5 ∧ b.kd = 9 ∧ a.ob = b.lk) ∨ (a.kd = 8 ∧ b.kd = 4 ∧ a.lk = b.ob) ∨ (a.kd = 8 ∧ b.kd = 9 ∧ a.lk = b.lk) ∨ (a.kd = 6 ∧ a.ob = b.th) ∨ (a.kd = 11 ∧ b.kd = 7 ∧ b.ob = a.th) ∨ (a.kd = 10 ∧ b.kd = 9 ∧ b.th = a.lk))
def evO : EvD := ⟨0, 0, 0, 0, 0⟩
def evA (l : List EvD) (i : Nat) : EvD := l.getD i evO
def rgt (l : List EvD) (i j : Nat) : Bool := rightB (evA l i) (evA l j)
/-- a way of steps leads from i to j (f: how many at most) -/
def ahF (l : List EvD) (i : Nat) : Nat → Nat → Bool
  | 0, _ => false
  | f + 1, j => (List.range j).any fun m => rgt l m j && (decide (i = m) || ahF l i f m)
def ahB (l : List EvD) (i j : Nat) : Bool := ahF l i j j
theorem ahF_same (l : List EvD) (i : Nat) : ∀ f g j, j ≤ f → j ≤ g → ahF l i f j = ahF l i g j
  | 0, 0, _, _, _ => rfl
  | 0, g + 1, j, h, _ => by
    have : j = 0 := by omega
    subst this; rfl
  | f + 1, 0, j, _, h => by
    have : j = 0 := by omega
    subst this; rfl
  | f + 1, g + 1, j, h, k => by
    unfold ahF
    rw [Bool.eq_iff_iff, List.any_eq_true, List.any_eq_true]
    constructor
    all_goals
      rintro ⟨m, hm, hx⟩
      have hmj := List.mem_range.1 hm
      refine ⟨m, hm, ?_⟩
      have := ahF_same l i f g m (by omega) (by omega)
      first | rw [← this]; exact hx | rw [this]; exact hx
theorem ahB_iff (l : List EvD) (i j : Nat) : ahB l i j = true ↔ ∃ m, m < j ∧ rgt l m j = true ∧ (i = m ∨ ahB l i m = true) := by
  unfold ahB
  cases j with
  | zero => 
    constructor
    · intro h; cases h
    · rintro ⟨m, hm, -⟩; omega
  | succ j =>
    conv => lhs; unfold ahF
    rw [List.any_eq_true]
    constructor
    · rintro ⟨m, hm, hx⟩
      have hmj := List.mem_range.1 hm
      rw [Bool.and_eq_true, Bool.or_eq_true, decide_eq_true_eq, ahF_same l i j m m (by omega) (Nat.le_refl _)] at hx
      exact ⟨m, hmj, hx.1, hx.2⟩
    · rintro ⟨m, hm, h1, h2⟩
      refine ⟨m, List.mem_range.2 hm, ?_⟩
      rw [Bool.and_eq_true, Bool.or_eq_true, decide_eq_true_eq, ahF_same l i j m m (by omega) (Nat.le_refl _)]
      exact ⟨h1, h2⟩
theorem ahB_lt (l : List EvD) (i : Nat) : ∀ j, ahB l i j = true → i < j := by
  intro j
  induction j using Nat.strongRecOn with
  | ind j ih =>
    intro h
    obtain ⟨m, hm, -, rfl | h2⟩ := (ahB_iff l i j).1 h
    · exact hm
    · exact Nat.lt_trans (ih m hm h2) hm
theorem ahB_step {l : List EvD} {i j : Nat} (h : i < j) (hr : rgt l i j = true) : ahB l i j = true := (ahB_iff l i j).2 ⟨i, h, hr, .inl rfl⟩
theorem ahB_on {l : List EvD} {i m j : Nat} (hm : ahB l i m = true) (h : m < j) (hr : rgt l m j = true) : ahB l i j = true := (ahB_iff l i j).2 ⟨m, h, hr, .inr hm⟩
theorem ahB_tra {l : List EvD} {i k : Nat} (h : ahB l i k = true) : ∀ j, ahB l k j = true → ahB l i j = true := by
  intro j
  induction j using Nat.strongRecOn with
  | ind j ih =>
    intro h2
    obtain ⟨m, hm, hr, rfl | h3⟩ := (ahB_iff l k j).1 h2
    · exact ahB_on h hm hr
    · exact ahB_on (ih m hm h3) hm hr
theorem rgt_same {l : List EvD} {i j : Nat} (h : (evA l i).th = (evA l j).th) : rgt l i j = true := by
  unfold rgt rightB
  exact decide_eq_true (.inl h)
/-- i is j, or comes ahead of it -/
def upto (l : List EvD) (j i : Nat) : Bool := decide (i = j) || ahB l i j
theorem upto_iff (l : List EvD) (j i : Nat) : upto l j i = true ↔ i = j ∨ ahB l i j = true := by
  unfold upto; rw [Bool.or_eq_true, decide_eq_true_eq]
theorem upto_le {l : List EvD} {j i : Nat} (h : upto l j i = true) : i ≤ j := by
  rcases (upto_iff l j i).1 h with rfl | h
  · exact Nat.le_refl _
  · exact Nat.le_of_lt (ahB_lt l i j h)
/-- how many of thread t's events below n are counted by p -/
def cnt (l : List EvD) (t : Int) (p : Nat → Bool) (n : Nat) : Nat := (List.range n).countP fun i => decide ((evA l i).th = t) && p i
/-- the clock of place j, for thread t -/
def clk (l : List EvD) (j : Nat) (t : Int) : Nat := cnt l t (upto l j) (j + 1)
theorem cnt_succ (l : List EvD) (t : Int) (p : Nat → Bool) (n : Nat) : cnt l t p (n + 1) = cnt l t p n + (if (evA l n).th = t ∧ p n = true then 1 else 0) := by
  unfold cnt
  rw [List.range_succ, List.countP_append]
  congr 1
  simp [List.countP_cons]
theorem cnt_more (l : List EvD) (t : Int) (p : Nat → Bool) (n : Nat) : ∀ m, n ≤ m → (∀ i, n ≤ i → i < m → (evA l i).th = t → p i = false) → cnt l t p m = cnt l t p n
  | 0, h, _ => by have : n = 0 := by omega
                  rw [this]
  | m + 1, h, hp => by
    by_cases e : n = m + 1
    · rw [e]
    · rw [cnt_succ, cnt_more l t p n m (by omega) (fun i h1 h2 => hp i h1 (by omega)), if_neg]
      · rfl
      · rintro ⟨h1, h2⟩
        rw [hp m (by omega) (by omega) h1] at h2
        cases h2
theorem cnt_le (l : List EvD) (t : Int) (p q : Nat → Bool) (n m : Nat) (hm : n ≤ m) (h : ∀ i, i < n → (evA l i).th = t → p i = true → q i = true) : cnt l t p n ≤ cnt l t q m := by
  have h1 : cnt l t p n ≤ cnt l t q n := by
    induction n with
    | zero => simp [cnt]
    | succ n ih =>
      rw [cnt_succ, cnt_succ]
      have := ih (by omega) (fun i h1 => h i (by omega))
      have h3 := h n (by omega)
      split
      · rename_i h4
        rw [if_pos ⟨h4.1, h3 h4.1 h4.2⟩]; omega
      · omega
  have h2 : ∀ m, n ≤ m → cnt l t q n ≤ cnt l t q m := by
    intro m hm
    induction m with
    | zero => have : n = 0 := by omega
              rw [this]; exact Nat.le_refl _
    | succ m ih =>
      by_cases e : n = m + 1
      · rw [e]; exact Nat.le_refl _
      · rw [cnt_succ]; have := ih (by omega); omega
  exact Nat.le_trans h1 (h2 m hm)
theorem cnt_le_n (l : List EvD) (t : Int) (p : Nat → Bool) (n : Nat) : cnt l t p n ≤ n := by
  induction n with
  | zero => simp [cnt]
  | succ n ih => rw [cnt_succ]; split <;> omega
theorem clk_mono {l : List EvD} {i j : Nat} (t : Int) (h : ahB l i j = true) : clk l i t ≤ clk l j t := by
  have hlt := ahB_lt l i j h
  unfold clk
  refine cnt_le l t _ _ _ _ (by omega) fun k _ _ hk => ?_
  rw [upto_iff] at hk ⊢
  rcases hk with rfl | hk
  · exact .inr h
  · exact .inr (ahB_tra hk j h)
theorem cnt_cong (l : List EvD) (t : Int) (p q : Nat → Bool) (n : Nat) (h : ∀ i, i < n → (evA l i).th = t → p i = q i) : cnt l t p n = cnt l t q n :=
  Nat.le_antisymm (cnt_le l t p q n n (Nat.le_refl _) fun i hi ht hp => by rw [← h i hi ht]; exact hp) (cnt_le l t q p n n (Nat.le_refl _) fun i hi ht hp => by rw [h i hi ht]; exact hp)
/-- Of one thread what comes ahead of a place are the first ones. -/
theorem ahB_first {l : List EvD} {i k j : Nat} (hik : i ≤ k) (ht : (evA l i).th = (evA l k).th) (h : upto l j k = true) : upto l j i = true := by
  by_cases e : i = k
  · rw [e]; exact h
  · have h1 := ahB_step (l := l) (i := i) (j := k) (by omega) (rgt_same ht)
    rw [upto_iff] at h ⊢
    rcases h with rfl | h
    · exact .inr h1
    · exact .inr (ahB_tra h1 j h)
/-- what place j has counted of what comes ahead of it alone -/
def clk0 (l : List EvD) (j : Nat) (t : Int) : Nat := cnt l t (fun i => ahB l i j) j
theorem clk_eq (l : List EvD) (j : Nat) (t : Int) : clk l j t = clk0 l j t + (if (evA l j).th = t then 1 else 0) := by
  unfold clk clk0
  rw [cnt_succ, cnt_cong l t (upto l j) (fun i => ahB l i j) j]
  · congr 1
    have : upto l j j = true := (upto_iff l j j).2 (.inl rfl)
    simp [this]
  · intro i hi _
    unfold upto
    rw [decide_eq_false (by omega), Bool.false_or]
theorem clk0_ge {l : List EvD} {i j : Nat} (t : Int) (hij : i < j) (h : rgt l i j = true) : clk l i t ≤ clk0 l j t := by
  unfold clk clk0
  refine cnt_le l t _ _ _ _ (by omega) fun k _ _ hk => ?_
  rcases (upto_iff l i k).1 hk with rfl | hk
  · exact ahB_step hij h
  · exact ahB_on hk hij h
theorem cnt_pos {l : List EvD} {t : Int} {p : Nat → Bool} : ∀ {n : Nat}, 0 < cnt l t p n → ∃ i, i < n ∧ (evA l i).th = t ∧ p i = true ∧ ∀ k, i < k → k < n → (evA l k).th = t → p k = false
  | 0, h => by simp [cnt] at h
  | n + 1, h => by
    by_cases e : (evA l n).th = t ∧ p n = true
    · exact ⟨n, by omega, e.1, e.2, fun k h1 h2 => by omega⟩
    · rw [cnt_succ, if_neg e] at h
      obtain ⟨i, h1, h2, h3, h4⟩ := cnt_pos (n := n) (by omega)
      refine ⟨i, by omega, h2, h3, fun k k1 k2 k3 => ?_⟩
      by_cases ek : k = n
      · subst ek
        cases hp : p k with
        | false => rfl
        | true => exact absurd ⟨k3, hp⟩ e
      · exact h4 k k1 (by omega) k3
/-- The greatest clock right ahead is what is counted. -/
theorem clk0_max {l : List EvD} {j : Nat} {t : Int} (h : 0 < clk0 l j t) : ∃ m, m < j ∧ rgt l m j = true ∧ clk l m t = clk0 l j t := by
  obtain ⟨k, hk, ht, ha, hno⟩ := cnt_pos h
  obtain ⟨m, hm, hr, hkm⟩ := (ahB_iff l k j).1 ha
  refine ⟨m, hm, hr, ?_⟩
  refine Nat.le_antisymm (clk0_ge t hm hr) ?_
  unfold clk0 clk
  rw [cnt_more l t (fun i => ahB l i j) (k + 1) j (by omega) (fun i h1 h2 h3 => hno i (by omega) h2 h3)]
  have hku : upto l m k = true := (upto_iff l m k).2 (hkm.imp id id)
  refine cnt_le l t _ _ _ _ (by have := upto_le hku; omega) fun i hi h1 _ => ahB_first (by omega) (by rw [h1, ht]) hku
theorem clk_self_lt {l : List EvD} {i j : Nat} (h : ahB l i j = true) : clk l i (evA l j).th < clk l j (evA l j).th := by
  have hlt := ahB_lt l i j h
  rw [clk_eq l j, if_pos rfl]
  have : clk l i (evA l j).th ≤ clk0 l j (evA l j).th := by
    unfold clk clk0
    refine cnt_le l _ _ _ _ _ (by omega) fun k _ _ hk => ?_
    rcases (upto_iff l i k).1 hk with rfl | hk
    · exact h
    · exact ahB_tra hk j h
  omega
theorem clk_not_le {l : List EvD} {i j : Nat} (hij : i < j) (h : ahB l i j = false) : clk l j (evA l i).th < clk l i (evA l i).th := by
  have hth : (evA l j).th ≠ (evA l i).th := by
    intro e
    rw [ahB_step hij (rgt_same e.symm)] at h
    cases h
  have hno : ∀ k, i ≤ k → k < j + 1 → (evA l k).th = (evA l i).th → upto l j k = false := by
    intro k h1 h2 h3
    cases hu : upto l j k with
    | false => rfl
    | true =>
      have := ahB_first h1 h3.symm hu
      rcases (upto_iff l j i).1 this with rfl | h4
      · omega
      · rw [h4] at h; cases h
  unfold clk
  rw [cnt_more l _ (upto l j) i (j + 1) (by omega) hno, cnt_succ, if_pos ⟨rfl, (upto_iff l i i).2 (.inl rfl)⟩]
  have : cnt l (evA l i).th (upto l j) i ≤ cnt l (evA l i).th (upto l i) i := by
    refine cnt_le l _ _ _ _ _ (Nat.le_refl _) fun k hk ht _ => ?_
    exact ahB_first (by omega) ht ((upto_iff l i i).2 (.inl rfl))
  omega
/-- the clock as five numbers -/
def clock (l : List EvD) (j : Nat) : List Int := (List.range 5).map fun (t : Nat) => (clk l j (t : Int) : Int)
theorem clock_get (l : List EvD) (j t : Nat) (h : t < 5) : (clock l j)[t]? = some (clk l j (t : Int) : Int) := by
  unfold clock
  rw [List.getElem?_map, List.getElem?_range h]; rfl
theorem clock_len (l : List EvD) (j : Nat) : (clock l j).length = 5 := by simp [clock]

/- layers -/
/-- the greatest of f's numbers, one more, over those below n that p names; 0 where there is none -/
def topF (p : Nat → Bool) (f : Nat → Nat) : Nat → Nat
  | 0 => 0
  | n + 1 => if p n = true then max (topF p f n) (f n + 1) else topF p f n
theorem topF_ge {p : Nat → Bool} {f : Nat → Nat} : ∀ {n i : Nat}, i < n → p i = true → f i + 1 ≤ topF p f n
  | 0, i, h, _ => by omega
  | n + 1, i, h, hp => by
    unfold topF
    by_cases e : i = n
    · subst e
      rw [if_pos hp]; exact Nat.le_max_right _ _
    · have := topF_ge (f := f) (n := n) (i := i) (by omega) hp
      split
      · exact Nat.le_trans this (Nat.le_max_left _ _)
      · exact this
theorem topF_le {p : Nat → Bool} {f : Nat → Nat} {b : Nat} : ∀ {n : Nat}, (∀ i, i < n → p i = true → f i + 1 ≤ b) → topF p f n ≤ b
  | 0, _ => Nat.zero_le _
  | n + 1, h => by
    unfold topF
    have := topF_le (p := p) (f := f) (b := b) (n := n) (fun i hi => h i (by omega))
    split
    · rename_i hp
      exact Nat.max_le.2 ⟨this, h n (by omega) hp⟩
    · exact this
theorem topF_cong {p : Nat → Bool} {f g : Nat → Nat} : ∀ {n : Nat}, (∀ i, i < n → f i = g i) → topF p f n = topF p g n
  | 0, _ => rfl
  | n + 1, h => by
    unfold topF
    rw [topF_cong (n := n) fun i hi => h i (by omega), h n (by omega)]
theorem topF_one {p : Nat → Bool} {f : Nat → Nat} : ∀ {n k : Nat}, topF p f n = k + 1 → ∃ i, i < n ∧ p i = true ∧ f i = k
  | 0, k, h => by cases h
  | n + 1, k, h => by
    unfold topF at h
    by_cases e : p n = true
    · rw [if_pos e] at h
      by_cases e2 : f n + 1 = k + 1
      · exact ⟨n, by omega, e, by omega⟩
      · have : topF p f n = k + 1 := by
          have h3 : max (topF p f n) (f n + 1) = _ := Nat.max_def
          rw [h] at h3
          split at h3 <;> omega
        obtain ⟨i, h1, h2, h3⟩ := topF_one this
        exact ⟨i, by omega, h2, h3⟩
    · rw [if_neg e] at h
      obtain ⟨i, h1, h2, h3⟩ := topF_one h
      exact ⟨i, by omega, h2, h3⟩
/-- the layer of place j: f steps of fuel -/
def layF (p : Nat → Nat → Bool) : Nat → Nat → Nat
  | 0, _ => 0
  | f + 1, j => topF (fun i => p i j) (layF p f) j
theorem layF_same (p : Nat → Nat → Bool) : ∀ f g j, j ≤ f → j ≤ g → layF p f j = layF p g j
  | 0, 0, _, _, _ => rfl
  | 0, g + 1, j, h, _ => by
    have : j = 0 := by omega
    subst this; rfl
  | f + 1, 0, j, _, h => by
    have : j = 0 := by omega
    subst this; rfl
  | f + 1, g + 1, j, h, k => by
    unfold layF
    exact topF_cong fun i hi => layF_same p f g i (by omega) (by omega)
def lay (p : Nat → Nat → Bool) (j : Nat) : Nat := layF p j j
theorem lay_eq (p : Nat → Nat → Bool) (j : Nat) : lay p j = topF (fun i => p i j) (lay p) j := by
  unfold lay
  cases j with
  | zero => rfl
  | succ j =>
    conv => lhs; unfold layF
    exact topF_cong fun i hi => layF_same p j i i (by omega) (Nat.le_refl _)
def lyr (l : List EvD) (j : Nat) : Nat := lay (rgt l) j
theorem lyr_ah {l : List EvD} {i : Nat} : ∀ {j : Nat}, ahB l i j = true → lyr l i + 1 ≤ lyr l j := by
  intro j
  induction j using Nat.strongRecOn with
  | ind j ih =>
    intro h
    obtain ⟨m, hm, hr, h2⟩ := (ahB_iff l i j).1 h
    have h3 : lyr l m + 1 ≤ lyr l j := by
      unfold lyr
      rw [lay_eq (rgt l) j]
      exact topF_ge (p := fun i => rgt l i j) hm hr
    rcases h2 with rfl | h2
    · exact h3
    · have := ih m hm h2; omega
/-- Both ways to go through what is ahead tell one layer. -/
theorem lyr_all (l : List EvD) : ∀ j, lay (ahB l) j = lyr l j := by
  intro j
  induction j using Nat.strongRecOn with
  | ind j ih =>
    rw [lay_eq (ahB l) j]
    apply Nat.le_antisymm
    · refine topF_le fun i hi hp => ?_
      rw [ih i hi]
      exact lyr_ah hp
    · show lay (rgt l) j ≤ _
      rw [lay_eq (rgt l) j]
      refine topF_le fun i hi hp => ?_
      have h2 : ahB l i j = true := ahB_step hi hp
      have := topF_ge (p := fun i => ahB l i j) (f := lay (ahB l)) hi h2
      rw [ih i hi] at this
      exact this
theorem goodev_no {e : EvD} (h : ¬ (0 ≤ e.th ∧ e.th ≤ 4 ∧ 1 ≤ e.kd ∧ e.kd ≤ 12 ∧ -1 ≤ e.ob ∧ e.ob ≤ 99 ∧ -1 ≤ e.lk ∧ e.lk ≤ 99 ∧ 0 ≤ e.pc ∧ e.pc ≤ 99 ∧ (e.kd < 2 ∨ 10 < e.kd ∨ 0 ≤ e.ob) ∧ (¬ e.kd = 8 ∧ ¬ e.kd = 9 ∨ 0 ≤ e.lk))) : goodEv e = false := decide_eq_false h
theorem goodev_yes {e : EvD} (h : (0 ≤ e.th ∧ e.th ≤ 4 ∧ 1 ≤ e.kd ∧ e.kd ≤ 12 ∧ -1 ≤ e.ob ∧ e.ob ≤ 99 ∧ -1 ≤ e.lk ∧ e.lk ≤ 99 ∧ 0 ≤ e.pc ∧ e.pc ≤ 99 ∧ (e.kd < 2 ∨ 10 < e.kd ∨ 0 ≤ e.ob) ∧ (¬ e.kd = 8 ∧ ¬ e.kd = 9 ∨ 0 ≤ e.lk))) : goodEv e = true := decide_eq_true h
theorem goodev_all {e : EvD} (h : goodEv e = true) : (0 ≤ e.th ∧ e.th ≤ 4 ∧ 1 ≤ e.kd ∧ e.kd ≤ 12 ∧ -1 ≤ e.ob ∧ e.ob ≤ 99 ∧ -1 ≤ e.lk ∧ e.lk ≤ 99 ∧ 0 ≤ e.pc ∧ e.pc ≤ 99 ∧ (e.kd < 2 ∨ 10 < e.kd ∨ 0 ≤ e.ob) ∧ (¬ e.kd = 8 ∧ ¬ e.kd = 9 ∨ 0 ≤ e.lk)) := of_decide_eq_true h

end Go.Proofs.Ytmflbibogkebmaa
