/- The keys of a map, rising. The keys of a great map, rising. -/
import Derived.Test.YtmflbibogkebmaaVn
import Derived.Test.YtmflbibogkebmaaRi
namespace Go.Proofs.Ytmflbibogkebmaa
open Go.RowKit Go.Maps
open Rd Fl

/-- what is asked of the library's sort -/
def SortSays : Prop := ∀ (l : List Int) (B g cap : Nat) (_ : l.length ≤ 1000) (w : World) (_ : w.ownsRow B 3 1 (.slice (some ⟨g, 0, none⟩) l.length cap) l.length (l.map iv)),
    Calls Try.prog 71 #[.slice (some ⟨g, 0, none⟩) l.length cap] w fun en w' => en = .returned (.tuple #[]) ∧ w'.ownsRow B 3 1 (.slice (some ⟨g, 0, none⟩) l.length cap) l.length ((l.mergeSort fun x y => decide (x ≤ y)).map iv) ∧ w.grownBy w' (some g)
def SortNil : Prop := ∀ (w : World), Calls Try.prog 71 #[.slice none 0 0] w fun en w' => en = .returned (.tuple #[]) ∧ Below w.heap.size w w'
theorem sort_rises {l : List Int} (h : l.Nodup) : (l.mergeSort fun x y => decide (x ≤ y)).Pairwise (· < ·) := by
  have hp := List.mergeSort_perm l (fun x y => decide (x ≤ y))
  have hs := List.pairwise_mergeSort (le := fun x y : Int => decide (x ≤ y)) (fun a b c h1 h2 => by simp at *; omega) (fun a b => by simp; omega) l
  have hn := List.nodup_iff_pairwise_ne.1 (hp.nodup_iff.2 h)
  exact (hs.and hn).imp fun {a b} h => by have := h.1; have := h.2; simp at *; omega
theorem intInfo : ∃ i, Try.prog.info? 3 = some i ∧ i.zero = some (.int .i64 0) ∧ i.size = 1 ∧ i.bytes = 8 := info_parts (by kernel_rfl : (Try.prog.info? 3).map (fun i => (i.zero, i.size, i.bytes)) = some (some (.int .i64 0), 1, 8))
theorem under3 : Try.prog.underlying 3 = some (.int .i64) := by kernel_rfl

set_option maxRecDepth 20000 in
set_option maxHeartbeats 4000000 in
theorem rkeysi_any (hsort : SortSays) (hnil : SortNil) (b n : Nat) (f : Int → Option Value) (hn : n ≤ 1000) (w : World) (hm : MapV w b n f) :
    Calls Try.prog 60 #[.map (some b)] w fun e w' => (∃ v l, e = .returned v ∧ l.length ≤ n ∧ l.Pairwise (· < ·) ∧ KeysAre f l ∧ (∀ x ∈ l, wfI x) ∧ w'.ownsRow w.heap.size 3 1 v l.length (l.map iv)) ∧ Below w.heap.size w w' := by
  obtain ⟨D, hown, hf⟩ := hm
  obtain ⟨i0, hi, hz0, hz1, hz2⟩ := intInfo
  have hbl := hown.lt
  have hsz := hown.size_le
  have HF := hide' hf
  have HS := hide' hsort
  have HN := hide' hnil
  clear hf hsort hnil
  go_enter Try.func60, Try.ntmps60
  go_wp2_with (first
    | (at_range; refine wpList_range_own _ rfl _ 72 rfl 3 3 intKey Try.underlying72 _ b n _ rfl hown ?_; intro w0 hrg0 hg0 hs0)
    | go_in)
  go_frame
  go_loopw [3] (fun v wr => ∃ (left : Lit → Bool) (cnt : Nat) (ks : List Int), wr.ranges Try.prog 3 VR b w.heap.size n D left cnt ∧ ks.length + cnt ≤ n ∧
      wr.ownsRow (w.heap.size + 1) 3 1 v ks.length (ks.map iv) ∧ Hid (Coll D left ks) ∧ Below w.heap.size w wr ∧ w.heap.size + 1 ≤ wr.heap.size)
    (fun _ wr => wr.rangeLeft b w.heap.size)
  case atStart =>
    exact ⟨_, _, [], hrg0, by simpa using hsz, World.ownsRow_nil _ _ _ _, Coll.start D, (Below.refl _ _).grown hg0 (Nat.le_refl _) (fun j hj => by cases hj), by omega⟩
  case round =>
    clear hrg0 hg0 hs0
    obtain ⟨left, cnt, ks, hrg, hcs, hrow, hC, hnx, hz⟩ := hrel
    go_wp2_with (first
      | (at_next; refine wpList_next_ranges _ rfl _ rfl 3 intKey VR (Value.int .i64) (fun v : Value => v) (fun key kl hk => by obtain ⟨x, hx, _⟩ := Maps.keyOf_int_inv under3 hk; exact ⟨x, hx⟩) (fun v y _ => ⟨v, rfl⟩) b w.heap.size n _ _ _ rfl hrg ?_ ?_)
      | go_in)
    · intro hc0 hl0
      have HK := hide' (show KeysAre f (ks.mergeSort fun x y => decide (x ≤ y)) from fun x hx => by rw [List.mem_mergeSort, hC.out.all hl0 HF.out hx])
      have HW := hide' (show ∀ x ∈ (ks.mergeSort fun x y => decide (x ≤ y)), wfI x from fun x hx => hC.out.w x (List.mem_mergeSort.1 hx))
      have HP := hide' (sort_rises hC.out.n)
      have HL := hide' (show (ks.mergeSort fun x y => decide (x ≤ y)).length ≤ n by rw [List.length_mergeSort]; omega)
      rcases hrow.2 with ⟨rfl, h0⟩ | ⟨g, cap, cur, rfl, hbase, hb, h1, h2, h3, h4⟩
      · have e0 : ks = [] := List.length_eq_zero_iff.1 h0
        subst e0
        clear hrow
        go_wp2_with (go_at_call 71; refine (HN.out _).mono ?_; rintro e w1 ⟨rfl, hb1⟩)
        go_ret
        exact ⟨⟨_, [], rfl, Nat.zero_le _, List.Pairwise.nil, (by have := HK.out; rwa [List.mergeSort_nil] at this), (fun x hx => by cases hx), World.ownsRow_nil _ _ _ _⟩, hnx.trans (hb1.mono hnx.size)⟩
      · have HO := hide' (HS.out ks _ g cap (by omega) wr hrow)
        clear h1 h2 h3 h4 hb hrow
        go_wp2_with (go_at_call 71; refine HO.out.mono ?_; rintro e w1 ⟨rfl, ho1, hg1⟩)
        go_ret
        exact ⟨⟨_, _, rfl, HL.out, HP.out, HK.out, HW.out, by rw [List.length_mergeSort]; exact own_less ho1 (Nat.le_succ _)⟩, hnx.grown hg1 hnx.size (fun j hj => by cases hj; omega)⟩
    · intro x c kl yd yp w2 cnt2 hkey hlk hv hat hrg2 hlt hg2 hs2 hen
      obtain ⟨x', ex, rfl, hwx⟩ := Maps.keyOf_int_inv under3 hkey
      obtain rfl : x = x' := by simpa using ex
      have HC2 := hide' (hC.out.step hwx hlk hat)
      have hrow2 := hrow.kept hg2 (by
        cases hob : u3.ownBlock with
        | none => exact Or.inl rfl
        | some g => exact Or.inr (fun e => by have := own_base' hrow g hob; have := Option.some.inj e; omega))
      have hlen : ks.length + 1 ≤ 1000 := by omega
      clear hs2
      go_wp2_with (first
        | (at_builtin; refine wpList_append_own _ rfl _ _ 24 rfl (w.heap.size + 1) 3 i0 (.int .i64 0) 1 8 Try.underlying24 hi hz0 hz1 hz2 rfl (by decide) _ _ _ rfl (hrow2.alloc _) ⟨w2.heap.size, 0, none⟩ 1 1 [iv x] rfl rfl (cell_one_new _ _ _) (by intro u hu; simp at hu; subst hu; rfl) (by unfold maxLen; omega) (by omega) (by have := hnx.size; have := hg2.size; simp; omega) ?_; intro v' w3 hown' hg3 hnil3; go_frame)
        | go_in)
      have hb2 := own_base' hrow2
      have hrg3 := (hrg2.alloc _).kept hg3 (fun e => by have := hb2 b e.symm; omega) (fun e => by have := hb2 _ e.symm; omega)
      go_roundw
      case rel =>
        refine ⟨_, cnt2, ks ++ [x], hrg3, by simp; omega, by simpa using hown', HC2.out, ?_, ?_⟩
        · exact ((hnx.grown hg2 hnx.size (fun j hj => by cases hj; exact Nat.le_refl _)).alloc (by have := hnx.size; have := hg2.size; omega) _).grown hg3 (by have := hnx.size; have := hg2.size; simp; omega) (fun j hj => by have := hb2 j hj; omega)
        · have := hg2.size; have := hg3.size; simp at *; omega
      case measure => rw [hrg3.left_eq, hrg.left_eq]; exact hlt

set_option maxRecDepth 20000 in
set_option maxHeartbeats 4000000 in
theorem rkeysl_any (hsort : SortSays) (hnil : SortNil) (b n : Nat) (f : Int → Option Value) (hn : n ≤ 1000) (w : World) (hm : MapV w b n f) :
    Calls Try.prog 48 #[.map (some b)] w fun e w' => (∃ v l, e = .returned v ∧ l.length ≤ n ∧ l.Pairwise (· < ·) ∧ KeysAre f l ∧ (∀ x ∈ l, wfI x) ∧ w'.ownsRow w.heap.size 3 1 v l.length (l.map iv)) ∧ Below w.heap.size w w' := by
  obtain ⟨D, hown, hf⟩ := hm
  obtain ⟨i0, hi, hz0, hz1, hz2⟩ := intInfo
  have hbl := hown.lt
  have hsz := hown.size_le
  have HF := hide' hf
  have HS := hide' hsort
  have HN := hide' hnil
  clear hf hsort hnil
  go_enter Try.func48, Try.ntmps48
  go_wp2_with (first
    | (at_range; refine wpList_range_own _ rfl _ 57 rfl 3 24 intKey Try.underlying57 _ b n _ rfl hown ?_; intro w0 hrg0 hg0 hs0)
    | go_in)
  go_frame
  go_loopw [3] (fun v wr => ∃ (left : Lit → Bool) (cnt : Nat) (ks : List Int), wr.ranges Try.prog 3 VR b w.heap.size n D left cnt ∧ ks.length + cnt ≤ n ∧
      wr.ownsRow (w.heap.size + 1) 3 1 v ks.length (ks.map iv) ∧ Hid (Coll D left ks) ∧ Below w.heap.size w wr ∧ w.heap.size + 1 ≤ wr.heap.size)
    (fun _ wr => wr.rangeLeft b w.heap.size)
  case atStart =>
    exact ⟨_, _, [], hrg0, by simpa using hsz, World.ownsRow_nil _ _ _ _, Coll.start D, (Below.refl _ _).grown hg0 (Nat.le_refl _) (fun j hj => by cases hj), by omega⟩
  case round =>
    clear hrg0 hg0 hs0
    obtain ⟨left, cnt, ks, hrg, hcs, hrow, hC, hnx, hz⟩ := hrel
    go_wp2_with (first
      | (at_next; refine wpList_next_ranges _ rfl _ rfl 3 intKey VR (Value.int .i64) (fun v : Value => v) (fun key kl hk => by obtain ⟨x, hx, _⟩ := Maps.keyOf_int_inv under3 hk; exact ⟨x, hx⟩) (fun v y _ => ⟨v, rfl⟩) b w.heap.size n _ _ _ rfl hrg ?_ ?_)
      | go_in)
    · intro hc0 hl0
      have HK := hide' (show KeysAre f (ks.mergeSort fun x y => decide (x ≤ y)) from fun x hx => by rw [List.mem_mergeSort, hC.out.all hl0 HF.out hx])
      have HW := hide' (show ∀ x ∈ (ks.mergeSort fun x y => decide (x ≤ y)), wfI x from fun x hx => hC.out.w x (List.mem_mergeSort.1 hx))
      have HP := hide' (sort_rises hC.out.n)
      have HL := hide' (show (ks.mergeSort fun x y => decide (x ≤ y)).length ≤ n by rw [List.length_mergeSort]; omega)
      rcases hrow.2 with ⟨rfl, h0⟩ | ⟨g, cap, cur, rfl, hbase, hb, h1, h2, h3, h4⟩
      · have e0 : ks = [] := List.length_eq_zero_iff.1 h0
        subst e0
        clear hrow
        go_wp2_with (go_at_call 71; refine (HN.out _).mono ?_; rintro e w1 ⟨rfl, hb1⟩)
        go_ret
        exact ⟨⟨_, [], rfl, Nat.zero_le _, List.Pairwise.nil, (by have := HK.out; rwa [List.mergeSort_nil] at this), (fun x hx => by cases hx), World.ownsRow_nil _ _ _ _⟩, hnx.trans (hb1.mono hnx.size)⟩
      · have HO := hide' (HS.out ks _ g cap (by omega) wr hrow)
        clear h1 h2 h3 h4 hb hrow
        go_wp2_with (go_at_call 71; refine HO.out.mono ?_; rintro e w1 ⟨rfl, ho1, hg1⟩)
        go_ret
        exact ⟨⟨_, _, rfl, HL.out, HP.out, HK.out, HW.out, by rw [List.length_mergeSort]; exact own_less ho1 (Nat.le_succ _)⟩, hnx.grown hg1 hnx.size (fun j hj => by cases hj; omega)⟩
    · intro x c kl yd yp w2 cnt2 hkey hlk hv hat hrg2 hlt hg2 hs2 hen
      obtain ⟨x', ex, rfl, hwx⟩ := Maps.keyOf_int_inv under3 hkey
      obtain rfl : x = x' := by simpa using ex
      have HC2 := hide' (hC.out.step hwx hlk hat)
      have hrow2 := hrow.kept hg2 (by
        cases hob : u3.ownBlock with
        | none => exact Or.inl rfl
        | some g => exact Or.inr (fun e => by have := own_base' hrow g hob; have := Option.some.inj e; omega))
      have hlen : ks.length + 1 ≤ 1000 := by omega
      clear hs2
      go_wp2_with (first
        | (at_builtin; refine wpList_append_own _ rfl _ _ 24 rfl (w.heap.size + 1) 3 i0 (.int .i64 0) 1 8 Try.underlying24 hi hz0 hz1 hz2 rfl (by decide) _ _ _ rfl (hrow2.alloc _) ⟨w2.heap.size, 0, none⟩ 1 1 [iv x] rfl rfl (cell_one_new _ _ _) (by intro u hu; simp at hu; subst hu; rfl) (by unfold maxLen; omega) (by omega) (by have := hnx.size; have := hg2.size; simp; omega) ?_; intro v' w3 hown' hg3 hnil3; go_frame)
        | go_in)
      have hb2 := own_base' hrow2
      have hrg3 := (hrg2.alloc _).kept hg3 (fun e => by have := hb2 b e.symm; omega) (fun e => by have := hb2 _ e.symm; omega)
      go_roundw
      case rel =>
        refine ⟨_, cnt2, ks ++ [x], hrg3, by simp; omega, by simpa using hown', HC2.out, ?_, ?_⟩
        · exact ((hnx.grown hg2 hnx.size (fun j hj => by cases hj; exact Nat.le_refl _)).alloc (by have := hnx.size; have := hg2.size; omega) _).grown hg3 (by have := hnx.size; have := hg2.size; simp; omega) (fun j hj => by have := hb2 j hj; omega)
        · have := hg2.size; have := hg3.size; simp at *; omega
      case measure => rw [hrg3.left_eq, hrg.left_eq]; exact hlt
end Go.Proofs.Ytmflbibogkebmaa
namespace Go.Proofs.Ytmflbibogkebmaa
open Go.RowKit Go.Maps
open Rd Fl

/-- what is asked of the library's sort -/
def SortMany : Prop := ∀ (l : List Int) (B g cap : Nat) (_ : l.length ≤ 50000) (w : World) (_ : w.ownsRow B 3 1 (.slice (some ⟨g, 0, none⟩) l.length cap) l.length (l.map iv)),
    Calls Try.prog 71 #[.slice (some ⟨g, 0, none⟩) l.length cap] w fun en w' => en = .returned (.tuple #[]) ∧ w'.ownsRow B 3 1 (.slice (some ⟨g, 0, none⟩) l.length cap) l.length ((l.mergeSort fun x y => decide (x ≤ y)).map iv) ∧ w.grownBy w' (some g)

set_option maxRecDepth 20000 in
set_option maxHeartbeats 4000000 in
theorem rkeysx_any (hsort : SortMany) (hnil : SortNil) (b n : Nat) (f : Int → Option Value) (hn : n ≤ 50000) (w : World) (hm : MapV w b n f) :
    Calls Try.prog 60 #[.map (some b)] w fun e w' => (∃ v l, e = .returned v ∧ l.length ≤ n ∧ l.Pairwise (· < ·) ∧ KeysAre f l ∧ (∀ x ∈ l, wfI x) ∧ w'.ownsRow w.heap.size 3 1 v l.length (l.map iv)) ∧ Below w.heap.size w w' := by
  obtain ⟨D, hown, hf⟩ := hm
  obtain ⟨i0, hi, hz0, hz1, hz2⟩ := intInfo
  have hbl := hown.lt
  have hsz := hown.size_le
  have HF := hide' hf
  have HS := hide' hsort
  have HN := hide' hnil
  clear hf hsort hnil
  go_enter Try.func60, Try.ntmps60
  go_wp2_with (first
    | (at_range; refine wpList_range_own _ rfl _ 72 rfl 3 3 intKey Try.underlying72 _ b n _ rfl hown ?_; intro w0 hrg0 hg0 hs0)
    | go_in)
  go_frame
  go_loopw [3] (fun v wr => ∃ (left : Lit → Bool) (cnt : Nat) (ks : List Int), wr.ranges Try.prog 3 VR b w.heap.size n D left cnt ∧ ks.length + cnt ≤ n ∧
      wr.ownsRow (w.heap.size + 1) 3 1 v ks.length (ks.map iv) ∧ Hid (Coll D left ks) ∧ Below w.heap.size w wr ∧ w.heap.size + 1 ≤ wr.heap.size)
    (fun _ wr => wr.rangeLeft b w.heap.size)
  case atStart =>
    exact ⟨_, _, [], hrg0, by simpa using hsz, World.ownsRow_nil _ _ _ _, Coll.start D, (Below.refl _ _).grown hg0 (Nat.le_refl _) (fun j hj => by cases hj), by omega⟩
  case round =>
    clear hrg0 hg0 hs0
    obtain ⟨left, cnt, ks, hrg, hcs, hrow, hC, hnx, hz⟩ := hrel
    go_wp2_with (first
      | (at_next; refine wpList_next_ranges _ rfl _ rfl 3 intKey VR (Value.int .i64) (fun v : Value => v) (fun key kl hk => by obtain ⟨x, hx, _⟩ := Maps.keyOf_int_inv under3 hk; exact ⟨x, hx⟩) (fun v y _ => ⟨v, rfl⟩) b w.heap.size n _ _ _ rfl hrg ?_ ?_)
      | go_in)
    · intro hc0 hl0
      have HK := hide' (show KeysAre f (ks.mergeSort fun x y => decide (x ≤ y)) from fun x hx => by rw [List.mem_mergeSort, hC.out.all hl0 HF.out hx])
      have HW := hide' (show ∀ x ∈ (ks.mergeSort fun x y => decide (x ≤ y)), wfI x from fun x hx => hC.out.w x (List.mem_mergeSort.1 hx))
      have HP := hide' (sort_rises hC.out.n)
      have HL := hide' (show (ks.mergeSort fun x y => decide (x ≤ y)).length ≤ n by rw [List.length_mergeSort]; omega)
      rcases hrow.2 with ⟨rfl, h0⟩ | ⟨g, cap, cur, rfl, hbase, hb, h1, h2, h3, h4⟩
      · have e0 : ks = [] := List.length_eq_zero_iff.1 h0
        subst e0
        clear hrow
        go_wp2_with (go_at_call 71; refine (HN.out _).mono ?_; rintro e w1 ⟨rfl, hb1⟩)
        go_ret
        exact ⟨⟨_, [], rfl, Nat.zero_le _, List.Pairwise.nil, (by have := HK.out; rwa [List.mergeSort_nil] at this), (fun x hx => by cases hx), World.ownsRow_nil _ _ _ _⟩, hnx.trans (hb1.mono hnx.size)⟩
      · have HO := hide' (HS.out ks _ g cap (by omega) wr hrow)
        clear h1 h2 h3 h4 hb hrow
        go_wp2_with (go_at_call 71; refine HO.out.mono ?_; rintro e w1 ⟨rfl, ho1, hg1⟩)
        go_ret
        exact ⟨⟨_, _, rfl, HL.out, HP.out, HK.out, HW.out, by rw [List.length_mergeSort]; exact own_less ho1 (Nat.le_succ _)⟩, hnx.grown hg1 hnx.size (fun j hj => by cases hj; omega)⟩
    · intro x c kl yd yp w2 cnt2 hkey hlk hv hat hrg2 hlt hg2 hs2 hen
      obtain ⟨x', ex, rfl, hwx⟩ := Maps.keyOf_int_inv under3 hkey
      obtain rfl : x = x' := by simpa using ex
      have HC2 := hide' (hC.out.step hwx hlk hat)
      have hrow2 := hrow.kept hg2 (by
        cases hob : u3.ownBlock with
        | none => exact Or.inl rfl
        | some g => exact Or.inr (fun e => by have := own_base' hrow g hob; have := Option.some.inj e; omega))
      have hlen : ks.length + 1 ≤ 50000 := by omega
      clear hs2
      go_wp2_with (first
        | (at_builtin; refine wpList_append_own _ rfl _ _ 24 rfl (w.heap.size + 1) 3 i0 (.int .i64 0) 1 8 Try.underlying24 hi hz0 hz1 hz2 rfl (by decide) _ _ _ rfl (hrow2.alloc _) ⟨w2.heap.size, 0, none⟩ 1 1 [iv x] rfl rfl (cell_one_new _ _ _) (by intro u hu; simp at hu; subst hu; rfl) (by unfold maxLen; omega) (by omega) (by have := hnx.size; have := hg2.size; simp; omega) ?_; intro v' w3 hown' hg3 hnil3; go_frame)
        | go_in)
      have hb2 := own_base' hrow2
      have hrg3 := (hrg2.alloc _).kept hg3 (fun e => by have := hb2 b e.symm; omega) (fun e => by have := hb2 _ e.symm; omega)
      go_roundw
      case rel =>
        refine ⟨_, cnt2, ks ++ [x], hrg3, by simp; omega, by simpa using hown', HC2.out, ?_, ?_⟩
        · exact ((hnx.grown hg2 hnx.size (fun j hj => by cases hj; exact Nat.le_refl _)).alloc (by have := hnx.size; have := hg2.size; omega) _).grown hg3 (by have := hnx.size; have := hg2.size; simp; omega) (fun j hj => by have := hb2 j hj; omega)
        · have := hg2.size; have := hg3.size; simp at *; omega
      case measure => rw [hrg3.left_eq, hrg.left_eq]; exact hlt
end Go.Proofs.Ytmflbibogkebmaa
