/- impl's leadsTo: is one that is left ahead? impl's order of a graph. -/
import Derived.Test.YtmflbibogkebmaaWh
import Derived.Test.YtmflbibogkebmaaVo
import Derived.Test.YtmflbibogkebmaaShelfD
import Derived.Test.YtmflbibogkebmaaWj
namespace Go.Proofs.Ytmflbibogkebmaa
open Go.RowKit Go.Maps
open Rd Fl

set_option maxRecDepth 20000 in
set_option maxHeartbeats 4000000 in
theorem indexl_any (p : Int → Bool) (P1 P2 : Nat) (A : Option Addr) (l : List Int) (cap : Nat) (hl : l.length ≤ 1000) (w : World) (hA : LAt iv w A l)
    (hC : ∀ x ∈ l, ∀ w1, Below w.heap.size w w1 → Calls Try.prog 96 #[.int .i64 x, .pointer (some ⟨P1, 0, none⟩), .pointer (some ⟨P2, 0, none⟩)] w1 fun e w' => e = .returned (.bool (p x)) ∧ Below w1.heap.size w1 w') :
    Calls Try.prog 69 #[.slice A l.length cap, .func (.func 96) #[] #[.pointer (some ⟨P1, 0, none⟩), .pointer (some ⟨P2, 0, none⟩)]] w fun e w' => ((e = .returned (.int .i64 (-1)) ∧ ∀ x ∈ l, p x = false) ∨ ∃ i : Nat, ∃ h : i < l.length, e = .returned (.int .i64 (i : Int)) ∧ p l[i] = true ∧ ∀ x ∈ l.take i, p x = false) ∧ Below w.heap.size w w' := by
  have hl' : (l.length : Int) ≤ 1000 := by omega
  have HCC := hide' hC
  obtain ⟨b, off, hA1, hc⟩ := hA
  by_cases he : l = []
  · subst he
    clear hc hA1 hC HCC
    go_enter Try.func69, Try.ntmps69
    go_wp2_with fail
    go_loopw [8] (fun i wr => i = .int .i64 0 ∧ wr = w) (fun _ _ => 0)
    case atStart => exact ⟨rfl, rfl⟩
    case round =>
      obtain ⟨rfl, rfl⟩ := hrel
      go_wp2_with fail
      go_ret
      first | exact ⟨.inl ⟨rfl, fun x hx => by cases hx⟩, Below.refl _ _⟩ | exact ⟨.inl rfl, Below.refl _ _⟩
  · have hA2 := hA1 he
    subst hA2
    have HC := hide' (fun i (hi : i < l.length) => hc i l[i] (List.getElem?_eq_getElem hi))
    clear hc hA1 he hC
    go_enter Try.func69, Try.ntmps69
    go_wp2_with fail
    go_loopw [8] (fun i wr => ∃ k : Nat, k ≤ l.length ∧ i = .int .i64 k ∧ Hid (∀ x ∈ l.take k, p x = false) ∧ Hid (Below w.heap.size w wr)) (fun i _ => l.length - (intOf i).toNat)
    case atStart => exact ⟨0, Nat.zero_le _, rfl, fun x hx => by simp at hx, Below.refl _ _⟩
    case round =>
      obtain ⟨k, hk, rfl, hn, hb⟩ := hrel
      by_cases hlt : k < l.length
      · have hk2 : (k : Int) < l.length := by omega
        have c0 := keep_cell hb.out (HC.out k hlt)
        have HT := hide' (List.take_succ_eq_append_getElem hlt)
        have HP := hide' (fun (h : p l[k] = true) => (show ∃ h : k < l.length, Ending.returned (.int .i64 (k : Int)) = Ending.returned (Value.int .i64 (k : Int)) ∧ p l[k] = true ∧ ∀ x ∈ l.take k, p x = false from ⟨hlt, rfl, h, hn.out⟩))
        unfold iv at c0
        have HX := HCC.out l[k] (List.getElem_mem hlt) _ hb.out
        generalize l[k] = x at c0 HT HP HX
        cases hbx : p x
        · rw [hbx] at HX
          have HE := hide' (show ∀ y ∈ l.take (k + 1), p y = false by
            intro y hy
            rw [HT.out, List.mem_append, List.mem_singleton] at hy
            rcases hy with hy | rfl
            · exact hn.out y hy
            · exact hbx)
          have HX2 := hide' HX
          clear HT HP HX hbx
          go_wp2_with (go_at_call 96; refine HX2.out.mono ?_; rintro e w1 ⟨rfl, hb1⟩; have B1 := hide' (hb.out.trans (hb1.mono hb.out.size)))
          go_roundw
          case rel => exact ⟨k + 1, by omega, by go_num, HE.out, B1.out⟩
          case measure => simp [intOf]; omega
        · rw [hbx] at HX
          have HE := hide' (HP.out hbx)
          have HX2 := hide' HX
          clear HT HP HX hbx
          go_wp2_with (go_at_call 96; refine HX2.out.mono ?_; rintro e w1 ⟨rfl, hb1⟩; have B1 := hide' (hb.out.trans (hb1.mono hb.out.size)))
          go_ret
          obtain ⟨h1, -, h2, h3⟩ := HE.out
          exact ⟨.inr ⟨k, h1, rfl, h2, h3⟩, B1.out⟩
      · have hke : k = l.length := by omega
        subst hke
        have HE := hide' (show ∀ x ∈ l, p x = false by have := hn.out; rwa [List.take_length] at this)
        go_wp2_with fail
        go_ret
        exact ⟨.inl ⟨rfl, HE.out⟩, hb.out⟩

set_option maxRecDepth 20000 in
set_option maxHeartbeats 4000000 in
theorem indexo_any (p : Int → Bool) (P1 P2 : Nat) (A : Option Addr) (l : List Int) (cap : Nat) (hl : l.length ≤ 1000) (w : World) (hA : LAt iv w A l)
    (hC : ∀ x ∈ l, ∀ w1, Below w.heap.size w w1 → Calls Try.prog 80 #[.int .i64 x, .pointer (some ⟨P1, 0, none⟩), .pointer (some ⟨P2, 0, none⟩)] w1 fun e w' => e = .returned (.bool (p x)) ∧ Below w1.heap.size w1 w') :
    Calls Try.prog 69 #[.slice A l.length cap, .func (.func 80) #[] #[.pointer (some ⟨P1, 0, none⟩), .pointer (some ⟨P2, 0, none⟩)]] w fun e w' => ((e = .returned (.int .i64 (-1)) ∧ ∀ x ∈ l, p x = false) ∨ ∃ i : Nat, ∃ h : i < l.length, e = .returned (.int .i64 (i : Int)) ∧ p l[i] = true ∧ ∀ x ∈ l.take i, p x = false) ∧ Below w.heap.size w w' := by
  have hl' : (l.length : Int) ≤ 1000 := by omega
  have HCC := hide' hC
  obtain ⟨b, off, hA1, hc⟩ := hA
  by_cases he : l = []
  · subst he
    clear hc hA1 hC HCC
    go_enter Try.func69, Try.ntmps69
    go_wp2_with fail
    go_loopw [8] (fun i wr => i = .int .i64 0 ∧ wr = w) (fun _ _ => 0)
    case atStart => exact ⟨rfl, rfl⟩
    case round =>
      obtain ⟨rfl, rfl⟩ := hrel
      go_wp2_with fail
      go_ret
      first | exact ⟨.inl ⟨rfl, fun x hx => by cases hx⟩, Below.refl _ _⟩ | exact ⟨.inl rfl, Below.refl _ _⟩
  · have hA2 := hA1 he
    subst hA2
    have HC := hide' (fun i (hi : i < l.length) => hc i l[i] (List.getElem?_eq_getElem hi))
    clear hc hA1 he hC
    go_enter Try.func69, Try.ntmps69
    go_wp2_with fail
    go_loopw [8] (fun i wr => ∃ k : Nat, k ≤ l.length ∧ i = .int .i64 k ∧ Hid (∀ x ∈ l.take k, p x = false) ∧ Hid (Below w.heap.size w wr)) (fun i _ => l.length - (intOf i).toNat)
    case atStart => exact ⟨0, Nat.zero_le _, rfl, fun x hx => by simp at hx, Below.refl _ _⟩
    case round =>
      obtain ⟨k, hk, rfl, hn, hb⟩ := hrel
      by_cases hlt : k < l.length
      · have hk2 : (k : Int) < l.length := by omega
        have c0 := keep_cell hb.out (HC.out k hlt)
        have HT := hide' (List.take_succ_eq_append_getElem hlt)
        have HP := hide' (fun (h : p l[k] = true) => (show ∃ h : k < l.length, Ending.returned (.int .i64 (k : Int)) = Ending.returned (Value.int .i64 (k : Int)) ∧ p l[k] = true ∧ ∀ x ∈ l.take k, p x = false from ⟨hlt, rfl, h, hn.out⟩))
        unfold iv at c0
        have HX := HCC.out l[k] (List.getElem_mem hlt) _ hb.out
        generalize l[k] = x at c0 HT HP HX
        cases hbx : p x
        · rw [hbx] at HX
          have HE := hide' (show ∀ y ∈ l.take (k + 1), p y = false by
            intro y hy
            rw [HT.out, List.mem_append, List.mem_singleton] at hy
            rcases hy with hy | rfl
            · exact hn.out y hy
            · exact hbx)
          have HX2 := hide' HX
          clear HT HP HX hbx
          go_wp2_with (go_at_call 80; refine HX2.out.mono ?_; rintro e w1 ⟨rfl, hb1⟩; have B1 := hide' (hb.out.trans (hb1.mono hb.out.size)))
          go_roundw
          case rel => exact ⟨k + 1, by omega, by go_num, HE.out, B1.out⟩
          case measure => simp [intOf]; omega
        · rw [hbx] at HX
          have HE := hide' (HP.out hbx)
          have HX2 := hide' HX
          clear HT HP HX hbx
          go_wp2_with (go_at_call 80; refine HX2.out.mono ?_; rintro e w1 ⟨rfl, hb1⟩; have B1 := hide' (hb.out.trans (hb1.mono hb.out.size)))
          go_ret
          obtain ⟨h1, -, h2, h3⟩ := HE.out
          exact ⟨.inr ⟨k, h1, rfl, h2, h3⟩, B1.out⟩
      · have hke : k = l.length := by omega
        subst hke
        have HE := hide' (show ∀ x ∈ l, p x = false by have := hn.out; rwa [List.take_length] at this)
        go_wp2_with fail
        go_ret
        exact ⟨.inl ⟨rfl, HE.out⟩, hb.out⟩

/-- a graph, its box and another box's number -/
def leadB (us : List UnD) (x k : Int) : Bool := decide (grp us (x, k) ≠ [])
theorem GrM.lead {w : World} {lo M n : Nat} {rows : Int × Int → Option Value} {us : List UnD} (h : GrM w lo M n rows us) (p : Int × Int) : ∃ A c, (rows p).getD (.slice none 0 0) = .slice A (grp us p).length c := own_shape_z (h.row p)

set_option maxRecDepth 20000 in
set_option maxHeartbeats 4000000 in
theorem leads1_any (lo M n : Nat) (rows : Int × Int → Option Value) (us : List UnD) (P1 P2 : Nat) (x k : Int) (hx : wfI x) (hk : wfI k) (w : World) (hG : GrM w lo M n rows us) (h1 : w.cell? ⟨P1, 0, none⟩ = some (.map (some M))) (h2 : w.cell? ⟨P2, 0, none⟩ = some (.int .i64 k)) :
    Calls Try.prog 96 #[.int .i64 x, .pointer (some ⟨P1, 0, none⟩), .pointer (some ⟨P2, 0, none⟩)] w fun e w' => e = .returned (.bool (leadB us x k)) ∧ w' = w := by
  obtain ⟨A, c, hv⟩ := hG.lead (x, k)
  have hm := hide' hG.m
  have hwf : wfP (x, k) := ⟨hx, hk⟩
  have hlb : leadB us x k = decide (0 < ((grp us (x, k)).length : Int)) := by
    unfold leadB
    by_cases e : grp us (x, k) = []
    · rw [e]; rfl
    · have := List.length_pos_iff.2 e
      rw [decide_eq_true e, decide_eq_true (show (0 : Int) < _ by omega)]
  have HLB := hide' hlb
  generalize leadB us x k = bb at *
  generalize (grp us (x, k)).length = gl at *
  clear hlb hG
  go_enter Try.func96, Try.ntmps96
  go_wp2_with (at_lookup; refine mp_look _ rfl _ _ 68 rfl 40 Try.underlying68 _ (zeroUnds _) M n rows rfl hm.out (x, k) hwf rfl _ hv ?_)
  go_ret
  exact ⟨by rw [HLB.out]; simp, rfl⟩

set_option maxRecDepth 20000 in
set_option maxHeartbeats 4000000 in
theorem leadsto_any (lo M n : Nat) (rows : Int × Int → Option Value) (us : List UnD) (k : Int) (hk : wfI k) (A : Option Addr) (l : List Int) (cap : Nat) (hl : l.length ≤ 1000) (hwf : ∀ x ∈ l, wfI x) (w : World) (hG : GrM w lo M n rows us) (hA : LAt iv w A l) :
    Calls Try.prog 81 #[.map (some M), .int .i64 k, .slice A l.length cap] w fun e w' => e = .returned (.bool (l.any fun x => leadB us x k)) ∧ Below w.heap.size w w' := by
  have HI := hide' (show ∀ w1 P1 P2, Below w.heap.size w w1 → w1.cell? ⟨P1, 0, none⟩ = some (.map (some M)) → w1.cell? ⟨P2, 0, none⟩ = some (.int .i64 k) →
      Calls Try.prog 69 #[.slice A l.length cap, .func (.func 96) #[] #[.pointer (some ⟨P1, 0, none⟩), .pointer (some ⟨P2, 0, none⟩)]] w1 fun e w' => ((e = .returned (.int .i64 (-1)) ∧ ∀ x ∈ l, leadB us x k = false) ∨ ∃ i : Nat, ∃ h : i < l.length, e = .returned (.int .i64 (i : Int)) ∧ leadB us l[i] k = true ∧ ∀ x ∈ l.take i, leadB us x k = false) ∧ Below w1.heap.size w1 w' from fun w1 P1 P2 hb h1 h2 => indexl_any (fun x => leadB us x k) P1 P2 A l cap hl w1 (hA.keep hb) (fun x hx w2 hb2 =>
        (leads1_any lo M n rows us P1 P2 x k (hwf x hx) hk w2 ((hG.keep hb).keep hb2) (keep_cell hb2 h1) (keep_cell hb2 h2)).mono (fun e w' h => ⟨h.1, by rw [h.2]; exact Below.refl _ _⟩)))
  have hcon : Hid (∀ w1 P1 P2, Below w.heap.size w w1 → w1.cell? ⟨P1, 0, none⟩ = some (.map (some M)) → w1.cell? ⟨P2, 0, none⟩ = some (.int .i64 k) →
      Calls Try.prog 95 #[.slice A l.length cap, .func (.func 96) #[] #[.pointer (some ⟨P1, 0, none⟩), .pointer (some ⟨P2, 0, none⟩)]] w1 fun e w' => e = .returned (.bool (l.any fun x => leadB us x k)) ∧ Below w1.heap.size w1 w') := by
    intro w1 P1 P2 hb h1 h2
    have HX := hide' (HI.out w1 P1 P2 hb h1 h2)
    have HF := hide' (show (∀ x ∈ l, leadB us x k = false) → (l.any fun x => leadB us x k) = false from fun h => by rw [List.any_eq_false]; intro x hx; rw [h x hx]; simp)
    have HT := hide' (show ∀ (i : Nat) (h : i < l.length), leadB us l[i] k = true → (l.any fun x => leadB us x k) = true from fun i h e => List.any_eq_true.2 ⟨l[i], List.getElem_mem h, e⟩)
    generalize (l.any fun x => leadB us x k) = r at *
    clear HI hA hG h1 h2 hwf
    go_enter Try.func95, Try.ntmps95
    go_wp2_with (go_at_call 69; refine HX.out.mono ?_; rintro e w2 ⟨hh, hb2⟩; rcases hh with ⟨rfl, h⟩ | ⟨i, hi, rfl, h, -⟩)
    · go_ret
      exact ⟨by rw [HF.out h]; rfl, hb2⟩
    · go_ret
      exact ⟨by rw [HT.out i hi h]; rfl, hb2⟩
  have BB := hide' (below2 w (.cells #[.map (some M)] 68) (.cells #[.int .i64 k] 3))
  have HC := hide' (hcon.out ((w.alloc (.cells #[.map (some M)] 68)).alloc (.cells #[.int .i64 k] 3)) w.heap.size (w.heap.size + 1) BB.out (by simp) (by simp))
  generalize (l.any fun x => leadB us x k) = r at *
  clear HI hcon hA hG hwf
  go_enter Try.func81, Try.ntmps81
  go_wp2_with (go_at_call 95; refine HC.out.mono ?_; rintro e w2 ⟨rfl, hb2⟩)
  go_ret
  exact ⟨rfl, BB.out.trans (hb2.mono BB.out.size)⟩

set_option maxRecDepth 20000 in
set_option maxHeartbeats 4000000 in
theorem order1_any (lo M n : Nat) (rows : Int × Int → Option Value) (us : List UnD) (P1 P2 : Nat) (k : Int) (hk : wfI k) (A : Option Addr) (l : List Int) (cap : Nat) (hl : l.length ≤ 1000) (hwf : ∀ x ∈ l, wfI x) (w : World) (hG : GrM w lo M n rows us) (hA : LAt iv w A l)
    (h1 : w.cell? ⟨P1, 0, none⟩ = some (.map (some M))) (h2 : w.cell? ⟨P2, 0, none⟩ = some (.slice A l.length cap)) :
    Calls Try.prog 80 #[.int .i64 k, .pointer (some ⟨P1, 0, none⟩), .pointer (some ⟨P2, 0, none⟩)] w fun e w' => e = .returned (.bool (!(l.any fun x => leadB us x k))) ∧ Below w.heap.size w w' := by
  have HL := hide' (leadsto_any lo M n rows us k hk A l cap hl hwf w hG hA)
  generalize (l.any fun x => leadB us x k) = r at *
  clear hG hA hwf
  go_enter Try.func80, Try.ntmps80
  go_wp2_with (go_at_call 81; refine HL.out.mono ?_; rintro e w2 ⟨rfl, hb2⟩)
  go_ret
  exact ⟨rfl, hb2⟩
/-- the first that is free among those that are left -/
theorem index_free (lo M n : Nat) (rows : Int × Int → Option Value) (us : List UnD) (P1 P2 : Nat) (A : Option Addr) (l : List Int) (cap : Nat) (hl : l.length ≤ 1000) (hwf : ∀ x ∈ l, wfI x) (w : World) (hG : GrM w lo M n rows us) (hA : LAt iv w A l)
    (h1 : w.cell? ⟨P1, 0, none⟩ = some (.map (some M))) (h2 : w.cell? ⟨P2, 0, none⟩ = some (.slice A l.length cap)) :
    Calls Try.prog 69 #[.slice A l.length cap, .func (.func 80) #[] #[.pointer (some ⟨P1, 0, none⟩), .pointer (some ⟨P2, 0, none⟩)]] w fun e w' => ((e = .returned (.int .i64 (-1)) ∧ ∀ x ∈ l, (!(l.any fun y => leadB us y x)) = false) ∨ ∃ i : Nat, ∃ h : i < l.length, e = .returned (.int .i64 (i : Int)) ∧ (!(l.any fun y => leadB us y l[i])) = true ∧ ∀ x ∈ l.take i, (!(l.any fun y => leadB us y x)) = false) ∧ Below w.heap.size w w' :=
  indexo_any (fun x => !(l.any fun y => leadB us y x)) P1 P2 A l cap hl w hA (fun x hx w1 hb => order1_any lo M n rows us P1 P2 x (hwf x hx) A l cap hl hwf w1 (hG.keep hb) (hA.keep hb) (keep_cell hb h1) (keep_cell hb h2))
theorem own_prefix {w : World} {b e s m n c : Nat} {A : Option Addr} {xs : List Value} (h : w.ownsRow b e s (.slice A n c) n xs) (hA : A ≠ none) (hm : m ≤ n) : w.ownsRow b e s (.slice A m c) m (xs.take (m * s)) := by
  rcases h.2 with ⟨e, -⟩ | ⟨g, cap, cur, e1, hb, hg, h1, h2, h3, h4⟩
  · injection e with e1 e2 e3; exact absurd e1 hA
  · injection e1 with e1 e2 e3
    subst e1; subst e3
    refine ⟨?_, .inr ⟨g, c, cur, rfl, hb, hg, by omega, h2, h3, ?_⟩⟩
    · rw [List.length_take, h.1]
      exact Nat.min_eq_left (Nat.mul_le_mul_right s hm)
    · rw [← h4, List.take_take, Nat.min_eq_left (Nat.mul_le_mul_right s hm)]
open Go.Sort in
theorem delete_any {base g cap : Nat} {l : List Int} {i : Nat} (hi : i < l.length) (w : World) (h : w.ownsRow base 3 1 (.slice (some ⟨g, 0, none⟩) l.length cap) l.length (l.map iv)) :
    Calls Try.prog 82 #[.slice (some ⟨g, 0, none⟩) l.length cap, .int .i64 (i : Int), .int .i64 ((i : Int) + 1)] w fun e w' => e = .returned (.slice (some ⟨g, 0, none⟩) (l.length - 1) cap) ∧ w'.ownsRow base 3 1 (.slice (some ⟨g, 0, none⟩) (l.length - 1) cap) (l.length - 1) ((l.take i ++ l.drop (i + 1)).map iv) ∧ w.grownBy w' (some g) := by
  obtain ⟨cur, hb, hgg, q1, q2, q3, q4⟩ : ∃ cur, base ≤ g ∧ w.heap[g]? = some (.cells cur 3 (0, 0)) ∧ l.length ≤ cap ∧ cap ≤ maxLen ∧ cur.size = cap * 1 ∧ cur.toList.take (l.length * 1) = l.map iv := by
    rcases h.2 with ⟨e, -⟩ | ⟨g', cap', cur, e, hb, hg, r1, r2, r3, r4⟩
    · cases e
    · cases e; exact ⟨cur, hb, hg, r1, r2, r3, r4⟩
  have hH : Holds (Value.int .i64) w g 0 l.toArray := holdsG (Value.int .i64) hgg q4
  have hD := Try.slices_Delete_int g 0 cap i (i + 1) l w hH q1 (by unfold maxLen at q2; omega) (by omega) (by omega)
  rw [show ((i + 1 : Nat) : Int) = (i : Int) + 1 by omega, show i + 1 - i = 1 by omega] at hD
  refine hD.mono ?_
  rintro e w' ⟨rfl, q, rfl⟩
  have hlen : (l.take i ++ l.drop (i + 1) ++ List.replicate 1 (0 : Int)).length = l.length := by simp; omega
  have h1 := ownsRow_sortedG (w := w) (base := base) (g := g) (cap := cap) (n := q) (m := l.length) (e := 3) (os := #[]) (cur := cur) (Value.int .i64) (ts := l.take i ++ l.drop (i + 1) ++ List.replicate 1 (0 : Int)) hlen hb hgg q1 q2 q3
  rw [grow_empty] at h1
  have h2 := own_prefix (m := l.length - 1) h1 (by simp) (by omega)
  have h3 : ((l.take i ++ l.drop (i + 1) ++ List.replicate 1 (0 : Int)).map (Value.int .i64)).take ((l.length - 1) * 1) = (l.take i ++ l.drop (i + 1)).map iv := by
    rw [List.map_append, List.take_append_of_le_length (by simp; omega), List.take_of_length_le (by simp; omega)]
    rfl
  rw [h3] at h2
  refine ⟨rfl, h2, ?_⟩
  have h4 := grownBy_sortedG (w := w) (g := g) (n := q) (os := #[]) (Value.int .i64) (l.take i ++ l.drop (i + 1) ++ List.replicate 1 (0 : Int)).toArray
  rwa [grow_empty] at h4
end Go.Proofs.Ytmflbibogkebmaa
namespace Go.Proofs.Ytmflbibogkebmaa
open Go.RowKit Go.Maps
open Rd Fl

theorem take_drop_drop {l : List Int} (hl : l.Pairwise (· < ·)) {i : Nat} (hi : i < l.length) : l.take i ++ l.drop (i + 1) = dropL l l[i] := by
  have hsplit : l = l.take i ++ l[i] :: l.drop (i + 1) := by rw [List.getElem_cons_drop, List.take_append_drop]
  generalize l[i] = z at hsplit ⊢
  generalize hta : l.take i = ta at hsplit ⊢
  generalize htb : l.drop (i + 1) = tb at hsplit ⊢
  clear hta htb hi
  subst hsplit
  have hp := hl
  rw [List.pairwise_append, List.pairwise_cons] at hp
  obtain ⟨-, ⟨h2, -⟩, h3⟩ := hp
  unfold dropL
  rw [List.filter_append, List.filter_cons_of_neg (by simp)]
  congr 1
  · symm
    rw [List.filter_eq_self]
    intro x hx
    have := h3 x hx z (List.mem_cons_self ..)
    exact decide_eq_true (by omega)
  · symm
    rw [List.filter_eq_self]
    intro x hx
    have := h2 x hx
    exact decide_eq_true (by omega)
theorem find_of_at {p : Int → Bool} {l : List Int} {i : Nat} (hi : i < l.length) (h : p l[i] = true) (hno : ∀ x ∈ l.take i, p x = false) : l.find? p = some l[i] := by
  have hsplit : l = l.take i ++ l[i] :: l.drop (i + 1) := by rw [List.getElem_cons_drop, List.take_append_drop]
  rw [List.find?_eq_some_iff_append]
  exact ⟨h, l.take i, l.drop (i + 1), hsplit, fun x hx => by rw [hno x hx]; rfl⟩
theorem lead_free {us : List UnD} (hin : ∀ u ∈ us, (0 ≤ u.hd ∧ u.hd ≤ 99) ∧ (0 ≤ u.tkn ∧ u.tkn ≤ 99)) (left : List Int) (k : Int) : (!(left.any fun y => leadB us y k)) = freeB (pairsP us 100) left k := by
  rw [Bool.eq_iff_iff, freeB_iff]
  constructor
  · intro h p hp e hm
    have : (left.any fun y => leadB us y k) = true := List.any_eq_true.2 ⟨p.1, hm, decide_eq_true (by rw [← e]; exact (pairsP_iff hin).1 hp)⟩
    rw [this] at h
    cases h
  · intro h
    rw [Bool.not_eq_true', List.any_eq_false]
    intro y hy hl
    exact h (y, k) ((pairsP_iff hin).2 (of_decide_eq_true hl)) rfl hy
theorem ordN_out {E : List (Int × Int)} {L : List Int} : ∀ n, (ordN E L n).2.length ≤ n
  | 0 => Nat.le_refl _
  | n + 1 => by
    have ih := ordN_out (E := E) (L := L) n
    show (ordS E (ordN E L n)).2.length ≤ _
    unfold ordS
    split
    · simp only [List.length_append, List.length_cons, List.length_nil]; omega
    · omega
theorem clone_any (A : Option Addr) (l : List Int) (cap : Nat) (hl : l.length ≤ 1000) (w : World) (hA : LAt iv w A l) :
    Calls Try.prog 79 #[.slice A l.length cap] w fun e w' => ∃ v, e = .returned v ∧ w'.ownsRow w.heap.size 3 1 v l.length (l.map iv) ∧ Below w.heap.size w w' := by
  obtain ⟨b, off, h1, h2⟩ := hA
  by_cases he : l = []
  · subst he
    cases A with
    | none =>
      refine (Try.slices_Clone_int_nil 0 cap w).mono ?_
      rintro e w' ⟨rfl, rfl⟩
      exact ⟨_, rfl, World.ownsRow_nil _ _ _ _, Below.refl _ _⟩
    | some a =>
      refine (Try.slices_Clone_int_zero a cap w).mono ?_
      rintro e w' ⟨v, rfl, h, -, hb⟩
      exact ⟨v, rfl, h, hb⟩
  · have := h1 he
    subst this
    refine (Try.slices_Clone_int b off l.length cap l w (Nat.le_refl _) (by omega) (fun j hj => ?_)).mono ?_
    · rw [h2 j l[j] (List.getElem?_eq_getElem hj), List.getD_eq_getElem?_getD, List.getElem?_eq_getElem hj]; rfl
    · rintro e w' ⟨v, rfl, h, -, hb⟩
      rw [List.take_length] at h
      exact ⟨v, rfl, h, hb⟩

/-- the loop's state: what is left in a row of its own, its value in a box; the order; the graph's box -/
structure OrS (w wr : World) (B1 M : Nat) (v o : Value) (LL LO : List Int) : Prop where
  b : Below w.heap.size w wr
  z : w.heap.size < B1 ∧ B1 < wr.heap.size
  c0 : wr.cell? ⟨w.heap.size, 0, none⟩ = some (.map (some M))
  c1 : wr.cell? ⟨B1, 0, none⟩ = some v
  f1 : wr.frozen? ⟨B1, 0, none⟩ = false
  l : wr.ownsRow (w.heap.size + 1) 3 1 v LL.length (LL.map iv)
  lb : ∀ g, v.ownBlock = some g → g < B1
  o : wr.ownsRow (B1 + 1) 3 1 o LO.length (LO.map iv)
theorem frozen_blk {w w' : World} {N : Nat} (e : w'.heap[N]? = w.heap[N]?) : w'.frozen? ⟨N, 0, none⟩ = w.frozen? ⟨N, 0, none⟩ := by
  unfold World.frozen?; simp only; rw [e]
theorem OrS.keep {w wr wy : World} {B1 M : Nat} {v o : Value} {LL LO : List Int} (h : OrS w wr B1 M v o LL LO) (hb : Below wr.heap.size wr wy) : OrS w wy B1 M v o LL LO :=
  ⟨h.b.trans (hb.mono h.b.size), ⟨h.z.1, by have := h.z.2; have := hb.size; omega⟩, keep_cell hb h.c0, keep_cell hb h.c1, (frozen_blk (hb.block B1 h.z.2)).trans h.f1, own_keep h.l hb, h.lb, own_keep h.o hb⟩
theorem cell_grown {w w' : World} {row : Option Nat} (hg : w.grownBy w' row) {N o : Nat} {v : Value} (h : w.cell? ⟨N, o, none⟩ = some v) (hne : row ≠ some N) : w'.cell? ⟨N, o, none⟩ = some v := by
  have hlt := cell_lt h
  have e := hg.block N hlt (fun e => hne e.symm)
  unfold World.cell? at h ⊢
  simp only at h ⊢
  rw [e]; exact h
theorem own_grown {w w' : World} {row : Option Nat} (hg : w.grownBy w' row) {base : Nat} {v : Value} {n : Nat} {xs : List Value} (h : w.ownsRow base 3 1 v n xs) (hne : ∀ g, v.ownBlock = some g → row ≠ some g) : w'.ownsRow base 3 1 v n xs := by
  refine h.kept hg ?_
  cases hb : v.ownBlock with
  | none => exact .inl rfl
  | some g => exact .inr (fun e => hne g hb e.symm)
theorem frozen_two {w wr w5 w6 : World} {B1 M g cap m : Nat} {o : Value} {LL LO : List Int} (h : OrS w wr B1 M (.slice (some ⟨g, 0, none⟩) m cap) o LL LO) {ob : Obj} (hg5 : (wr.alloc ob).grownBy w5 o.ownBlock) (hg6 : w5.grownBy w6 (some g)) : w6.frozen? ⟨B1, 0, none⟩ = false := by
  have hz := h.z
  have hgB : g < B1 := h.lb g rfl
  have ho := own_base' h.o
  have hs5 := hg5.size
  simp at hs5
  have n1 : o.ownBlock ≠ some B1 := fun e => by have := ho _ e; omega
  rw [frozen_blk (hg6.block B1 (by omega) (fun e => by have := Option.some.inj e; omega)), frozen_blk (hg5.block B1 (by simp; omega) (fun e => n1 e.symm)), frozen_blk (((Below.refl _ wr).up ob).block B1 hz.2)]
  exact h.f1
/-- one number goes over -/
theorem OrS.step {w wr w5 w6 : World} {B1 M g cap : Nat} {o o' : Value} {LL LO LL' : List Int} {k : Int} (h : OrS w wr B1 M (.slice (some ⟨g, 0, none⟩) LL.length cap) o LL LO) {ob : Obj}
    (ho5 : w5.ownsRow (B1 + 1) 3 1 o' (LO.length + 1) (LO.map iv ++ [iv k])) (hg5 : (wr.alloc ob).grownBy w5 o.ownBlock)
    (hl6 : w6.ownsRow (w.heap.size + 1) 3 1 (.slice (some ⟨g, 0, none⟩) (LL.length - 1) cap) (LL.length - 1) (LL'.map iv)) (hlen : LL'.length = LL.length - 1) (hg6 : w5.grownBy w6 (some g)) :
    OrS w (w6.setCell ⟨B1, 0, none⟩ (.slice (some ⟨g, 0, none⟩) (LL.length - 1) cap)) B1 M (.slice (some ⟨g, 0, none⟩) (LL.length - 1) cap) o' LL' (LO ++ [k]) := by
  have hz := h.z
  have hgB : g < B1 := h.lb g rfl
  have hgl : w.heap.size + 1 ≤ g := own_base' h.l g rfl
  have ho := own_base' h.o
  have hs5 := hg5.size
  have hs6 := hg6.size
  simp at hs5
  have n0 : o.ownBlock ≠ some w.heap.size := fun e => by have := ho _ e; omega
  have n1 : o.ownBlock ≠ some B1 := fun e => by have := ho _ e; omega
  have c0 := cell_grown hg6 (cell_grown hg5 (keep_cell ((Below.refl _ _).up ob) h.c0) n0) (fun e => by have := Option.some.inj e; omega)
  have c1 := cell_grown hg6 (cell_grown hg5 (keep_cell ((Below.refl _ _).up ob) h.c1) n1) (fun e => by have := Option.some.inj e; omega)
  have f1 : w6.frozen? ⟨B1, 0, none⟩ = false := by
    rw [frozen_blk (hg6.block B1 (by omega) (fun e => by have := Option.some.inj e; omega)), frozen_blk (hg5.block B1 (by simp; omega) (fun e => n1 e.symm)), frozen_blk (((Below.refl _ wr).up ob).block B1 hz.2)]
    exact h.f1
  have hb6 : Below w.heap.size w w6 := ((h.b.up ob).grown hg5 (by simp; omega) (fun j hj => by have := ho j hj; omega)).grown hg6 (by omega) (fun j hj => by have := Option.some.inj hj; omega)
  have hset : ∀ N, N ≠ B1 → (w6.setCell ⟨B1, 0, none⟩ (.slice (some ⟨g, 0, none⟩) (LL.length - 1) cap)).heap[N]? = w6.heap[N]? := fun N hN => Below.heap_setCell _ _ _ _ hN
  refine ⟨below_set hb6 B1 0 _ (by omega), ⟨hz.1, by simp; omega⟩, ?_, World.cell?_setCell_same _ _ _ c1, by rw [World.frozen?_setCell]; exact f1, ?_, fun g' e => by cases e; exact hgB, ?_⟩
  · rw [World.cell?_setCell_other _ _ _ _ (fun e => by have := (Addr.mk.inj e).1; omega)]; exact c0
  · rw [hlen]
    exact own_blk_eq hl6 fun g' e => by cases e; exact hset g (by omega)
  · rw [List.length_append, List.map_append]
    have h6 := own_grown hg6 ho5 (fun g' e e2 => by have := own_base' ho5 g' e; have := Option.some.inj e2; omega)
    exact own_blk_eq h6 fun g' e => hset g' (by have := own_base' ho5 g' e; omega)
theorem OrS.lat {w wr : World} {B1 M : Nat} {v o : Value} {LL LO : List Int} (h : OrS w wr B1 M v o LL LO) : ∃ A c, v = .slice A LL.length c ∧ LAt iv wr A LL := own_at h.l

set_option maxRecDepth 20000 in
set_option maxHeartbeats 8000000 in
theorem order_any (lo M nn : Nat) (rows : Int × Int → Option Value) (us : List UnD) (hin : ∀ u ∈ us, (0 ≤ u.hd ∧ u.hd ≤ 99) ∧ (0 ≤ u.tkn ∧ u.tkn ≤ 99)) (A : Option Addr) (L : List Int) (cap : Nat) (hl : L.length ≤ 100) (hL : L.Pairwise (· < ·)) (hwf : ∀ x ∈ L, 0 ≤ x ∧ x ≤ 99) (w : World) (hG : GrM w lo M nn rows us) (hA : LAt iv w A L) :
    Calls Try.prog 59 #[.map (some M), .slice A L.length cap] w fun e w' => (∃ v, e = .returned (.tuple #[v, .bool (ordOk (pairsP us 100) L)]) ∧ w'.ownsRow w.heap.size 3 1 v (if ordOk (pairsP us 100) L = true then (ordN (pairsP us 100) L L.length).2 else []).length ((if ordOk (pairsP us 100) L = true then (ordN (pairsP us 100) L L.length).2 else []).map iv)) ∧ Below w.heap.size w w' := by
  obtain ⟨ii, hi, hz0, hz1, hz2⟩ := intInfo
  have HLF := hide' (fun left k => lead_free hin left k)
  have HRI := hide' (fun n => ordN_rises (E := pairsP us 100) hL n)
  have HSB := hide' (fun n => ordN_sub (E := pairsP us 100) (L := L) n)
  have HNY := hide' (fun n k h => ordN_yes (E := pairsP us 100) (L := L) (n := n) (k := k) h)
  have HNN := hide' (fun n h => ordN_none (E := pairsP us 100) (L := L) (n := n) h)
  have HOK : ordOk (pairsP us 100) L = decide ((ordN (pairsP us 100) L L.length).1 = []) := rfl
  have HGG := hide' hG
  have HWF := hide' hwf
  have HCL := hide' (clone_any A L cap (by omega) (w.alloc (.cells #[.map (some M)] 68)) (hA.keep ((Below.refl w.heap.size w).up _)))
  generalize pairsP us 100 = E at *
  have HOK2 := hide' HOK
  generalize ordOk E L = ok at *
  obtain ⟨res, hres⟩ : ∃ r, r = if ok = true then (ordN E L L.length).2 else [] := ⟨_, rfl⟩
  rw [← hres]
  have HRS := hide' hres
  clear hres hA hG hwf HOK hin
  go_enter Try.func59, Try.ntmps59
  go_wp2_with (go_at_call 79; refine HCL.out.mono ?_; rintro e w1 ⟨v1, rfl, ho1, hb1⟩; obtain ⟨A1, c1, e1⟩ := own_shape_z ho1; subst e1)
  have S0 := hide' (show OrS w (w1.alloc (.cells #[.slice A1 L.length c1] 24)) w1.heap.size M (.slice A1 L.length c1) (.slice none 0 0) (ordN E L 0).1 (ordN E L 0).2 from by
    have hbw : Below w.heap.size w w1 := ((Below.refl w.heap.size w).up (.cells #[.map (some M)] 68)).trans (hb1.mono (by simp))
    have hs1 := hb1.size
    simp at hs1
    have hup := (Below.refl w1.heap.size w1).up (.cells #[.slice A1 L.length c1] 24)
    refine ⟨hbw.up _, ⟨by omega, by simp⟩, keep_cell hup (keep_cell hb1 (by simp)), by simp, by unfold World.frozen?; simp only; rw [heap_alloc_new]; rfl, own_keep (own_less ho1 (by simp)) hup, fun g hg => (ho1.lt g hg).2, World.ownsRow_nil _ _ _ _⟩)
  generalize w1.heap.size = B1 at *
  generalize w1.alloc (.cells #[.slice A1 L.length c1] 24) = W1 at *
  clear ho1 hb1 HCL
  go_wp2_with fail
  go_loopw [7] (fun o wr => ∃ (n : Nat) (v : Value), n ≤ L.length ∧ Hid (OrS w wr B1 M v o (ordN E L n).1 (ordN E L n).2) ∧ Hid ((ordN E L n).1.length + n = L.length)) (fun _ wr => lenS ((wr.cell? ⟨B1, 0, none⟩).getD (.bool false)))
  case atStart => exact ⟨0, _, Nat.zero_le _, S0.out, rfl⟩
  case round =>
    clear S0
    obtain ⟨n, v, hn, hr, hs⟩ := hrel
    have hs' := hs.out
    have HN1 := hide' (HNY.out n)
    have HN2 := hide' (HNN.out n)
    have HLR := hide' (HRI.out n)
    have HWL := hide' (show ∀ x ∈ (ordN E L n).1, 0 ≤ x ∧ x ≤ 99 from fun x hx => HWF.out x (HSB.out n x hx))
    have HRS2 := hide' (show n = L.length → res = if ok = true then (ordN E L n).2 else [] from fun e => by rw [HRS.out, e])
    have HOK3 := hide' (show n = L.length → ok = decide ((ordN E L n).1 = []) from fun e => by rw [HOK2.out, e])
    have HOK4 := hide' (show (∀ m, ordN E L (n + m) = ordN E L n) → ok = decide ((ordN E L n).1 = []) from fun h => by
      have := h (L.length - n)
      rw [show n + (L.length - n) = L.length by omega] at this
      rw [HOK2.out, this])
    have HOL := hide' (ordN_out (E := E) (L := L) n)
    generalize hLL : (ordN E L n).1 = LL at *
    generalize hLO : (ordN E L n).2 = LO at *
    obtain ⟨A5, c5, rfl, hlat⟩ := hr.out.lat
    have c0 := hr.out.c0
    have c1 := hr.out.c1
    by_cases hne : LL = []
    · subst hne
      have hnL : n = L.length := by simpa using hs'
      have HO := hide' (show ok = true by rw [HOK3.out hnL]; rfl)
      have HR := hide' (show res = LO by rw [HRS2.out hnL, HO.out]; rfl)
      go_wp2_with fail
      go_ret2
      exact ⟨⟨_, by rw [HO.out]; rfl, by rw [HR.out]; exact own_less hr.out.o (by have := hr.out.z; omega)⟩, hr.out.b⟩
    · have hpos : 0 < LL.length := List.length_pos_iff.2 hne
      have hposI : (0 : Int) < LL.length := by omega
      have hLLn : LL.length ≤ 100 := by omega
      have hLOn : LO.length ≤ 100 := by have := HOL.out; omega
      obtain ⟨g5, eg⟩ : ∃ g5, A5 = some ⟨g5, 0, none⟩ := by
        rcases hr.out.l.2 with ⟨e, h0⟩ | ⟨g, c, cur, e, -⟩
        · omega
        · injection e with e1 e2 e3; exact ⟨g, e1⟩
      subst eg
      have HIX := hide' (show Calls Try.prog 69 #[.slice (some ⟨g5, 0, none⟩) LL.length c5, .func (.func 80) #[] #[.pointer (some ⟨w.heap.size, 0, none⟩), .pointer (some ⟨B1, 0, none⟩)]] wr fun e w' => ((e = .returned (.int .i64 (-1)) ∧ LL.find? (freeB E LL) = none) ∨ ∃ (i : Nat) (k : Int), i < LL.length ∧ e = .returned (.int .i64 (i : Int)) ∧ ((i : Int) == -1) = false ∧ IntKind.i64.wrap ((i : Int) + 1) = (i : Int) + 1 ∧ (i : Int) < LL.length ∧ LL.find? (freeB E LL) = some k ∧ LL.take i ++ LL.drop (i + 1) = dropL LL k ∧ w'.cell? ⟨g5, i, none⟩ = some (.int .i64 k)) ∧ Below wr.heap.size wr w' from by
        refine (index_free lo M nn rows us w.heap.size B1 (some ⟨g5, 0, none⟩) LL c5 (by omega) (fun x hx => by have := HWL.out x hx; exact wfI_small (by omega) (by omega)) wr (HGG.out.keep hr.out.b) hlat c0 c1).mono ?_
        rintro e w' ⟨hh, hb⟩
        refine ⟨?_, hb⟩
        rcases hh with ⟨rfl, h⟩ | ⟨i, hi2, rfl, h, hno⟩
        · refine .inl ⟨rfl, ?_⟩
          rw [List.find?_eq_none]
          intro x hx
          have := h x hx
          rw [HLF.out] at this
          rw [this]; simp
        · refine .inr ⟨i, LL[i], hi2, rfl, by simp, by simp [IntKind.wrap, IntKind.bits, IntKind.signed]; omega, by omega, find_of_at hi2 (by rw [← HLF.out]; exact h) (fun x hx => by rw [← HLF.out]; exact hno x hx), take_drop_drop HLR.out hi2, ?_⟩
          exact keep_cell hb ((hr.out.l.cellAt i (by omega)).trans (by rw [List.getElem?_map, List.getElem?_eq_getElem hi2]; rfl)))
      go_wp2_with (first
        | (go_at_call 69; refine HIX.out.mono ?_; rintro e w2 ⟨hh, hb2⟩; have S2 := hide' (hr.out.keep hb2); have k1 := S2.out.c1; rcases hh with ⟨rfl, h⟩ | ⟨i, k, hi2, rfl, hf1, hf2, hf3, hf4, hf5, e0⟩)
        | (at_builtin; refine wpList_append_own_at _ rfl _ _ 24 rfl (B1 + 1) 3 ii (.int .i64 0) 1 8 Try.underlying24 hi hz0 hz1 hz2 rfl (by decide) _ _ _ rfl (S2.out.o.alloc _) ⟨w2.heap.size, 0, none⟩ 1 1 [iv k] rfl rfl (cell_one_new _ _ _) (by intro u hu; simp at hu; subst hu; rfl) (by unfold maxLen; omega) (by omega) (by have := S2.out.z; simp; omega) ?_; intro v' w5 hown5 hg5 hnil5 hblk5; have O5 := hide' hown5; have G5 := hide' hg5; have k5 := cell_grown hg5 (keep_cell ((Below.refl _ _).up _) k1) (fun e => by have := own_base' S2.out.o _ e; omega); clear hown5 hnil5 hblk5; go_frame)
        | (go_at_call 82; refine (delete_any hi2 w5 (own_grown G5.out (S2.out.l.alloc _) (fun g hg e => by have := own_base' S2.out.o _ e; have := S2.out.lb g hg; omega))).mono ?_; rintro e w6 ⟨rfl, hl6, hg6⟩; have k6 := cell_grown hg6 k5 (fun e => by have := Option.some.inj e; have := S2.out.lb g5 rfl; omega); have f6 := frozen_two S2.out G5.out hg6))
      · have HO := hide' (show ok = false by rw [HOK4.out (HN2.out h)]; exact decide_eq_false hne)
        have HR := hide' (show res = [] by rw [HRS.out, HO.out]; rfl)
        go_ret2
        exact ⟨⟨_, by rw [HO.out]; rfl, by rw [HR.out]; exact World.ownsRow_nil _ _ _ _⟩, S2.out.b⟩
      · have HN3 := HN1.out k hf4
        have hst := S2.out.step O5.out G5.out hl6 (by simp; omega) hg6
        rw [hf5] at hst
        go_roundw
        case rel => exact ⟨n + 1, _, by omega, by rw [HN3]; exact hst, by
          rw [HN3]
          have := congrArg List.length hf5
          simp only [List.length_append, List.length_take, List.length_drop] at this
          show (dropL LL k).length + (n + 1) = _
          omega⟩
        case measure =>
          rw [World.cell?_setCell_same _ _ _ k6, c1]
          simp only [Option.getD_some, lenS]
          omega
end Go.Proofs.Ytmflbibogkebmaa
