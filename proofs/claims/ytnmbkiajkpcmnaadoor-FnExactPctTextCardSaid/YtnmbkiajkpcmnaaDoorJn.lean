/- Numbers with commas between: both sides. -/
import Derived.Test.YtnmbkiajkpcmnaaDoorCf
import Derived.Test.YtnmbkiajkpcmnaaDoorNum
import Derived.Test.YtnmbkiajkpcmnaaDoorShelf
import Derived.Test.YtnmbkiajkpcmnaaDoorRg
import Derived.Lib.Join
namespace Go.Proofs.YtnmbkiajkpcmnaaDoor
open Go.RowKit
open Rd Fl

/-- the decimal text of an int -/
def txJ (n : Int) : ByteArray := ⟨(Lib.itoa n).toArray⟩
theorem txJ_dec (n : Nat) : Lib.itoa (n : Int) = Lib.decDigits n := by
  unfold Lib.itoa
  first | rfl | simp
theorem below_growJ (w : World) (q : Nat) (os : Array Obj) : Below w.heap.size w (Go.Sort.grow (w.drewN q) os) :=
  ⟨rfl, rfl, rfl, by show w.heap.size ≤ (w.heap ++ os).size; simp, fun k hk => by show (w.heap ++ os)[k]? = w.heap[k]?; rw [Array.getElem?_append_left hk]⟩
/-- the table that Itoa reads -/
def Pow (w : World) : Prop := Lib.TabIs Tryd.prog w "internal/strconv.uint64pow10" .u64 Lib.pow10Tab
theorem itoaJ_any (n : Int) (h1 : -9223372036854775808 ≤ n) (h2 : n ≤ 9223372036854775807) (w : World) (htab : Pow w) :
    Calls Tryd.prog 34 #[.int .i64 n] w fun e w' => e = .returned (.string (txJ n)) ∧ Below w.heap.size w w' := by
  refine (Tryd.strconv_Itoa n h1 h2 w htab).mono ?_
  rintro e w' ⟨rfl, k, os, rfl⟩
  exact ⟨rfl, below_growJ w k os⟩

/-- the bytes of numbers with a text between -/
def nums (l : List Int) : List (List UInt8) := l.map Lib.itoa
def joinT (sep : List UInt8) (l : List Int) : List UInt8 := Lib.join (nums l) sep
theorem joinT_zero (sep : List UInt8) : joinT sep [] = [] := rfl
theorem joinT_snoc (sep : List UInt8) (l : List Int) (x : Int) : joinT sep (l ++ [x]) = if l = [] then Lib.itoa x else joinT sep l ++ sep ++ Lib.itoa x := by
  cases l with
  | nil => rw [if_pos rfl]; exact Lib.join_one _ _
  | cons y t =>
    rw [if_neg (by simp)]
    unfold joinT nums
    rw [List.cons_append, List.map_cons, List.map_cons, Lib.join_cons, Lib.join_cons, List.map_append, List.append_assoc, List.append_assoc]
    congr 1
    unfold Lib.joinTail
    rw [List.map_append, List.flatten_append]
    simp
theorem joinT_len (sep : List UInt8) (l : List Int) (h : ∀ x ∈ l, 0 ≤ x ∧ x ≤ 1000000) : (joinT sep l).length ≤ l.length * (sep.length + 21) := by
  have hi : ∀ x ∈ l, (Lib.itoa x).length ≤ 21 := fun x hx => Lib.itoa_length_le x (by have := h x hx; omega) (by have := h x hx; omega)
  clear h
  have hle : ∀ l : List Int, (∀ x ∈ l, (Lib.itoa x).length ≤ 21) → (Lib.joinTail sep (nums l)).length ≤ l.length * (sep.length + 21) := by
    intro l
    induction l with
    | nil => intro _; simp [nums, Lib.joinTail]
    | cons x t ih =>
      intro h
      have h1 := h x (by simp)
      have h2 := ih (fun y hy => h y (by simp [hy]))
      have e : Lib.joinTail sep (nums (x :: t)) = sep ++ Lib.itoa x ++ Lib.joinTail sep (nums t) := by simp [nums, Lib.joinTail]
      rw [e, List.length_append, List.length_append, List.length_cons, Nat.add_mul]
      omega
  cases l with
  | nil => simp [joinT, nums, Lib.join_nil]
  | cons x t =>
    have h1 := hi x (by simp)
    have h2 := hle t (fun y hy => hi y (by simp [hy]))
    unfold joinT nums
    rw [List.map_cons, Lib.join_cons, List.length_append, List.length_cons, Nat.add_mul]
    unfold nums at h2
    omega

theorem join_take (l : List Int) {k : Nat} (h : k < l.length) : joinT [44] (l.take (k + 1)) = if k = 0 then Lib.itoa l[k] else joinT [44] (l.take k) ++ [44] ++ Lib.itoa l[k] := by
  rw [List.take_succ_eq_append_getElem h, joinT_snoc]
  by_cases h0 : k = 0
  · subst h0; simp
  · rw [if_neg h0, if_neg (by intro e; have := congrArg List.length e; rw [List.length_take, List.length_nil] at this; omega)]
theorem bytes_app (a b : List UInt8) : (⟨a.toArray⟩ : ByteArray) ++ ⟨b.toArray⟩ = ⟨(a ++ b).toArray⟩ := by
  apply ByteArray.ext
  simp

set_option maxRecDepth 20000 in
set_option maxHeartbeats 2000000 in
theorem l4list_any (A : Option Addr) (l : List Int) (cap : Nat) (hl : l.length ≤ 1000) (hx : ∀ x ∈ l, 0 ≤ x ∧ x ≤ 1000000) (w : World) (hA : LAt iv w A l) :
    Calls Tryd.prog 30 #[.slice A l.length cap] w fun e w' => e = .returned (.string ⟨(joinT [44] l).toArray⟩) ∧ Below w.heap.size w w' := by
  have hl' : (l.length : Int) ≤ 1000 := by omega
  obtain ⟨b, off, hA1, hc⟩ := hA
  have HC := hide' hc
  have HA := hide' hA1
  have HJ := hide' (fun k (h : k < l.length) => join_take l h)
  have HX := hide' (fun k (h : k < l.length) => hx l[k] (List.getElem_mem h))
  have HLN := hide' (fun k => joinT_len [44] (l.take k) (fun x h => hx x (List.mem_of_mem_take h)))
  have HT := hide' (show joinT [44] (l.take l.length) = joinT [44] l by rw [List.take_length])
  clear hc hA1 hx
  go_enter Tryd.func30, Tryd.ntmps30
  go_wp2
  go_loopw [3, 8] (fun s i wr => ∃ (k : Nat) (t : ByteArray), k ≤ l.length ∧ i = .int .i64 k ∧ s = .string t ∧ Hid (t = ⟨(joinT [44] (l.take k)).toArray⟩) ∧ Hid (Below w.heap.size w wr)) (fun _ i _ => l.length - (intOf i).toNat)
  case atStart => exact ⟨0, ⟨#[]⟩, Nat.zero_le _, rfl, rfl, rfl, Below.refl _ _⟩
  case round =>
    obtain ⟨k, t, hk, rfl, rfl, ht, hbw⟩ := hrel
    by_cases hlt : k < l.length
    · have hA2 := HA.out (fun e => by rw [e] at hlt; simp at hlt)
      subst hA2
      have c0 := keep_cell hbw.out (HC.out k l[k] (List.getElem?_eq_getElem hlt))
      unfold iv at c0
      have HJK := hide' (HJ.out k hlt)
      have HXK := HX.out k hlt
      generalize l[k] = x at c0 HJK HXK
      obtain ⟨n, rfl⟩ : ∃ n : Nat, x = n := ⟨x.toNat, by omega⟩
      have hnb : n < 9223372036854775808 := by omega
      have HN := hide' (fun w => l1num_any n hnb w)
      have hts : t.size ≤ 22000 := by
        rw [ht.out]
        have := HLN.out k
        have h2 : (l.take k).length ≤ 1000 := by rw [List.length_take]; omega
        show (joinT [44] (l.take k)).toArray.size ≤ _
        rw [List.size_toArray]
        simp at this
        omega
      have hds : (ByteArray.mk (Lib.decDigits n).toArray).size < 100 := dec_size n hnb
      have HRA := hide' (fun (a b : ByteArray) (h : a.size + b.size ≤ 9223372036854775807) w => run_add a b h w)
      have hr1 := HRA.out t ⟨#[44]⟩ (by have : (ByteArray.mk #[44]).size = 1 := rfl; omega)
      have HDN := hide' (txJ_dec n)
      by_cases h0 : k = 0
      · subst h0
        simp only [Nat.add_zero] at c0
        have hd0 : decide (0 < ((0 : Nat) : Int)) = false := rfl
        have hr2 := HRA.out t ⟨(Lib.decDigits n).toArray⟩ (by omega)
        clear hr1
        go_wp2_with (go_at_call 41; refine (HN.out _).mono ?_; rintro e w1 ⟨rfl, hb1⟩; have B1 := hide' hb1; clear hb1)
        go_roundw
        case rel =>
          refine ⟨0 + 1, _, by omega, by go_num, rfl, ?_, hbw.out.trans (B1.out.mono hbw.out.size)⟩
          show _ = _
          rw [HJK.out, if_pos trivial, ht.out, List.take_zero, joinT_zero, HDN.out]
          exact bytes_app [] _
        case measure => simp [intOf]; omega
      · have hki : (0 : Int) < k := by omega
        have hsz : (t ++ (⟨#[44]⟩ : ByteArray)).size ≤ 22001 := by rw [ByteArray.size_append]; have : (ByteArray.mk #[44]).size = 1 := rfl; omega
        have hr2 := HRA.out (t ++ ⟨#[44]⟩) ⟨(Lib.decDigits n).toArray⟩ (by omega)
        go_wp2_with (go_at_call 41; refine (HN.out _).mono ?_; rintro e w1 ⟨rfl, hb1⟩; have B1 := hide' hb1; clear hb1)
        go_roundw
        case rel =>
          refine ⟨k + 1, _, by omega, by go_num, rfl, ?_, hbw.out.trans (B1.out.mono hbw.out.size)⟩
          show _ = _
          rw [HJK.out, if_neg h0, ht.out, HDN.out]
          rw [show (⟨#[44]⟩ : ByteArray) = ⟨([44] : List UInt8).toArray⟩ from rfl, bytes_app, bytes_app]
        case measure => simp [intOf]; omega
    · have hke : k = l.length := by omega
      subst hke
      go_wp2
      go_ret
      exact ⟨by rw [← HT.out, ← ht.out]; rfl, hbw.out⟩
end Go.Proofs.YtnmbkiajkpcmnaaDoor
