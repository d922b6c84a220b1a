/- What spec.l1Num and spec.l1Sign answer: decimal digits. -/
import Derived.Test.YtnmbkiajkpcmnaaDoorRows
import Derived.WalkKit
import Derived.WalkSpells
import Derived.WalkLawsBesides
import Derived.Lib.ItoaNum
import Derived.Lib.ItoaLen
import Derived.Deep.RegionWith
namespace Go.Proofs.YtnmbkiajkpcmnaaDoor
open Go.RowKit

theorem run_one (W : World) (a : Addr) (x : Int) (h : W.cell? a = some (.int .u8 x)) :
    (convert 72 9 (.slice (some a) 1 1)).run Tryd.prog W = .ok (.string ⟨#[UInt8.ofNat x.toNat]⟩) W := by
  rw [run_convert_bytes_string W 72 9 5 (some a) 1 1 (by kernel_rfl) (by kernel_rfl) (by kernel_rfl)]
  refine run_bytesToString W a 1 1 [x] ?_
  exact run_loadCells_list W a [.int .u8 x] (fun j v hj => by
    cases j with
    | zero =>
      simp only [List.getElem?_cons_zero, Option.some.injEq] at hj
      subst hj
      simpa [Addr.add] using h
    | succ k => simp at hj)

theorem bcell {W w1 : World} (hb : Below W.heap.size W w1) : (∀ b o, b < W.heap.size → w1.cell? ⟨b, o, none⟩ = W.cell? ⟨b, o, none⟩) ∧ (∀ b o, b < W.heap.size → w1.frozen? ⟨b, o, none⟩ = W.frozen? ⟨b, o, none⟩) :=
  ⟨fun b o h => hb.cell (p := ⟨b, o, none⟩) h, fun b o h => hb.frozen (p := ⟨b, o, none⟩) h⟩

set_option maxRecDepth 20000 in
set_option maxHeartbeats 400000 in
theorem l1num_small (n : Nat) (h : n < 10) (w : World) :
    Calls Tryd.prog 41 #[.int .i64 n] w fun e w' => e = .returned (.string ⟨(Lib.decDigits n).toArray⟩) ∧ Below w.heap.size w w' := by
  have h1 : decide ((n : Int) < 10) = true := by simp; omega
  have hcv := run_one
  go_enter Tryd.func41, Tryd.ntmps41
  go_wp2_with fail
  go_ret
  refine ⟨?_, (Below.refl _ _).alloc (Nat.le_refl _) _⟩
  rw [Lib.decDigits, dif_pos h]
  rfl

theorem run_add (a b : ByteArray) (h : a.size + b.size ≤ 9223372036854775807) (w : World) : (binOp .add 9 (.string a) (.string b)).run Tryd.prog w = .ok (.string (a ++ b)) w := by
  have := run_string_add_sum (P := Tryd.prog) w a b h
  simpa [binOp] using this

set_option maxRecDepth 20000 in
set_option maxHeartbeats 1000000 in
theorem l1num_step (n : Nat) (h : ¬ n < 10) (hn : n < 9223372036854775808) (T : ByteArray) (hT : T.size < 100) (ih : ∀ w, Calls Tryd.prog 41 #[.int .i64 ((n : Int) / 10)] w fun e w' => e = .returned (.string T) ∧ Below w.heap.size w w') (w : World) :
    Calls Tryd.prog 41 #[.int .i64 n] w fun e w' => e = .returned (.string (T ++ ⟨#[48 + UInt8.ofNat (n % 10)]⟩)) ∧ Below w.heap.size w w' := by
  have h1 : decide ((n : Int) < 10) = false := by simp; omega
  have hcv := run_one
  have hwr : IntKind.i64.wrap ((n : Int) / 10) = (n : Int) / 10 := by rw [IntKind.wrap_i64]; omega
  have h2 : (0 : Int) ≤ (n : Int) % 10 := by omega
  have h3 : (n : Int) % 10 < 10 := by omega
  have hsz : ∀ c : UInt8, ¬ (T.size + (ByteArray.mk #[c]).size > 9223372036854775807) := fun c => by
    have : (ByteArray.mk #[c]).size = 1 := rfl
    omega
  have IH : Hid (∀ w, Calls Tryd.prog 41 #[.int .i64 ((n : Int) / 10)] w fun e w' => e = .returned (.string T) ∧ Below w.heap.size w w') := ih
  clear ih
  go_enter Tryd.func41, Tryd.ntmps41
  go_wp2_with fail
  go_region_with (go_at_call 41; refine (IH.out _).mono ?_; rintro e w1 ⟨rfl, hb⟩; obtain ⟨hc, hf⟩ := bcell hb)
  all_goals go_wp2_with fail
  all_goals go_ret
  all_goals refine ⟨rfl, ?_⟩
  all_goals first
    | exact (((Below.refl _ _).drew).trans hb).alloc hb.size _
    | exact (((Below.refl _ _).alloc (Nat.le_refl _) _).drew).trans (hb.mono (by simp))

theorem dec_size (n : Nat) (hn : n < 9223372036854775808) : (ByteArray.mk (Lib.decDigits n).toArray).size < 100 := by
  have h1 := Lib.decDigits_length n
  have h2 := Lib.nDigits_le20 n (by omega)
  show (Lib.decDigits n).toArray.size < 100
  rw [List.size_toArray]
  omega

theorem l1num_any (n : Nat) (hn : n < 9223372036854775808) : ∀ w, Calls Tryd.prog 41 #[.int .i64 n] w fun e w' => e = .returned (.string ⟨(Lib.decDigits n).toArray⟩) ∧ Below w.heap.size w w' := by
  induction n using Nat.strongRecOn with
  | _ n ih =>
    intro w
    by_cases h : n < 10
    · exact l1num_small n h w
    · have i1 := ih (n / 10) (by omega) (by omega)
      rw [show ((n / 10 : Nat) : Int) = (n : Int) / 10 by omega] at i1
      have i2 := l1num_step n h hn _ (dec_size (n / 10) (by omega)) i1 w
      rw [show (48 : UInt8) + UInt8.ofNat (n % 10) = UInt8.ofNat (48 + n % 10) by rw [UInt8.ofNat_add]; rfl, ByteArray.mk_append_mk _ [UInt8.ofNat (48 + n % 10)]] at i2
      rw [Lib.decDigits, dif_neg h]
      exact i2

end Go.Proofs.YtnmbkiajkpcmnaaDoor
