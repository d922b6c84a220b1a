/- States: comparisons of the exact laws. -/
import Derived.Test.YtmflbibogkebmaaSt
import Derived.Test.YtmflbibogkebmaaKind
import Derived.BigQuiet
import Derived.Deep.RegionWith
namespace Go.Proofs.Ytmflbibogkebmaa
open Go.RowKit
open Rd Fl

theorem first_below2 {w wr w1 : World} (h : Below w.heap.size w wr) (hb : Below wr.drew.heap.size wr.drew w1) : Below w.heap.size w w1 := h.drew.trans (hb.mono h.size)

set_option maxRecDepth 20000 in
set_option maxHeartbeats 1000000 in
theorem eqints_any (A B : Option Addr) (l : List Int) (ca cb : Nat) (hl : l.length ≤ 1048576) (w : World) (hA : LAt iv w A l) (hB : LAt iv w B l) :
    Calls Try.prog 13 #[.slice A l.length ca, .slice B l.length cb] w fun e w' => e = .returned (.bool true) ∧ Below w.heap.size w w' := by
  have hl' : (l.length : Int) ≤ 1048576 := by omega
  obtain ⟨b, off, hA1, hc⟩ := hA
  obtain ⟨b', off', hB1, hc'⟩ := hB
  by_cases he : l = []
  · subst he
    clear hc hA1 hc' hB1
    go_enter Try.func13, Try.ntmps13
    go_wp2
    go_loop [5] (fun i => i = .int .i64 0) (fun _ => 0)
    case atStart => rfl
    case round =>
      subst hrel
      go_wp2
      go_ret
      exact ⟨rfl, Below.refl _ _⟩
  · have hA2 := hA1 he
    have hB2 := hB1 he
    subst hA2 hB2
    have HC := hide' (fun i (hi : i < l.length) => hc i l[i] (List.getElem?_eq_getElem hi))
    have HD := hide' (fun i (hi : i < l.length) => hc' i l[i] (List.getElem?_eq_getElem hi))
    clear hc hA1 he hc' hB1
    go_enter Try.func13, Try.ntmps13
    go_wp2
    go_loopw [5] (fun i wr => ∃ k : Nat, k ≤ l.length ∧ i = .int .i64 k ∧ Hid (Below w.heap.size w wr)) (fun i _ => l.length - (intOf i).toNat)
    case atStart => exact ⟨0, Nat.zero_le _, rfl, Below.refl _ _⟩
    case round =>
      obtain ⟨k, hk, rfl, hbw⟩ := hrel
      by_cases hlt : k < l.length
      · have c0 : _ = some (Value.int .i64 l[k]) := keep_cell hbw.out (HC.out k hlt)
        have d0 : _ = some (Value.int .i64 l[k]) := keep_cell hbw.out (HD.out k hlt)
        generalize l[k] = o at c0 d0
        go_wp2_with fail
        go_quiet (fail)
        go_wp2_with fail
        go_roundw
        case rel => exact ⟨k + 1, by omega, by go_num, below_draws hbw.out _⟩
        case measure => simp [intOf]; omega
      · go_wp2
        go_ret
        exact ⟨rfl, hbw.out⟩

/-- the numbers' words -/
structure StNums (s : StD) : Prop where
  k : ∀ t ∈ s.ts, ∀ x ∈ t.sk, x.2 < 9223372036854775808
  c : ∀ x ∈ s.cl, x.2 < 9223372036854775808

end Go.Proofs.Ytmflbibogkebmaa
