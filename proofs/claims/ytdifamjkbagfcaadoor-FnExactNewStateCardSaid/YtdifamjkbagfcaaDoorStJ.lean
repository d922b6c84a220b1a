/- Good states: the code's side. -/
import Derived.Test.YtdifamjkbagfcaaDoorStI
namespace Go.Proofs.YtdifamjkbagfcaaDoor
open Go.RowKit
open Rd Fl

theorem hd_ways {cl lk : Int} {n1 n2 n3 : Nat} {ft : Int} (h : hdB cl lk n1 n2 n3 ft = false) : (n1 : Int) < 1 ∨ (5 : Int) < n1 ∨ ((1 ≤ (n1 : Int) ∧ (n1 : Int) ≤ 5) ∧ (n2 : Int) ≠ cl) ∨ ((1 ≤ (n1 : Int) ∧ (n1 : Int) ≤ 5) ∧ (n2 : Int) = cl ∧ (n3 : Int) ≠ lk) ∨ ((1 ≤ (n1 : Int) ∧ (n1 : Int) ≤ 5) ∧ (n2 : Int) = cl ∧ (n3 : Int) = lk ∧ ft < 0) ∨ ((1 ≤ (n1 : Int) ∧ (n1 : Int) ≤ 5) ∧ (n2 : Int) = cl ∧ (n3 : Int) = lk ∧ 0 ≤ ft ∧ 4 < ft) := by
  rcases hd_cases h with h1 | ⟨h1, h2⟩ | ⟨h1, h2, h3⟩ | ⟨h1, h2, h3, h4⟩
  · rw [decide_eq_false_iff_not] at h1
    by_cases a : (n1 : Int) < 1
    · exact .inl a
    · exact .inr (.inl (by omega))
  · exact .inr (.inr (.inl ⟨of_decide_eq_true h1, h2⟩))
  · exact .inr (.inr (.inr (.inl ⟨of_decide_eq_true h1, h2, h3⟩)))
  · rw [decide_eq_false_iff_not] at h4
    by_cases a : ft < 0
    · exact .inr (.inr (.inr (.inr (.inl ⟨of_decide_eq_true h1, h2, h3, a⟩))))
    · exact .inr (.inr (.inr (.inr (.inr ⟨of_decide_eq_true h1, h2, h3, by omega, by omega⟩))))

/-- What the walks over impl.GoodState begin with. -/
def stW (w : World) (cl lk cd : Int) (R : Option Addr) (n cap : Nat) (T C O : Option Addr) (n1 k1 n2 k2 n3 k3 : Nat) (ft : Int) : World := (w.alloc (.cells #[.int .i64 cl, .int .i64 lk, .int .i64 cd, .slice R n cap] 30)).alloc (.cells #[.slice T n1 k1, .slice C n2 k2, .slice O n3 k3, .int .i64 ft] 43)
theorem stW_below (w : World) (cl lk cd : Int) (R : Option Addr) (n cap : Nat) (T C O : Option Addr) (n1 k1 n2 k2 n3 k3 : Nat) (ft : Int) : Below w.heap.size w (stW w cl lk cd R n cap T C O n1 k1 n2 k2 n3 k3 ft) := ((Below.refl _ w).up _).up _
theorem stW_p (w : World) (cl lk cd : Int) (R : Option Addr) (n cap : Nat) (T C O : Option Addr) (n1 k1 n2 k2 n3 k3 : Nat) (ft : Int) : PBox w.heap.size cl lk cd R n cap (stW w cl lk cd R n cap T C O n1 k1 n2 k2 n3 k3 ft) := (pbox_new w cl lk cd R n cap 30).keep ((Below.refl _ _).up _)
theorem stW_s (w : World) (cl lk cd : Int) (R : Option Addr) (n cap : Nat) (T C O : Option Addr) (n1 k1 n2 k2 n3 k3 : Nat) (ft : Int) : SBox (w.heap.size + 1) T C O n1 k1 n2 k2 n3 k3 ft (stW w cl lk cd R n cap T C O n1 k1 n2 k2 n3 k3 ft) := by
  have hq := sbox_new (w.alloc (.cells #[.int .i64 cl, .int .i64 lk, .int .i64 cd, .slice R n cap] 30)) T C O n1 k1 n2 k2 n3 k3 ft 43
  rw [show (w.alloc (.cells #[.int .i64 cl, .int .i64 lk, .int .i64 cd, .slice R n cap] 30)).heap.size = w.heap.size + 1 by simp] at hq
  exact hq

set_option maxRecDepth 20000 in
set_option maxHeartbeats 2000000 in
theorem igoodst_no (cl lk cd : Int) (R : Option Addr) (rs : List (List OpD)) (cap : Nat) (T C O : Option Addr) (n1 k1 n2 k2 n3 k3 : Nat) (ft : Int) (g : Bool) (h : g = false ∨ (g = true ∧ hdB cl lk n1 n2 n3 ft = false)) (w : World)
    (HG : Hid (Calls Tryd.prog 37 #[.agg #[.int .i64 cl, .int .i64 lk, .int .i64 cd, .slice R rs.length cap]] (stW w cl lk cd R rs.length cap T C O n1 k1 n2 k2 n3 k3 ft) fun e w' => e = .returned (.bool g) ∧ Below (stW w cl lk cd R rs.length cap T C O n1 k1 n2 k2 n3 k3 ft).heap.size (stW w cl lk cd R rs.length cap T C O n1 k1 n2 k2 n3 k3 ft) w')) :
    Calls Tryd.prog 64 #[.agg #[.int .i64 cl, .int .i64 lk, .int .i64 cd, .slice R rs.length cap], .agg #[.slice T n1 k1, .slice C n2 k2, .slice O n3 k3, .int .i64 ft]] w fun e w' => e = .returned (.bool false) ∧ Below w.heap.size w w' := by
  have HB := hide' (stW_below w cl lk cd R rs.length cap T C O n1 k1 n2 k2 n3 k3 ft)
  have HP := hide' (stW_p w cl lk cd R rs.length cap T C O n1 k1 n2 k2 n3 k3 ft)
  have HQ := hide' (stW_s w cl lk cd R rs.length cap T C O n1 k1 n2 k2 n3 k3 ft)
  rcases h with rfl | ⟨rfl, hh⟩
  · go_enter Tryd.func64, Tryd.ntmps64
    go_wp2_with (go_at_call 37; refine HG.out.mono ?_; rintro e w1 ⟨rfl, hb1⟩)
    go_ret
    exact ⟨rfl, HB.out.trans (hb1.mono HB.out.size)⟩
  · rcases hd_ways hh with h1 | h1 | ⟨h1, h2⟩ | ⟨h1, h2, h3⟩ | ⟨h1, h2, h3, h4⟩ | ⟨h1, h2, h3, h4, h5⟩
    all_goals
      clear hh
      go_enter Tryd.func64, Tryd.ntmps64
      go_wp2_with (go_at_call 37; refine HG.out.mono ?_; rintro e w1 ⟨rfl, hb1⟩; obtain ⟨p0, p1, p2, p3⟩ := HP.out.keep hb1; obtain ⟨q0, q1, q2, q3⟩ := HQ.out.keep hb1)
      go_ret
      exact ⟨rfl, HB.out.trans (hb1.mono HB.out.size)⟩
end Go.Proofs.YtdifamjkbagfcaaDoor
