/- CycleIn: the specification's side. -/
import Derived.Test.YtddapifljinjeaaCh
namespace Go.Proofs.Ytddapifljinjeaa
open Go.RowKit
open Rd Fl

/-- what both sides tell of good pairs -/
def CycAns (E : List (Int × Int)) (l : List Int) : Prop :=
  (l = [] ∧ ∀ n : Int, 0 ≤ n → n < 100 → ¬ ∃ u, Clo E n u) ∨ (l ≠ [] ∧ ∃ n : Int, 0 ≤ n ∧ n < 100 ∧ (∀ m : Int, 0 ≤ m → m < n → ¬ ∃ u, Clo E m u) ∧ Best E n l)
theorem cyc_one {E : List (Int × Int)} {l m : List Int} (h : CycAns E l) (k : CycAns E m) : l = m := by
  rcases h with ⟨rfl, h⟩ | ⟨-, n, h0, h1, h2, h3⟩
  · rcases k with ⟨rfl, -⟩ | ⟨-, n, k0, k1, -, k3⟩
    · rfl
    · exact absurd ⟨m, k3.1⟩ (h n k0 k1)
  · rcases k with ⟨rfl, k⟩ | ⟨-, n', k0, k1, k2, k3⟩
    · exact absurd ⟨l, h3.1⟩ (k n h0 h1)
    · rcases Int.lt_trichotomy n n' with e | rfl | e
      · exact absurd ⟨l, h3.1⟩ (k2 n h0 e)
      · exact best_one h3 k3
      · exact absurd ⟨m, k3.1⟩ (h2 n' k0 e)
def CiAns (es : List (List Int)) (l : List Int) : Prop := (goodE es = false ∧ l = []) ∨ (goodE es = true ∧ ∀ E : List (Int × Int), es = E.map pairL → CycAns E l)
theorem ci_one {es : List (List Int)} {l m : List Int} (h : CiAns es l) (k : CiAns es m) : l = m := by
  rcases h with ⟨h, rfl⟩ | ⟨h, h'⟩
  · rcases k with ⟨-, rfl⟩ | ⟨k, -⟩
    · rfl
    · rw [h] at k; cases k
  · rcases k with ⟨k, -⟩ | ⟨-, k'⟩
    · rw [h] at k; cases k
    · obtain ⟨E, hE, -⟩ := goodE_pairs h
      exact cyc_one (h' E hE) (k' E hE)
theorem pairL_inj {E F : List (Int × Int)} (h : E.map pairL = F.map pairL) : E = F := by
  induction E generalizing F with
  | nil => cases F with
    | nil => rfl
    | cons a t => cases h
  | cons a t ih =>
    cases F with
    | nil => cases h
    | cons b r =>
      rw [List.map_cons, List.map_cons, List.cons.injEq] at h
      rw [ih h.2]
      obtain ⟨a1, a2⟩ := a
      obtain ⟨b1, b2⟩ := b
      have := h.1
      simp [pairL] at this
      rw [this.1, this.2]

set_option maxRecDepth 20000 in
set_option maxHeartbeats 2000000 in
theorem l3cycle_any (R : Option Addr) (E : List (Int × Int)) (cap : Nat) (hl : E.length ≤ 100) (hE : ∀ p ∈ E, (0 ≤ p.1 ∧ p.1 < 100) ∧ (0 ≤ p.2 ∧ p.2 < 100)) (w : World) (hR : PrsAt w R E) :
    Calls Try.prog 31 #[.slice R E.length cap] w fun e w' => (∃ v l, e = .returned v ∧ CycAns E l ∧ ResI l w' w.heap.size w'.heap.size v) ∧ Below w.heap.size w w' := by
  have HW := hide' (fun s w h => l3way_any R E cap hl hE s w h)
  have HR := hide' hR
  clear hl hE hR
  go_enter Try.func31, Try.ntmps31
  go_wp2
  go_loopw [3] (fun i wr => ∃ k : Nat, k ≤ 100 ∧ i = .int .i64 k ∧ Hid (∀ m : Int, 0 ≤ m → m < k → ¬ ∃ u, Clo E m u) ∧ Hid (Below w.heap.size w wr)) (fun i _ => 100 - (intOf i).toNat)
  case atStart => exact ⟨0, by omega, rfl, (fun m h1 h2 => by omega), Below.refl _ _⟩
  case round =>
    obtain ⟨k, hk, rfl, hno, hb⟩ := hrel
    by_cases hlt : k < 100
    · have hlt' : (k : Int) < 100 := by omega
      go_wp2_with (go_at_call 45; refine (HW.out k _ (HR.out.keep hb.out)).mono ?_; rintro e w1 ⟨⟨v, l, rfl, hans, hres⟩, hb1⟩; have HV := hide' hres; have HAN := hide' hans; have B1 := hide' (hb.out.trans (hb1.mono hb.out.size)); have Z1 := hide' hb.out.size; clear hres hans hb1; obtain ⟨A, M, cv, ev, -, -, -, -⟩ := resi_open HV.out; subst ev)
      · go_ret
        have hne : l ≠ [] := fun e => by subst e; simp at *
        rcases HAN.out with ⟨h1, -⟩ | ⟨-, h2⟩
        · exact absurd h1 hne
        · exact ⟨⟨_, l, rfl, .inr ⟨hne, k, by omega, hlt', hno.out, h2⟩, resi_less HV.out Z1.out⟩, B1.out⟩
      · have he : l = [] := List.length_eq_zero_iff.1 (by simp at *; omega)
        rcases HAN.out with ⟨-, h2⟩ | ⟨h1, -⟩
        · go_roundw
          case rel => exact ⟨k + 1, by omega, by go_num, (fun m m1 m2 => by
            by_cases e : m = k
            · subst e; exact h2
            · exact hno.out m m1 (by omega)), B1.out⟩
          case measure => simp [intOf]; omega
        · exact absurd he h1
    · have hke : k = 100 := by omega
      subst hke
      go_wp2_with fail
      go_ret
      exact ⟨⟨_, [], rfl, .inl ⟨rfl, fun n h1 h2 => hno.out n h1 (by simpa using h2)⟩, resi_of (World.ownsRow_nil _ _ _ _) (by simp)⟩, hb.out⟩

set_option maxRecDepth 20000 in
set_option maxHeartbeats 2000000 in
theorem scycle_any (R : Option Addr) (es : List (List Int)) (cap : Nat) (hl : es.length ≤ 1048576) (hls : ∀ l ∈ es, l.length ≤ 1048576) (w : World) (hR : IssAt w R es) :
    Calls Try.prog 15 #[.slice R es.length cap] w fun e w' => (∃ v l, e = .returned (.tuple #[v, .bool (decide (l ≠ []))]) ∧ CiAns es l ∧ ResI l w' w.heap.size w'.heap.size v) ∧ Below w.heap.size w w' := by
  have HP := hide' (l3pairs_any R es cap hl hls w hR)
  cases hg : goodE es
  · rw [hg] at HP
    have HA := hide' (show CiAns es [] from .inl ⟨hg, rfl⟩)
    clear hg hl hls hR
    go_enter Try.func15, Try.ntmps15
    go_wp2_with (go_at_call 30; refine HP.out.mono ?_; rintro e w1 ⟨rfl, h1⟩; subst w1)
    go_ret2
    exact ⟨⟨_, [], rfl, HA.out, resi_of (World.ownsRow_nil _ _ _ _) (by simp)⟩, Below.refl _ _⟩
  · rw [hg] at HP
    obtain ⟨E, rfl, h100, hb⟩ := goodE_pairs hg
    have HR := hide' (prs_at hR)
    have HC := hide' (fun w h => l3cycle_any R E cap h100 hb w h)
    have HAN := hide' (show ∀ l, CycAns E l → CiAns (E.map pairL) l from fun l h => .inr ⟨hg, fun F hF => by rw [← pairL_inj hF]; exact h⟩)
    have HONE := hide' (fun l m => cyc_one (E := E) (l := l) (m := m))
    rw [List.length_map] at HP ⊢
    clear hg hl hls hR h100 hb
    go_enter Try.func15, Try.ntmps15
    go_wp2_with (go_at_call 30; refine HP.out.mono ?_; rintro e w1 ⟨rfl, h1⟩; subst w1)
    refine (HC.out _ HR.out).mono ?_
    rintro e w2 ⟨⟨v, l, rfl, hans, hres⟩, hb1⟩
    have B2 := hide' hb1
    have A2 := hide' hans
    have V2 := hide' hres
    clear hres hans hb1
    obtain ⟨A, M, cv, ev, -, -, -, -⟩ := resi_open V2.out
    subst ev
    by_cases hle : l = []
    · subst hle
      go_wp2_with fail
      go_ret2
      exact ⟨⟨_, [], rfl, HAN.out _ A2.out, resi_of (World.ownsRow_nil _ _ _ _) (by simp)⟩, B2.out⟩
    · have hl0 : ¬ (l.length : Int) = 0 := fun h => hle (List.length_eq_zero_iff.1 (by omega))
      have HD := hide' (decide_eq_true hle)
      go_wp2_with fail
      refine (HC.out _ (HR.out.keep B2.out)).mono ?_
      rintro e w3 ⟨⟨v3, l3, rfl, hans, hres⟩, hb1⟩
      have e3 := HONE.out _ _ hans A2.out
      subst e3
      have B3 := hide' (B2.out.trans (hb1.mono B2.out.size))
      have V3 := hide' (resi_less hres B2.out.size)
      clear hres hans hb1
      go_wp2_with fail
      go_ret2
      exact ⟨⟨_, l3, by rw [HD.out]; rfl, HAN.out _ A2.out, V3.out⟩, B3.out⟩
end Go.Proofs.Ytddapifljinjeaa
