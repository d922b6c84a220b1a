/- spec.l1Put: a number put into a list that rises. spec.l1Put at a list that is there. spec.l1Put at any list of its own. -/
import Derived.Test.YtmflbibogkebmaaRi
import Derived.Test.YtmflbibogkebmaaSpD
import Derived.Maps.AppendAt
namespace Go.Proofs.Ytmflbibogkebmaa
open Go.RowKit
open Rd Fl

theorem own_cells {w : World} {B : Nat} {g cap : Nat} {l : List Int} (h : w.ownsRow B 3 1 (.slice (some ⟨g, 0, none⟩) l.length cap) l.length (l.map iv)) : ∀ j (hj : j < l.length), w.cell? ⟨g, j, none⟩ = some (.int .i64 l[j]) := by
  intro j hj
  have hk := h.cellAt j (by omega)
  rw [hk, List.getElem?_map, List.getElem?_eq_getElem hj]; rfl

theorem one_iv (n : Int) : ∀ u ∈ [iv n], u.oneCell' = true := by
  intro u hu
  rw [List.mem_singleton] at hu
  subst hu
  rfl
theorem one_new (w : World) (n : Int) : ∀ j u, [iv n][j]? = some u → (w.alloc (.cells #[.int .i64 n] 3)).cell? ((⟨w.heap.size, 0, none⟩ : Addr).add j) = some u := cell_one_new w (iv n) 3

set_option maxRecDepth 20000 in
set_option maxHeartbeats 2000000 in
theorem l1put_nil (n : Int) (w : World) : Calls Try.prog 42 #[.slice none 0 0, .int .i64 n] w fun e w' => (∃ v', e = .returned v' ∧ w'.ownsRow w.heap.size 3 1 v' 1 [iv n]) ∧ Below w.heap.size w w' := by
  obtain ⟨i0, hi, hz0, hz1, hz2⟩ := inInfo
  go_enter Try.func42, Try.ntmps42
  go_wp2
  go_loop [5] (fun i => i = .int .i64 0) (fun _ => 0)
  case atStart => rfl
  case round =>
    subst hrel
    have C1 := hide' (show ∀ j u, [iv n][j]? = some u → ((w.alloc (.cells #[] 3)).alloc (.cells #[.int .i64 n] 3)).cell? ((⟨w.heap.size + 1, 0, none⟩ : Addr).add j) = some u by have := one_new (w.alloc (.cells #[] 3)) n; simpa using this)
    have HO := hide' (show (w.alloc (.cells #[] 3)).ownsRow w.heap.size 3 1 (.slice (some ⟨w.heap.size, 0, none⟩) 0 0) 0 [] from World.ownsRow_made w #[] 0 (Nat.le_refl _) (by unfold maxLen; omega) rfl)
    go_wp2_with (at_builtin; refine wpList_append_own _ rfl _ _ 24 rfl w.heap.size 3 i0 (.int .i64 0) 1 8 Try.underlying24 hi hz0 hz1 hz2 rfl (by decide) _ _ _ rfl (HO.out.alloc _) ⟨w.heap.size + 1, 0, none⟩ 1 1 [iv n] rfl rfl C1.out (one_iv n) (by unfold maxLen; omega) (by omega) (by simp; omega) ?_)
    intro v' w3 hown3 hgrow hnil
    have HB3 := hide' (Below.grown (below2 w (.cells #[] 3) (.cells #[.int .i64 n] 3)) hgrow (by simp; omega) (own_base' HO.out))
    clear hgrow
    have H3 := hide' (show w3.ownsRow w.heap.size 3 1 v' 1 [iv n] from hown3)
    rcases hown3.2 with ⟨h1, h2⟩ | ⟨g, cap, cur, rfl, hb, hg, hle, hm, hc⟩
    · exact absurd h1 hnil
    clear hown3 hnil hg hc hm hb
    go_wp2_with fail
    go_ret
    exact ⟨⟨_, rfl, H3.out⟩, HB3.out⟩

theorem iv_one (l : List Int) : ∀ u ∈ l.map iv, u.oneCell' = true := by
  intro u hu
  obtain ⟨x, -, rfl⟩ := List.mem_map.1 hu
  rfl
theorem iv_news {w : World} {g : Nat} {l : List Int} (hc : ∀ j (hj : j < l.length), w.cell? ⟨g, j, none⟩ = some (.int .i64 l[j])) (k m : Nat) : ∀ j u, (((l.drop k).take m).map iv)[j]? = some u → w.cell? ((⟨g, k, none⟩ : Addr).add j) = some u := by
  intro j u hu
  rw [List.getElem?_map] at hu
  cases hx : ((l.drop k).take m)[j]? with
  | none => rw [hx] at hu; cases hu
  | some x =>
    rw [hx] at hu
    have hu' : iv x = u := by simpa using hu
    have hjm : j < m := by
      have := (List.getElem?_eq_some_iff.1 hx).1
      simp at this; omega
    rw [List.getElem?_take_of_lt hjm, List.getElem?_drop] at hx
    obtain ⟨h1, h2⟩ := List.getElem?_eq_some_iff.1 hx
    have := hc (k + j) h1
    rw [h2] at this
    rw [← hu']
    rw [Addr.add_lit]; exact this
end Go.Proofs.Ytmflbibogkebmaa
namespace Go.Proofs.Ytmflbibogkebmaa
open Go.RowKit
open Rd Fl

set_option maxRecDepth 20000 in
set_option maxHeartbeats 4000000 in
theorem l1put_some (l : List Int) (n : Int) (g cap B : Nat) (hl : l.length ≤ 1000) (w : World) (hB : B ≤ w.heap.size) (ho : w.ownsRow B 3 1 (.slice (some ⟨g, 0, none⟩) l.length cap) l.length (l.map iv)) : Calls Try.prog 42 #[.slice (some ⟨g, 0, none⟩) l.length cap, .int .i64 n] w fun e w' => (∃ v', e = .returned v' ∧ w'.ownsRow B 3 1 v' (putR l n).length ((putR l n).map iv)) ∧ Below w.heap.size w w' := by
  obtain ⟨i0, hi, hz0, hz1, hz2⟩ := inInfo
  have HC := hide' (own_cells ho)
  have HO := hide' ho
  have hcap : l.length ≤ cap := by
    rcases ho.2 with ⟨h1, h2⟩ | ⟨g', cap', cur, h1, h2, h3, h4, -⟩
    · cases h1
    · cases h1; exact h4
  clear ho
  have hl' : (l.length : Int) ≤ 1000 := by omega
  have hcap' : (l.length : Int) ≤ cap := by omega
  go_enter Try.func42, Try.ntmps42
  go_wp2
  go_loop [5] (fun i => ∃ k : Nat, k ≤ l.length ∧ i = .int .i64 k ∧ Hid (∀ j y, j < k → l[j]? = some y → y < n)) (fun i => l.length - (intOf i).toNat)
  case atStart => exact ⟨0, Nat.zero_le _, rfl, fun j y hj => absurd hj (by omega)⟩
  case round =>
    obtain ⟨k, hk, rfl, hlow⟩ := hrel
    by_cases hlt : k < l.length
    · have c0 := HC.out k hlt
      have HK := hide' (show l[k]? = some l[k] from List.getElem?_eq_getElem hlt)
      generalize l[k] = o at c0 HK
      by_cases ho1 : o < n
      · go_wp2
        go_round
        case rel =>
          refine ⟨k + 1, by omega, by go_num, fun j y hj hy => ?_⟩
          by_cases hjk : j = k
          · subst hjk
            have := HK.out
            rw [hy] at this
            cases this
            exact ho1
          · exact hlow.out j y (by omega) hy
        case measure => simp [intOf]; omega
      · by_cases ho2 : o = n
        · subst ho2
          go_wp2
          go_ret
          rw [putR_same o l k hlow.out HK.out]
          exact ⟨⟨_, rfl, HO.out⟩, Below.refl _ _⟩
        · have HN := hide' (putR_new n l k hk hlow.out (fun y hy => by have := HK.out; rw [hy] at this; cases this; omega))
          clear hlow
          have hk' : (k : Int) ≤ l.length := by omega
          have hk2 : (k : Int) ≤ cap := by omega
          have H0 := hide' (show (w.alloc (.cells #[] 3)).ownsRow w.heap.size 3 1 (.slice (some ⟨w.heap.size, 0, none⟩) 0 0) 0 [] from World.ownsRow_made w #[] 0 (Nat.le_refl _) (by unfold maxLen; omega) rfl)
          have L1 := hide' (show ((l.take k).map iv).length = k * 1 by simp; omega)
          have C1 := hide' (show ∀ j u, ((l.take k).map iv)[j]? = some u → (w.alloc (.cells #[] 3)).cell? ((⟨g, 0, none⟩ : Addr).add j) = some u by have := iv_news (w := w.alloc (.cells #[] 3)) (g := g) (l := l) (fun j hj => keep_cell ((Below.refl _ w).up _) (HC.out j hj)) 0 k; simpa using this)
          go_wp2_with (at_builtin; refine wpList_append_own _ rfl _ _ 24 rfl w.heap.size 3 i0 (.int .i64 0) 1 8 Try.underlying24 hi hz0 hz1 hz2 rfl (by decide) _ _ _ rfl H0.out ⟨g, 0, none⟩ k cap ((l.take k).map iv) rfl L1.out C1.out (iv_one _) (by unfold maxLen; omega) (by omega) (by simp) ?_)
          intro v1 w1 hown1 hgrow1 _
          have B1 := hide' (Below.grown ((Below.refl w.heap.size w).up (.cells #[] 3)) hgrow1 (by simp) (own_base' H0.out))
          have H1 := hide' (show w1.ownsRow w.heap.size 3 1 v1 k ((l.take k).map iv) by simpa using hown1)
          clear hown1 hgrow1 H0 C1
          have C2 := hide' (one_new w1 n)
          go_wp2_with (at_builtin; refine wpList_append_own _ rfl _ _ 24 rfl w.heap.size 3 i0 (.int .i64 0) 1 8 Try.underlying24 hi hz0 hz1 hz2 rfl (by decide) _ _ _ rfl (H1.out.alloc _) ⟨w1.heap.size, 0, none⟩ 1 1 [iv n] rfl rfl C2.out (one_iv n) (by unfold maxLen; omega) (by omega) (by have := B1.out.size; simp; omega) ?_)
          intro v2 w2 hown2 hgrow2 _
          have B2 := hide' (Below.grown (B1.out.up (.cells #[.int .i64 n] 3)) hgrow2 (by have := B1.out.size; simp; omega) (own_base' H1.out))
          have H2 := hide' hown2
          clear hown2 hgrow2 C2 H1 B1
          have C3 := hide' (iv_news (w := w2) (g := g) (l := l) (fun j hj => keep_cell B2.out (HC.out j hj)) k (l.length - k))
          have L3 := hide' (show (((l.drop k).take (l.length - k)).map iv).length = (l.length - k) * 1 by simp)
          go_wp2_with (at_builtin; refine wpList_append_own _ rfl _ _ 24 rfl w.heap.size 3 i0 (.int .i64 0) 1 8 Try.underlying24 hi hz0 hz1 hz2 rfl (by decide) _ _ _ rfl H2.out ⟨g, k, none⟩ (l.length - k) (cap - k) (((l.drop k).take (l.length - k)).map iv) rfl L3.out C3.out (iv_one _) (by unfold maxLen; omega) (by omega) (by have := B2.out.size; omega) ?_)
          intro v3 w3 hown3 hgrow3 _
          have B3 := hide' (Below.grown B2.out hgrow3 B2.out.size (own_base' H2.out))
          have H3 := hide' (own_less hown3 hB)
          clear hown3 hgrow3 C3
          go_wp2_with fail
          go_ret
          refine ⟨⟨_, rfl, ?_⟩, B3.out⟩
          rw [HN.out]
          have e2 : (l.take k ++ n :: l.drop k).map iv = List.take k (List.map iv l) ++ iv n :: List.take (l.length - k) (List.drop k (List.map iv l)) := by rw [List.take_of_length_le (l := List.drop k (List.map iv l)) (by simp)]; simp
          have e3 : (l.take k ++ n :: l.drop k).length = k + 1 + (l.length - k) := by simp; omega
          rw [e2, e3]
          exact H3.out
    · have hke : k = l.length := by omega
      subst hke
      have HN := hide' (show putR l n = l ++ [n] by have := putR_new n l l.length hk hlow.out (fun y hy => by have := (List.getElem?_eq_some_iff.1 hy).1; omega); simpa using this)
      clear hlow
      have H0 := hide' (show (w.alloc (.cells #[] 3)).ownsRow w.heap.size 3 1 (.slice (some ⟨w.heap.size, 0, none⟩) 0 0) 0 [] from World.ownsRow_made w #[] 0 (Nat.le_refl _) (by unfold maxLen; omega) rfl)
      have L1 := hide' (show (l.map iv).length = l.length * 1 by simp)
      have C1 := hide' (show ∀ j u, (l.map iv)[j]? = some u → (w.alloc (.cells #[] 3)).cell? ((⟨g, 0, none⟩ : Addr).add j) = some u by have := iv_news (w := w.alloc (.cells #[] 3)) (g := g) (l := l) (fun j hj => keep_cell ((Below.refl _ w).up _) (HC.out j hj)) 0 l.length; simpa using this)
      go_wp2_with (at_builtin; refine wpList_append_own _ rfl _ _ 24 rfl w.heap.size 3 i0 (.int .i64 0) 1 8 Try.underlying24 hi hz0 hz1 hz2 rfl (by decide) _ _ _ rfl H0.out ⟨g, 0, none⟩ l.length cap (l.map iv) rfl L1.out C1.out (iv_one _) (by unfold maxLen; omega) (by omega) (by simp) ?_)
      intro v1 w1 hown1 hgrow1 _
      have B1 := hide' (Below.grown ((Below.refl w.heap.size w).up (.cells #[] 3)) hgrow1 (by simp) (own_base' H0.out))
      have H1 := hide' (show w1.ownsRow w.heap.size 3 1 v1 l.length (l.map iv) by simpa using hown1)
      clear hown1 hgrow1 H0 C1
      have C2 := hide' (one_new w1 n)
      go_wp2_with (at_builtin; refine wpList_append_own _ rfl _ _ 24 rfl w.heap.size 3 i0 (.int .i64 0) 1 8 Try.underlying24 hi hz0 hz1 hz2 rfl (by decide) _ _ _ rfl (H1.out.alloc _) ⟨w1.heap.size, 0, none⟩ 1 1 [iv n] rfl rfl C2.out (one_iv n) (by unfold maxLen; omega) (by omega) (by have := B1.out.size; simp; omega) ?_)
      intro v2 w2 hown2 hgrow2 _
      have B2 := hide' (Below.grown (B1.out.up (.cells #[.int .i64 n] 3)) hgrow2 (by have := B1.out.size; simp; omega) (own_base' H1.out))
      have H2 := hide' hown2
      clear hown2 hgrow2 C2 H1 B1
      by_cases hck : cap = l.length
      · subst hck
        go_wp2_with (at_builtin; refine wpList_append_own _ rfl _ _ 24 rfl w.heap.size 3 i0 (.int .i64 0) 1 8 Try.underlying24 hi hz0 hz1 hz2 rfl (by decide) _ _ _ rfl H2.out ⟨g, 0, none⟩ 0 0 [] rfl rfl (fun j u h => by cases h) (fun u h => by cases h) (by unfold maxLen; omega) (by omega) (by have := B2.out.size; omega) ?_)
        intro v3 w3 hown3 hgrow3 _
        have B3 := hide' (Below.grown B2.out hgrow3 B2.out.size (own_base' H2.out))
        have H3 := hide' (own_less hown3 hB)
        clear hown3 hgrow3
        go_wp2_with fail
        go_ret
        refine ⟨⟨_, rfl, ?_⟩, B3.out⟩
        rw [HN.out]
        have e2 : (l ++ [n]).map iv = List.map iv l ++ [iv n] := by simp
        have e3 : (l ++ [n]).length = l.length + 1 := by simp
        rw [e2, e3]
        exact H3.out
      · go_wp2_with (at_builtin; refine wpList_append_own _ rfl _ _ 24 rfl w.heap.size 3 i0 (.int .i64 0) 1 8 Try.underlying24 hi hz0 hz1 hz2 rfl (by decide) _ _ _ rfl H2.out ⟨g, l.length, none⟩ 0 (cap - l.length) [] rfl rfl (fun j u h => by cases h) (fun u h => by cases h) (by unfold maxLen; omega) (by omega) (by have := B2.out.size; omega) ?_)
        intro v3 w3 hown3 hgrow3 _
        have B3 := hide' (Below.grown B2.out hgrow3 B2.out.size (own_base' H2.out))
        have H3 := hide' (own_less hown3 hB)
        clear hown3 hgrow3
        go_wp2_with fail
        go_ret
        refine ⟨⟨_, rfl, ?_⟩, B3.out⟩
        rw [HN.out]
        have e2 : (l ++ [n]).map iv = List.map iv l ++ [iv n] := by simp
        have e3 : (l ++ [n]).length = l.length + 1 := by simp
        rw [e2, e3]
        exact H3.out

end Go.Proofs.Ytmflbibogkebmaa
namespace Go.Proofs.Ytmflbibogkebmaa
open Go.RowKit
open Rd Fl

/-- What the rounds keep. -/
structure Rsp (w : World) (v : Value) (l : List Int) (wr : World) : Prop where
  b : Below w.heap.size w wr
  o : wr.ownsRow w.heap.size 3 1 v l.length (l.map iv)
theorem Rsp.keep {w : World} {v : Value} {l : List Int} {wr wx : World} (h : Rsp w v l wr) (hb : Below wr.heap.size wr wx) : Rsp w v l wx := ⟨h.b.trans (hb.mono h.b.size), own_keep h.o hb⟩

theorem l1put_any (l : List Int) (n : Int) (v : Value) (hl : l.length ≤ 1000) (w wr : World) (h : Rsp w v l wr) : Calls Try.prog 42 #[v, .int .i64 n] wr fun e w' => (∃ v', e = .returned v' ∧ Rsp w v' (putR l n) w') ∧ Below wr.heap.size wr w' := by
  rcases h.o.2 with ⟨rfl, h0⟩ | ⟨g, cap, cur, rfl, hb, hg, hrest⟩
  · have : l = [] := List.length_eq_zero_iff.1 h0
    subst this
    refine (l1put_nil n wr).mono ?_
    rintro e w' ⟨⟨v', rfl, ho⟩, hb⟩
    exact ⟨⟨v', rfl, h.b.trans (hb.mono h.b.size), own_less ho h.b.size⟩, hb⟩
  · refine (l1put_some l n g cap w.heap.size hl wr h.b.size h.o).mono ?_
    rintro e w' ⟨⟨v', rfl, ho⟩, hb⟩
    exact ⟨⟨v', rfl, h.b.trans (hb.mono h.b.size), ho⟩, hb⟩

end Go.Proofs.Ytmflbibogkebmaa
