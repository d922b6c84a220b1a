/- Answers that are lists of lists of ints: kept, compared, marked, held; WaitsFor of both sides. -/
import Derived.Test.YtdifamjkbagfcaaDoorRg
import Derived.Test.YtdifamjkbagfcaaDoorRp
import Derived.Test.YtdifamjkbagfcaaDoorEv
namespace Go.Proofs.YtdifamjkbagfcaaDoor
open Go.RowKit
open Rd Fl

/-- The lists ls are what v tells, in blocks from lo on and below hi. -/
structure ResP (ls : List (List Int)) (w : World) (lo hi : Nat) (v : Value) : Prop where
  r : ∃ Ms, RowSS ls w lo v Ms ∧ ∀ M ∈ Ms, M < hi
  u : ∀ k, v.ownBlock = some k → k < hi
  n : ls.length ≤ 1000
  m : ∀ l ∈ ls, l.length ≤ 1000
theorem rowss_lt {ls : List (List Int)} {w : World} {lo : Nat} {v : Value} {Ms : List Nat} (h : RowSS ls w lo v Ms) : ∀ M ∈ Ms, M < w.heap.size := by
  intro M hM
  obtain ⟨i, hi, rfl⟩ := List.mem_iff_getElem.1 hM
  exact (h.c i Ms[i] (ls[i]'(by rw [← h.n]; exact hi)) (List.getElem?_eq_getElem hi) (List.getElem?_eq_getElem _)).2.1
theorem resp_of {ls : List (List Int)} {w : World} {lo : Nat} {v : Value} {Ms : List Nat} (h : RowSS ls w lo v Ms) (hn : ls.length ≤ 1000) (hm : ∀ l ∈ ls, l.length ≤ 1000) : ResP ls w lo w.heap.size v := ⟨⟨Ms, h, rowss_lt h⟩, fun k hk => (h.o.lt k hk).2, hn, hm⟩
theorem resp_keep {ls : List (List Int)} {w w' : World} {lo hi : Nat} {v : Value} (h : ResP ls w lo hi v) (hb : Below w.heap.size w w') : ResP ls w' lo hi v := by
  obtain ⟨Ms, h1, h2⟩ := h.r
  exact ⟨⟨Ms, h1.keep hb, h2⟩, h.u, h.n, h.m⟩
theorem resp_less {ls : List (List Int)} {w : World} {lo lo' hi : Nat} {v : Value} (h : ResP ls w lo hi v) (hb : lo' ≤ lo) : ResP ls w lo' hi v := by
  obtain ⟨Ms, h1, h2⟩ := h.r
  exact ⟨⟨Ms, h1.less hb, h2⟩, h.u, h.n, h.m⟩
theorem resp_more {ls : List (List Int)} {w : World} {lo hi hi' : Nat} {v : Value} (h : ResP ls w lo hi v) (hb : hi ≤ hi') : ResP ls w lo hi' v := by
  obtain ⟨Ms, h1, h2⟩ := h.r
  exact ⟨⟨Ms, h1, fun M hM => Nat.lt_of_lt_of_le (h2 M hM) hb⟩, fun k hk => Nat.lt_of_lt_of_le (h.u k hk) hb, h.n, h.m⟩
theorem resp_edit {ls : List (List Int)} {w w' : World} {lo hi : Nat} {v : Value} (h : ResP ls w lo hi v) {a b : Nat} (he : Edit a b w w') (hp : b ≤ lo ∨ hi ≤ a) : ResP ls w' lo hi v := by
  obtain ⟨Ms, h1, h2⟩ := h.r
  refine ⟨⟨Ms, ⟨h1.n, own_edit h1.o h.u he hp, fun i M x hM hx => ?_, h1.d, h1.b⟩, h2⟩, h.u, h.n, h.m⟩
  obtain ⟨g1, g2, g3⟩ := h1.c i M x hM hx
  have g4 := h2 M (List.mem_of_getElem? hM)
  refine ⟨g1, Nat.lt_of_lt_of_le g2 he.b.size, lown_block g3 ?_⟩
  rcases hp with hp | hp
  · exact he.up M (by omega) g2
  · exact he.b.block M (by omega)
theorem resp_open {ls : List (List Int)} {w : World} {lo hi : Nat} {v : Value} (h : ResP ls w lo hi v) : ∃ (A : Option Addr) (g cap : Nat) (Ms : List Nat), v = .slice A ls.length cap ∧ (ls.length ≠ 0 → A = some ⟨g, 0, none⟩) ∧ ∃ hM : Ms.length = ls.length, (∀ i (h : i < ls.length), w.cell? ⟨g, i, none⟩ = some (slV (Ms[i]'(by omega)) ls[i]) ∧ w.there (Ms[i]'(by omega)) 0 ls[i].length ∧ Ms[i]'(by omega) ≠ g ∧ lo ≤ Ms[i]'(by omega) ∧ Ms[i]'(by omega) < hi) ∧ (∀ i j (_ : i < j) (h : j < ls.length), Ms[i]'(by omega) < Ms[j]'(by omega)) ∧ LLAt w A ls := by
  obtain ⟨Ms, h1, h2⟩ := h.r
  rcases h1.o.2 with ⟨rfl, hn⟩ | ⟨g, cap, cur, rfl, hb2, hgg, q1, q2, q3, q4⟩
  · have : ls = [] := List.length_eq_zero_iff.1 hn
    subst this
    exact ⟨none, 0, 0, [], rfl, (fun h => absurd rfl h), rfl, (fun i h => absurd h (by simp)), (fun i j _ h => absurd h (by simp)), ⟨0, 0, fun h => absurd rfl h, fun i x hx => by cases hx⟩⟩
  · have hcell : ∀ i (h : i < ls.length), w.cell? ⟨g, i, none⟩ = some (slV (Ms[i]'(by rw [h1.n]; exact h)) ls[i]) := by
      intro i hi
      have hk := h1.o.cellAt i (by omega)
      rw [hk, List.getElem?_zipWith, List.getElem?_eq_getElem (by rw [h1.n]; exact hi), List.getElem?_eq_getElem hi]
    refine ⟨some ⟨g, 0, none⟩, g, cap, Ms, rfl, fun _ => rfl, h1.n, fun i hi => ?_, fun i j hij hj => ?_, ⟨g, 0, fun _ => rfl, fun i l hl => ?_⟩⟩
    · have hi' : i < Ms.length := by rw [h1.n]; exact hi
      obtain ⟨c1, c2, c3⟩ := h1.c i Ms[i] ls[i] (List.getElem?_eq_getElem hi') (List.getElem?_eq_getElem hi)
      refine ⟨hcell i hi, c3.1, fun e => ?_, c1, h2 _ (List.getElem_mem hi')⟩
      exact h1.b Ms[i] (List.getElem_mem hi') (by rw [e]; rfl)
    · exact h1.d i j _ _ hij (List.getElem?_eq_getElem (by rw [h1.n]; omega)) (List.getElem?_eq_getElem (by rw [h1.n]; omega))
    · obtain ⟨hi, rfl⟩ := List.getElem?_eq_some_iff.1 hl
      have hi' : i < Ms.length := by rw [h1.n]; exact hi
      obtain ⟨c1, c2, c3⟩ := h1.c i Ms[i] ls[i] (List.getElem?_eq_getElem hi') (List.getElem?_eq_getElem hi)
      exact ⟨_, _, by rw [Nat.zero_add]; exact hcell i hi, c3.at⟩
theorem resp_eq {ls : List (List Int)} {w : World} {lo hi lo' hi' : Nat} {v u : Value} (h : ResP ls w lo hi v) (h' : ResP ls w lo' hi' u) : Calls Tryd.prog 30 #[v, u] w fun e w' => e = .returned (.bool true) ∧ Below w.heap.size w w' := by
  obtain ⟨A, -, ca, -, rfl, -, -, -, -, hA⟩ := resp_open h
  obtain ⟨B, -, cb, -, rfl, -, -, -, -, hB⟩ := resp_open h'
  exact eqintss_any A B ls ca cb (by have := h.n; omega) (fun l hl => by have := h.m l hl; omega) w hA hB

/-- v's numbers are 1, 2 and so on up to y. -/
structure MkdP (ls : List (List Int)) (w : World) (lo hi : Nat) (v : Value) (y : Int) : Prop where
  n : ls.length ≤ 1000
  m : ∀ l ∈ ls, l.length ≤ 1000
  y : y = 1 + offs ls ls.length
  i : lo < hi
  c : ∃ (A : Option Addr) (g cap : Nat) (Ms : List Nat), v = .slice A ls.length cap ∧ (ls.length ≠ 0 → A = some ⟨g, 0, none⟩) ∧ ∃ hM : Ms.length = ls.length, ∀ i (h : i < ls.length), w.cell? ⟨g, i, none⟩ = some (slV (Ms[i]'(by omega)) ls[i]) ∧ ∀ t : Nat, t < ls[i].length → w.cell? ⟨Ms[i]'(by omega), t, none⟩ = some (.int .i64 (1 + offs ls i + t))
theorem mkdp_keep {ls : List (List Int)} {w w' : World} {lo hi : Nat} {v : Value} {y : Int} (h : MkdP ls w lo hi v y) (hb : Below w.heap.size w w') : MkdP ls w' lo hi v y := by
  obtain ⟨A, g, cap, Ms, h1, h2, hM, h3⟩ := h.c
  exact ⟨h.n, h.m, h.y, h.i, A, g, cap, Ms, h1, h2, hM, fun i hi => ⟨keep_cell hb (h3 i hi).1, fun t ht => keep_cell hb ((h3 i hi).2 t ht)⟩⟩
theorem resp_mark {ls : List (List Int)} {w : World} {lo hi : Nat} {v : Value} (h : ResP ls w lo hi v) (hlo : lo < hi) : Calls Tryd.prog 31 #[v, .int .i64 1] w fun e w' => (∃ y : Int, e = .returned (.int .i64 y) ∧ 0 ≤ y ∧ MkdP ls w' lo hi v y) ∧ Edit lo hi w w' := by
  obtain ⟨A, g, cap, Ms, rfl, h1, hM, h2, h3, -⟩ := resp_open h
  refine (markintss_any A ls cap g lo hi Ms hM h.n h.m h1 w h2 h3).mono ?_
  rintro e w' ⟨rfl, hc, he⟩
  exact ⟨⟨_, rfl, by omega, h.n, h.m, rfl, hlo, A, g, cap, Ms, rfl, h1, hM, hc⟩, he⟩
theorem mkdp_held {ls : List (List Int)} {w : World} {lo hi : Nat} {v : Value} {y : Int} (h : MkdP ls w lo hi v y) : Calls Tryd.prog 32 #[v, .int .i64 1] w fun e w' => e = .returned (.int .i64 y) ∧ Below w.heap.size w w' := by
  obtain ⟨A, g, cap, Ms, rfl, h1, hM, h2⟩ := h.c
  refine (heldintss_any A ls cap g Ms hM h.n h.m h1 w h2).mono ?_
  rintro e w' ⟨rfl, rfl⟩
  exact ⟨by rw [h.y], Below.refl _ _⟩

/-- the pairs -/
def waitsN (cl lk cd : Int) (rs : List (List OpD)) (s : StD) : List (List Int) := if goodSt cl lk cd rs s = true then wtTo rs s s.ts.length else []
theorem wtTo_two (rs : List (List OpD)) (s : StD) (k : Nat) : ∀ l ∈ wtTo rs s k, l.length ≤ 1000 := by
  intro l hl
  unfold wtTo at hl
  rw [List.mem_filterMap] at hl
  obtain ⟨n, -, hn⟩ := hl
  split at hn
  · split at hn
    · cases hn; simp
    · cases hn
  · cases hn
theorem waits_res (cl lk cd : Int) (rs : List (List OpD)) (hl : rs.length ≤ 1048576) (hls : ∀ l ∈ rs, l.length ≤ 1048576) (hr : ∀ l ∈ rs, ∀ o ∈ l, o.r < 9223372036854775808) (s : StD) (ho : s.ow.length ≤ 1048576) (hn : StNums s) :
    (∀ R cap T C O k1 k2 k3 w, RoutsAt w R rs → StAt w T C O s → Calls Tryd.prog 28 #[.agg #[.int .i64 cl, .int .i64 lk, .int .i64 cd, .slice R rs.length cap], .agg #[.slice T s.ts.length k1, .slice C s.cl.length k2, .slice O s.ow.length k3, .int .i64 s.ft]] w fun e w' => (∃ v, e = .returned (.tuple #[v, .bool (goodSt cl lk cd rs s)]) ∧ ResP (waitsN cl lk cd rs s) w' w.heap.size w'.heap.size v) ∧ Below w.heap.size w w') ∧
    (∀ R cap T C O k1 k2 k3 w, RoutsAt w R rs → StAt w T C O s → Forms w → Calls Tryd.prog 29 #[.agg #[.int .i64 cl, .int .i64 lk, .int .i64 cd, .slice R rs.length cap], .agg #[.slice T s.ts.length k1, .slice C s.cl.length k2, .slice O s.ow.length k3, .int .i64 s.ft]] w fun e w' => (∃ v, e = .returned (.tuple #[v, .bool (goodSt cl lk cd rs s)]) ∧ ResP (waitsN cl lk cd rs s) w' w.heap.size w'.heap.size v) ∧ Below w.heap.size w w') := by
  obtain ⟨hgs, hgi⟩ := goodst_both cl lk cd rs hl hls hr s ho
  unfold waitsN
  cases hg : goodSt cl lk cd rs s
  · rw [hg] at hgs hgi
    refine ⟨fun R cap T C O k1 k2 k3 w hR hS => ?_, fun R cap T C O k1 k2 k3 w hR hS hF => ?_⟩
    · have hb := stW_below w cl lk cd R rs.length cap T C O s.ts.length k1 s.cl.length k2 s.ow.length k3 s.ft
      refine (swaits_no cl lk cd R rs.length cap T C O _ k1 _ k2 _ k3 s.ft w (hgs R cap T C O k1 k2 k3 _ (hR.keep hb) (hS.keep hb))).mono ?_
      rintro e w' ⟨rfl, hb'⟩
      exact ⟨⟨_, rfl, resp_of (rowss_nil _ _) (by simp) (fun l hl => by cases hl)⟩, hb'⟩
    · have hb := stW_below w cl lk cd R rs.length cap T C O s.ts.length k1 s.cl.length k2 s.ow.length k3 s.ft
      refine (iwaits_no cl lk cd R rs.length cap T C O _ k1 _ k2 _ k3 s.ft w (hgi R cap T C O k1 k2 k3 _ (hR.keep hb) (hS.keep hb) (hF.below hb))).mono ?_
      rintro e w' ⟨rfl, hb'⟩
      exact ⟨⟨_, rfl, resp_of (rowss_nil _ _) (by simp) (fun l hl => by cases hl)⟩, hb'⟩
  · rw [hg] at hgs hgi
    obtain ⟨-, h5, -⟩ := goodst_facts hg
    have hlen := wtTo_len rs s s.ts.length
    rw [if_pos rfl]
    refine ⟨fun R cap T C O k1 k2 k3 w hR hS => (swaits_yes cl lk cd R rs cap s T C O k1 k2 k3 hg hn w hR hS hgs).mono ?_, fun R cap T C O k1 k2 k3 w hR hS hF => (iwaits_yes cl lk cd R rs cap s T C O k1 k2 k3 hg hn w hR hS hF hgi).mono ?_⟩
    all_goals
      rintro e w' ⟨⟨v, Ms, rfl, h⟩, hb⟩
      exact ⟨⟨v, rfl, resp_of h (by omega) (wtTo_two rs s _)⟩, hb⟩
end Go.Proofs.YtdifamjkbagfcaaDoor
