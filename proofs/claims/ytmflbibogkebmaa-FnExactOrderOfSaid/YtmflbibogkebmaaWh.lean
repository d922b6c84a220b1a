/- impl's pairs: the keys of a graph, rising. LockPairs: both sides. -/
import Derived.Test.YtmflbibogkebmaaWf
import Derived.Test.YtmflbibogkebmaaVr
import Derived.Maps.RangeWalk
import Derived.Test.YtmflbibogkebmaaUh
namespace Go.Proofs.Ytmflbibogkebmaa
open Go.RowKit Go.Maps
open Rd Fl

theorem LOwn.blk {α : Type} {f : α → Value} {w w' : World} {M : Nat} {l : List α} (h : LOwn f w M l) (e : w'.heap[M]? = w.heap[M]?) : LOwn f w' M l := by
  have k1 : ∀ o, w'.cell? ⟨M, o, none⟩ = w.cell? ⟨M, o, none⟩ := fun o => by unfold World.cell?; simp only; rw [e]
  have k2 : ∀ o, w'.frozen? ⟨M, o, none⟩ = w.frozen? ⟨M, o, none⟩ := fun o => by unfold World.frozen?; simp only; rw [e]
  exact ⟨fun j hj => by rw [k1, k2]; exact h.1 j hj, fun i x hx => (k1 i).trans (h.2 i x hx)⟩
theorem RowSS.low {ls : List (List Int)} {w w' : World} {lo : Nat} {v : Value} {Ms : List Nat} (h : RowSS ls w lo v Ms) {k : Nat} (hg : w.grownBy w' (some k)) (hk : k < lo) : RowSS ls w' lo v Ms := by
  refine ⟨h.n, h.o.kept hg ?_, fun i M x hM hx => ?_, h.d, h.b⟩
  · cases hb : v.ownBlock with
    | none => exact .inl rfl
    | some g => exact .inr (fun e => by have := own_base' h.o g hb; have := Option.some.inj e; omega)
  · obtain ⟨h1, h2, h3⟩ := h.c i M x hM hx
    have := hg.size
    exact ⟨h1, by omega, h3.blk (hg.block M h2 (fun e => by have := Option.some.inj e; omega))⟩
theorem kv_inj {p q : Int × Int} (h : kv p = kv q) : p = q := by
  unfold kv at h
  simp at h
  exact Prod.ext h.1 h.2
/-- The face of the sorted row. -/
theorem SortedP.res {w w' : World} {lo g cap : Nat} {Ms : List Nat} {ps : List (Int × Int)} {L : List (Nat × (Int × Int))} (s : SortedP w w' lo g cap Ms ps L) (h : RowSS (ps.map toL) w lo (.slice (some ⟨g, 0, none⟩) (ps.map toL).length cap) Ms) (hn : ps.length ≤ 40000) :
    ResQ ((L.map (·.2)).map toL) w' lo w'.heap.size (.slice (some ⟨g, 0, none⟩) ps.length cap) := by
  have hl : Ms.length = ps.length := by rw [h.n, List.length_map]
  have hLl : L.length = ps.length := by rw [s.p.length_eq, List.length_zip, hl, Nat.min_self]
  have hsz := s.g.size
  have hnd : (L.map (·.1)).Nodup := by
    rw [(s.p.map (·.1)).nodup_iff, List.map_fst_zip (by omega), List.nodup_iff_pairwise_ne, List.pairwise_iff_getElem]
    intro i j hi hj hij
    have := h.d i j _ _ hij (List.getElem?_eq_getElem hi) (List.getElem?_eq_getElem hj)
    omega
  have hg : lo ≤ g ∧ g < w'.heap.size := s.o.lt g rfl
  have hrow : ∀ x ∈ L, lo ≤ x.1 ∧ x.1 < w'.heap.size ∧ x.1 ≠ g ∧ LOwn iv w' x.1 (toL x.2) := by
    intro x hx
    have hx' := s.p.mem_iff.1 hx
    obtain ⟨i, hi⟩ := List.mem_iff_getElem?.1 hx'
    rw [List.getElem?_zip_eq_some] at hi
    obtain ⟨h1, h2⟩ := hi
    obtain ⟨c1, c2, c3⟩ := h.c i x.1 (toL x.2) h1 (by rw [List.getElem?_map, h2]; rfl)
    have hne : x.1 ≠ g := fun e => h.b x.1 (List.mem_of_getElem? h1) (by rw [e]; rfl)
    exact ⟨c1, by omega, hne, c3.blk (s.g.block x.1 c2 (fun e => hne (Option.some.inj e)))⟩
  refine ⟨⟨some ⟨g, 0, none⟩, g, cap, fun i => (L.getD i (0, (0, 0))).1, fun _ => 0, fun _ => 2, by simp [hLl], fun _ => ⟨rfl, hg⟩, fun i hi => ?_, fun i j hij hj => .inl ?_⟩, by simp [hLl]; exact hn, fun l hl => ?_⟩
  · have hi' : i < L.length := by simpa using hi
    have e1 : L.getD i (0, (0, 0)) = L[i] := by rw [List.getD_eq_getElem?_getD, List.getElem?_eq_getElem hi']; rfl
    have e2 : ((L.map (·.2)).map toL)[i] = toL L[i].2 := by simp
    simp only [e1, e2]
    obtain ⟨c1, c2, c3, c4⟩ := hrow L[i] (List.getElem_mem hi')
    have hk := s.o.cellAt i (by omega)
    rw [List.getElem?_map, List.getElem?_eq_getElem hi'] at hk
    exact ⟨hk, c4.1, c3, c1, c2, fun t x ht => by rw [Nat.zero_add]; exact c4.2 t x ht⟩
  · have hj' : j < L.length := by simpa using hj
    have e1 : L.getD i (0, (0, 0)) = L[i] := by rw [List.getD_eq_getElem?_getD, List.getElem?_eq_getElem (by omega)]; rfl
    have e2 : L.getD j (0, (0, 0)) = L[j] := by rw [List.getD_eq_getElem?_getD, List.getElem?_eq_getElem hj']; rfl
    simp only [e1, e2]
    have := List.pairwise_iff_getElem.1 (List.nodup_iff_pairwise_ne.1 hnd) i j (by simp; omega) (by simp; omega) hij
    simpa using this
  · obtain ⟨p, -, rfl⟩ := List.mem_map.1 hl
    simp [toL]

theorem resq_nilP (A : Option Addr) (cap lo hi : Nat) (w : World) : ResQ [] w lo hi (.slice A 0 cap) :=
  ⟨⟨A, 0, cap, fun _ => 0, fun _ => 0, fun _ => 0, rfl, (fun h => absurd rfl h), (fun i h => absurd h (by simp)), (fun i j _ h => absurd h (by simp))⟩, by simp, fun l h => by cases h⟩
set_option maxRecDepth 20000 in
set_option maxHeartbeats 4000000 in
theorem pairs_any (lo M n : Nat) (rows : Int × Int → Option Value) (us : List UnD) (hn : n ≤ 40000) (w : World) (hG : GrM w lo M n rows us) :
    Calls Try.prog 55 #[.map (some M)] w fun e w' => (∃ (v : Value) (ps : List (Int × Int)), e = .returned v ∧ ResQ (ps.map toL) w' w.heap.size w'.heap.size v ∧ ps.Pairwise pLt ∧ (∀ p, wfP p → (p ∈ ps ↔ grp us p ≠ [])) ∧ ∀ p ∈ ps, wfP p) ∧ Below w.heap.size w w' := by
  obtain ⟨D, hown, hf⟩ := hG.m
  obtain ⟨i0, hi, hz0, hz1, hz2⟩ := intsInfo
  have hbl := hown.lt
  have hsz := hown.size_le
  have HF := hide' hf
  have HH := hide' hG.has
  clear hf hG
  go_enter Try.func55, Try.ntmps55
  go_wp2_with (first
    | (at_range; refine wpList_range_own _ rfl _ 68 rfl 78 40 keyedA Try.underlying68 _ M n _ rfl hown ?_; intro w0 hrg0 hg0 hs0)
    | go_in)
  go_frame
  go_loopw [3] (fun v wr => ∃ (left : Lit → Bool) (cnt : Nat) (ps : List (Int × Int)) (Ms : List Nat), wr.ranges Try.prog 78 VR M w.heap.size n D left cnt ∧ ps.length + cnt ≤ n ∧
      Hid (RowSS (ps.map toL) wr (w.heap.size + 1) v Ms) ∧ Hid (CollP D left ps) ∧ Below w.heap.size w wr ∧ w.heap.size + 1 ≤ wr.heap.size)
    (fun _ wr => wr.rangeLeft M w.heap.size)
  case atStart =>
    exact ⟨_, _, [], [], hrg0, by simpa using hsz, rowss_nil _ _, CollP.start D, (Below.refl _ _).grown hg0 (Nat.le_refl _) (fun j hj => by cases hj), by omega⟩
  case round =>
    clear hrg0 hg0 hs0
    obtain ⟨left, cnt, ps, Ms, hrg, hcs, hrow, hC, hnx, hz⟩ := hrel
    go_wp2_with (first
      | (at_next; refine wpList_next_ranges _ rfl _ rfl 78 keyedA VR kv (fun v : Value => v) (fun key kl hk => by obtain ⟨x, hx, _⟩ := key_inv hk; exact ⟨x, hx⟩) (fun v y _ => ⟨v, rfl⟩) M w.heap.size n _ _ _ rfl hrg ?_ ?_)
      | go_in)
    · intro hc0 hl0
      have HK := hide' (show ∀ p, wfP p → (p ∈ ps ↔ (rows p).isSome = true) from fun p hp => hC.out.all hl0 HF.out hp)
      have HW := hide' hC.out.w
      have HN := hide' hC.out.n
      have HLN := hide' (show ps.length ≤ n by omega)
      rcases hrow.out.o.2 with ⟨rfl, h0⟩ | ⟨g, cap, cur, rfl, -⟩
      · have e0 : ps = [] := by simpa using h0
        subst e0
        clear hrow
        go_wp2_with (go_at_call 76; refine (Try.slices_SortFunc_none (α := Nat) none 0 _ _).mono ?_; rintro e w1 ⟨rfl, rfl⟩)
        go_ret
        exact ⟨⟨_, [], rfl, resq_nilP _ _ _ _ _, List.Pairwise.nil, (fun p hp => by rw [← HH.out p]; exact HK.out p hp), (fun p hp => by cases hp)⟩, hnx⟩
      · have HS := hide' (sortp_any hrow.out HN.out (by omega))
        have HR := hide' hrow.out
        have eL : (ps.map toL).length = ps.length := List.length_map _
        simp only [eL]
        clear hrow
        go_wp2_with (go_at_call 76; refine HS.out.mono ?_; rintro e w1 ⟨rfl, L, hs⟩)
        go_ret
        have hperm : (L.map (·.2)).Perm ps := by
          have := hs.p.map (·.2)
          rwa [List.map_snd_zip (by have := HR.out.n; rw [List.length_map] at this; omega)] at this
        exact ⟨⟨_, L.map (·.2), rfl, resq_less (hs.res HR.out (by have := HLN.out; omega)) (Nat.le_succ _), hs.r, (fun p hp => by rw [hperm.mem_iff, ← HH.out p]; exact HK.out p hp), (fun p hp => HW.out p (hperm.mem_iff.1 hp))⟩, hnx.grown hs.g hnx.size (fun j hj => by cases hj; have := hs.o.lt g rfl; omega)⟩
    · intro x1 x2 c kl0 yd yp w2 cnt2 hkey hlk hv hat hrg2 hlt hg2 hs2 hen
      obtain ⟨x', ex, rfl, hwx⟩ := key_inv hkey
      obtain rfl := kv_inj ex
      have HC2 := hide' (hC.out.step hwx hlk hat)
      have hrow2 := hide' ((hrow.out.low hg2 (Nat.lt_succ_self _)).keep ((Below.refl w2.heap.size w2).up (.cells #[.int .i64 x1, .int .i64 x2] 78)))
      have HZ2 := hide' (show w.heap.size + 1 ≤ (w2.alloc (.cells #[.int .i64 x1, .int .i64 x2] 78)).heap.size by have := hg2.size; simp; omega)
      have hlen : ps.length + 1 ≤ 40000 := by omega
      have HLL := hide' (show (ps.map toL).length + 1 ≤ 40000 by rw [List.length_map]; omega)
      clear hs2
      have E0 := hide' (show (w2.alloc (.cells #[.int .i64 x1, .int .i64 x2] 78)).cell? ⟨w2.heap.size, 0, none⟩ = some (.int .i64 x1) by simp)
      have E1 := hide' (show (w2.alloc (.cells #[.int .i64 x1, .int .i64 x2] 78)).cell? ⟨w2.heap.size, 1, none⟩ = some (.int .i64 x2) by simp)
      have HB2 := hide' (show Below w.heap.size w (w2.alloc (.cells #[.int .i64 x1, .int .i64 x2] 78)) from (hnx.grown hg2 hnx.size (fun j hj => by cases hj; exact Nat.le_refl _)).alloc (by have := hnx.size; have := hg2.size; omega) _)
      have HRG2 := hide' (hrg2.alloc (.cells #[.int .i64 x1, .int .i64 x2] 78))
      unfold kv at hen ⊢
      go_upto_region 5 with fail
      generalize (w2.alloc (.cells #[.int .i64 x1, .int .i64 x2] 78)) = W2 at *
      generalize w2.heap.size = N2 at *
      have e0 := E0.out
      have e1 := E1.out
      clear hrow
      go_wp2_with (first
        | (at_builtin; refine wpList_append_own_at _ rfl _ _ 34 rfl (w.heap.size + 1) 24 i0 (.slice none 0 0) 1 24 Try.underlying34 hi hz0 hz1 hz2 rfl (by decide) _ _ _ rfl ((hrow2.out.o.alloc _).alloc _) ⟨W2.heap.size + 1, 0, none⟩ 1 1 [slV W2.heap.size [x1, x2]] rfl rfl ?c1 ?c2 ?c3 ?c4 ?c5 ?_)
        | go_in)
      case c1 =>
        intro j u hj
        match j, hj with
        | 0, hj => simp at hj; subst hj; simp [slV]
      case c2 => first | rfl | (intro u hu; simp at hu; subst hu; rfl)
      case c3 => unfold maxLen; have := HLL.out; rw [List.length_map] at this; omega
      case c4 => have := HLL.out; rw [List.length_map] at this; omega
      case c5 => have := HZ2.out; simp; omega
      intro v' w3 hown3 hgrow _ hblk
      have hb3 := own_base' hrow2.out.o
      have R3 := hide' (show RowSS ((ps ++ [(x1, x2)]).map toL) w3 (w.heap.size + 1) v' (Ms ++ [W2.heap.size]) from by
        have h := hrow2.out.snoc x1 x2 HZ2.out (by rw [List.length_map]; exact hown3) hgrow hblk
        rw [List.map_append]; exact h)
      have hrg3 := ((HRG2.out.alloc (.cells #[.int .i64 x1, .int .i64 x2] 3)).alloc (.cells #[.slice (some ⟨W2.heap.size, 0, none⟩) 2 2] 24)).kept hgrow (fun e => by have := hb3 M e.symm; omega) (fun e => by have := hb3 _ e.symm; omega)
      have B3 := hide' ((((HB2.out).alloc (by have := HZ2.out; omega) (.cells #[.int .i64 x1, .int .i64 x2] 3)).alloc (by have := HZ2.out; simp; omega) (.cells #[.slice (some ⟨W2.heap.size, 0, none⟩) 2 2] 24)).grown hgrow (by have := HZ2.out; simp; omega) (fun j hj => by have := hb3 j hj; omega))
      have Z3 := hide' (show w.heap.size + 1 ≤ w3.heap.size by have := HZ2.out; have := hgrow.size; simp at this; omega)
      clear hown3 hgrow hblk
      go_wp2_with fail
      go_roundw
      case rel => exact ⟨_, cnt2, ps ++ [(x1, x2)], _, hrg3, by simp; omega, R3.out, HC2.out, B3.out, Z3.out⟩
      case measure => rw [hrg3.left_eq, hrg.left_eq]; exact hlt
end Go.Proofs.Ytmflbibogkebmaa
namespace Go.Proofs.Ytmflbibogkebmaa
open Go.RowKit Go.Maps
open Rd Fl

def pairsP (us : List UnD) (n : Nat) : List (Int × Int) := (List.range n).flatMap fun (a : Nat) => (toN us (a : Int)).map fun (b : Int) => ((a : Int), b)
theorem pairsP_succ (us : List UnD) (n : Nat) : pairsP us (n + 1) = pairsP us n ++ (toN us (n : Int)).map fun b => ((n : Int), b) := by
  unfold pairsP; rw [List.range_succ, List.flatMap_append]; simp
theorem pairsP_map (us : List UnD) : ∀ n, (pairsP us n).map toL = pairsTo us n
  | 0 => rfl
  | n + 1 => by
    rw [pairsP_succ, List.map_append, pairsP_map us n, pairsTo_succ, List.map_map]
    rfl
theorem pairsP_mem (us : List UnD) : ∀ (n : Nat) (p : Int × Int), p ∈ pairsP us n ↔ (0 ≤ p.1 ∧ p.1 < n) ∧ p.2 ∈ toN us p.1
  | 0, p => by simp [pairsP]; omega
  | n + 1, p => by
    rw [pairsP_succ, List.mem_append, pairsP_mem us n p, List.mem_map]
    constructor
    · rintro (⟨h1, h2⟩ | ⟨b, hb, rfl⟩)
      · exact ⟨by omega, h2⟩
      · exact ⟨by simp only; omega, hb⟩
    · rintro ⟨h1, h2⟩
      by_cases e : p.1 = n
      · exact .inr ⟨p.2, by rw [← e]; exact h2, Prod.ext e.symm rfl⟩
      · exact .inl ⟨by omega, h2⟩
theorem pairsP_rises (us : List UnD) : ∀ n, (pairsP us n).Pairwise pLt
  | 0 => List.Pairwise.nil
  | n + 1 => by
    rw [pairsP_succ, List.pairwise_append]
    refine ⟨pairsP_rises us n, ?_, ?_⟩
    · rw [List.pairwise_map]
      exact (toM_rises us (n : Int) us.length).imp fun h => .inr ⟨rfl, h⟩
    · intro p hp q hq
      obtain ⟨b, -, rfl⟩ := List.mem_map.1 hq
      have := (pairsP_mem us n p).1 hp
      exact .inl (by simp only; omega)
theorem grp_has {us : List UnD} {p : Int × Int} : grp us p ≠ [] ↔ ∃ u ∈ us, ends u = p := by
  unfold grp
  constructor
  · intro h
    obtain ⟨u, hu⟩ := List.exists_mem_of_ne_nil _ h
    rw [List.mem_filter, decide_eq_true_iff] at hu
    exact ⟨u, hu.1, hu.2⟩
  · rintro ⟨u, hu, e⟩ h
    have : u ∈ us.filter fun u => decide (ends u = p) := List.mem_filter.2 ⟨hu, decide_eq_true e⟩
    rw [h] at this
    cases this
theorem pLt_ne {l : List (Int × Int)} (h : l.Pairwise pLt) : l.Nodup := List.nodup_iff_pairwise_ne.2 (h.imp fun h1 e => by rw [e] at h1; exact pLt_asym h1 h1)
/-- One rising list has these pairs. -/
theorem pairs_same {us : List UnD} (hin : ∀ u ∈ us, (0 ≤ u.hd ∧ u.hd ≤ 99) ∧ (0 ≤ u.tkn ∧ u.tkn ≤ 99)) {ps : List (Int × Int)} (hp : ps.Pairwise pLt) (hm : ∀ p, wfP p → (p ∈ ps ↔ grp us p ≠ [])) (hw : ∀ p ∈ ps, wfP p) : ps.map toL = pairsTo us 100 := by
  rw [← pairsP_map]
  congr 1
  refine List.Perm.eq_of_pairwise (le := pLt) (fun a b _ _ h1 h2 => (pLt_asym h1 h2).elim) hp (pairsP_rises us 100) ((List.perm_ext_iff_of_nodup (pLt_ne hp) (pLt_ne (pairsP_rises us 100))).2 fun p => ?_)
  have h1 : p ∈ pairsP us 100 ↔ ∃ u ∈ us, ends u = p := by
    rw [pairsP_mem]
    unfold toN
    rw [toM_mem]
    constructor
    · rintro ⟨-, k, u, -, h2, h3, h4⟩
      exact ⟨u, List.mem_of_getElem? h2, Prod.ext h3 h4⟩
    · rintro ⟨u, hu, rfl⟩
      have := hin u hu
      obtain ⟨k, hk⟩ := List.mem_iff_getElem?.1 hu
      exact ⟨by simp only [ends]; omega, k, u, (List.getElem?_eq_some_iff.1 hk).1, hk, rfl, rfl⟩
  rw [h1, ← grp_has]
  constructor
  · intro h; exact (hm p (hw p h)).1 h
  · intro h
    refine (hm p ?_).2 h
    obtain ⟨u, hu, rfl⟩ := grp_has.1 h
    have := hin u hu
    exact ⟨wfI_small (by simp only [ends]; omega) (by simp only [ends]; omega), wfI_small (by simp only [ends]; omega) (by simp only [ends]; omega)⟩
theorem undersN_in (l : List EvD) : ∀ u ∈ undersN l, (0 ≤ u.hd ∧ u.hd ≤ 99) ∧ (0 ≤ u.tkn ∧ u.tkn ≤ 99) := by
  unfold undersN
  split
  · rename_i h; exact undTo_in h _ (Nat.le_refl _)
  · intro u hu; cases hu
theorem ends_wf {us : List UnD} (hin : ∀ u ∈ us, (0 ≤ u.hd ∧ u.hd ≤ 99) ∧ (0 ≤ u.tkn ∧ u.tkn ≤ 99)) : ∀ u ∈ us, wfP (ends u) := fun u hu => by
  have := hin u hu
  exact ⟨wfI_small (by simp only [ends]; omega) (by simp only [ends]; omega), wfI_small (by simp only [ends]; omega) (by simp only [ends]; omega)⟩

set_option maxRecDepth 20000 in
set_option maxHeartbeats 4000000 in
theorem lockgraph_any (A : Option Addr) (us : List UnD) (cap : Nat) (hl : us.length ≤ 50000) (hw : ∀ u ∈ us, wfP (ends u)) (w : World) (hA : UnsAt w A us) :
    Calls Try.prog 54 #[.slice A us.length cap] w fun e w' => (∃ n rows, e = .returned (.map (some w.heap.size)) ∧ n ≤ us.length ∧ GrM w' (w.heap.size + 1) w.heap.size n rows us) ∧ Below w.heap.size w w' := by
  have HG := hide' (graphof_any A us cap hl hw w hA)
  clear hA hw
  go_enter Try.func54, Try.ntmps54
  go_wp2_with (go_at_call 74; refine HG.out.mono ?_; rintro e w1 ⟨⟨n, rows, rfl, h1, h2⟩, hb⟩)
  go_ret
  exact ⟨⟨n, rows, rfl, h1, h2⟩, hb⟩

set_option maxRecDepth 20000 in
set_option maxHeartbeats 4000000 in
theorem ilpairs_any (hsort : SortSays) (hnil : SortNil) (A : Option Addr) (l : List EvD) (cap : Nat) (hcap : l.length ≤ cap) (hl : l.length ≤ 1048576) (w : World) (hA : EvsAt w A l) :
    Calls Try.prog 29 #[.slice A l.length cap] w fun e w' => (∃ v, e = .returned (.tuple #[v, .bool (goodTr l)]) ∧ ResQ (pairsN l) w' w.heap.size w'.heap.size v) ∧ Below w.heap.size w w' := by
  have HU := hide' (iunders_any hsort hnil A l cap hcap hl w hA)
  have HL := hide' (undersN_len l)
  have HIN := hide' (undersN_in l)
  unfold pairsN
  generalize undersN l = us at *
  clear hA hsort hnil
  go_enter Try.func29, Try.ntmps29
  go_wp2_with (first
    | (go_at_call 24; refine HU.out.mono ?_; rintro e w1 ⟨⟨v1, rfl, hr1⟩, hb1⟩; obtain ⟨A1, M1, cap1, rfl, -, -, -, hA1⟩ := resu_open hr1; have HA1 := hide' hA1)
    | (go_at_call 54; refine (lockgraph_any _ us _ (by have := HL.out; omega) (ends_wf HIN.out) _ HA1.out).mono ?_; rintro e w2 ⟨⟨n, rows, rfl, hn2, hg2⟩, hb2⟩)
    | (go_at_call 55; refine (pairs_any _ _ n rows us (by have := HL.out; omega) _ hg2).mono ?_; rintro e w3 ⟨⟨v3, ps, rfl, hr3, hp3, hm3, hw3⟩, hb3⟩))
  go_ret2
  have e := pairs_same HIN.out hp3 hm3 hw3
  rw [e] at hr3
  exact ⟨⟨_, rfl, resq_less hr3 (Nat.le_trans hb1.size hb2.size)⟩, hb1.trans ((hb2.trans (hb3.mono hb2.size)).mono hb1.size)⟩

set_option maxRecDepth 20000 in
set_option maxHeartbeats 4000000 in
theorem slpairs_any (A : Option Addr) (l : List EvD) (cap : Nat) (hcap : l.length ≤ cap) (hl : l.length ≤ 1048576) (w : World) (hA : EvsAt w A l) :
    Calls Try.prog 28 #[.slice A l.length cap] w fun e w' => (∃ v, e = .returned (.tuple #[v, .bool (goodTr l)]) ∧ ResQ (pairsN l) w' w.heap.size w'.heap.size v) ∧ Below w.heap.size w w' := by
  have HG := hide' (l6trace_any A l cap hl w hA)
  cases hg : goodTr l
  · have hu : pairsN l = [] := by unfold pairsN undersN; rw [if_neg (by rw [hg]; simp)]; rw [← pairsP_map]; rw [List.map_eq_nil_iff, List.eq_nil_iff_forall_not_mem]; intro p hp; have := (pairsP_mem _ _ _).1 hp; have := this.2; unfold toN at this; rw [toM_mem] at this; obtain ⟨k, u, h1, h2, -⟩ := this; simp at h2
    rw [hu]
    rw [hg] at HG
    clear hg hA hu
    go_enter Try.func28, Try.ntmps28
    go_wp2_with (go_at_call 34; refine HG.out.mono ?_; rintro e w1 ⟨rfl, hb1⟩)
    go_ret2
    exact ⟨⟨_, rfl, resq_nilP _ _ _ _ _⟩, hb1⟩
  · have hu : pairsN l = pairsTo (undTo l l.length) 100 := by unfold pairsN undersN; rw [if_pos hg]
    have HP := hide' (fun w1 (hb : Below w.heap.size w w1) => l8pairs_any A l cap hcap hg w1 (hA.keep hb))
    have HIN := hide' (undTo_in hg l.length (Nat.le_refl _))
    rw [hg] at HG
    rw [hu]
    generalize undTo l l.length = us at *
    clear hg hA hu
    go_enter Try.func28, Try.ntmps28
    go_wp2_with (first
      | (go_at_call 34; refine HG.out.mono ?_; rintro e w1 ⟨rfl, hb1⟩)
      | (go_at_call 53; refine (HP.out _ hb1).mono ?_; rintro e w2 ⟨v2, Ms, rfl, hr2⟩))
    go_ret2
    have hlen := pairsTo_len HIN.out 100
    exact ⟨⟨_, rfl, resq_less (resq_rowss hr2.r (by omega) (fun x hx => by rw [← pairsP_map] at hx; obtain ⟨p, -, rfl⟩ := List.mem_map.1 hx; simp [toL])) hb1.size⟩, hb1.trans (hr2.b.mono hb1.size)⟩
end Go.Proofs.Ytmflbibogkebmaa
