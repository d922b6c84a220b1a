/- Pairs in an order; the library's sort at rows of pairs. A row of pairs, sorted. -/
import Derived.Test.YtmflbibogkebmaaWd
import Derived.Test.YtmflbibogkebmaaUg
import Derived.Test.YtmflbibogkebmaaShelfG
import Derived.Sort.OwnSorted
namespace Go.Proofs.Ytmflbibogkebmaa
open Go.RowKit Go.Maps Go.Sort Go.Shelf
open Rd Fl

section
variable {α : Type} [Inhabited α] (enc : α → Value)
theorem heap_sortedG {w : World} {g n : Nat} {os : Array Obj} {cur : Array Value} {e : TypeId} {fr : Nat × Nat} (d : Array α) (hb : w.heap[g]? = some (.cells cur e fr)) :
    (grow (putRow enc (Sort.ahead w n) g 0 d) os).heap[g]? = some (.cells (putCells enc 0 d cur) e fr) := by
  have hg : g < w.heap.size := (Array.getElem?_eq_some_iff.1 hb).1
  rw [heap_grow_old _ _ (by simpa using hg)]
  simp [putRow, mapBlock, Sort.ahead, Array.getElem?_modify, hb, onCells]
theorem grownBy_sortedG {w : World} {g n : Nat} {os : Array Obj} (d : Array α) : w.grownBy (grow (putRow enc (Sort.ahead w n) g 0 d) os) (some g) := by
  refine ⟨rfl, rfl, rfl, by simp, fun k hk hne => ?_⟩
  rw [heap_grow_old _ _ (by simpa using hk)]
  have : g ≠ k := fun e => hne (by rw [e])
  simp [putRow, mapBlock, Sort.ahead, Array.getElem?_modify, this]
theorem take_putCellsG (cur : Array Value) (ts : List α) (h : ts.length ≤ cur.size) : (putCells enc 0 ts.toArray cur).toList.take ts.length = ts.map enc := by
  apply List.ext_getElem?
  intro j
  by_cases hj : j < ts.length
  · rw [List.getElem?_take_of_lt hj, Array.getElem?_toList]
    simp [putCells, hj, show j < cur.size by omega]
  · rw [List.getElem?_take_eq_none (by omega), List.getElem?_eq_none (by simp; omega)]
theorem ownsRow_sortedG {w : World} {base g cap n m : Nat} {e : TypeId} {os : Array Obj} {cur : Array Value} {ts : List α} (hl : ts.length = m) (hbase : base ≤ g) (hb : w.heap[g]? = some (.cells cur e (0, 0)))
    (h1 : m ≤ cap) (h2 : cap ≤ maxLen) (h3 : cur.size = cap * 1) :
    (grow (putRow enc (Sort.ahead w n) g 0 ts.toArray) os).ownsRow base e 1 (.slice (some ⟨g, 0, none⟩) m cap) m (ts.map enc) :=
  ⟨by simp [hl], .inr ⟨g, cap, _, rfl, hbase, heap_sortedG enc _ hb, h1, h2, by simp [putCells, h3], by rw [Nat.mul_one, ← hl]; exact take_putCellsG enc cur ts (by omega)⟩⟩
theorem holdsG {w : World} {g : Nat} {e : TypeId} {cur : Array Value} {l : List α} (hb : w.heap[g]? = some (.cells cur e (0, 0))) (ht : cur.toList.take (l.length * 1) = l.map enc) : Sort.Holds enc w g 0 l.toArray := by
  intro j hj
  have hj' : j < l.length := by simpa using hj
  refine ⟨?_, by simp [World.frozen?, hb]⟩
  have h1 : (cur.toList.take (l.length * 1))[j]? = (l.map enc)[j]? := by rw [ht]
  rw [List.getElem?_take_of_lt (by omega)] at h1
  simp only [World.cell?, hb, Nat.zero_add]
  simp only [Option.isSome_none, Bool.false_eq_true, if_false]
  rw [← Array.getElem?_toList, h1]
  simp [hj']
end

/-- the order of pairs: the first unlike number decides -/
def pLt (p q : Int × Int) : Prop := p.1 < q.1 ∨ (p.1 = q.1 ∧ p.2 < q.2)
def pCmp (p q : Int × Int) : Int := if Lib.compareInt p.1 q.1 = 0 then Lib.compareInt p.2 q.2 else Lib.compareInt p.1 q.1
theorem cmpI_cases (x y : Int) : (Lib.compareInt x y = -1 ∧ x < y) ∨ (Lib.compareInt x y = 0 ∧ x = y) ∨ (Lib.compareInt x y = 1 ∧ y < x) := by
  unfold Lib.compareInt
  by_cases h1 : x < y
  · left; simp [h1]
  · by_cases h2 : y < x
    · right; right; simp [h1, h2]
    · right; left; simp [h1, h2]; omega
theorem pCmp_lt {p q : Int × Int} : pCmp p q < 0 ↔ pLt p q := by
  unfold pCmp pLt
  have h1 := cmpI_cases p.1 q.1
  have h2 := cmpI_cases p.2 q.2
  split <;> omega
theorem pLt_tri {p q : Int × Int} (h1 : ¬ pLt p q) (h2 : ¬ pLt q p) : p = q := by
  unfold pLt at h1 h2
  exact Prod.ext (by omega) (by omega)
theorem pLt_asym {p q : Int × Int} (h1 : pLt p q) (h2 : pLt q p) : False := by
  unfold pLt at h1 h2; omega

/-- a row of two numbers in a block of its own, apart from block g -/
abbrev PE (w : World) (g : Nat) : Type := { x : Nat × (Int × Int) // x.1 ≠ g ∧ x.1 < w.heap.size ∧ w.cell? ⟨x.1, 0, none⟩ = some (iv x.2.1) ∧ w.cell? ⟨x.1, 1, none⟩ = some (iv x.2.2) }
def encP {w : World} {g : Nat} (x : PE w g) : Value := .slice (some ⟨x.1.1, 0, none⟩) 2 2
theorem swoP (w : World) (g : Nat) : SWO (ltOf fun x y : PE w g => pCmp x.1.2 y.1.2) where
  irrefl x := by
    have : ¬ pLt x.1.2 x.1.2 := by unfold pLt; omega
    simp [ltOf, pCmp_lt, this]
  trans x y z h1 h2 := by
    simp only [ltOf, decide_eq_true_eq, pCmp_lt] at *
    unfold pLt at *; omega
  ntrans x y z h1 h2 := by
    simp only [ltOf, decide_eq_false_iff_not, pCmp_lt] at *
    unfold pLt at *; omega

set_option maxRecDepth 20000 in
set_option maxHeartbeats 4000000 in
theorem compare_any (M N : Nat) (a b c d : Int) (w : World) (h0 : w.cell? ⟨M, 0, none⟩ = some (iv a)) (h1 : w.cell? ⟨M, 1, none⟩ = some (iv b)) (h2 : w.cell? ⟨N, 0, none⟩ = some (iv c)) (h3 : w.cell? ⟨N, 1, none⟩ = some (iv d)) :
    Calls Try.prog 77 #[.slice (some ⟨M, 0, none⟩) 2 2, .slice (some ⟨N, 0, none⟩) 2 2] w fun e w' => e = .returned (.int .i64 (pCmp (a, b) (c, d))) ∧ w' = w := by
  unfold iv at h0 h1 h2 h3
  have HC := hide' (fun x y w => Try.cmp_Compare_int x y w)
  have e0 := cmpI_cases a c
  have e1 := cmpI_cases b d
  have hr : pCmp (a, b) (c, d) = if Lib.compareInt a c = 0 then Lib.compareInt b d else Lib.compareInt a c := rfl
  generalize pCmp (a, b) (c, d) = r at *
  generalize hac : Lib.compareInt a c = x at *
  generalize hbd : Lib.compareInt b d = y at *
  have HAC := hide' hac
  have HBD := hide' hbd
  have HR := hide' hr
  clear hac hbd hr
  go_enter Try.func77, Try.ntmps77
  go_wp2_with fail
  go_loopw [11] (fun i wr => wr = w ∧ ((i = .int .i64 0) ∨ (i = .int .i64 1 ∧ x = 0) ∨ (i = .int .i64 2 ∧ x = 0 ∧ y = 0))) (fun i _ => 2 - (intOf i).toNat)
  case atStart => exact ⟨rfl, .inl rfl⟩
  case round =>
    obtain ⟨rfl, hi⟩ := hrel
    rcases hi with rfl | ⟨rfl, rfl⟩ | ⟨rfl, rfl, rfl⟩
    · rcases e0 with ⟨rfl, -⟩ | ⟨rfl, -⟩ | ⟨rfl, -⟩
      · go_wp2_with (go_at_call 93; refine (HC.out _ _ _).mono ?_; rw [HAC.out]; rintro e w' ⟨rfl, rfl⟩)
        go_ret
        exact ⟨by rw [HR.out]; rfl, rfl⟩
      · go_wp2_with (go_at_call 93; refine (HC.out _ _ _).mono ?_; rw [HAC.out]; rintro e w' ⟨rfl, rfl⟩)
        go_roundw
        case rel => simp
        case measure => simp [intOf]
      · go_wp2_with (go_at_call 93; refine (HC.out _ _ _).mono ?_; rw [HAC.out]; rintro e w' ⟨rfl, rfl⟩)
        go_ret
        exact ⟨by rw [HR.out]; rfl, rfl⟩
    · rcases e1 with ⟨rfl, -⟩ | ⟨rfl, -⟩ | ⟨rfl, -⟩
      · go_wp2_with (go_at_call 93; refine (HC.out _ _ _).mono ?_; rw [HBD.out]; rintro e w' ⟨rfl, rfl⟩)
        go_ret
        exact ⟨by rw [HR.out]; rfl, rfl⟩
      · go_wp2_with (go_at_call 93; refine (HC.out _ _ _).mono ?_; rw [HBD.out]; rintro e w' ⟨rfl, rfl⟩)
        go_roundw
        case rel => simp
        case measure => simp [intOf]
      · go_wp2_with (go_at_call 93; refine (HC.out _ _ _).mono ?_; rw [HBD.out]; rintro e w' ⟨rfl, rfl⟩)
        go_ret
        exact ⟨by rw [HR.out]; rfl, rfl⟩
    · go_wp2_with fail
      go_ret
      exact ⟨by rw [HR.out]; rfl, rfl⟩
end Go.Proofs.Ytmflbibogkebmaa
namespace Go.Proofs.Ytmflbibogkebmaa
open Go.RowKit Go.Maps Go.Sort Go.Shelf
open Rd Fl

def toL (p : Int × Int) : List Int := [p.1, p.2]
def slP (x : Nat × (Int × Int)) : Value := .slice (some ⟨x.1, 0, none⟩) 2 2
theorem zip_slP : ∀ (Ms : List Nat) (ps : List (Int × Int)), List.zipWith slV Ms (ps.map toL) = (Ms.zip ps).map slP
  | [], _ => by simp
  | _ :: _, [] => by simp
  | M :: Ms, p :: ps => by
    simp only [List.map_cons, List.zipWith_cons_cons, List.zip_cons_cons]
    rw [zip_slP Ms ps]
    rfl
/-- what the sort leaves: the row's cells in another order, the pairs rising -/
structure SortedP (w w' : World) (lo g cap : Nat) (Ms : List Nat) (ps : List (Int × Int)) (L : List (Nat × (Int × Int))) : Prop where
  p : L.Perm (Ms.zip ps)
  r : (L.map (·.2)).Pairwise pLt
  o : w'.ownsRow lo 24 1 (.slice (some ⟨g, 0, none⟩) ps.length cap) ps.length (L.map slP)
  g : w.grownBy w' (some g)

theorem lift_pe {w : World} {g : Nat} : ∀ L : List (Nat × (Int × Int)), (∀ x ∈ L, x.1 ≠ g ∧ x.1 < w.heap.size ∧ w.cell? ⟨x.1, 0, none⟩ = some (iv x.2.1) ∧ w.cell? ⟨x.1, 1, none⟩ = some (iv x.2.2)) → ∃ D : List (PE w g), D.map (fun x => x.1) = L
  | [], _ => ⟨[], rfl⟩
  | x :: L, h => by
    obtain ⟨D, hD⟩ := lift_pe L (fun y hy => h y (List.mem_cons_of_mem _ hy))
    exact ⟨⟨x, h x (List.mem_cons_self ..)⟩ :: D, by rw [List.map_cons, hD]⟩
theorem sortp_any {ps : List (Int × Int)} {w : World} {lo g cap : Nat} {Ms : List Nat} (h : RowSS (ps.map toL) w lo (.slice (some ⟨g, 0, none⟩) (ps.map toL).length cap) Ms) (hn : ps.Nodup) (hlen : ps.length ≤ 50000) :
    Calls Try.prog 76 #[.slice (some ⟨g, 0, none⟩) ps.length cap, .func (.func 77) #[] #[]] w fun e w' => e = .returned (.tuple #[]) ∧ ∃ L, SortedP w w' lo g cap Ms ps L := by
  have hl : Ms.length = ps.length := by rw [h.n, List.length_map]
  have ho := h.o
  rw [List.length_map, zip_slP] at ho
  obtain ⟨cur, hb, hgg, q1, q2, q3, q4⟩ : ∃ cur, lo ≤ g ∧ w.heap[g]? = some (.cells cur 24 (0, 0)) ∧ ps.length ≤ cap ∧ cap ≤ maxLen ∧ cur.size = cap * 1 ∧ cur.toList.take (ps.length * 1) = (Ms.zip ps).map slP := by
    rcases ho.2 with ⟨e, -⟩ | ⟨g', cap', cur, e, hb, hg, r1, r2, r3, r4⟩
    · cases e
    · cases e; exact ⟨cur, hb, hg, r1, r2, r3, r4⟩
  have hgl : g < w.heap.size := (Array.getElem?_eq_some_iff.1 hgg).1
  have hP : ∀ x ∈ Ms.zip ps, x.1 ≠ g ∧ x.1 < w.heap.size ∧ w.cell? ⟨x.1, 0, none⟩ = some (iv x.2.1) ∧ w.cell? ⟨x.1, 1, none⟩ = some (iv x.2.2) := by
    intro x hx
    obtain ⟨i, hi⟩ := List.mem_iff_getElem?.1 hx
    rw [List.getElem?_zip_eq_some] at hi
    obtain ⟨h1, h2⟩ := hi
    obtain ⟨c1, c2, c3⟩ := h.c i x.1 (toL x.2) h1 (by rw [List.getElem?_map, h2]; rfl)
    exact ⟨fun e => h.b x.1 (List.mem_of_getElem? h1) (by rw [e]; rfl), c2, c3.2 0 x.2.1 rfl, c3.2 1 x.2.2 rfl⟩
  have hzl : (Ms.zip ps).length = ps.length := by rw [List.length_zip, hl, Nat.min_self]
  by_cases h0 : ps = []
  · subst h0
    have hz : Ms = [] := List.length_eq_zero_iff.1 hl
    subst hz
    refine (Try.slices_SortFunc_none (α := Nat) (some ⟨g, 0, none⟩) cap _ w).mono ?_
    rintro e w' ⟨rfl, rfl⟩
    exact ⟨rfl, [], .refl _, List.Pairwise.nil, ho, World.grownBy.refl _ _⟩
  · obtain ⟨x0, hx0⟩ : ∃ x, x ∈ Ms.zip ps := by
      cases hz : Ms.zip ps with
      | nil => rw [hz] at hzl; exact absurd (List.length_eq_zero_iff.1 hzl.symm) h0
      | cons a t => exact ⟨a, List.mem_cons_self ..⟩
    letI : Inhabited (PE w g) := ⟨⟨x0, hP x0 hx0⟩⟩
    obtain ⟨D, hD⟩ := lift_pe (Ms.zip ps) hP
    have hDl : D.length = ps.length := by rw [← hzl, ← hD, List.length_map]
    have hDe : D.map (encP (w := w) (g := g)) = (Ms.zip ps).map slP := by rw [← hD, List.map_map]; rfl
    have hH : Holds (encP (w := w) (g := g)) w g 0 D.toArray := holdsG _ hgg (by rw [hDl, q4, hDe])
    have hcmp : CmpReads Try.prog 77 #[] (encP (w := w) (g := g)) (fun x y => pCmp x.1.2 y.1.2) g 0 D.toArray.size w := by
      intro m os dk _ x y
      have hgb : w.grownBy (sortWorld (encP (w := w) (g := g)) w g 0 m dk os) (some g) := grownBy_sortedG _ _
      have hk : ∀ (z : PE w g) o, (sortWorld (encP (w := w) (g := g)) w g 0 m dk os).cell? ⟨z.1.1, o, none⟩ = w.cell? ⟨z.1.1, o, none⟩ := fun z o => by
        have := hgb.block z.1.1 z.2.2.1 (fun e => z.2.1 (Option.some.inj e))
        unfold World.cell?; simp only; rw [this]
      refine (compare_any x.1.1 y.1.1 x.1.2.1 x.1.2.2 y.1.2.1 y.1.2.2 _ ((hk x 0).trans x.2.2.2.1) ((hk x 1).trans x.2.2.2.2) ((hk y 0).trans y.2.2.2.1) ((hk y 1).trans y.2.2.2.2)).mono ?_
      rintro e w' ⟨rfl, rfl⟩
      exact ⟨rfl, 0, rfl⟩
    have hS := Try.slices_SortFunc (encP (w := w) (g := g)) (fun _ => rfl) (fun x y => pCmp x.1.2 y.1.2) (swoP w g) 77 #[] g 0 cap D.toArray w (enters_of Try.func77 (by kernel_rfl) rfl) hcmp.lays hH hgl (by simp; omega)
    rw [show D.toArray.size = ps.length by simp [hDl]] at hS
    refine hS.mono ?_
    rintro e w' ⟨rfl, d', n, os, hp, hs, rfl⟩
    have hperm : d'.toList.Perm D := by
      have := hp.2.2
      have e1 : d'.size = ps.length := by rw [hp.1]; simp [hDl]
      rw [show d'.extract 0 ps.length = d' from by rw [← e1]; simp, show D.toArray.extract 0 ps.length = D.toArray from by rw [← hDl]; simp] at this
      exact this
    have hdl : d'.toList.length = ps.length := by rw [hperm.length_eq, hDl]
    have hLp : (d'.toList.map (fun x => (x.1 : Nat × (Int × Int)))).Perm (Ms.zip ps) := by rw [← hD]; exact hperm.map _
    have hsnd : ((Ms.zip ps).map (·.2)) = ps := by rw [List.map_snd_zip (by omega)]
    have hnd : ((d'.toList.map (fun x => (x.1 : Nat × (Int × Int)))).map (·.2)).Nodup := by
      rw [(hLp.map (·.2)).nodup_iff, hsnd]; exact hn
    refine ⟨rfl, d'.toList.map (fun x => (x.1 : Nat × (Int × Int))), hLp, ?_, ?_, grownBy_sortedG _ _⟩
    · rw [List.pairwise_iff_getElem]
      intro i j hi hj hij
      have hne : ((d'.toList.map (fun x => (x.1 : Nat × (Int × Int)))).map (·.2))[i] ≠ ((d'.toList.map (fun x => (x.1 : Nat × (Int × Int)))).map (·.2))[j] := List.pairwise_iff_getElem.1 (List.nodup_iff_pairwise_ne.1 hnd) i j hi hj hij
      simp only [List.length_map] at hi hj
      have hs1 := hs i j (Nat.zero_le _) hij (by rw [← hdl]; exact hj)
      have hi' : i < d'.size := by simpa using hi
      have hj' : j < d'.size := by simpa using hj
      rw [getElem!_pos d' i hi', getElem!_pos d' j hj'] at hs1
      simp only [ltOf, decide_eq_false_iff_not, pCmp_lt] at hs1
      simp only [List.getElem_map, Array.getElem_toList] at hne ⊢
      by_cases hlt : pLt d'[i].1.2 d'[j].1.2
      · exact hlt
      · exact absurd (pLt_tri hlt hs1) hne
    · have h3 := ownsRow_sortedG (w := w) (base := lo) (g := g) (cap := cap) (n := n) (m := ps.length) (e := 24) (os := os) (cur := cur) (encP (w := w) (g := g)) (ts := d'.toList) hdl hb hgg q1 q2 q3
      rw [Array.toArray_toList] at h3
      rw [List.map_map]
      exact h3
end Go.Proofs.Ytmflbibogkebmaa
