/- Locks shared at all places of a cell: the map of the code. -/
import Derived.Test.YtmflbibogkebmaaVta
import Derived.Test.YtmflbibogkebmaaVp
import Derived.Test.YtmflbibogkebmaaVs
import Derived.Test.YtmflbibogkebmaaRbb
import Derived.Maps.AppendAt
namespace Go.Proofs.Ytmflbibogkebmaa
open Go.RowKit Go.Maps
open Rd Fl

/-- What a map holds at a cell is a row of the locks told of it. -/
def ShAt (w : World) (lo : Nat) (o : Option Value) (s : Option (List Int)) : Prop := match s with
  | none => o = none
  | some L => ∃ u, o = some u ∧ w.ownsRow lo 3 1 u L.length (L.map iv)
theorem ShAt.to {w w' : World} {lo : Nat} {o : Option Value} {s : Option (List Int)} (h : ShAt w lo o s) (he : ∀ b, lo ≤ b → b < w.heap.size → w'.heap[b]? = w.heap[b]?) : ShAt w' lo o s := by
  cases s with
  | none => exact h
  | some L =>
    obtain ⟨u, h1, h2⟩ := h
    exact ⟨u, h1, own_blk_eq h2 fun g hg => he g (own_blk h2 hg).2.1 (own_blk h2 hg).1⟩
theorem MapV.to {w w' : World} {b n : Nat} {f : Int → Option Value} (h : MapV w b n f) (e : w'.heap[b]? = w.heap[b]?) : MapV w' b n f := by
  obtain ⟨D, h1, h2⟩ := h
  exact ⟨D, own_block h1 e, h2⟩
theorem mapv_ne {w : World} {M n : Nat} {f : Int → Option Value} (h : MapV w M n f) {base : Nat} {e : TypeId} {size : Nat} {v : Value} {m : Nat} {xs : List Value} (h' : w.ownsRow base e size v m xs) {g : Nat} (hg : v.ownBlock = some g) : g ≠ M := by
  intro e1
  subst e1
  obtain ⟨-, -, cur, h2⟩ := own_blk h' hg
  obtain ⟨D, ⟨es, clock, h3, -⟩, -⟩ := h
  rw [h2] at h3
  cases h3
structure ShM (t : List EvD) (w wr : World) (M k : Nat) : Prop where
  b : Below w.heap.size w wr
  l : w.heap.size ≤ M
  m : ∃ n f, MapV wr M n f ∧ n ≤ k ∧ ∀ x, wfI x → ShAt wr w.heap.size (f x) (shTo t k x)
theorem ShM.keep {t : List EvD} {w wr wy : World} {M k : Nat} (h : ShM t w wr M k) (hb : Below wr.heap.size wr wy) : ShM t w wy M k := by
  obtain ⟨n, f, h1, h2, h3⟩ := h.m
  exact ⟨h.b.trans (hb.mono h.b.size), h.l, n, f, h1.keep hb, h2, fun x hx => (h3 x hx).to fun b _ hb' => hb.block b hb'⟩
theorem ShM.none {t : List EvD} {w wr : World} {M k : Nat} (h : ShM t w wr M k) (ht : tchB (evA t k) = false) : ShM t w wr M (k + 1) := by
  obtain ⟨n, f, h1, h2, h3⟩ := h.m
  exact ⟨h.b, h.l, n, f, h1, by omega, fun x hx => by rw [shTo_no (fun h => by rw [ht] at h; cases h.1)]; exact h3 x hx⟩
/-- One touch more has been put. -/
theorem ShM.put {t : List EvD} {w W w4 : World} {M k n : Nat} {f : Int → Option Value} (hb : Below w.heap.size w W) (hl : w.heap.size ≤ M) (hm : MapV W M n f) (hn : n ≤ k) (hr : ∀ x, wfI x → ShAt W w.heap.size (f x) (shTo t k x))
    {c : Int} {v : Value} {L : List Int} (hc : (evA t k).ob = c) (hs : shTo t (k + 1) c = some L) (ho : W.ownsRow w.heap.size 3 1 v L.length (L.map iv)) (hm4 : MapV w4 M (n + 1) (putF f c v)) (hg : W.grownBy w4 (some M)) : ShM t w w4 M (k + 1) := by
  refine ⟨Below.grown hb hg hb.size (fun j hj => by cases hj; exact hl), hl, n + 1, _, hm4, by omega, fun x hx => ?_⟩
  unfold putF
  by_cases e : x = c
  · subst e
    rw [if_pos rfl, hs]
    exact ⟨v, rfl, own_blk_eq ho fun g hg' => hg.block g (own_blk ho hg').1 fun e => mapv_ne hm ho hg' (Option.some.inj e)⟩
  · rw [if_neg e, shTo_no (fun h => e (h.2.symm.trans hc))]
    have h := hr x hx
    cases hsx : shTo t k x with
    | none => rw [hsx] at h; exact h
    | some L' =>
      rw [hsx] at h
      obtain ⟨u, h1, h2⟩ := h
      exact ⟨u, h1, own_blk_eq h2 fun g hg' => hg.block g (own_blk h2 hg').1 fun e => mapv_ne hm h2 hg' (Option.some.inj e)⟩
theorem tch_ob2 {e : EvD} (hg : goodEv e = true) (h : tchB e = true) : 0 ≤ e.ob := by
  unfold tchB at h
  rw [Bool.or_eq_true, beq_iff_eq, beq_iff_eq] at h
  have := goodev_all hg
  omega
theorem zeroInts (w : World) : (zeroValue 24).run Try.prog w = .ok (.slice none 0 0) w := by kernel_rfl
theorem tchN_yes {e : EvD} (h : tchB e = true) : tchN e = e.ob := by unfold tchN; rw [if_pos h]
theorem tchN_no {e : EvD} (h : tchB e = false) : tchN e = -1 := by unfold tchN; rw [if_neg (by rw [h]; simp)]
theorem keep_both {l m : List Int} : keepL (fun x => !decide (x ∈ m)) l = bothL l m := by
  unfold keepL bothL
  congr 1
  funext x
  rw [Bool.not_not]
/-- a captured list's box, and the list, while another row is edited -/
theorem lat_edit {w w' : World} {A : Option Addr} {l : List Int} {g : Nat} (h : LAt iv w A l) (he : Edit g (g + 1) w w') (hA : ∀ a, A = some a → a.block ≠ g) : LAt iv w' A l := by
  obtain ⟨b, off, h1, h2⟩ := h
  refine ⟨b, off, h1, fun i x hx => ?_⟩
  have hne : l ≠ [] := by intro e; subst e; cases hx
  have hb := hA _ (h1 hne)
  exact he.cell (h2 i x hx) (by have : b ≠ g := hb; omega)

theorem own_shape {w : World} {base : Nat} {e : TypeId} {size : Nat} {v : Value} {n : Nat} {xs : List Value} (h : w.ownsRow base e size v n xs) : ∃ A cap, v = .slice A n cap := by
  rcases h.2 with ⟨rfl, h0⟩ | ⟨g, cap, cur, rfl, -⟩
  · exact ⟨_, _, by rw [h0]⟩
  · exact ⟨_, _, rfl⟩
/-- A list more, in a row that is none of the others'. -/
theorem LayM.snoc {w w3 : World} {lo : Nat} {v v' u : Value} {rvs : List Value} {ls : List (List Int)} {x : List Int} (h : LayM w lo v rvs ls) (hu : w.ownsRow lo 3 1 u x.length (x.map iv)) (hnew : ∀ b, u.ownBlock = some b → ∀ (j : Nat) t, rvs[j]? = some t → t.ownBlock = some b → False)
    (hown : w3.ownsRow lo 24 1 v' (ls.length + 1) (rvs ++ [u])) (hg : w.grownBy w3 v.ownBlock) : LayM w3 lo v' (rvs ++ [u]) (ls ++ [x]) := by
  refine ⟨by simp [h.n], by rw [List.length_append]; exact hown, fun k t y ht hy => ?_, fun i j t t' b hij ht ht' hb1 hb2 => ?_⟩
  · rcases getElem?_snoc ht with ⟨hi, ht⟩ | ⟨hi, rfl⟩
    · rcases getElem?_snoc hy with ⟨-, hy⟩ | ⟨hj, -⟩
      · have hr := h.row k t y ht hy
        exact own_blk_eq hr fun g hgg => hg.block g (own_blk hr hgg).1 fun e => own_blk_ne h.top hr t3n e.symm hgg
      · have := h.n; omega
    · rcases getElem?_snoc hy with ⟨hj, -⟩ | ⟨-, rfl⟩
      · have := h.n; omega
      · exact own_blk_eq hu fun g hgg => hg.block g (own_blk hu hgg).1 fun e => own_blk_ne h.top hu t3n e.symm hgg
  · rcases getElem?_snoc ht' with ⟨hj, ht'⟩ | ⟨hj, rfl⟩
    · rcases getElem?_snoc ht with ⟨-, ht⟩ | ⟨hi, -⟩
      · exact h.d i j t t' b hij ht ht' hb1 hb2
      · omega
    · rcases getElem?_snoc ht with ⟨-, ht⟩ | ⟨hi, -⟩
      · exact hnew b hb2 i t ht hb1
      · omega
/-- A fresh row [c] with a list put behind it, told into lists of lists. -/
theorem LayM.row2 {wr w6 w7 : World} {lo : Nat} {v v' u : Value} {rvs : List Value} {ls : List (List Int)} {c : Int} {L : List Int} (h : LayM wr lo v rvs ls) (hlo : lo ≤ wr.heap.size)
    (ho : w6.ownsRow wr.heap.size 3 1 u (1 + L.length) ([iv c] ++ L.map iv)) (hsame : ∀ b, b < wr.heap.size → w6.heap[b]? = wr.heap[b]?)
    (hown : w7.ownsRow lo 24 1 v' (ls.length + 1) (rvs ++ [u])) (hg : (w6.alloc (.cells #[u] 24)).grownBy w7 v.ownBlock) : LayM w7 lo v' (rvs ++ [u]) (ls ++ [c :: L]) := by
  have h6 : LayM (w6.alloc (.cells #[u] 24)) lo v rvs ls := (h.eq fun g _ hg' => hsame g hg').keep ((Below.refl _ _).up _)
  refine h6.snoc (own_less (by have := ho.alloc (.cells #[u] 24); rw [Nat.add_comm] at this; exact this) hlo) (fun b hb j t ht htb => ?_) hown hg
  have h1 := (own_blk ho hb).2.1
  obtain ⟨y, hy⟩ : ∃ y, ls[j]? = some y := ⟨_, List.getElem?_eq_getElem (by rw [← h.n]; exact (List.getElem?_eq_some_iff.1 ht).1)⟩
  have h2 := (own_blk (h.row j t y ht hy) htb).1
  omega
theorem LayM.less {w : World} {lo lo' : Nat} {v : Value} {rvs : List Value} {ls : List (List Int)} (h : LayM w lo v rvs ls) (hl : lo' ≤ lo) : LayM w lo' v rvs ls := ⟨h.n, own_less h.top hl, fun k u x hu hx => own_less (h.row k u x hu hx) hl, h.d⟩
theorem lat_news {w : World} {ad : Addr} {l : List Int} (h : LAt iv w (some ad) l) : ∀ j u, (l.map iv)[j]? = some u → w.cell? (ad.add j) = some u := by
  intro j u hj
  rw [List.getElem?_map] at hj
  cases hx : l[j]? with
  | none => rw [hx] at hj; cases hj
  | some x =>
    rw [hx] at hj
    obtain ⟨b, off, h1, h2⟩ := h
    have hne : l ≠ [] := by intro e; subst e; cases hx
    cases h1 hne
    rw [Addr.add_lit, h2 j x hx]
    exact hj
theorem iv_ones (l : List Int) : ∀ u ∈ l.map iv, u.oneCell' = true := by
  intro u hu
  obtain ⟨x, -, rfl⟩ := List.mem_map.1 hu
  rfl
/-- What is held is cut down to what others had, in its own row. -/
theorem del_shared {wr w5 : World} {lo z : Nat} {u v : Value} {H L : List Int} (hu : wr.ownsRow lo 3 1 u L.length (L.map iv)) (hL : L.length ≤ 1000) (hH : H.length ≤ 1000) (hz : wr.heap.size ≤ z) (hz5 : z ≤ w5.heap.size) (ho : w5.ownsRow z 3 1 v H.length (H.map iv)) (hb : Below wr.heap.size wr w5) :
    Calls Try.prog 45 #[v, .func (.func 46) #[] #[.pointer (some ⟨w5.heap.size, 0, none⟩)]] (w5.alloc (.cells #[u] 24)) fun e w' => ∃ v', e = .returned v' ∧ w'.ownsRow z 3 1 v' (bothL H L).length ((bothL H L).map iv) ∧ (∀ b, b < wr.heap.size → w'.heap[b]? = wr.heap[b]?) ∧ Below wr.heap.size wr w' := by
  have hbox : (w5.alloc (.cells #[u] 24)).cell? ⟨w5.heap.size, 0, none⟩ = some u := by rw [World.cell?_alloc_new]; rfl
  have h6 : Below wr.heap.size wr (w5.alloc (.cells #[u] 24)) := hb.up _
  obtain ⟨A, -, cap, rfl, -, -, -, hat⟩ := resi_open (resi_of hu hL)
  have hat6 : LAt iv (w5.alloc (.cells #[.slice A L.length cap] 24)) A L := hat.keep h6
  have hblk : ∀ a, A = some a → a.block < wr.heap.size := fun a e => (own_blk hu (by rw [e]; rfl)).1
  have ho6 := ho.alloc (.cells #[.slice A L.length cap] 24)
  refine (delfunc_any (fun y => !decide (y ∈ L)) w5.heap.size H v z hH (w5.alloc (.cells #[.slice A L.length cap] 24)) ho6 (by simp; omega) ?_ ?_).mono ?_
  · intro g hg wx he x
    have hgl := own_blk ho hg
    refine ishared1_any A L cap w5.heap.size x hL wx (he.cell hbox (by omega)) (lat_edit hat6 he fun a e => ?_)
    have := hblk a e
    omega
  · intro _ x
    exact ishared1_any A L cap w5.heap.size x hL _ hbox hat6
  · rintro e w' ⟨v', rfl, hob, ho7, hsame, hbel⟩
    rw [keep_both] at ho7
    refine ⟨v', rfl, ho7, fun b hb' => ?_, h6.trans (hbel.mono (by omega))⟩
    rw [hsame b (by simp; have := hb.size; omega) (fun e => by have := (own_blk ho e).2.1; omega)]
    exact h6.block b hb'
end Go.Proofs.Ytmflbibogkebmaa
