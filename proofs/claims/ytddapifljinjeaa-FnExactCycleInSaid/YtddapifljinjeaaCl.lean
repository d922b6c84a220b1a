/- CycleIn: the code's side. -/
import Derived.Test.YtddapifljinjeaaCk
import Derived.Test.YtddapifljinjeaaCm
namespace Go.Proofs.Ytddapifljinjeaa
open Go.RowKit
open Rd Fl

/-- the array's box, and the way so far -/
structure Cfr (w : World) (N : Nat) (d : List Int) (v : Value) (p : List Int) (wr : World) : Prop where
  b : Below w.heap.size w wr
  r : wr.rangeAt N 0 (d.map iv)
  o : wr.ownsRow (N + 1) 3 1 v p.length (p.map iv)
  z : N + 1 ≤ wr.heap.size
  n : w.heap.size ≤ N
theorem Cfr.keep {w : World} {N : Nat} {d : List Int} {v : Value} {p : List Int} {wr wx : World} (h : Cfr w N d v p wr) (hb : Below wr.heap.size wr wx) : Cfr w N d v p wx := ⟨h.b.trans (hb.mono h.b.size), range_keep hb h.r, own_keep h.o hb, Nat.le_trans h.z hb.size, h.n⟩
theorem Cfr.app {w : World} {N : Nat} {d : List Int} {v v' : Value} {p : List Int} {wr w3 : World} {n : Int} (h : Cfr w N d v p wr) (hown : w3.ownsRow (N + 1) 3 1 v' (p.length + 1) (p.map iv ++ [iv n])) (hg : wr.grownBy w3 v.ownBlock) : Cfr w N d v' (p ++ [n]) w3 := by
  have hn := h.n
  refine ⟨Below.grown h.b hg h.b.size (fun k hk => by have := own_base' h.o k hk; omega), fun j u hu => hg.cell (h.r j u hu) (fun e => by have := own_base' h.o N e.symm; omega), by rw [List.length_append, List.map_append]; exact hown, Nat.le_trans h.z hg.size, hn⟩
/-- how many rounds are left -/
def leftN (far : Int → Int) (p : List Int) (a : Int) : Nat := if p = [] then 200 else (far a).toNat
theorem gr_left {E : List (Int × Int)} {s : Int} {far : Int → Int} {p : List Int} {a n : Int} (g : Gr E s far p a) (hf : Far E s far) (hn : Near E far a n) (hs : n ≠ s) : leftN far (p ++ [a]) n < leftN far p a ∧ ((p ++ [a]).length + leftN far (p ++ [a]) n ≤ 101 ∨ (p ++ [a]).length + leftN far (p ++ [a]) n ≤ p.length + leftN far p a) := by
  have h1 := hf.pos hs hn.ne
  have h5 := hf.f5 n
  have e1 : leftN far (p ++ [a]) n = (far n).toNat := by unfold leftN; rw [if_neg (by simp)]
  rw [e1]
  rcases g.c with ⟨rfl, rfl⟩ | ⟨k1, k2, k3⟩
  · have e2 : leftN far [] a = 200 := rfl
    rw [e2]
    exact ⟨by omega, .inl (by simp; omega)⟩
  · have hp : p ≠ [] := fun e => by
      subst e
      obtain ⟨t, ht⟩ := g.h
      have : a = s := by simp at ht; exact ht.1
      exact k1 this
    have e2 : leftN far p a = (far a).toNat := by unfold leftN; rw [if_neg hp]
    obtain ⟨b, b1, b2, b3⟩ := hf.f3 a k1 (by omega)
    have b4 := hn.min b b1 (by omega)
    rw [e2]
    exact ⟨by omega, .inr (by simp; omega)⟩

def vLen : Value → Nat
  | .slice _ n _ => n
  | _ => 0
def msr (d : List Int) (v t : Value) : Nat := if vLen v = 0 then 200 else (farD d (intOf t)).toNat
theorem vlen_own {w : World} {b e s n : Nat} {v : Value} {xs : List Value} (h : w.ownsRow b e s v n xs) : vLen v = n := by
  rcases h.2 with ⟨rfl, h0⟩ | ⟨g, cap, cur, rfl, -⟩
  · exact h0.symm
  · rfl
theorem msr_left {d : List Int} {v : Value} {p : List Int} (h : vLen v = p.length) (a : Int) : msr d v (.int .i64 a) = leftN (farD d) p a := by
  unfold msr leftN
  rw [h]
  by_cases hp : p = []
  · subst hp; rfl
  · rw [if_neg (fun e => hp (List.length_eq_zero_iff.1 e)), if_neg hp]
    rfl
theorem sto_new (w : World) (z d : List Int) (hz : z.length = 100) (hd : d.length = 100) : (storeCells ⟨w.heap.size, 0, none⟩ (d.map iv)).run Try.prog (w.alloc (.cells (z.map iv).toArray 76)) = .ok () ((w.alloc (.cells (z.map iv).toArray 76)).setCells w.heap.size 0 (d.map iv)) := by
  have := run_storeCells_cells (P := Try.prog) w.heap.size 0 (d.map iv) 0 (w.alloc (.cells (z.map iv).toArray 76)) (fun j hj => by
    have h1 := arr_cell w z hz 76 (x := j) (by rw [List.length_map] at hj; omega)
    rw [show 0 + 0 + j = j by omega, h1]; rfl) (fun j hj => by rw [World.frozen?_alloc_at _ _ _ _ rfl]) (iv_one d)
  simpa using this
theorem sto_range (w : World) (z d : List Int) (hz : z.length = 100) (hd : d.length = 100) : ((w.alloc (.cells (z.map iv).toArray 76)).setCells w.heap.size 0 (d.map iv)).rangeAt w.heap.size 0 (d.map iv) :=
  World.rangeAt_setCells_same _ _ _ _ (fun j hj => ⟨by
    have h1 := arr_cell w z hz 76 (x := j) (by rw [List.length_map] at hj; omega)
    rw [Nat.zero_add, h1]; rfl, by rw [World.frozen?_alloc_at _ _ _ _ rfl]⟩)

set_option maxRecDepth 20000 in
set_option maxHeartbeats 8000000 in
theorem cyclefrom_any (R : Option Addr) (E : List (Int × Int)) (cap : Nat) (hl : E.length ≤ 100) (hE : ∀ p ∈ E, (0 ≤ p.1 ∧ p.1 < 100) ∧ (0 ≤ p.2 ∧ p.2 < 100)) (s : Nat) (hs : s < 100) (w : World) (hR : PrsAt w R E) :
    Calls Try.prog 33 #[.slice R E.length cap, .int .i64 s] w fun e w' => (∃ v l, e = .returned v ∧ WayAns E s l ∧ ResI l w' w.heap.size w'.heap.size v) ∧ Below w.heap.size w w' := by
  obtain ⟨i0, hi, hz0, hz1, hz2⟩ := inInfo
  obtain ⟨z, hz, hzv⟩ := zeros
  have HST := hide' (stepsto_any R E cap hl hE s hs w hR)
  have HNR := hide' (fun d hd a w h => nearest_any R E cap hl hE d hd a w h)
  have HRR := hide' hR
  clear hl hE hR
  go_enter Try.func33, Try.ntmps33
  go_wp2_with (go_at_call 46; refine HST.out.mono ?_; rintro e w1 ⟨⟨d, rfl, hd, hfar⟩, hb1⟩; have HF := hide' hfar; have HD := hide' hd; have B1 := hide' hb1; have hsc := sto_new w1 z d hz hd; clear hfar hd hb1)
  have SZ := hide' (show (Try.prog.info? 76).map (·.size) = some (d.map iv).length by rw [size100, List.length_map, HD.out])
  have C0 := hide' (show Cfr w w1.heap.size d (.slice none 0 0) [] ((w1.alloc (.cells (z.map iv).toArray 76)).setCells w1.heap.size 0 (d.map iv)) from ⟨below_cells (B1.out.up _) B1.out.size _ _, sto_range w1 z d hz HD.out, World.ownsRow_nil _ _ _ _, by rw [cells_size]; simp, B1.out.size⟩)
  have G0 := hide' (show Gr E s (farD d) [] s from gr_start E s (farD d))
  have L0 := hide' (show ([] : List Int).length + leftN (farD d) [] (s : Int) ≤ 200 from by unfold leftN; rw [if_pos rfl]; simp)
  clear hsc hzv
  generalize ((w1.alloc (.cells (z.map iv).toArray 76)).setCells w1.heap.size 0 (d.map iv)) = W at C0 ⊢
  generalize w1.heap.size = N at C0 ⊢
  go_loopw [6, 7] (fun v t wr => ∃ (p : List Int) (a : Int), t = .int .i64 a ∧ Hid (Gr E s (farD d) p a) ∧ Hid (p.length + leftN (farD d) p a ≤ 200) ∧ Hid (Cfr w N d v p wr)) (fun v t _ => msr d v t)
  case atStart => exact ⟨[], s, rfl, G0.out, L0.out, C0.out⟩
  case round =>
    obtain ⟨p, a, rfl, hgr, hlf, hcf⟩ := hrel
    obtain ⟨wo, rfl⟩ : ∃ wo, wo = wr := ⟨_, rfl⟩
    go_wp2_with fail
    refine wp_load_mid 76 (.tmp 5) rfl N 0 rfl (d.map iv) _ hcf.out.r Try.underlying76 rfl SZ.out ?_
    go_wp2_with fail
    refine (HNR.out d HD.out a _ (HRR.out.keep hcf.out.b)).mono ?_
    rintro e w3 ⟨⟨y, rfl, hnb⟩, hb3⟩
    have C3 := hide' (hcf.out.keep hb3)
    clear hb3
    rcases hnb with ⟨rfl, hno⟩ | ⟨hy, hnear⟩
    · have HNO := hide' (hgr.out.none HF.out hno)
      clear hno
      go_wp2_with fail
      go_ret
      exact ⟨⟨_, [], rfl, .inl ⟨rfl, HNO.out⟩, resi_of (World.ownsRow_nil _ _ _ _) (by simp)⟩, C3.out.b⟩
    · have HNE := hide' hnear
      have hy1 : (y == -1) = false := by simp; omega
      have C4 := hide' (C3.out.keep ((Below.refl _ w3).up (.cells #[.int .i64 a] 3)))
      have N4 := hide' (one_new w3 a)
      have Z4 := hide' C3.out.z
      clear hnear
      go_wp2_with (at_builtin; refine wpList_append_own _ rfl _ _ 23 rfl (N + 1) 3 i0 (.int .i64 0) 1 8 Try.underlying23 hi hz0 hz1 hz2 rfl (by decide) _ _ _ rfl C4.out.o ⟨w3.heap.size, 0, none⟩ 1 1 [iv a] rfl rfl N4.out (one_iv a) (by have := hlf.out; unfold maxLen; omega) (by have := hlf.out; omega) (by have := Z4.out; simp; omega) ?_)
      intro v5 w5 hown5 hg5 _
      have C5 := hide' (C4.out.app hown5 hg5)
      have M6 := hide' (vlen_own C4.out.o)
      have M5 := hide' (vlen_own C5.out.o)
      clear hown5 hg5
      by_cases hys : y = s
      · subst hys
        have HBE := hide' (hgr.out.found HF.out HNE.out)
        go_wp2_with fail
        go_ret
        exact ⟨⟨_, p ++ [a], rfl, .inr ⟨by simp, HBE.out⟩, resi_less (resi_of C5.out.o (by have := hlf.out; simp; omega)) (by have := C5.out.n; omega)⟩, C5.out.b⟩
      · have hys' : (y == (s : Int)) = false := by simp [hys]
        have HG := hide' (hgr.out.next HF.out HNE.out hys)
        have HL := hide' (gr_left hgr.out HF.out HNE.out hys)
        go_wp2_with fail
        go_roundw
        case rel => exact ⟨p ++ [a], y, rfl, HG.out, show (p ++ [a]).length + leftN (farD d) (p ++ [a]) y ≤ 200 by have := HL.out.2; have := hlf.out; omega, C5.out⟩
        case measure =>
          rw [msr_left M5.out y, msr_left M6.out a]
          exact HL.out.1

set_option maxRecDepth 20000 in
set_option maxHeartbeats 2000000 in
theorem icycle_any (R : Option Addr) (es : List (List Int)) (cap : Nat) (hl : es.length ≤ 1048576) (hls : ∀ l ∈ es, l.length ≤ 1048576) (w : World) (hR : IssAt w R es) :
    Calls Try.prog 17 #[.slice R es.length cap] w fun e w' => (∃ v l, e = .returned (.tuple #[v, .bool (decide (l ≠ []))]) ∧ CiAns es l ∧ ResI l w' w.heap.size w'.heap.size v) ∧ Below w.heap.size w w' := by
  have HP := hide' (goodpairs_any R es cap hl hls w hR)
  cases hg : goodE es
  · rw [hg] at HP
    have HA := hide' (show CiAns es [] from .inl ⟨hg, rfl⟩)
    clear hg hl hls hR
    go_enter Try.func17, Try.ntmps17
    go_wp2_with (go_at_call 32; refine HP.out.mono ?_; rintro e w1 ⟨rfl, h1⟩; have B1 := hide' h1; clear h1)
    go_ret2
    exact ⟨⟨_, [], rfl, HA.out, resi_of (World.ownsRow_nil _ _ _ _) (by simp)⟩, B1.out⟩
  · rw [hg] at HP
    obtain ⟨E, rfl, h100, hb⟩ := goodE_pairs hg
    have HR := hide' (prs_at hR)
    have HC := hide' (fun s hs w h => cyclefrom_any R E cap h100 hb s hs w h)
    have HAN := hide' (show ∀ l, CycAns E l → CiAns (E.map pairL) l from fun l h => .inr ⟨hg, fun F hF => by rw [← pairL_inj hF]; exact h⟩)
    rw [List.length_map] at HP ⊢
    clear hg hl hls hR h100 hb
    go_enter Try.func17, Try.ntmps17
    go_wp2_with (go_at_call 32; refine HP.out.mono ?_; rintro e w1 ⟨rfl, h1⟩; have B1 := hide' h1; clear h1)
    go_loopw [9] (fun i wr => ∃ k : Nat, k ≤ 100 ∧ i = .int .i64 k ∧ Hid (∀ m : Int, 0 ≤ m → m < k → ¬ ∃ u, Clo E m u) ∧ Hid (Below w.heap.size w wr)) (fun i _ => 100 - (intOf i).toNat)
    case atStart => exact ⟨0, by omega, rfl, (fun m h1 h2 => by omega), B1.out⟩
    case round =>
      obtain ⟨k, hk, rfl, hno, hb⟩ := hrel
      by_cases hlt : k < 100
      · have hlt' : (k : Int) < 100 := by omega
        go_wp2_with fail
        refine (HC.out k hlt _ (HR.out.keep hb.out)).mono ?_
        rintro e w2 ⟨⟨v, l, rfl, hans, hres⟩, hb1⟩
        have HV := hide' hres
        have B2 := hide' (hb.out.trans (hb1.mono hb.out.size))
        have Z1 := hide' hb.out.size
        clear hres hb1
        obtain ⟨A, M, cv, ev, -, -, -, -⟩ := resi_open HV.out
        subst ev
        rcases hans with ⟨rfl, h2⟩ | ⟨hne, h2⟩
        · have HN2 := hide' h2
          clear h2
          go_wp2_with fail
          go_roundw
          case rel => exact ⟨k + 1, by omega, by go_num, (fun m m1 m2 => by
            by_cases e : m = k
            · subst e; exact HN2.out
            · exact hno.out m m1 (by omega)), B2.out⟩
          case measure => simp [intOf]; omega
        · have HN2 := hide' h2
          have hl0 : (0 : Int) < l.length := by have := List.length_pos_iff.2 hne; omega
          have HD := hide' (decide_eq_true hne)
          have HNE := hide' hne
          clear h2 hne
          go_wp2_with fail
          go_ret2
          exact ⟨⟨_, l, by rw [HD.out]; rfl, HAN.out l (.inr ⟨HNE.out, k, by omega, hlt', hno.out, HN2.out⟩), resi_less HV.out Z1.out⟩, B2.out⟩
      · have HKE := hide' (show k = 100 by omega)
        have hnk : ¬ (k : Int) < 100 := by omega
        go_wp2_with fail
        go_ret2
        exact ⟨⟨_, [], rfl, HAN.out [] (.inl ⟨rfl, fun n h1 h2 => hno.out n h1 (by have := HKE.out; omega)⟩), resi_of (World.ownsRow_nil _ _ _ _) (by simp)⟩, hb.out⟩
end Go.Proofs.Ytddapifljinjeaa
