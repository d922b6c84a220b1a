/- Who waits for whom, as pairs: both sides. -/
import Derived.Test.YtdifamjkbagfcaaDoorRs
namespace Go.Proofs.YtdifamjkbagfcaaDoor
open Go.RowKit
open Rd Fl

/-- the pairs up to a thread -/
def wtTo (rs : List (List OpD)) (s : StD) (k : Nat) : List (List Int) := (List.range k).filterMap (fun n : Nat => match s.ts[n]? with | some t => if 0 ≤ blockN rs s.ts s.ow t then some [(n : Int), blockN rs s.ts s.ow t] else none | none => none)
theorem wtTo_succ (rs : List (List OpD)) (s : StD) (k : Nat) (h : k < s.ts.length) : wtTo rs s (k + 1) = if 0 ≤ blockN rs s.ts s.ow s.ts[k] then wtTo rs s k ++ [[(k : Int), blockN rs s.ts s.ow s.ts[k]]] else wtTo rs s k := by
  unfold wtTo
  rw [List.range_succ, List.filterMap_append]
  by_cases hb : 0 ≤ blockN rs s.ts s.ow s.ts[k]
  · rw [if_pos hb]; simp [List.getElem?_eq_getElem h, hb]
  · rw [if_neg hb]; simp [List.getElem?_eq_getElem h, hb]
theorem wtTo_len (rs : List (List OpD)) (s : StD) (k : Nat) : (wtTo rs s k).length ≤ k := by
  unfold wtTo
  exact Nat.le_trans (List.length_filterMap_le _ _) (by simp)

/-- What the rounds of both loops keep. -/
structure Rnd2 (w : World) (cl lk cd : Int) (R : Option Addr) (n cap : Nat) (T C O : Option Addr) (n1 k1 n2 k2 n3 k3 : Nat) (ft : Int) (v : Value) (l : List (List Int)) (Ms : List Nat) (wr : World) : Prop where
  t : Two w cl lk cd R n cap T C O n1 k1 n2 k2 n3 k3 ft wr
  o : RowSS l wr (w.heap.size + 2) v Ms
  z : w.heap.size + 2 ≤ wr.heap.size
theorem Rnd2.keep {w : World} {cl lk cd : Int} {R : Option Addr} {n cap : Nat} {T C O : Option Addr} {n1 k1 n2 k2 n3 k3 : Nat} {ft : Int} {v : Value} {l : List (List Int)} {Ms : List Nat} {wr wx : World} (h : Rnd2 w cl lk cd R n cap T C O n1 k1 n2 k2 n3 k3 ft v l Ms wr) (hb : Below wr.heap.size wr wx) : Rnd2 w cl lk cd R n cap T C O n1 k1 n2 k2 n3 k3 ft v l Ms wx := ⟨h.t.keep hb, h.o.keep hb, Nat.le_trans h.z hb.size⟩
theorem RowSS.less {ls : List (List Int)} {w : World} {lo lo' : Nat} {v : Value} {Ms : List Nat} (h : RowSS ls w lo v Ms) (hb : lo' ≤ lo) : RowSS ls w lo' v Ms := ⟨h.n, own_less h.o hb, fun i M x h1 h2 => ⟨Nat.le_trans hb (h.c i M x h1 h2).1, (h.c i M x h1 h2).2⟩, h.d, h.b⟩

set_option maxRecDepth 20000 in
set_option maxHeartbeats 4000000 in
theorem swaits_yes (cl lk cd : Int) (R : Option Addr) (rs : List (List OpD)) (cap : Nat) (s : StD) (T C O : Option Addr) (k1 k2 k3 : Nat) (hg : goodSt cl lk cd rs s = true) (hn : StNums s) (w : World) (hR : RoutsAt w R rs) (hS : StAt w T C O s) (hI : ∀ R cap T C O k1 k2 k3 w, RoutsAt w R rs → StAt w T C O s → Calls Tryd.prog 59 #[.agg #[.int .i64 cl, .int .i64 lk, .int .i64 cd, .slice R rs.length cap], .agg #[.slice T s.ts.length k1, .slice C s.cl.length k2, .slice O s.ow.length k3, .int .i64 s.ft]] w fun e w' => e = .returned (.bool true) ∧ Below w.heap.size w w') :
    Calls Tryd.prog 28 #[.agg #[.int .i64 cl, .int .i64 lk, .int .i64 cd, .slice R rs.length cap], .agg #[.slice T s.ts.length k1, .slice C s.cl.length k2, .slice O s.ow.length k3, .int .i64 s.ft]] w fun e w' => (∃ v Ms, e = .returned (.tuple #[v, .bool true]) ∧ RowSS (wtTo rs s s.ts.length) w' w.heap.size v Ms) ∧ Below w.heap.size w w' := by
  obtain ⟨i0, hi, hz0, hz1, hz2⟩ := intsInfo
  obtain ⟨-, h5, -, -, -, -, -⟩ := goodst_facts hg
  have hl' : (s.ts.length : Int) ≤ 5 := by omega
  obtain ⟨bt, ot, rfl, hts⟩ := ths_at hS.t (by intro h; rw [h] at h5; simp at h5)
  have HB := hide' (fun i hi S kp wx hb hK => l3blocks_any cl lk cd R rs cap s (some ⟨bt, ot, none⟩) C O k1 k2 k3 hg hn i hi S kp wx (hR.keep hb) (hS.keep hb) hK)
  have HGE := hide' (fun i (hi : i < s.ts.length) => block_ge hg (List.getElem_mem hi))
  have HIG := hide' (hI R cap (some ⟨bt, ot, none⟩) C O k1 k2 k3 _ (hR.keep (stW_below w cl lk cd R rs.length cap (some ⟨bt, ot, none⟩) C O s.ts.length k1 s.cl.length k2 s.ow.length k3 s.ft)) (hS.keep (stW_below w cl lk cd R rs.length cap (some ⟨bt, ot, none⟩) C O s.ts.length k1 s.cl.length k2 s.ow.length k3 s.ft)))
  have HTS := hide' hts
  have HEL := hide' (fun k => wtTo_len rs s k)
  have HES := hide' (fun k h => wtTo_succ rs s k h)
  have HE0 : wtTo rs s 0 = [] := rfl
  have H5 := hide' h5
  clear hts h5 hg hn hR hS hI
  generalize wtTo rs s = en at *
  obtain ⟨ts, cls, ow, ft⟩ := s
  simp only at *
  generalize cls.length = n2 at *
  generalize ow.length = n3 at *
  go_enter Tryd.func28, Tryd.ntmps28
  have T0 := hide' (two_new w cl lk cd R rs.length cap (some ⟨bt, ot, none⟩) C O ts.length k1 n2 k2 n3 k3 ft 30 43)
  go_wp2_with (go_at_call 59; refine HIG.out.mono ?_; rintro e w1 ⟨rfl, hb1⟩; have T1 := hide' (T0.out.keep hb1); obtain ⟨⟨p0, p1, p2, p3⟩, ⟨s0, s1, s2, s3⟩, -⟩ := T1.out; have y2 : w.heap.size + 1 < w1.heap.size := World.block_lt_of_cell? w1 _ s0)
  clear hb1 HIG T0
  go_loopw [6, 17] (fun v i wr => ∃ (k : Nat) (Ms : List Nat), k ≤ ts.length ∧ i = .int .i64 k ∧ Hid (Rnd2 w cl lk cd R rs.length cap (some ⟨bt, ot, none⟩) C O ts.length k1 n2 k2 n3 k3 ft v (en k) Ms wr)) (fun _ i _ => ts.length - (intOf i).toNat)
  case atStart => exact ⟨0, [], Nat.zero_le _, rfl, (⟨T1.out, by rw [HE0]; exact rowss_nil _ _, by omega⟩ : Rnd2 _ _ _ _ _ _ _ _ _ _ _ _ _ _ _ _ _ _ _ _ _)⟩
  case round =>
    clear p0 p1 p2 p3 s0 s1 s2 s3 y2
    obtain ⟨k, Ms, hk, rfl, hrnd⟩ := hrel
    by_cases hlt : k < ts.length
    · obtain ⟨S, cp, x1, x2⟩ := HTS.out k hlt
      obtain ⟨c0, c1, c2, c3, c4, c5⟩ := th_range (range_keep hrnd.out.t.b x1)
      have HC := hide' (fun wx hb => HB.out k hlt S cp wx hb (x2.keep hb))
      have HGEk := hide' (HGE.out k hlt)
      have HESk := hide' (HES.out k hlt)
      clear x1 x2
      generalize ts[k] = t at c0 c1 c2 c3 c4 c5 HC HESk HGEk
      obtain ⟨r0, r1, r2, r3, r4, sk⟩ := t
      simp only at c0 c1 c2 c3 c4 c5
      generalize blockN rs ts ow _ = bn at HC HESk HGEk
      obtain ⟨⟨p0, p1, p2, p3⟩, ⟨s0, s1, s2, s3⟩, -⟩ := hrnd.out.t
      have z1 : w.heap.size < wr.heap.size := World.block_lt_of_cell? wr _ p0
      have z2 : w.heap.size + 1 < wr.heap.size := World.block_lt_of_cell? wr _ s0
      have HL := hide' (Nat.le_trans (HEL.out k) (show k ≤ 5 by have := H5.out; omega))
      by_cases hbn : 0 ≤ bn
      · have HE := hide' (show en (k + 1) = en k ++ [[(k : Int), bn]] by rw [HESk.out, if_pos hbn])
        have hne : ¬ bn = -1 := by omega
        clear HESk
        go_wp2_with (first
          | (go_at_call 66; refine (HC.out _ (hrnd.out.t.b.up _)).mono ?_; rintro e w2 ⟨rfl, hb2⟩; have R2 := hide' (hrnd.out.keep (((Below.refl _ wr).up _).trans (hb2.mono (by simp)))))
          | (at_builtin; refine wpList_append_own_at _ rfl _ _ 55 rfl (w.heap.size + 2) 34 i0 (.slice none 0 0) 1 24 Tryd.underlying55 hi hz0 hz1 hz2 rfl (by decide) _ _ _ rfl ((R2.out.o.o.alloc _).alloc _) ⟨w2.heap.size + 1, 0, none⟩ 1 1 [slV w2.heap.size [(k : Int), bn]] rfl rfl ?c1 ?c2 ?c3 ?c4 ?c5 ?_)
          | go_in)
        case c1 =>
          intro j u hj
          match j, hj with
          | 0, hj => simp at hj; subst hj; simp [slV, Addr.add]
        case c2 => intro u hu; simp at hu; subst hu; rfl
        case c3 => unfold maxLen; have := HL.out; omega
        case c4 => have := HL.out; omega
        case c5 => have := R2.out.z; simp; omega
        intro v' w3 hown3 hgrow _ hblk
        have HB3 := hide' (Below.grown (((Below.refl (w.heap.size + 2) w2).alloc R2.out.z _).alloc (by have := R2.out.z; simp; omega) _) hgrow (by have := R2.out.z; simp; omega) (own_base' R2.out.o.o))
        have R3 := hide' (show Rnd2 w cl lk cd R rs.length cap (some ⟨bt, ot, none⟩) C O ts.length k1 n2 k2 n3 k3 ft v' (en (k + 1)) (Ms ++ [w2.heap.size]) w3 from ⟨R2.out.t.keepB HB3.out, by rw [HE.out]; exact R2.out.o.snoc (k : Int) bn R2.out.z hown3 hgrow hblk, Nat.le_trans R2.out.z HB3.out.size⟩)
        clear hown3 hgrow hblk
        go_wp2_with fail
        go_roundw
        case rel => exact ⟨k + 1, _, by omega, by go_num, R3.out⟩
        case measure => simp [intOf]; omega
      · have HE := hide' (show en (k + 1) = en k by rw [HESk.out, if_neg hbn])
        have hne : bn = -1 := by have := HGEk.out; omega
        subst hne
        clear HESk
        go_wp2_with (go_at_call 66; refine (HC.out _ (hrnd.out.t.b.up _)).mono ?_; rintro e w2 ⟨rfl, hb2⟩; have R2 := hide' (hrnd.out.keep (((Below.refl _ wr).up _).trans (hb2.mono (by simp)))))
        go_roundw
        case rel => exact ⟨k + 1, Ms, by omega, by go_num, (by rw [HE.out]; exact R2.out)⟩
        case measure => simp [intOf]; omega
    · have hke : k = ts.length := by omega
      rw [hke] at hrnd
      have hki : (k : Int) = ts.length := by omega
      go_wp2_with fail
      go_ret2
      exact ⟨⟨_, Ms, rfl, hrnd.out.o.less (by omega)⟩, hrnd.out.t.b⟩

set_option maxRecDepth 20000 in
set_option maxHeartbeats 2000000 in
theorem swaits_no (cl lk cd : Int) (R : Option Addr) (n cap : Nat) (T C O : Option Addr) (n1 k1 n2 k2 n3 k3 : Nat) (ft : Int) (w : World)
    (HG : Calls Tryd.prog 59 #[.agg #[.int .i64 cl, .int .i64 lk, .int .i64 cd, .slice R n cap], .agg #[.slice T n1 k1, .slice C n2 k2, .slice O n3 k3, .int .i64 ft]] (stW w cl lk cd R n cap T C O n1 k1 n2 k2 n3 k3 ft) fun e w' => e = .returned (.bool false) ∧ Below (stW w cl lk cd R n cap T C O n1 k1 n2 k2 n3 k3 ft).heap.size (stW w cl lk cd R n cap T C O n1 k1 n2 k2 n3 k3 ft) w') :
    Calls Tryd.prog 28 #[.agg #[.int .i64 cl, .int .i64 lk, .int .i64 cd, .slice R n cap], .agg #[.slice T n1 k1, .slice C n2 k2, .slice O n3 k3, .int .i64 ft]] w fun e w' => e = .returned (.tuple #[.slice none 0 0, .bool false]) ∧ Below w.heap.size w w' := by
  have HIG := hide' HG
  have B0 := hide' (stW_below w cl lk cd R n cap T C O n1 k1 n2 k2 n3 k3 ft)
  clear HG
  go_enter Tryd.func28, Tryd.ntmps28
  go_wp2_with (go_at_call 59; refine HIG.out.mono ?_; rintro e w1 ⟨rfl, hb1⟩)
  go_ret2
  exact ⟨rfl, B0.out.trans (hb1.mono B0.out.size)⟩

set_option maxRecDepth 20000 in
set_option maxHeartbeats 4000000 in
theorem iwaits_yes (cl lk cd : Int) (R : Option Addr) (rs : List (List OpD)) (cap : Nat) (s : StD) (T C O : Option Addr) (k1 k2 k3 : Nat) (hg : goodSt cl lk cd rs s = true) (hn : StNums s) (w : World) (hR : RoutsAt w R rs) (hS : StAt w T C O s) (hF : Forms w) (hI : ∀ R cap T C O k1 k2 k3 w, RoutsAt w R rs → StAt w T C O s → Forms w → Calls Tryd.prog 64 #[.agg #[.int .i64 cl, .int .i64 lk, .int .i64 cd, .slice R rs.length cap], .agg #[.slice T s.ts.length k1, .slice C s.cl.length k2, .slice O s.ow.length k3, .int .i64 s.ft]] w fun e w' => e = .returned (.bool true) ∧ Below w.heap.size w w') :
    Calls Tryd.prog 29 #[.agg #[.int .i64 cl, .int .i64 lk, .int .i64 cd, .slice R rs.length cap], .agg #[.slice T s.ts.length k1, .slice C s.cl.length k2, .slice O s.ow.length k3, .int .i64 s.ft]] w fun e w' => (∃ v Ms, e = .returned (.tuple #[v, .bool true]) ∧ RowSS (wtTo rs s s.ts.length) w' w.heap.size v Ms) ∧ Below w.heap.size w w' := by
  obtain ⟨i0, hi, hz0, hz1, hz2⟩ := intsInfo
  obtain ⟨-, h5, -, -, -, -, -⟩ := goodst_facts hg
  have hl' : (s.ts.length : Int) ≤ 5 := by omega
  obtain ⟨bt, ot, rfl, hts⟩ := ths_at hS.t (by intro h; rw [h] at h5; simp at h5)
  have HB := hide' (fun i hi wx hb => waitson_any cl lk cd R rs cap s (some ⟨bt, ot, none⟩) C O k1 k2 k3 hg hn i hi wx (hR.keep hb) (hS.keep hb))
  have HGE := hide' (fun i (hi : i < s.ts.length) => block_ge hg (List.getElem_mem hi))
  have HIG := hide' (hI R cap (some ⟨bt, ot, none⟩) C O k1 k2 k3 _ (hR.keep (stW_below w cl lk cd R rs.length cap (some ⟨bt, ot, none⟩) C O s.ts.length k1 s.cl.length k2 s.ow.length k3 s.ft)) (hS.keep (stW_below w cl lk cd R rs.length cap (some ⟨bt, ot, none⟩) C O s.ts.length k1 s.cl.length k2 s.ow.length k3 s.ft)) (hF.below (stW_below w cl lk cd R rs.length cap (some ⟨bt, ot, none⟩) C O s.ts.length k1 s.cl.length k2 s.ow.length k3 s.ft)))
  have HTS := hide' hts
  have HEL := hide' (fun k => wtTo_len rs s k)
  have HES := hide' (fun k h => wtTo_succ rs s k h)
  have HE0 : wtTo rs s 0 = [] := rfl
  have H5 := hide' h5
  clear hts h5 hg hn hR hS hI hF
  generalize wtTo rs s = en at *
  obtain ⟨ts, cls, ow, ft⟩ := s
  simp only at *
  generalize cls.length = n2 at *
  generalize ow.length = n3 at *
  go_enter Tryd.func29, Tryd.ntmps29
  have T0 := hide' (two_new w cl lk cd R rs.length cap (some ⟨bt, ot, none⟩) C O ts.length k1 n2 k2 n3 k3 ft 30 43)
  go_wp2_with (go_at_call 64; refine HIG.out.mono ?_; rintro e w1 ⟨rfl, hb1⟩; have T1 := hide' (T0.out.keep hb1); obtain ⟨⟨p0, p1, p2, p3⟩, ⟨s0, s1, s2, s3⟩, -⟩ := T1.out; have y2 : w.heap.size + 1 < w1.heap.size := World.block_lt_of_cell? w1 _ s0)
  clear hb1 HIG T0
  go_loopw [6, 16] (fun v i wr => ∃ (k : Nat) (Ms : List Nat), k ≤ ts.length ∧ i = .int .i64 k ∧ Hid (Rnd2 w cl lk cd R rs.length cap (some ⟨bt, ot, none⟩) C O ts.length k1 n2 k2 n3 k3 ft v (en k) Ms wr)) (fun _ i _ => ts.length - (intOf i).toNat)
  case atStart => exact ⟨0, [], Nat.zero_le _, rfl, (⟨T1.out, by rw [HE0]; exact rowss_nil _ _, by omega⟩ : Rnd2 _ _ _ _ _ _ _ _ _ _ _ _ _ _ _ _ _ _ _ _ _)⟩
  case round =>
    clear p0 p1 p2 p3 s0 s1 s2 s3 y2
    obtain ⟨k, Ms, hk, rfl, hrnd⟩ := hrel
    by_cases hlt : k < ts.length
    · obtain ⟨S, cp, x1, x2⟩ := HTS.out k hlt
      obtain ⟨c0, c1, c2, c3, c4, c5⟩ := th_range (range_keep hrnd.out.t.b x1)
      have HC := hide' (fun wx hb => HB.out k hlt wx hb)
      have HGEk := hide' (HGE.out k hlt)
      have HESk := hide' (HES.out k hlt)
      clear x1 x2
      generalize ts[k] = t at c0 c1 c2 c3 c4 c5 HC HESk HGEk
      obtain ⟨r0, r1, r2, r3, r4, sk⟩ := t
      simp only at c0 c1 c2 c3 c4 c5
      generalize blockN rs ts ow _ = bn at HC HESk HGEk
      obtain ⟨⟨p0, p1, p2, p3⟩, ⟨s0, s1, s2, s3⟩, -⟩ := hrnd.out.t
      have z1 : w.heap.size < wr.heap.size := World.block_lt_of_cell? wr _ p0
      have z2 : w.heap.size + 1 < wr.heap.size := World.block_lt_of_cell? wr _ s0
      have HL := hide' (Nat.le_trans (HEL.out k) (show k ≤ 5 by have := H5.out; omega))
      by_cases hbn : 0 ≤ bn
      · have HE := hide' (show en (k + 1) = en k ++ [[(k : Int), bn]] by rw [HESk.out, if_pos hbn])
        have hne : ¬ bn = -1 := by omega
        clear HESk
        go_wp2_with (first
          | (go_at_call 65; refine (HC.out _ hrnd.out.t.b).mono ?_; rintro e w2 ⟨rfl, hb2⟩; have R2 := hide' (hrnd.out.keep (hb2)))
          | (at_builtin; refine wpList_append_own_at _ rfl _ _ 55 rfl (w.heap.size + 2) 34 i0 (.slice none 0 0) 1 24 Tryd.underlying55 hi hz0 hz1 hz2 rfl (by decide) _ _ _ rfl ((R2.out.o.o.alloc _).alloc _) ⟨w2.heap.size + 1, 0, none⟩ 1 1 [slV w2.heap.size [(k : Int), bn]] rfl rfl ?c1 ?c2 ?c3 ?c4 ?c5 ?_)
          | go_in)
        case c1 =>
          intro j u hj
          match j, hj with
          | 0, hj => simp at hj; subst hj; simp [slV, Addr.add]
        case c2 => intro u hu; simp at hu; subst hu; rfl
        case c3 => unfold maxLen; have := HL.out; omega
        case c4 => have := HL.out; omega
        case c5 => have := R2.out.z; simp; omega
        intro v' w3 hown3 hgrow _ hblk
        have HB3 := hide' (Below.grown (((Below.refl (w.heap.size + 2) w2).alloc R2.out.z _).alloc (by have := R2.out.z; simp; omega) _) hgrow (by have := R2.out.z; simp; omega) (own_base' R2.out.o.o))
        have R3 := hide' (show Rnd2 w cl lk cd R rs.length cap (some ⟨bt, ot, none⟩) C O ts.length k1 n2 k2 n3 k3 ft v' (en (k + 1)) (Ms ++ [w2.heap.size]) w3 from ⟨R2.out.t.keepB HB3.out, by rw [HE.out]; exact R2.out.o.snoc (k : Int) bn R2.out.z hown3 hgrow hblk, Nat.le_trans R2.out.z HB3.out.size⟩)
        clear hown3 hgrow hblk
        go_wp2_with fail
        go_roundw
        case rel => exact ⟨k + 1, _, by omega, by go_num, R3.out⟩
        case measure => simp [intOf]; omega
      · have HE := hide' (show en (k + 1) = en k by rw [HESk.out, if_neg hbn])
        have hne : bn = -1 := by have := HGEk.out; omega
        subst hne
        clear HESk
        go_wp2_with (go_at_call 65; refine (HC.out _ hrnd.out.t.b).mono ?_; rintro e w2 ⟨rfl, hb2⟩; have R2 := hide' (hrnd.out.keep (hb2)))
        go_roundw
        case rel => exact ⟨k + 1, Ms, by omega, by go_num, (by rw [HE.out]; exact R2.out)⟩
        case measure => simp [intOf]; omega
    · have hke : k = ts.length := by omega
      rw [hke] at hrnd
      have hki : (k : Int) = ts.length := by omega
      go_wp2_with fail
      go_ret2
      exact ⟨⟨_, Ms, rfl, hrnd.out.o.less (by omega)⟩, hrnd.out.t.b⟩

set_option maxRecDepth 20000 in
set_option maxHeartbeats 2000000 in
theorem iwaits_no (cl lk cd : Int) (R : Option Addr) (n cap : Nat) (T C O : Option Addr) (n1 k1 n2 k2 n3 k3 : Nat) (ft : Int) (w : World)
    (HG : Calls Tryd.prog 64 #[.agg #[.int .i64 cl, .int .i64 lk, .int .i64 cd, .slice R n cap], .agg #[.slice T n1 k1, .slice C n2 k2, .slice O n3 k3, .int .i64 ft]] (stW w cl lk cd R n cap T C O n1 k1 n2 k2 n3 k3 ft) fun e w' => e = .returned (.bool false) ∧ Below (stW w cl lk cd R n cap T C O n1 k1 n2 k2 n3 k3 ft).heap.size (stW w cl lk cd R n cap T C O n1 k1 n2 k2 n3 k3 ft) w') :
    Calls Tryd.prog 29 #[.agg #[.int .i64 cl, .int .i64 lk, .int .i64 cd, .slice R n cap], .agg #[.slice T n1 k1, .slice C n2 k2, .slice O n3 k3, .int .i64 ft]] w fun e w' => e = .returned (.tuple #[.slice none 0 0, .bool false]) ∧ Below w.heap.size w w' := by
  have HIG := hide' HG
  have B0 := hide' (stW_below w cl lk cd R n cap T C O n1 k1 n2 k2 n3 k3 ft)
  clear HG
  go_enter Tryd.func29, Tryd.ntmps29
  go_wp2_with (go_at_call 64; refine HIG.out.mono ?_; rintro e w1 ⟨rfl, hb1⟩)
  go_ret2
  exact ⟨rfl, B0.out.trans (hb1.mono B0.out.size)⟩
end Go.Proofs.YtdifamjkbagfcaaDoor
