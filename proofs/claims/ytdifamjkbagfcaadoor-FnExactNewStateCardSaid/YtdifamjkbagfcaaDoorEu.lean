/- The threads that can go: the code's side, and the whole of both. -/
import Derived.Test.YtdifamjkbagfcaaDoorEt
namespace Go.Proofs.YtdifamjkbagfcaaDoor
open Go.RowKit
open Rd Fl

set_option maxRecDepth 20000 in
set_option maxHeartbeats 4000000 in
theorem ienab_yes (cl lk cd : Int) (R : Option Addr) (rs : List (List OpD)) (cap : Nat) (s : StD) (T C O : Option Addr) (k1 k2 k3 : Nat) (hg : goodSt cl lk cd rs s = true) (hn : StNums s) (w : World) (hR : RoutsAt w R rs) (hS : StAt w T C O s) (hF : Forms w) (hft : s.ft = 0) (hI : ∀ R cap T C O k1 k2 k3 w, RoutsAt w R rs → StAt w T C O s → Forms w → Calls Tryd.prog 64 #[.agg #[.int .i64 cl, .int .i64 lk, .int .i64 cd, .slice R rs.length cap], .agg #[.slice T s.ts.length k1, .slice C s.cl.length k2, .slice O s.ow.length k3, .int .i64 s.ft]] w fun e w' => e = .returned (.bool true) ∧ Below w.heap.size w w') :
    Calls Tryd.prog 27 #[.agg #[.int .i64 cl, .int .i64 lk, .int .i64 cd, .slice R rs.length cap], .agg #[.slice T s.ts.length k1, .slice C s.cl.length k2, .slice O s.ow.length k3, .int .i64 s.ft]] w fun e w' => (∃ v, e = .returned (.tuple #[v, .bool true]) ∧ w'.ownsRow w.heap.size 3 1 v (enTo rs s s.ts.length).length ((enTo rs s s.ts.length).map iv)) ∧ Below w.heap.size w w' := by
  obtain ⟨i0, hi, hz0, hz1, hz2⟩ := inInfo
  obtain ⟨-, h5, -, -, -, -, -⟩ := goodst_facts hg
  have hl' : (s.ts.length : Int) ≤ 5 := by omega
  obtain ⟨bt, ot, rfl, hts⟩ := ths_at hS.t (by intro h; rw [h] at h5; simp at h5)
  have HB := hide' (fun i hi wx hb => waitson_any cl lk cd R rs cap s (some ⟨bt, ot, none⟩) C O k1 k2 k3 hg hn i hi wx (hR.keep hb) (hS.keep hb))
  have HGE := hide' (fun i (hi : i < s.ts.length) => block_ge hg (List.getElem_mem hi))
  have HIG := hide' (hI R cap (some ⟨bt, ot, none⟩) C O k1 k2 k3 _ (hR.keep (stW_below w cl lk cd R rs.length cap (some ⟨bt, ot, none⟩) C O s.ts.length k1 s.cl.length k2 s.ow.length k3 s.ft)) (hS.keep (stW_below w cl lk cd R rs.length cap (some ⟨bt, ot, none⟩) C O s.ts.length k1 s.cl.length k2 s.ow.length k3 s.ft)) (hF.below (stW_below w cl lk cd R rs.length cap (some ⟨bt, ot, none⟩) C O s.ts.length k1 s.cl.length k2 s.ow.length k3 s.ft)))
  have HTS := hide' hts
  have HEL := hide' (fun k => enTo_len rs s k)
  have HES := hide' (fun k => enTo_succ rs s k)
  have HEA := hide' (fun k h => enB_at rs s k h)
  have HE0 : enTo rs s 0 = [] := rfl
  have H5 := hide' h5
  clear hts h5 hg hn hR hS hI hF
  generalize enTo rs s = en at *
  generalize enB rs s = eb at *
  obtain ⟨ts, cls, ow, ft⟩ := s
  simp only at *
  subst hft
  generalize cls.length = n2 at *
  generalize ow.length = n3 at *
  go_enter Tryd.func27, Tryd.ntmps27
  have T0 := hide' (two_new w cl lk cd R rs.length cap (some ⟨bt, ot, none⟩) C O ts.length k1 n2 k2 n3 k3 0 30 43)
  go_wp2_with (go_at_call 64; refine HIG.out.mono ?_; rintro e w1 ⟨rfl, hb1⟩; have T1 := hide' (T0.out.keep hb1); obtain ⟨⟨p0, p1, p2, p3⟩, ⟨s0, s1, s2, s3⟩, -⟩ := T1.out; have y2 : w.heap.size + 1 < w1.heap.size := World.block_lt_of_cell? w1 _ s0)
  clear hb1 HIG T0
  go_loopw [6, 19] (fun v i wr => ∃ k : Nat, k ≤ ts.length ∧ i = .int .i64 k ∧ Hid (Rnd w cl lk cd R rs.length cap (some ⟨bt, ot, none⟩) C O ts.length k1 n2 k2 n3 k3 0 v (en k) wr)) (fun _ i _ => ts.length - (intOf i).toNat)
  case atStart => exact ⟨0, Nat.zero_le _, rfl, (⟨T1.out, by rw [HE0]; exact World.ownsRow_nil _ _ _ _, by omega⟩ : Rnd _ _ _ _ _ _ _ _ _ _ _ _ _ _ _ _ _ _ _ _)⟩
  case round =>
    clear p0 p1 p2 p3 s0 s1 s2 s3 y2
    obtain ⟨k, hk, rfl, hrnd⟩ := hrel
    by_cases hlt : k < ts.length
    · have hlt2 : k < ts.length := hlt
      obtain ⟨S, cp, x1, x2⟩ := HTS.out k hlt2
      obtain ⟨c0, c1, c2, c3, c4, c5⟩ := th_range (range_keep hrnd.out.t.b x1)
      have HC := hide' (fun wx hb => HB.out k hlt2 wx hb)
      have HGEk := hide' (HGE.out k hlt2)
      have HEAk := hide' (HEA.out k hlt2)
      have HESk := hide' (HES.out k)
      clear x1 x2
      generalize ts[k] = t at c0 c1 c2 c3 c4 c5 HC HEAk HGEk
      obtain ⟨r0, r1, r2, r3, r4, sk⟩ := t
      simp only at c0 c1 c2 c3 c4 c5 HEAk
      generalize blockN rs ts ow _ = bn at HC HEAk HGEk
      obtain ⟨⟨p0, p1, p2, p3⟩, ⟨s0, s1, s2, s3⟩, -⟩ := hrnd.out.t
      have z1 : w.heap.size < wr.heap.size := World.block_lt_of_cell? wr _ p0
      have z2 : w.heap.size + 1 < wr.heap.size := World.block_lt_of_cell? wr _ s0
      have HL := hide' (Nat.le_trans (HEL.out k) (show k ≤ 5 by have := H5.out; omega))
      by_cases hst : r2 = 1 ∨ r2 = 4
      · by_cases hbn : bn = -1
        · have HE := hide' (show en (k + 1) = en k ++ [(k : Int)] by rw [HESk.out, if_pos (by rw [HEAk.out]; simp [hst, hbn])])
          clear HESk HEAk
          rcases hst with rfl | rfl
          all_goals
            go_wp2_with (first
              | (go_at_call 65; refine (HC.out _ (hrnd.out.t.b.up _)).mono ?_; rintro e w2 ⟨rfl, hb2⟩; have B2 := hide' (((Below.refl _ wr).up _).trans (hb2.mono (by simp))); have R2 := hide' (hrnd.out.keep B2.out))
              | (at_builtin; refine wpList_append_own _ rfl _ _ 34 rfl (w.heap.size + 2) 3 i0 (.int .i64 0) 1 8 Tryd.underlying34 hi hz0 hz1 hz2 rfl (by decide) _ _ _ rfl (R2.out.o.alloc _) ⟨w2.heap.size, 0, none⟩ 1 1 [iv k] rfl rfl ?c1 ?c2 ?c3 ?c4 ?c5 ?_)
              | go_in)
            case c1 =>
              intro j u hj
              match j, hj with
              | 0, hj => simp at hj; subst hj; simp [iv, Addr.add]
            case c2 => intro u hu; simp at hu; subst hu; rfl
            case c3 => unfold maxLen; have := HL.out; omega
            case c4 => have := HL.out; omega
            case c5 => have := R2.out.z; simp; omega
            intro v' w3 hown3 hgrow _
            have HB3 := hide' (Below.grown ((Below.refl (w.heap.size + 2) w2).alloc R2.out.z _) hgrow (by have := R2.out.z; simp; omega) (own_base' R2.out.o))
            have R3 := hide' (show Rnd w cl lk cd R rs.length cap (some ⟨bt, ot, none⟩) C O ts.length k1 n2 k2 n3 k3 0 v' (en (k + 1)) w3 from ⟨R2.out.t.keepB HB3.out, by rw [HE.out, List.length_append, List.map_append]; exact hown3, Nat.le_trans R2.out.z HB3.out.size⟩)
            clear hown3 hgrow
            go_wp2_with fail
            go_roundw
            case rel => exact ⟨k + 1, by omega, by go_num, R3.out⟩
            case measure => simp [intOf]; omega
        · have HE := hide' (show en (k + 1) = en k by rw [HESk.out, if_neg (by rw [HEAk.out]; simp; intro _; have := HGEk.out; omega)])
          clear HESk HEAk
          rcases hst with rfl | rfl
          all_goals
            go_wp2_with (go_at_call 65; refine (HC.out _ (hrnd.out.t.b.up _)).mono ?_; rintro e w2 ⟨rfl, hb2⟩; have B2 := hide' (((Below.refl _ wr).up _).trans (hb2.mono (by simp))); have R2 := hide' (hrnd.out.keep B2.out))
            go_roundw
            case rel => exact ⟨k + 1, by omega, by go_num, (by rw [HE.out]; exact R2.out)⟩
            case measure => simp [intOf]; omega
      · have HE := hide' (show en (k + 1) = en k by rw [HESk.out, if_neg (by rw [HEAk.out]; simp [hst])])
        have h1 : ¬ r2 = 1 := fun h => hst (.inl h)
        have h4 : ¬ r2 = 4 := fun h => hst (.inr h)
        clear HESk HEAk hst
        go_wp2_with fail
        have R2 := hide' (hrnd.out.keep ((Below.refl _ wr).up (.cells #[.int .i64 r0, .int .i64 r1, .int .i64 r2, .int .i64 r3, .int .i64 r4, .slice S sk.length cp] 88)))
        go_roundw
        case rel => exact ⟨k + 1, by omega, by go_num, (by rw [HE.out]; exact R2.out)⟩
        case measure => simp [intOf]; omega
    · have hke : k = ts.length := by omega
      rw [hke] at hrnd
      have hki : (k : Int) = ts.length := by omega
      go_wp2_with fail
      go_ret2
      exact ⟨⟨_, rfl, own_less hrnd.out.o (by omega)⟩, hrnd.out.t.b⟩

/-- the threads that can go -/
def enabledN (cl lk cd : Int) (rs : List (List OpD)) (s : StD) : List Int := if goodSt cl lk cd rs s = true then enTo rs s s.ts.length else []
theorem enabledN_len (cl lk cd : Int) (rs : List (List OpD)) (s : StD) : (enabledN cl lk cd rs s).length ≤ 5 := by
  unfold enabledN
  split
  · rename_i h
    obtain ⟨-, h5, -⟩ := goodst_facts h
    exact Nat.le_trans (enTo_len rs s _) h5.2
  · simp

set_option maxRecDepth 20000 in
set_option maxHeartbeats 2000000 in
theorem ienab_no (cl lk cd : Int) (R : Option Addr) (n cap : Nat) (T C O : Option Addr) (n1 k1 n2 k2 n3 k3 : Nat) (ft : Int) (g : Bool) (hno : g = false ∨ (g = true ∧ ¬ ft = 0)) (w : World)
    (HG : Calls Tryd.prog 64 #[.agg #[.int .i64 cl, .int .i64 lk, .int .i64 cd, .slice R n cap], .agg #[.slice T n1 k1, .slice C n2 k2, .slice O n3 k3, .int .i64 ft]] (stW w cl lk cd R n cap T C O n1 k1 n2 k2 n3 k3 ft) fun e w' => e = .returned (.bool g) ∧ Below (stW w cl lk cd R n cap T C O n1 k1 n2 k2 n3 k3 ft).heap.size (stW w cl lk cd R n cap T C O n1 k1 n2 k2 n3 k3 ft) w') :
    Calls Tryd.prog 27 #[.agg #[.int .i64 cl, .int .i64 lk, .int .i64 cd, .slice R n cap], .agg #[.slice T n1 k1, .slice C n2 k2, .slice O n3 k3, .int .i64 ft]] w fun e w' => e = .returned (.tuple #[.slice none 0 0, .bool g]) ∧ Below w.heap.size w w' := by
  have T0 := hide' (two_new w cl lk cd R n cap T C O n1 k1 n2 k2 n3 k3 ft 30 43)
  have HIG := hide' HG
  clear HG
  rcases hno with rfl | ⟨rfl, hft⟩
  all_goals
    go_enter Tryd.func27, Tryd.ntmps27
    go_wp2_with (go_at_call 64; refine HIG.out.mono ?_; rintro e w1 ⟨rfl, hb1⟩; have T1 := hide' (T0.out.keep hb1); obtain ⟨⟨p0, p1, p2, p3⟩, ⟨s0, s1, s2, s3⟩, -⟩ := T1.out)
    go_ret2
    exact ⟨rfl, T1.out.b⟩

set_option maxRecDepth 20000 in
set_option maxHeartbeats 2000000 in
theorem senab_no (cl lk cd : Int) (R : Option Addr) (n cap : Nat) (T C O : Option Addr) (n1 k1 n2 k2 n3 k3 : Nat) (ft : Int) (w : World)
    (HG : Calls Tryd.prog 59 #[.agg #[.int .i64 cl, .int .i64 lk, .int .i64 cd, .slice R n cap], .agg #[.slice T n1 k1, .slice C n2 k2, .slice O n3 k3, .int .i64 ft]] (stW w cl lk cd R n cap T C O n1 k1 n2 k2 n3 k3 ft) fun e w' => e = .returned (.bool false) ∧ Below (stW w cl lk cd R n cap T C O n1 k1 n2 k2 n3 k3 ft).heap.size (stW w cl lk cd R n cap T C O n1 k1 n2 k2 n3 k3 ft) w') :
    Calls Tryd.prog 25 #[.agg #[.int .i64 cl, .int .i64 lk, .int .i64 cd, .slice R n cap], .agg #[.slice T n1 k1, .slice C n2 k2, .slice O n3 k3, .int .i64 ft]] w fun e w' => e = .returned (.tuple #[.slice none 0 0, .bool false]) ∧ Below w.heap.size w w' := by
  have HIG := hide' HG
  have B0 := hide' (stW_below w cl lk cd R n cap T C O n1 k1 n2 k2 n3 k3 ft)
  clear HG
  go_enter Tryd.func25, Tryd.ntmps25
  go_wp2_with (go_at_call 59; refine HIG.out.mono ?_; rintro e w1 ⟨rfl, hb1⟩)
  go_ret2
  exact ⟨rfl, B0.out.trans (hb1.mono B0.out.size)⟩

set_option maxRecDepth 20000 in
set_option maxHeartbeats 2000000 in
theorem senab_yes (cl lk cd : Int) (R : Option Addr) (n cap : Nat) (T C O : Option Addr) (n1 k1 n2 k2 n3 k3 : Nat) (ft : Int) (l : List Int) (w : World)
    (HG : Calls Tryd.prog 59 #[.agg #[.int .i64 cl, .int .i64 lk, .int .i64 cd, .slice R n cap], .agg #[.slice T n1 k1, .slice C n2 k2, .slice O n3 k3, .int .i64 ft]] (stW w cl lk cd R n cap T C O n1 k1 n2 k2 n3 k3 ft) fun e w' => e = .returned (.bool true) ∧ Below (stW w cl lk cd R n cap T C O n1 k1 n2 k2 n3 k3 ft).heap.size (stW w cl lk cd R n cap T C O n1 k1 n2 k2 n3 k3 ft) w')
    (HE : ∀ wx, Below w.heap.size w wx → Calls Tryd.prog 60 #[.agg #[.int .i64 cl, .int .i64 lk, .int .i64 cd, .slice R n cap], .agg #[.slice T n1 k1, .slice C n2 k2, .slice O n3 k3, .int .i64 ft]] wx fun e w' => (∃ v, e = .returned v ∧ w'.ownsRow wx.heap.size 3 1 v l.length (l.map iv)) ∧ Below wx.heap.size wx w') :
    Calls Tryd.prog 25 #[.agg #[.int .i64 cl, .int .i64 lk, .int .i64 cd, .slice R n cap], .agg #[.slice T n1 k1, .slice C n2 k2, .slice O n3 k3, .int .i64 ft]] w fun e w' => (∃ v, e = .returned (.tuple #[v, .bool true]) ∧ w'.ownsRow w.heap.size 3 1 v l.length (l.map iv)) ∧ Below w.heap.size w w' := by
  have T0 := hide' (two_new w cl lk cd R n cap T C O n1 k1 n2 k2 n3 k3 ft 30 43)
  have HIG := hide' HG
  have HEN := hide' HE
  clear HG HE
  go_enter Tryd.func25, Tryd.ntmps25
  go_wp2_with (first | (go_at_call 59; refine HIG.out.mono ?_; rintro e w1 ⟨rfl, hb1⟩; have T1 := hide' (T0.out.keep hb1); obtain ⟨⟨p0, p1, p2, p3⟩, ⟨s0, s1, s2, s3⟩, -⟩ := T1.out) | (go_at_call 60; refine (HEN.out _ T1.out.b).mono ?_; rintro e w2 ⟨⟨v, rfl, ho⟩, hb2⟩))
  go_ret2
  exact ⟨⟨v, rfl, own_less ho T1.out.b.size⟩, T1.out.b.trans (hb2.mono T1.out.b.size)⟩

theorem enab_both (cl lk cd : Int) (rs : List (List OpD)) (hl : rs.length ≤ 1048576) (hls : ∀ l ∈ rs, l.length ≤ 1048576) (hr : ∀ l ∈ rs, ∀ o ∈ l, o.r < 9223372036854775808) (s : StD) (ho : s.ow.length ≤ 1048576) (hn : StNums s) :
    (∀ R cap T C O k1 k2 k3 w, RoutsAt w R rs → StAt w T C O s → Calls Tryd.prog 25 #[.agg #[.int .i64 cl, .int .i64 lk, .int .i64 cd, .slice R rs.length cap], .agg #[.slice T s.ts.length k1, .slice C s.cl.length k2, .slice O s.ow.length k3, .int .i64 s.ft]] w fun e w' => (∃ v, e = .returned (.tuple #[v, .bool (goodSt cl lk cd rs s)]) ∧ w'.ownsRow w.heap.size 3 1 v (enabledN cl lk cd rs s).length ((enabledN cl lk cd rs s).map iv)) ∧ Below w.heap.size w w') ∧
    (∀ R cap T C O k1 k2 k3 w, RoutsAt w R rs → StAt w T C O s → Forms w → Calls Tryd.prog 27 #[.agg #[.int .i64 cl, .int .i64 lk, .int .i64 cd, .slice R rs.length cap], .agg #[.slice T s.ts.length k1, .slice C s.cl.length k2, .slice O s.ow.length k3, .int .i64 s.ft]] w fun e w' => (∃ v, e = .returned (.tuple #[v, .bool (goodSt cl lk cd rs s)]) ∧ w'.ownsRow w.heap.size 3 1 v (enabledN cl lk cd rs s).length ((enabledN cl lk cd rs s).map iv)) ∧ Below w.heap.size w w') := by
  obtain ⟨hgs, hgi⟩ := goodst_both cl lk cd rs hl hls hr s ho
  unfold enabledN
  cases hg : goodSt cl lk cd rs s
  · rw [hg] at hgs hgi
    refine ⟨fun R cap T C O k1 k2 k3 w hR hS => ?_, fun R cap T C O k1 k2 k3 w hR hS hF => ?_⟩
    · have hb := stW_below w cl lk cd R rs.length cap T C O s.ts.length k1 s.cl.length k2 s.ow.length k3 s.ft
      refine (senab_no cl lk cd R rs.length cap T C O _ k1 _ k2 _ k3 s.ft w (hgs R cap T C O k1 k2 k3 _ (hR.keep hb) (hS.keep hb))).mono ?_
      rintro e w' ⟨rfl, hb'⟩
      exact ⟨⟨_, rfl, World.ownsRow_nil _ _ _ _⟩, hb'⟩
    · have hb := stW_below w cl lk cd R rs.length cap T C O s.ts.length k1 s.cl.length k2 s.ow.length k3 s.ft
      refine (ienab_no cl lk cd R rs.length cap T C O _ k1 _ k2 _ k3 s.ft false (.inl rfl) w (hgi R cap T C O k1 k2 k3 _ (hR.keep hb) (hS.keep hb) (hF.below hb))).mono ?_
      rintro e w' ⟨rfl, hb'⟩
      exact ⟨⟨_, rfl, World.ownsRow_nil _ _ _ _⟩, hb'⟩
  · rw [hg] at hgs hgi
    refine ⟨fun R cap T C O k1 k2 k3 w hR hS => ?_, fun R cap T C O k1 k2 k3 w hR hS hF => ?_⟩
    · have hb := stW_below w cl lk cd R rs.length cap T C O s.ts.length k1 s.cl.length k2 s.ow.length k3 s.ft
      exact senab_yes cl lk cd R rs.length cap T C O _ k1 _ k2 _ k3 s.ft _ w (hgs R cap T C O k1 k2 k3 _ (hR.keep hb) (hS.keep hb)) (fun wx hbx => l3enabled_any cl lk cd R rs cap s T C O k1 k2 k3 hg hn wx (hR.keep hbx) (hS.keep hbx))
    · by_cases hft : s.ft = 0
      · exact ienab_yes cl lk cd R rs cap s T C O k1 k2 k3 hg hn w hR hS hF hft hgi
      · have hb := stW_below w cl lk cd R rs.length cap T C O s.ts.length k1 s.cl.length k2 s.ow.length k3 s.ft
        refine (ienab_no cl lk cd R rs.length cap T C O _ k1 _ k2 _ k3 s.ft true (.inr ⟨rfl, hft⟩) w (hgi R cap T C O k1 k2 k3 _ (hR.keep hb) (hS.keep hb) (hF.below hb))).mono ?_
        rintro e w' ⟨rfl, hb'⟩
        rw [if_pos rfl, enTo_fault rs s hft]
        exact ⟨⟨_, rfl, World.ownsRow_nil _ _ _ _⟩, hb'⟩
end Go.Proofs.YtdifamjkbagfcaaDoor
