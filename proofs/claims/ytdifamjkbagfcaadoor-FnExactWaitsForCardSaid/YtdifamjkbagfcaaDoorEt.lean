/- The threads that can go: both sides. -/
import Derived.Test.YtdifamjkbagfcaaDoorRg
import Derived.Test.YtdifamjkbagfcaaDoorEs
import Derived.Test.YtdifamjkbagfcaaDoorMl
import Derived.Test.YtdifamjkbagfcaaDoorGoodStateW
namespace Go.Proofs.YtdifamjkbagfcaaDoor
open Go.RowKit
open Rd Fl

/-- whether a thread can go -/
def enB (rs : List (List OpD)) (s : StD) (k : Nat) : Bool := match s.ts[k]? with | some t => decide (s.ft = 0) && (decide (t.st = 1) || decide (t.st = 4)) && decide (blockN rs s.ts s.ow t < 0) | none => false
def enTo (rs : List (List OpD)) (s : StD) (k : Nat) : List Int := ((List.range k).filter (enB rs s)).map (fun n : Nat => (n : Int))
theorem enTo_succ (rs : List (List OpD)) (s : StD) (k : Nat) : enTo rs s (k + 1) = if enB rs s k = true then enTo rs s k ++ [(k : Int)] else enTo rs s k := by
  unfold enTo
  rw [List.range_succ, List.filter_append, List.map_append]
  by_cases h : enB rs s k = true
  · rw [if_pos h, List.filter_cons_of_pos h]; rfl
  · rw [if_neg h, List.filter_cons_of_neg h]; simp
theorem enTo_len (rs : List (List OpD)) (s : StD) (k : Nat) : (enTo rs s k).length ≤ k := by
  unfold enTo
  rw [List.length_map]
  exact Nat.le_trans (List.length_filter_le _ _) (by simp)
theorem enB_at (rs : List (List OpD)) (s : StD) (k : Nat) (h : k < s.ts.length) : enB rs s k = (decide (s.ft = 0) && (decide (s.ts[k].st = 1) || decide (s.ts[k].st = 4)) && decide (blockN rs s.ts s.ow s.ts[k] < 0)) := by
  unfold enB; rw [List.getElem?_eq_getElem h]
theorem enTo_fault (rs : List (List OpD)) (s : StD) (h : ¬ s.ft = 0) (k : Nat) : enTo rs s k = [] := by
  unfold enTo
  rw [List.filter_eq_nil_iff.2, List.map_nil]
  intro n _
  unfold enB
  split <;> simp [h]

theorem block_ge {cl lk cd : Int} {rs : List (List OpD)} {s : StD} (h : goodSt cl lk cd rs s = true) {t : ThD} (ht : t ∈ s.ts) : -1 ≤ blockN rs s.ts s.ow t := by
  obtain ⟨-, -, -, -, -, -, ho⟩ := goodst_facts h
  rcases way_of h ht with ⟨l, h4, hl, hlt, e⟩ | ⟨h4, h1, e⟩ | ⟨h1, a, p, hr, hp, ha, hl, e⟩ | ⟨h1, a, p, hr, hp, ha, hl, hc, x, hx, hlt, e⟩ | ⟨h1, a, p, hr, hp, ha, hl, hc, hd, e⟩ | ⟨h1, a, p, hr, hp, ha, hl, hc, e⟩
  · rw [e]; exact (ho _ (List.getElem_mem hlt)).1
  · rw [e]; omega
  · rw [e]; omega
  · rw [e]; exact (ho _ (List.getElem_mem hlt)).1
  · rw [e]; omega
  · skip
    rw [e]
    unfold joinB
    split
    · omega
    · split
      · rename_i x _ hb
        obtain ⟨k, hk, -⟩ := ti_lt hb
        split <;> omega
      · omega

theorem Two.keepB {w : World} {cl lk cd : Int} {R : Option Addr} {n cap : Nat} {T C O : Option Addr} {n1 k1 n2 k2 n3 k3 : Nat} {ft : Int} {wx wy : World} (h : Two w cl lk cd R n cap T C O n1 k1 n2 k2 n3 k3 ft wx) (hb : Below (w.heap.size + 2) wx wy) : Two w cl lk cd R n cap T C O n1 k1 n2 k2 n3 k3 ft wy :=
  ⟨⟨cellB hb (by omega) h.p.c0, cellB hb (by omega) h.p.c1, cellB hb (by omega) h.p.c2, cellB hb (by omega) h.p.c3⟩, ⟨cellB hb (by omega) h.s.c0, cellB hb (by omega) h.s.c1, cellB hb (by omega) h.s.c2, cellB hb (by omega) h.s.c3⟩, h.b.trans (hb.mono (by omega))⟩
/-- What the rounds of both loops keep. -/
structure Rnd (w : World) (cl lk cd : Int) (R : Option Addr) (n cap : Nat) (T C O : Option Addr) (n1 k1 n2 k2 n3 k3 : Nat) (ft : Int) (v : Value) (l : List Int) (wr : World) : Prop where
  t : Two w cl lk cd R n cap T C O n1 k1 n2 k2 n3 k3 ft wr
  o : wr.ownsRow (w.heap.size + 2) 3 1 v l.length (l.map iv)
  z : w.heap.size + 2 ≤ wr.heap.size
theorem Rnd.keep {w : World} {cl lk cd : Int} {R : Option Addr} {n cap : Nat} {T C O : Option Addr} {n1 k1 n2 k2 n3 k3 : Nat} {ft : Int} {v : Value} {l : List Int} {wr wx : World} (h : Rnd w cl lk cd R n cap T C O n1 k1 n2 k2 n3 k3 ft v l wr) (hb : Below wr.heap.size wr wx) : Rnd w cl lk cd R n cap T C O n1 k1 n2 k2 n3 k3 ft v l wx := ⟨h.t.keep hb, own_keep h.o hb, Nat.le_trans h.z hb.size⟩

set_option maxRecDepth 20000 in
set_option maxHeartbeats 4000000 in
theorem l3enabled_any (cl lk cd : Int) (R : Option Addr) (rs : List (List OpD)) (cap : Nat) (s : StD) (T C O : Option Addr) (k1 k2 k3 : Nat) (hg : goodSt cl lk cd rs s = true) (hn : StNums s) (w : World) (hR : RoutsAt w R rs) (hS : StAt w T C O s) :
    Calls Tryd.prog 60 #[.agg #[.int .i64 cl, .int .i64 lk, .int .i64 cd, .slice R rs.length cap], .agg #[.slice T s.ts.length k1, .slice C s.cl.length k2, .slice O s.ow.length k3, .int .i64 s.ft]] w fun e w' => (∃ v, e = .returned v ∧ w'.ownsRow w.heap.size 3 1 v (enTo rs s s.ts.length).length ((enTo rs s s.ts.length).map iv)) ∧ Below w.heap.size w w' := by
  obtain ⟨i0, hi, hz0, hz1, hz2⟩ := inInfo
  obtain ⟨-, h5, -, -, -, -, -⟩ := goodst_facts hg
  have hl' : (s.ts.length : Int) ≤ 5 := by omega
  obtain ⟨bt, ot, rfl, hts⟩ := ths_at hS.t (by intro h; rw [h] at h5; simp at h5)
  have HB := hide' (fun i hi S kp wx hb hK => l3blocks_any cl lk cd R rs cap s (some ⟨bt, ot, none⟩) C O k1 k2 k3 hg hn i hi S kp wx (hR.keep hb) (hS.keep hb) hK)
  have HTS := hide' hts
  have HEL := hide' (fun k => enTo_len rs s k)
  have HES := hide' (fun k => enTo_succ rs s k)
  have HEA := hide' (fun k h => enB_at rs s k h)
  have HE0 : enTo rs s 0 = [] := rfl
  have H5 := hide' h5
  clear hts h5 hg hn hR hS
  generalize enTo rs s = en at *
  generalize enB rs s = eb at *
  obtain ⟨ts, cls, ow, ft⟩ := s
  simp only at *
  generalize cls.length = n2 at *
  generalize ow.length = n3 at *
  go_enter Tryd.func60, Tryd.ntmps60
  go_wp2_with fail
  go_loopw [5, 11] (fun v i wr => ∃ k : Nat, k ≤ ts.length ∧ i = .int .i64 k ∧ Hid (Rnd w cl lk cd R rs.length cap (some ⟨bt, ot, none⟩) C O ts.length k1 n2 k2 n3 k3 ft v (en k) wr)) (fun _ i _ => ts.length - (intOf i).toNat)
  case atStart => exact ⟨0, Nat.zero_le _, rfl, (⟨two_new w cl lk cd R rs.length cap _ C O ts.length k1 n2 k2 n3 k3 ft _ _, by rw [HE0]; exact World.ownsRow_nil _ _ _ _, by simp⟩ : Rnd _ _ _ _ _ _ _ _ _ _ _ _ _ _ _ _ _ _ _ _)⟩
  case round =>
    obtain ⟨k, hk, rfl, hrnd⟩ := hrel
    by_cases hlt : k < ts.length
    · have hlt2 : k < ts.length := hlt
      obtain ⟨S, cp, x1, x2⟩ := HTS.out k hlt2
      obtain ⟨c0, c1, c2, c3, c4, c5⟩ := th_range (range_keep hrnd.out.t.b x1)
      have HC := hide' (fun wx hb => HB.out k hlt2 S cp wx hb (x2.keep hb))
      have HEAk := hide' (HEA.out k hlt2)
      have HESk := hide' (HES.out k)
      clear x1 x2
      generalize ts[k] = t at c0 c1 c2 c3 c4 c5 HC HEAk
      obtain ⟨r0, r1, r2, r3, r4, sk⟩ := t
      simp only at c0 c1 c2 c3 c4 c5 HC HEAk
      generalize blockN rs ts ow _ = bn at HC HEAk
      obtain ⟨⟨p0, p1, p2, p3⟩, ⟨s0, s1, s2, s3⟩, -⟩ := hrnd.out.t
      have z1 : w.heap.size < wr.heap.size := World.block_lt_of_cell? wr _ p0
      have z2 : w.heap.size + 1 < wr.heap.size := World.block_lt_of_cell? wr _ s0
      have HL := hide' (Nat.le_trans (HEL.out k) (show k ≤ 5 by have := H5.out; omega))
      by_cases hft : ft = 0
      · subst hft
        by_cases hst : r2 = 1 ∨ r2 = 4
        · by_cases hbn : bn < 0
          · have HE := hide' (show en (k + 1) = en k ++ [(k : Int)] by rw [HESk.out, if_pos (by rw [HEAk.out]; simp [hst, hbn])])
            clear HESk HEAk
            rcases hst with rfl | rfl
            all_goals
              go_wp2_with (first
                | (go_at_call 66; refine (HC.out _ (hrnd.out.t.b.up _)).mono ?_; rintro e w2 ⟨rfl, hb2⟩; have B2 := hide' (((Below.refl _ wr).up _).trans (hb2.mono (by simp))); have R2 := hide' (hrnd.out.keep B2.out))
                | (at_builtin; refine wpList_append_own _ rfl _ _ 34 rfl (w.heap.size + 2) 3 i0 (.int .i64 0) 1 8 Tryd.underlying34 hi hz0 hz1 hz2 rfl (by decide) _ _ _ rfl (R2.out.o.alloc _) ⟨w2.heap.size, 0, none⟩ 1 1 [iv k] rfl rfl ?c1 ?c2 ?c3 ?c4 ?c5 ?_)
                | go_in)
              case c1 =>
                intro j u hj
                match j, hj with
                | 0, hj => simp at hj; subst hj; simp [iv, Addr.add]
              case c2 => intro u hu; simp at hu; subst hu; rfl
              case c3 => unfold maxLen; have := HL.out; omega
              case c4 => have := HL.out; omega
              case c5 => have := R2.out.z; simp; omega
              intro v' w3 hown3 hgrow _
              have HB3 := hide' (Below.grown ((Below.refl (w.heap.size + 2) w2).alloc R2.out.z _) hgrow (by have := R2.out.z; simp; omega) (own_base' R2.out.o))
              have R3 := hide' (show Rnd w cl lk cd R rs.length cap (some ⟨bt, ot, none⟩) C O ts.length k1 n2 k2 n3 k3 0 v' (en (k + 1)) w3 from ⟨R2.out.t.keepB HB3.out, by rw [HE.out, List.length_append, List.map_append]; exact hown3, Nat.le_trans R2.out.z HB3.out.size⟩)
              clear hown3 hgrow
              go_wp2_with fail
              go_roundw
              case rel => exact ⟨k + 1, by omega, by go_num, R3.out⟩
              case measure => simp [intOf]; omega
          · have HE := hide' (show en (k + 1) = en k by rw [HESk.out, if_neg (by rw [HEAk.out]; simp [hbn])])
            clear HESk HEAk
            rcases hst with rfl | rfl
            all_goals
              go_wp2_with (go_at_call 66; refine (HC.out _ (hrnd.out.t.b.up _)).mono ?_; rintro e w2 ⟨rfl, hb2⟩; have B2 := hide' (((Below.refl _ wr).up _).trans (hb2.mono (by simp))); have R2 := hide' (hrnd.out.keep B2.out))
              go_roundw
              case rel => exact ⟨k + 1, by omega, by go_num, (by rw [HE.out]; exact R2.out)⟩
              case measure => simp [intOf]; omega
        · have HE := hide' (show en (k + 1) = en k by rw [HESk.out, if_neg (by rw [HEAk.out]; simp [hst])])
          have h1 : ¬ r2 = 1 := fun h => hst (.inl h)
          have h4 : ¬ r2 = 4 := fun h => hst (.inr h)
          clear HESk HEAk hst
          go_wp2_with fail
          have R2 := hide' (hrnd.out.keep ((Below.refl _ wr).up (.cells #[.int .i64 r0, .int .i64 r1, .int .i64 r2, .int .i64 r3, .int .i64 r4, .slice S sk.length cp] 88)))
          go_roundw
          case rel => exact ⟨k + 1, by omega, by go_num, (by rw [HE.out]; exact R2.out)⟩
          case measure => simp [intOf]; omega
      · have HE := hide' (show en (k + 1) = en k by rw [HESk.out, if_neg (by rw [HEAk.out]; simp [hft])])
        clear HESk HEAk
        go_wp2_with fail
        have R2 := hide' (hrnd.out.keep ((Below.refl _ wr).up (.cells #[.int .i64 r0, .int .i64 r1, .int .i64 r2, .int .i64 r3, .int .i64 r4, .slice S sk.length cp] 88)))
        go_roundw
        case rel => exact ⟨k + 1, by omega, by go_num, (by rw [HE.out]; exact R2.out)⟩
        case measure => simp [intOf]; omega
    · have hke : k = ts.length := by omega
      rw [hke] at hrnd
      have hki : (k : Int) = ts.length := by omega
      go_wp2_with fail
      go_ret
      exact ⟨⟨_, rfl, own_less hrnd.out.o (by omega)⟩, hrnd.out.t.b⟩
end Go.Proofs.YtdifamjkbagfcaaDoor
