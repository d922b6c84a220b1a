/- Who waits for whom: the contracts of both sides over the data. -/
import Derived.Test.YtdifamjkbagfcaaDoorEr
namespace Go.Proofs.YtdifamjkbagfcaaDoor
open Go.RowKit
open Rd Fl

theorem ths_at {w : World} {A : Option Addr} {ts : List ThD} (h : ThsAt w A ts) (hne : ts ≠ []) : ∃ b off, A = some ⟨b, off, none⟩ ∧ ∀ i (hi : i < ts.length), ∃ S cap, w.rangeAt b (off + i * 6) (ts[i].cells S cap) ∧ LAt fv w S ts[i].sk := by
  obtain ⟨b, off, h1, h2⟩ := h
  exact ⟨b, off, h1 hne, fun i hi => h2 i ts[i] (List.getElem?_eq_getElem hi)⟩
theorem l_at {α : Type} {f : α → Value} {w : World} {A : Option Addr} {l : List α} (h : LAt f w A l) (hne : l ≠ []) : ∃ b off, A = some ⟨b, off, none⟩ ∧ ∀ i (hi : i < l.length), w.cell? ⟨b, off + i, none⟩ = some (f l[i]) := by
  obtain ⟨b, off, h1, h2⟩ := h
  exact ⟨b, off, h1 hne, fun i hi => h2 i l[i] (List.getElem?_eq_getElem hi)⟩

/-- what a stack's last number tells of a join: there is none; it tells no thread; it tells one -/
def Top (ts : List ThD) (sk : List (Bool × Nat)) (w : World) (S : Option Addr) : Prop :=
  (sk.length = 0 ∧ joinB ts sk = -1) ∨
  (∃ m b off : Nat, sk.length = m + 1 ∧ S = some ⟨b, off, none⟩ ∧ ∃ (s : Bool) (r : Nat), r < 9223372036854775808 ∧ w.cell? ⟨b, off + m, none⟩ = some (.float .f64 (wd s r)) ∧ tiB s r ts.length = false ∧ joinB ts sk = -1) ∨
  (∃ m b off : Nat, sk.length = m + 1 ∧ S = some ⟨b, off, none⟩ ∧ ∃ (s : Bool) (r : Nat), r < 9223372036854775808 ∧ w.cell? ⟨b, off + m, none⟩ = some (.float .f64 (wd s r)) ∧ tiB s r ts.length = true ∧ ∃ k : Nat, tiN s r ts.length = k ∧ ∃ hlt : k < ts.length, joinB ts sk = if ts[k].st = 2 then -1 else (k : Int))
theorem top_of (ts : List ThD) (sk : List (Bool × Nat)) (hr : ∀ x ∈ sk, x.2 < 9223372036854775808) (w : World) (S : Option Addr) (hS : LAt fv w S sk) : Top ts sk w S := by
  by_cases he : sk = []
  · subst he; exact .inl ⟨rfl, rfl⟩
  · obtain ⟨b, off, h1, h2⟩ := l_at hS he
    have hpos : 0 < sk.length := List.length_pos_iff.2 he
    have hm : sk.length = (sk.length - 1) + 1 := by omega
    have hlast : sk.getLast? = some sk[sk.length - 1] := by rw [List.getLast?_eq_getElem?, List.getElem?_eq_getElem]
    have hc := h2 (sk.length - 1) (by omega)
    have hmem := hr sk[sk.length - 1] (List.getElem_mem _)
    generalize sk[sk.length - 1] = x at hlast hc hmem
    obtain ⟨s, r⟩ := x
    cases hb : tiB s r ts.length
    · refine .inr (.inl ⟨sk.length - 1, b, off, hm, h1, s, r, hmem, hc, hb, ?_⟩)
      unfold joinB
      rw [hlast]
      simp [hb]
    · obtain ⟨k, hk, hlt⟩ := ti_lt hb
      have hlt2 : k < ts.length := by omega
      refine .inr (.inr ⟨sk.length - 1, b, off, hm, h1, s, r, hmem, hc, hb, k, hk, hlt2, ?_⟩)
      unfold joinB stOf
      rw [hlast]
      simp [hb, hk, hlt2]

theorem nat_le_int {n m : Nat} (h : n ≤ m) : (n : Int) ≤ m := by omega

set_option maxHeartbeats 1000000 in
theorem l3blocks_any (cl lk cd : Int) (R : Option Addr) (rs : List (List OpD)) (cap : Nat) (s : StD) (T C O : Option Addr) (k1 k2 k3 : Nat) (hg : goodSt cl lk cd rs s = true) (hn : StNums s) (i : Nat) (hi : i < s.ts.length) (S : Option Addr) (kp : Nat) (w : World) (hR : RoutsAt w R rs) (hS : StAt w T C O s) (hK : LAt fv w S s.ts[i].sk) :
    Calls Tryd.prog 66 #[.agg #[.int .i64 cl, .int .i64 lk, .int .i64 cd, .slice R rs.length cap], .agg #[.slice T s.ts.length k1, .slice C s.cl.length k2, .slice O s.ow.length k3, .int .i64 s.ft], .agg #[.int .i64 s.ts[i].rt, .int .i64 s.ts[i].pc, .int .i64 s.ts[i].st, .int .i64 s.ts[i].cd, .int .i64 s.ts[i].lk, .slice S s.ts[i].sk.length kp]] w fun e w' => e = .returned (.int .i64 (blockN rs s.ts s.ow s.ts[i])) ∧ Below w.heap.size w w' := by
  have hmem : s.ts[i] ∈ s.ts := List.getElem_mem hi
  have hway := way_of hg hmem
  obtain ⟨hgs, h5, -, -, -, hth, -⟩ := goodst_facts hg
  obtain ⟨-, -, -, -, -, -, h8, -, -⟩ := th_facts (hth _ hmem)
  obtain ⟨⟨-, -, -, hlen⟩, hl24⟩ := good_facts hgs
  have hnr : rs ≠ [] := by intro h; rw [h] at hlen; simp at hlen
  obtain ⟨br, offr, rfl, hrt⟩ := routs_at hR hnr
  obtain ⟨bt, ot, rfl, hts⟩ := ths_at hS.t (by intro h; rw [h] at h5; simp at h5)
  have htop := top_of s.ts s.ts[i].sk (hn.k _ hmem) w S hK
  have hO := hS.o
  clear hK hS hR
  generalize s.ts[i] = t at hway htop h8 hmem
  obtain ⟨r0, r1, r2, r3, r4, sk⟩ := t
  simp only at *
  rcases hway with ⟨l, h4, hl, h, e⟩ | ⟨h4, h1, e⟩ | ⟨h1, a, p, hr, hp, ha, hl, e⟩ | ⟨h1, a, p, hr, hp, ha, hl, hc12, x, hx, h, e⟩ | ⟨h1, a, p, hr, hp, ha, hl, hc12, hc15, e⟩ | ⟨h1, a, p, hr, hp, ha, hl, hc15, e⟩
  · skip
    simp only at h4 hl
    subst h4 hl
    obtain ⟨bo, oo, rfl, ho⟩ := l_at hO (by intro h'; rw [h'] at h; simp at h)
    rw [e]
    exact l3blocks_woken cl lk cd _ rs.length cap _ C bo oo s.ts.length k1 s.cl.length k2 s.ow.length k3 s.ft r0 r1 r3 l (by omega) S sk.length kp s.ow[l] w (ho l h)
  · skip
    simp only at h4 h1
    obtain ⟨a, p, e1, e2, ha, hp, -, -, -⟩ := th_facts (hth _ hmem)
    simp only at e1 e2
    subst e1 e2
    rw [e]
    obtain ⟨A, cp, hc, hops⟩ := hrt a ha
    by_cases hpl : p = rs[a].length
    · subst hpl
      exact l3blocks_no cl lk cd _ rs.length cap _ C O s.ts.length k1 s.cl.length k2 s.ow.length k3 s.ft a _ r2 r3 r4 S sk.length kp 0 0 0 0 false h4 (.inl h1) w (l3next_end cl lk cd br offr rs.length cap a (by omega) _ r2 r3 r4 S sk.length kp A cp _ (keep_cell (below3 w _ _ _) hc))
    · have hpl2 : p < rs[a].length := by omega
      obtain ⟨b2, off2, g1, g2⟩ := hops
      have g3 := g1 (by intro h'; rw [h'] at hpl2; simp at hpl2)
      subst g3
      exact l3blocks_no cl lk cd _ rs.length cap _ C O s.ts.length k1 s.cl.length k2 s.ow.length k3 s.ft a p r2 r3 r4 S sk.length kp _ _ _ _ true h4 (.inl h1) w (l3next_op cl lk cd br offr rs.length cap a (by omega) p rs[a].length (by omega) r2 r3 r4 S sk.length kp b2 off2 cp rs[a][p] _ (keep_cell (below3 w _ _ _) hc) (range_keep (below3 w _ _ _) (g2 p _ (List.getElem?_eq_getElem hpl2))))
  · skip
    simp only at h1 hr hp
    subst h1 hr hp
    rw [e]
    obtain ⟨A, cp, hc, -⟩ := hrt a ha
    rw [hl] at hc
    exact l3blocks_no cl lk cd _ rs.length cap _ C O s.ts.length k1 s.cl.length k2 s.ow.length k3 s.ft a p 1 r3 r4 S sk.length kp 0 0 0 0 false (by omega) (.inr (.inl ⟨rfl, rfl⟩)) w (l3next_end cl lk cd br offr rs.length cap a (by omega) p 1 r3 r4 S sk.length kp A cp _ (keep_cell (below3 w _ _ _) hc))
  · skip
    simp only at h1 hr hp
    subst h1 hr hp
    rw [e]
    obtain ⟨A, cp, hc, hops⟩ := hrt a ha
    obtain ⟨b2, off2, g1, g2⟩ := hops
    have g3 := g1 (by intro h'; rw [h'] at hl; simp at hl)
    subst g3
    obtain ⟨bo, oo, rfl, ho⟩ := l_at hO (by intro h'; rw [h'] at h; simp at h)
    have hN := l3next_op cl lk cd br offr rs.length cap a (by omega) p rs[a].length (by omega) 1 r3 r4 S sk.length kp b2 off2 cp rs[a][p] (thrW w cl lk cd (some ⟨br, offr, none⟩) rs.length cap (some ⟨bt, ot, none⟩) C (some ⟨bo, oo, none⟩) s.ts.length k1 s.cl.length k2 s.ow.length k3 s.ft a p 1 r3 r4 S sk.length kp) (keep_cell (below3 w _ _ _) hc) (range_keep (below3 w _ _ _) (g2 p _ (List.getElem?_eq_getElem hl)))
    rw [hc12, hx] at hN
    exact l3blocks_lock cl lk cd _ rs.length cap _ C bo oo s.ts.length k1 s.cl.length k2 s.ow.length k3 s.ft a p r3 r4 S sk.length kp x _ _ (by omega) s.ow[x] w (ho x h) hN
  · skip
    simp only at h1 hr hp
    subst h1 hr hp
    rw [e]
    obtain ⟨A, cp, hc, hops⟩ := hrt a ha
    obtain ⟨b2, off2, g1, g2⟩ := hops
    have g3 := g1 (by intro h'; rw [h'] at hl; simp at hl)
    subst g3
    exact l3blocks_no cl lk cd _ rs.length cap _ C O s.ts.length k1 s.cl.length k2 s.ow.length k3 s.ft a p 1 r3 r4 S sk.length kp _ _ _ _ true (by omega) (.inr (.inr ⟨rfl, rfl, hc12, hc15⟩)) w (l3next_op cl lk cd br offr rs.length cap a (by omega) p rs[a].length (by omega) 1 r3 r4 S sk.length kp b2 off2 cp rs[a][p] _ (keep_cell (below3 w _ _ _) hc) (range_keep (below3 w _ _ _) (g2 p _ (List.getElem?_eq_getElem hl))))
  · skip
    simp only at h1 hr hp
    subst h1 hr hp
    rw [e]
    obtain ⟨A, cp, hc, hops⟩ := hrt a ha
    obtain ⟨b2, off2, g1, g2⟩ := hops
    have g3 := g1 (by intro h'; rw [h'] at hl; simp at hl)
    subst g3
    have hN := l3next_op cl lk cd br offr rs.length cap a (by omega) p rs[a].length (by omega) 1 r3 r4 S sk.length kp b2 off2 cp rs[a][p] (thrW w cl lk cd (some ⟨br, offr, none⟩) rs.length cap (some ⟨bt, ot, none⟩) C O s.ts.length k1 s.cl.length k2 s.ow.length k3 s.ft a p 1 r3 r4 S sk.length kp) (keep_cell (below3 w _ _ _) hc) (range_keep (below3 w _ _ _) (g2 p _ (List.getElem?_eq_getElem hl)))
    rw [hc15] at hN
    rcases htop with ⟨h, ej⟩ | ⟨m, b, off, h, hS', ss, rr, hrr, hcc, hb, ej⟩ | ⟨m, b, off, h, hS', ss, rr, hrr, hcc, hb, k, hk, hlt, ej⟩
    · skip
      rw [ej]
      refine l3blocks_join cl lk cd _ rs.length cap _ C O s.ts.length k1 s.cl.length k2 s.ow.length k3 s.ft a p r3 r4 S sk.length kp _ _ _ (-1) (by omega) w hN fun wx _ => ?_
      rw [h]
      exact l3joins_none _ C O _ k1 _ k2 _ k3 s.ft a p 1 r3 r4 S kp wx
    · skip
      rw [ej]
      subst hS'
      refine l3blocks_join cl lk cd _ rs.length cap _ C O s.ts.length k1 s.cl.length k2 s.ow.length k3 s.ft a p r3 r4 _ sk.length kp _ _ _ (-1) (by omega) w hN fun wx hbx => ?_
      rw [h]
      have := l3joins_some (some ⟨bt, ot, none⟩) C O s.ts.length k1 s.cl.length k2 s.ow.length k3 s.ft a p 1 r3 r4 b off m kp (by omega) ss rr hrr wx (keep_cell hbx hcc)
      rw [hb] at this
      exact this
    · skip
      rw [ej]
      subst hS'
      obtain ⟨S2, cp2, hr2, -⟩ := hts k hlt
      refine l3blocks_joined cl lk cd _ rs.length cap bt ot C O s.ts.length k1 s.cl.length k2 s.ow.length k3 s.ft a p r3 r4 _ sk.length kp _ _ _ k (by omega) s.ts[k].st w (th_range hr2).2.2.1 hN fun wx hbx => ?_
      rw [h]
      have := l3joins_some (some ⟨bt, ot, none⟩) C O s.ts.length k1 s.cl.length k2 s.ow.length k3 s.ft a p 1 r3 r4 b off m kp (by omega) ss rr hrr wx (keep_cell hbx hcc)
      rw [hb, hk] at this
      exact this

set_option maxHeartbeats 1000000 in
theorem waitson_any (cl lk cd : Int) (R : Option Addr) (rs : List (List OpD)) (cap : Nat) (s : StD) (T C O : Option Addr) (k1 k2 k3 : Nat) (hg : goodSt cl lk cd rs s = true) (hn : StNums s) (i : Nat) (hi : i < s.ts.length) (w : World) (hR : RoutsAt w R rs) (hS : StAt w T C O s) :
    Calls Tryd.prog 65 #[.agg #[.int .i64 cl, .int .i64 lk, .int .i64 cd, .slice R rs.length cap], .agg #[.slice T s.ts.length k1, .slice C s.cl.length k2, .slice O s.ow.length k3, .int .i64 s.ft], .int .i64 (i : Int)] w fun e w' => e = .returned (.int .i64 (blockN rs s.ts s.ow s.ts[i])) ∧ Below w.heap.size w w' := by
  have hmem : s.ts[i] ∈ s.ts := List.getElem_mem hi
  have hway := way_of hg hmem
  obtain ⟨hgs, h5, -, -, -, hth, -⟩ := goodst_facts hg
  obtain ⟨-, -, -, -, -, -, h8, -, -⟩ := th_facts (hth _ hmem)
  obtain ⟨⟨-, -, -, hlen⟩, hl24⟩ := good_facts hgs
  have hnr : rs ≠ [] := by intro h; rw [h] at hlen; simp at hlen
  obtain ⟨br, offr, rfl, hrt⟩ := routs_at hR hnr
  obtain ⟨bt, ot, rfl, hts⟩ := ths_at hS.t (by intro h; rw [h] at h5; simp at h5)
  obtain ⟨S, kp, hrg, hK⟩ := hts i hi
  have htop := top_of s.ts s.ts[i].sk (hn.k _ hmem) w S hK
  have hO := hS.o
  have hii : (i : Int) < s.ts.length := by omega
  clear hK hS hR
  generalize s.ts[i] = t at hway htop h8 hmem hrg
  obtain ⟨r0, r1, r2, r3, r4, sk⟩ := t
  unfold ThD.cells at hrg
  simp only at *
  rcases hway with ⟨l, h4, hl, h, e⟩ | ⟨h4, h1, e⟩ | ⟨h1, a, p, hr, hp, ha, hl, e⟩ | ⟨h1, a, p, hr, hp, ha, hl, hc12, x, hx, h, e⟩ | ⟨h1, a, p, hr, hp, ha, hl, hc12, hc15, e⟩ | ⟨h1, a, p, hr, hp, ha, hl, hc15, e⟩
  · skip
    simp only at h4 hl
    subst h4 hl
    obtain ⟨bo, oo, rfl, ho⟩ := l_at hO (by intro h'; rw [h'] at h; simp at h)
    rw [e]
    exact waitson_woken cl lk cd _ rs.length cap bt ot C s.ts.length k1 s.cl.length k2 s.ow.length k3 s.ft bo oo i hii r0 r1 r3 l (by omega) S sk.length kp s.ow[l] w (ho l h) hrg
  · skip
    rw [e]
    exact waitson_other cl lk cd _ rs.length cap bt ot C O s.ts.length k1 s.cl.length k2 s.ow.length k3 s.ft i hii r0 r1 r2 r3 r4 S sk.length kp h4 h1 w hrg
  · skip
    simp only at h1 hr hp
    subst h1 hr hp
    rw [e]
    obtain ⟨A, cp, hc, -⟩ := hrt a ha
    rw [hl] at hc
    exact waitson_no cl lk cd _ rs.length cap bt ot C O s.ts.length k1 s.cl.length k2 s.ow.length k3 s.ft i hii a p r3 r4 S sk.length kp 0 0 0 0 false (by omega) (by omega) w hrg (nextop_end cl lk cd br offr rs.length cap a (by omega) p 1 r3 r4 S sk.length kp A cp _ (keep_cell (below3 w _ _ _) hc))
  · skip
    simp only at h1 hr hp
    subst h1 hr hp
    rw [e]
    obtain ⟨A, cp, hc, hops⟩ := hrt a ha
    obtain ⟨b2, off2, g1, g2⟩ := hops
    have g3 := g1 (by intro h'; rw [h'] at hl; simp at hl)
    subst g3
    obtain ⟨bo, oo, rfl, ho⟩ := l_at hO (by intro h'; rw [h'] at h; simp at h)
    have hN := nextop_op cl lk cd br offr rs.length cap a (by omega) p rs[a].length (by omega) 1 r3 r4 S sk.length kp b2 off2 cp rs[a][p] (thrW w cl lk cd (some ⟨br, offr, none⟩) rs.length cap (some ⟨bt, ot, none⟩) C (some ⟨bo, oo, none⟩) s.ts.length k1 s.cl.length k2 s.ow.length k3 s.ft a p 1 r3 r4 S sk.length kp) (keep_cell (below3 w _ _ _) hc) (range_keep (below3 w _ _ _) (g2 p _ (List.getElem?_eq_getElem hl)))
    rw [hc12, hx] at hN
    exact waitson_lock cl lk cd _ rs.length cap bt ot C s.ts.length k1 s.cl.length k2 s.ow.length k3 s.ft bo oo i hii a p r3 r4 S sk.length kp x _ _ (by omega) s.ow[x] w (ho x h) hrg hN
  · skip
    simp only at h1 hr hp
    subst h1 hr hp
    rw [e]
    obtain ⟨A, cp, hc, hops⟩ := hrt a ha
    obtain ⟨b2, off2, g1, g2⟩ := hops
    have g3 := g1 (by intro h'; rw [h'] at hl; simp at hl)
    subst g3
    exact waitson_no cl lk cd _ rs.length cap bt ot C O s.ts.length k1 s.cl.length k2 s.ow.length k3 s.ft i hii a p r3 r4 S sk.length kp _ _ _ _ true hc12 hc15 w hrg (nextop_op cl lk cd br offr rs.length cap a (by omega) p rs[a].length (by omega) 1 r3 r4 S sk.length kp b2 off2 cp rs[a][p] _ (keep_cell (below3 w _ _ _) hc) (range_keep (below3 w _ _ _) (g2 p _ (List.getElem?_eq_getElem hl))))
  · skip
    simp only at h1 hr hp
    subst h1 hr hp
    rw [e]
    obtain ⟨A, cp, hc, hops⟩ := hrt a ha
    obtain ⟨b2, off2, g1, g2⟩ := hops
    have g3 := g1 (by intro h'; rw [h'] at hl; simp at hl)
    subst g3
    have hN := nextop_op cl lk cd br offr rs.length cap a (by omega) p rs[a].length (by omega) 1 r3 r4 S sk.length kp b2 off2 cp rs[a][p] (thrW w cl lk cd (some ⟨br, offr, none⟩) rs.length cap (some ⟨bt, ot, none⟩) C O s.ts.length k1 s.cl.length k2 s.ow.length k3 s.ft a p 1 r3 r4 S sk.length kp) (keep_cell (below3 w _ _ _) hc) (range_keep (below3 w _ _ _) (g2 p _ (List.getElem?_eq_getElem hl)))
    rw [hc15] at hN
    refine waitson_join cl lk cd _ rs.length cap bt ot C O s.ts.length k1 s.cl.length k2 s.ow.length k3 s.ft i hii a p r3 r4 S sk.length kp _ _ _ (joinB s.ts sk) w hrg hN fun wx hbx => ?_
    rcases htop with ⟨h, ej⟩ | ⟨m, b, off, h, hS', ss, rr, hrr, hcc, hb, ej⟩ | ⟨m, b, off, h, hS', ss, rr, hrr, hcc, hb, k, hk, hlt, ej⟩
    · skip
      rw [ej, h]
      exact joinson_none _ C O _ k1 _ k2 _ k3 s.ft S kp wx
    · skip
      rw [ej, h]
      subst hS'
      exact joinson_no _ C O _ k1 _ k2 _ k3 s.ft b off m kp (by omega) ss rr hrr hb wx (keep_cell hbx hcc)
    · skip
      rw [ej, h]
      subst hS'
      obtain ⟨S2, cp2, hr2, -⟩ := hts k hlt
      exact joinson_yes bt ot C O _ k1 _ k2 _ k3 s.ft b off m kp (by omega) ss rr hrr hb k hk (by omega) s.ts[k].st wx (keep_cell hbx hcc) (keep_cell hbx (th_range hr2).2.2.1)
end Go.Proofs.YtdifamjkbagfcaaDoor
