/- Numbers with a text between: the code's side; a schedule's text, both sides. -/
import Derived.Test.YtnmbkiajkpcmnaaDoorJn
import Derived.Test.YtnmbkiajkpcmnaaDoorPg
import Derived.Lib.LaidTab
import Derived.Maps.AppendAt
namespace Go.Proofs.YtnmbkiajkpcmnaaDoor
open Go.RowKit
open Rd Fl

theorem jstrSize : (Tryd.prog.info? 9).map (·.size) = some 1 := by kernel_rfl
theorem jstrBytes : (Tryd.prog.info? 9).map (·.bytes) = some 16 := by kernel_rfl
theorem jstrZero : (Tryd.prog.info? 9).bind (·.zero) = some (.string ⟨#[]⟩) := by kernel_rfl
theorem jstrInfo : ∃ i, Tryd.prog.info? 9 = some i ∧ i.zero = some (.string ⟨#[]⟩) ∧ i.size = 1 ∧ i.bytes = 16 := by
  cases hi : Tryd.prog.info? 9 with
  | none => have := jstrSize; rw [hi] at this; cases this
  | some i =>
    exact ⟨i, rfl, by have := jstrZero; rw [hi] at this; simpa using this, by have := jstrSize; rw [hi] at this; simpa using this, by have := jstrBytes; rw [hi] at this; simpa using this⟩

theorem gPowJ : Tryd.prog.globalNamed "internal/strconv.uint64pow10" = some 3 := by kernel_rfl
theorem Pow.below {w w' : World} (h : Pow w) (hb : Below w.heap.size w w') : Pow w' := by
  unfold Pow Lib.TabIs World.var? at h ⊢
  rw [gPowJ] at h ⊢
  simp only [Option.bind_some] at h ⊢
  have hlt : 3 < w.heap.size := by
    rcases Nat.lt_or_ge 3 w.heap.size with h' | h'
    · exact h'
    · rw [Array.getElem?_eq_none h'] at h; cases h
  rw [hb.block 3 hlt]
  exact h

def txV (x : Int) : Value := .string (txJ x)
theorem nums_data (l : List Int) : (l.map txJ).map (fun b : ByteArray => b.data.toList) = nums l := by
  rw [List.map_map]; rfl

set_option maxRecDepth 20000 in
set_option maxHeartbeats 2000000 in
theorem joinnums_any (A : Option Addr) (l : List Int) (cap : Nat) (hl : l.length ≤ 1000) (hx : ∀ x ∈ l, 0 ≤ x ∧ x ≤ 1000000) (sep : ByteArray) (hsep : sep.size ≤ 100) (w : World) (hA : LAt iv w A l) (hP : Pow w) :
    Calls Tryd.prog 19 #[.slice A l.length cap, .string sep] w fun e w' => e = .returned (.string ⟨(joinT sep.data.toList l).toArray⟩) ∧ Below w.heap.size w w' := by
  have hl' : (l.length : Int) ≤ 1000 := by omega
  obtain ⟨i0, hi, hz0, hz1, hz2⟩ := jstrInfo
  obtain ⟨b, off, hA1, hc⟩ := hA
  have HC := hide' hc
  have HA := hide' hA1
  have HX := hide' (fun k (h : k < l.length) => hx l[k] (List.getElem_mem h))
  have HP := hide' hP
  have HTK := hide' (fun k (h : k < l.length) => (show (l.take (k + 1)).map txV = (l.take k).map txV ++ [txV l[k]] by rw [List.take_succ_eq_append_getElem h, List.map_append]; rfl))
  have HIT := hide' (fun x hx1 hx2 w hw => itoaJ_any x hx1 hx2 w hw)
  have HNIL := hide' (fun a c w => Tryd.strings_Join_none a c sep w)
  have hlen : (Lib.join ((l.map txJ).map (fun b : ByteArray => b.data.toList)) sep.data.toList).length ≤ 140737488355328 := by
    rw [nums_data]
    have h1 := joinT_len sep.data.toList l hx
    have h2 : sep.data.toList.length ≤ 100 := by simpa using hsep
    unfold joinT at h1
    have h3 : l.length * (sep.data.toList.length + 21) ≤ 1000 * 121 := Nat.mul_le_mul hl (by omega)
    omega
  have HJ := hide' (fun (g c : Nat) w (h1 : ∀ (j : Nat) x, (l.map txJ)[j]? = some x → w.cell? ⟨g, 0 + j, none⟩ = some (.string x)) h2 (h3 : (l.map txJ).length ≤ c) => Tryd.strings_Join g 0 c (l.map txJ) sep w h1 h2 (by simp; omega) h3 hlen)
  rw [List.length_map, nums_data] at HJ
  clear hc hA1 hx hP hsep hlen
  go_enter Tryd.func19, Tryd.ntmps19
  go_wp2
  go_loopw [5, 10] (fun v i wr => ∃ k : Nat, k ≤ l.length ∧ i = .int .i64 k ∧ Hid (wr.ownsRow w.heap.size 9 1 v k ((l.take k).map txV)) ∧ Hid (Below w.heap.size w wr)) (fun _ i _ => l.length - (intOf i).toNat)
  case atStart => exact ⟨0, Nat.zero_le _, rfl, World.ownsRow_nil _ _ _ _, Below.refl _ _⟩
  case round =>
    obtain ⟨k, hk, rfl, hown, hbw⟩ := hrel
    by_cases hlt : k < l.length
    · have hA2 := HA.out (fun e => by rw [e] at hlt; simp at hlt)
      subst hA2
      have c0 := keep_cell hbw.out (HC.out k l[k] (List.getElem?_eq_getElem hlt))
      unfold iv at c0
      have HT := hide' (HTK.out k hlt)
      have HXK := HX.out k hlt
      generalize l[k] = x at c0 HT HXK
      have hx1 : -9223372036854775808 ≤ x := by omega
      have hx2 : x ≤ 9223372036854775807 := by omega
      go_wp2_with (first
        | (go_at_call 34; refine (HIT.out x hx1 hx2 _ (HP.out.below hbw.out)).mono ?_; rintro e w1 ⟨rfl, hb1⟩; have B1 := hide' (hbw.out.trans (hb1.mono hbw.out.size)); have O1 := hide' (own_keep hown.out hb1); clear hb1)
        | (at_builtin; refine wpList_append_own _ rfl _ _ 42 rfl w.heap.size 9 i0 (.string ⟨#[]⟩) 1 16 Tryd.underlying42 hi hz0 hz1 hz2 rfl (by decide) _ _ _ rfl (O1.out.alloc _) ⟨w1.heap.size, 0, none⟩ 1 1 [txV x] rfl rfl ?c1 ?c2 ?c3 ?c4 ?c5 ?_)
        | go_in)
      case c1 =>
        intro j u hj
        match j, hj with
        | 0, hj => simp at hj; subst hj; simp [Addr.add, txV]
      case c2 => intro u hu; simp at hu; subst hu; rfl
      case c3 => unfold maxLen; omega
      case c4 => omega
      case c5 => have := B1.out.size; simp; omega
      intro v' w3 hown3 hgrow _
      have B3 := hide' (Below.grown (B1.out.up _) hgrow (by have := B1.out.size; simp; omega) (own_base' O1.out))
      have O3 := hide' hown3
      clear hown3 hgrow
      go_wp2_with fail
      go_roundw
      case rel => exact ⟨k + 1, by omega, by go_num, by rw [HT.out, List.map_take]; exact O3.out, B3.out⟩
      case measure => simp [intOf]; omega
    · have hke : k = l.length := by omega
      subst hke
      have O4 := hide' (show wr.ownsRow w.heap.size 9 1 _ l.length (l.map txV) from by have := hown.out; rw [List.take_length] at this; exact this)
      rcases O4.out.2 with ⟨rfl, h0⟩ | ⟨g, cp, cur, rfl, hb, hg, h1, h2, h3, h4⟩
      · have hl0 : l = [] := List.length_eq_zero_iff.1 h0
        subst hl0
        go_wp2_with (go_at_call 35; refine (HNIL.out _ _ _).mono ?_; rintro e w4 ⟨rfl, rfl⟩)
        go_ret
        exact ⟨rfl, hbw.out⟩
      · have hcs : ∀ (j : Nat) x, (l.map txJ)[j]? = some x → wr.cell? ⟨g, 0 + j, none⟩ = some (.string x) := by
          intro j x hj
          rw [List.getElem?_map] at hj
          obtain ⟨y, hy, rfl⟩ := Option.map_eq_some_iff.1 hj
          have hjl := (List.getElem?_eq_some_iff.1 hy).1
          have := O4.out.cellAt j (by omega)
          rw [Nat.zero_add]
          show wr.cell? ⟨g, j, none⟩ = _
          rw [this, List.getElem?_map, hy]; rfl
        have HF := hide' (HJ.out g cp wr hcs (Array.getElem?_eq_some_iff.1 hg).1 h1)
        clear hcs hg h1 h2 h3 h4 hb O4 hown
        go_wp2_with (go_at_call 35; refine HF.out.mono ?_; rintro e w4 ⟨rfl, hb4⟩; have B4 := hide' (hbw.out.trans (hb4.mono hbw.out.size)); clear hb4)
        go_ret
        exact ⟨rfl, B4.out⟩

/-- the text of a schedule -/
def pctT (r c : List Int) : ByteArray := ⟨(joinT [44] r).toArray⟩ ++ ⟨#[47]⟩ ++ ⟨(joinT [44] c).toArray⟩
def pctAns (r c : List Int) : ByteArray := if goodC r c = true then pctT r c else ⟨#[]⟩
theorem goodC_facts {r c : List Int} (h : goodC r c = true) : r.length = 5 ∧ (∀ x ∈ r, 0 ≤ x ∧ x ≤ 1000000) ∧ c.length ≤ 4 ∧ (∀ x ∈ c, 0 ≤ x ∧ x ≤ 1000000) := by
  unfold goodC onceB at h
  simp only [Bool.and_eq_true] at h
  obtain ⟨⟨h1, h2, -⟩, h3, h4⟩ := h
  refine ⟨of_decide_eq_true h1, fun x hx => ?_, of_decide_eq_true h3, fun x hx => ?_⟩
  · have := List.all_eq_true.1 h2 x hx
    unfold inC at this
    have := of_decide_eq_true this
    omega
  · obtain ⟨i, hi, rfl⟩ := List.mem_iff_getElem.1 hx
    have := List.all_eq_true.1 h4 i (List.mem_range.2 hi)
    unfold okR at this
    rw [getD_at hi, Bool.and_eq_true] at this
    have := of_decide_eq_true this.1
    omega
theorem comma_data : (⟨#[44]⟩ : ByteArray).data.toList = [44] := rfl
theorem joinT_size (l : List Int) (hl : l.length ≤ 1000) (hx : ∀ x ∈ l, 0 ≤ x ∧ x ≤ 1000000) : (⟨(joinT [44] l).toArray⟩ : ByteArray).size ≤ 22000 := by
  have h1 := joinT_len [44] l hx
  show (joinT [44] l).toArray.size ≤ 22000
  rw [List.size_toArray]
  simp at h1
  omega

set_option maxRecDepth 20000 in
set_option maxHeartbeats 2000000 in
theorem l5text_any (A B : Option Addr) (r c : List Int) (ca cb : Nat) (h1 : r.length ≤ 1000) (h2 : ∀ x ∈ r, 0 ≤ x ∧ x ≤ 1000000) (h3 : c.length ≤ 1000) (h4 : ∀ x ∈ c, 0 ≤ x ∧ x ≤ 1000000) (w : World) (hA : LAt iv w A r) (hB : LAt iv w B c) :
    Calls Tryd.prog 16 #[.agg #[.slice A r.length ca, .slice B c.length cb]] w fun e w' => e = .returned (.string (pctT r c)) ∧ Below w.heap.size w w' := by
  have hbw : Below w.heap.size w (w.alloc (.cells #[.slice A r.length ca, .slice B c.length cb] 28)) := (Below.refl _ w).up _
  obtain ⟨p0, p1⟩ := cbox_new w A B r.length ca c.length cb 28
  have HA := hide' (hA.keep hbw)
  have HB := hide' (hB.keep hbw)
  have BW := hide' hbw
  have H1 := hide' (fun w hw => l4list_any A r ca h1 h2 w hw)
  have H2 := hide' (fun w hw => l4list_any B c cb h3 h4 w hw)
  have z1 := joinT_size r h1 h2
  have z2 := joinT_size c h3 h4
  unfold pctT
  generalize (⟨(joinT [44] r).toArray⟩ : ByteArray) = tr at *
  generalize (⟨(joinT [44] c).toArray⟩ : ByteArray) = tc at *
  have z3 : (⟨#[47]⟩ : ByteArray).size = 1 := rfl
  have hr1 := run_add tr ⟨#[47]⟩ (by omega)
  have hr2 := run_add (tr ++ ⟨#[47]⟩) tc (by rw [ByteArray.size_append]; omega)
  clear hbw hA hB
  go_enter Tryd.func16, Tryd.ntmps16
  go_wp2_with fail
  have zz : w.heap.size < (w.alloc (.cells #[.slice A r.length ca, .slice B c.length cb] 28)).heap.size := by simp
  generalize (w.alloc (.cells #[.slice A r.length ca, .slice B c.length cb] 28)) = W1 at *
  go_region_with (first
    | (go_at_call_of 30 (Value.slice A r.length ca); refine (H1.out _ (HA.out.keep (Below.refl _ _).drew)).mono ?_; rintro e w1 ⟨rfl, hb1⟩; have K1 := hide' ((Below.refl _ W1).drew.trans hb1); have q1 := keep_cell K1.out p1; clear hb1)
    | (go_at_call_of 30 (Value.slice B c.length cb); refine (H2.out _ (HB.out.keep K1.out)).mono ?_; rintro e w2 ⟨rfl, hb2⟩; have K2 := hide' (K1.out.trans (hb2.mono K1.out.size)); clear hb2))
  all_goals
    go_wp2_with fail
    go_ret
    exact ⟨rfl, BW.out.trans (K2.out.mono BW.out.size)⟩

theorem pctAns_no {r c : List Int} (h : goodC r c = false) : pctAns r c = ⟨#[]⟩ := by unfold pctAns; rw [h]; rfl
theorem pctAns_yes {r c : List Int} (h : goodC r c = true) : pctAns r c = pctT r c := by unfold pctAns; rw [if_pos h]

set_option maxRecDepth 20000 in
set_option maxHeartbeats 2000000 in
theorem spcttext_any (A B : Option Addr) (r c : List Int) (ca cb : Nat) (hr : r.length ≤ 1048576) (hc : c.length ≤ 1048576) (hca : r.length ≤ ca) (hcm : ca ≤ 1048576) (w : World) (hA : LAt iv w A r) (hB : LAt iv w B c) :
    Calls Tryd.prog 6 #[.agg #[.slice A r.length ca, .slice B c.length cb]] w fun e w' => e = .returned (.tuple #[.string (pctAns r c), .bool (goodC r c)]) ∧ Below w.heap.size w w' := by
  have hbw : Below w.heap.size w (w.alloc (.cells #[.slice A r.length ca, .slice B c.length cb] 28)) := (Below.refl _ w).up _
  obtain ⟨p0, p1⟩ := cbox_new w A B r.length ca c.length cb 28
  have HA := hide' (hA.keep hbw)
  have HB := hide' (hB.keep hbw)
  have BW := hide' hbw
  have HG := hide' (fun w h1 h2 => sgoodpct_any A B r c ca cb hr hc hca hcm w h1 h2)
  cases hg : goodC r c with
  | false =>
    rw [hg] at HG
    rw [pctAns_no hg]
    clear hbw hA hB hr hc hca hcm hg
    go_enter Tryd.func6, Tryd.ntmps6
    go_wp2_with (go_at_call 15; refine (HG.out _ HA.out HB.out).mono ?_; rintro e w1 ⟨rfl, hb1⟩; have K1 := hide' hb1; clear hb1)
    go_ret2
    exact ⟨rfl, BW.out.trans (K1.out.mono BW.out.size)⟩
  | true =>
    rw [hg] at HG
    rw [pctAns_yes hg]
    obtain ⟨f1, f2, f3, f4⟩ := goodC_facts hg
    have HT := hide' (fun w h1 h2 => l5text_any A B r c ca cb (by omega) f2 (by omega) f4 w h1 h2)
    clear hbw hA hB hr hc hca hcm hg f1 f2 f3 f4
    go_enter Tryd.func6, Tryd.ntmps6
    go_wp2_with (first
      | (go_at_call 15; refine (HG.out _ HA.out HB.out).mono ?_; rintro e w1 ⟨rfl, hb1⟩; have K1 := hide' hb1; have q0 := keep_cell hb1 p0; have q1 := keep_cell hb1 p1; clear hb1)
      | (go_at_call 16; refine (HT.out _ (HA.out.keep K1.out) (HB.out.keep K1.out)).mono ?_; rintro e w2 ⟨rfl, hb2⟩; have K2 := hide' (K1.out.trans (hb2.mono K1.out.size)); clear hb2))
    go_ret2
    exact ⟨rfl, BW.out.trans (K2.out.mono BW.out.size)⟩

set_option maxRecDepth 20000 in
set_option maxHeartbeats 4000000 in
theorem ipcttext_any (A B : Option Addr) (r c : List Int) (ca cb : Nat) (hr : r.length ≤ 1048576) (hc : c.length ≤ 1048576) (w : World) (hA : LAt iv w A r) (hB : LAt iv w B c) (hP : Pow w) :
    Calls Tryd.prog 8 #[.agg #[.slice A r.length ca, .slice B c.length cb]] w fun e w' => e = .returned (.tuple #[.string (pctAns r c), .bool (goodC r c)]) ∧ Below w.heap.size w w' := by
  have hbw : Below w.heap.size w (w.alloc (.cells #[.slice A r.length ca, .slice B c.length cb] 28)) := (Below.refl _ w).up _
  obtain ⟨p0, p1⟩ := cbox_new w A B r.length ca c.length cb 28
  have HA := hide' (hA.keep hbw)
  have HB := hide' (hB.keep hbw)
  have BW := hide' hbw
  have PW := hide' (hP.below hbw)
  have HG := hide' (fun w h1 h2 => igoodpct_any A B r c ca cb hr hc w h1 h2)
  cases hg : goodC r c with
  | false =>
    rw [hg] at HG
    rw [pctAns_no hg]
    clear hbw hA hB hr hc hg hP
    go_enter Tryd.func8, Tryd.ntmps8
    go_wp2_with (go_at_call 18; refine (HG.out _ HA.out HB.out).mono ?_; rintro e w1 ⟨rfl, hb1⟩; have K1 := hide' hb1; clear hb1)
    go_ret2
    exact ⟨rfl, BW.out.trans (K1.out.mono BW.out.size)⟩
  | true =>
    rw [hg] at HG
    rw [pctAns_yes hg]
    obtain ⟨f1, f2, f3, f4⟩ := goodC_facts hg
    have H1 := hide' (fun w hw hp => joinnums_any A r ca (by omega) f2 ⟨#[44]⟩ (by decide) w hw hp)
    have H2 := hide' (fun w hw hp => joinnums_any B c cb (by omega) f4 ⟨#[44]⟩ (by decide) w hw hp)
    rw [comma_data] at H1 H2
    have z1 := joinT_size r (by omega) f2
    have z2 := joinT_size c (by omega) f4
    unfold pctT
    generalize (⟨(joinT [44] r).toArray⟩ : ByteArray) = tr at *
    generalize (⟨(joinT [44] c).toArray⟩ : ByteArray) = tc at *
    have z3 : (⟨#[47]⟩ : ByteArray).size = 1 := rfl
    have hr1 := run_add tr ⟨#[47]⟩ (by omega)
    have hr2 := run_add (tr ++ ⟨#[47]⟩) tc (by rw [ByteArray.size_append]; omega)
    clear hbw hA hB hr hc hg f1 f2 f3 f4 hP
    go_enter Tryd.func8, Tryd.ntmps8
    go_wp2_with (go_at_call 18; refine (HG.out _ HA.out HB.out).mono ?_; rintro e w1 ⟨rfl, hb1⟩; have K1 := hide' hb1; have q0 := keep_cell hb1 p0; have q1 := keep_cell hb1 p1; clear hb1 p0 p1)
    have A1 := hide' (HA.out.keep K1.out)
    have C1 := hide' (HB.out.keep K1.out)
    have P1 := hide' (PW.out.below K1.out)
    have zz : w.heap.size < w1.heap.size := World.block_lt_of_cell? w1 _ q0
    have BW1 := hide' (BW.out.trans (K1.out.mono BW.out.size))
    clear K1 BW HA HB PW
    go_region_with (first
      | (go_at_call_of 19 (Value.slice A r.length ca); refine (H1.out _ (A1.out.keep (Below.refl _ _).drew) (P1.out.below (Below.refl _ _).drew)).mono ?_; rintro e w2 ⟨rfl, hb2⟩; have K2 := hide' ((Below.refl _ w1).drew.trans hb2); have r1 := keep_cell K2.out q1; clear hb2)
      | (go_at_call_of 19 (Value.slice B c.length cb); refine (H2.out _ (C1.out.keep K2.out) (P1.out.below K2.out)).mono ?_; rintro e w3 ⟨rfl, hb3⟩; have K3 := hide' (K2.out.trans (hb3.mono K2.out.size)); clear hb3))
    all_goals
      go_wp2_with fail
      go_ret2
      exact ⟨rfl, BW1.out.trans (K3.out.mono BW1.out.size)⟩
end Go.Proofs.YtnmbkiajkpcmnaaDoor
