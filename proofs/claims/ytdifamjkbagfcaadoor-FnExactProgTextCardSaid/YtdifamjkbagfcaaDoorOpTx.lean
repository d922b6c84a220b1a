/- spec.l2Words, l2OpText and OpText: contracts. -/
import Derived.Test.YtdifamjkbagfcaaDoorOpsS
import Derived.Lib.OthersKept
namespace Go.Proofs.YtdifamjkbagfcaaDoor
open Go.RowKit
open Rd Fl

theorem take_snoc (s : ByteArray) (k : Nat) (h : k < s.size) : s.data.toList.take (k + 1) = s.data.toList.take k ++ [s[k]] := by
  rw [List.take_succ_eq_append_getElem (by simpa using h)]; rfl

def opWords : List ByteArray := [⟨#[]⟩, ⟨#[112, 117, 115, 104]⟩, ⟨#[108, 111, 97, 100]⟩, ⟨#[115, 116, 111, 114, 101]⟩, ⟨#[97, 100, 100]⟩, ⟨#[115, 117, 98]⟩, ⟨#[109, 117, 108]⟩, ⟨#[100, 105, 118]⟩, ⟨#[108, 101, 115, 115]⟩, ⟨#[115, 97, 109, 101]⟩, ⟨#[106, 117, 109, 112]⟩, ⟨#[117, 110, 108, 101, 115, 115]⟩, ⟨#[108, 111, 99, 107]⟩, ⟨#[117, 110, 108, 111, 99, 107]⟩, ⟨#[115, 112, 97, 119, 110]⟩, ⟨#[106, 111, 105, 110]⟩, ⟨#[119, 97, 105, 116]⟩, ⟨#[115, 105, 103, 110, 97, 108]⟩]
def wordsV : Array Value := (opWords.map Value.string).toArray

set_option maxHeartbeats 400000 in
theorem words_any (w : World) : Calls Tryd.prog 96 #[] w fun e w' => e = .returned (.slice (some ⟨w.heap.size, 0, none⟩) 18 18) ∧ w' = w.alloc (.cells wordsV 9) := by
  go_enter Tryd.func96, Tryd.ntmps96
  go_wp2
  go_ret
  exact ⟨rfl, rfl⟩

def decB (n : Int) : ByteArray := ⟨(Lib.decDigits n.toNat).toArray⟩
/-- the text of what a byte of the uses stands for -/
def argX (T : ByteArray) (a b : Int) (u : UInt8) : ByteArray := if u = 118 then T else if u = 97 then decB a else decB b
/-- the word and the texts behind it, up to a place of the uses -/
def accT (W : ByteArray) (X : UInt8 → ByteArray) (l : List UInt8) : ByteArray := l.foldl (fun acc u => acc ++ (⟨#[32]⟩ ++ X u)) W
theorem accT_snoc (W : ByteArray) (X : UInt8 → ByteArray) (l : List UInt8) (u : UInt8) : accT W X (l ++ [u]) = accT W X l ++ (⟨#[32]⟩ ++ X u) := by
  unfold accT; rw [List.foldl_append]; rfl
theorem accT_size (X : UInt8 → ByteArray) (n : Nat) (hX : ∀ u, (X u).size ≤ n) : ∀ (l : List UInt8) (W : ByteArray), (accT W X l).size ≤ W.size + l.length * (n + 1) := by
  intro l
  induction l with
  | nil => intro W; simp [accT]
  | cons u l ih =>
    intro W
    have h := ih (W ++ (⟨#[32]⟩ ++ X u))
    rw [ByteArray.size_append, ByteArray.size_append] at h
    have := hX u
    have h1 : (ByteArray.mk #[32]).size = 1 := rfl
    have h2 : (u :: l).length * (n + 1) = l.length * (n + 1) + (n + 1) := by simp [Nat.add_mul]
    have h3 : accT W X (u :: l) = accT (W ++ (⟨#[32]⟩ ++ X u)) X l := rfl
    rw [h3]
    omega

theorem decB_size (n : Int) (h0 : 0 ≤ n) (h : n ≤ 999) : (decB n).size ≤ 3 := by
  have := dec_len 2 n.toNat (by omega)
  show (Lib.decDigits n.toNat).toArray.size ≤ 3
  rw [List.size_toArray]; exact this

theorem l1num_i (n : Int) (h0 : 0 ≤ n) (h : n ≤ 999) (w : World) : Calls Tryd.prog 70 #[.int .i64 n] w fun e w' => e = .returned (.string (decB n)) ∧ Below w.heap.size w w' := by
  have := l1num_any n.toNat (by omega) w
  rwa [show ((n.toNat : Nat) : Int) = n by omega] at this

theorem use_bytes (c : Int) : (useT c).size ≤ 2 ∧ ∀ u ∈ (useT c).data.toList, u = 118 ∨ u = 97 ∨ u = 98 := by
  unfold useT
  split
  · exact ⟨by decide, by decide⟩
  · split
    · exact ⟨by decide, by decide⟩
    · split
      · exact ⟨by decide, by decide⟩
      · exact ⟨by decide, by decide⟩

theorem u97 (u : UInt8) (h : u = 118 ∨ u = 97 ∨ u = 98) : u.toNat < 128 := by rcases h with rfl | rfl | rfl <;> decide

/-- An op lies boxed at block N. -/
structure BoxAt (N : Nat) (c a b : Int) (v : Nat) (w : World) : Prop where
  c : w.cell? ⟨N, 0, none⟩ = some (.int .i64 c)
  a : w.cell? ⟨N, 1, none⟩ = some (.int .i64 a)
  b : w.cell? ⟨N, 2, none⟩ = some (.int .i64 b)
  v : w.cell? ⟨N, 3, none⟩ = some (.float .f64 v)

theorem cell_iter {w : World} {k : Nat} {s : ByteArray} {pos : Nat} (hk : w.heap[k]? = some (.stringIter s pos)) (pos' N o : Nat) {v : Value} (h : w.cell? ⟨N, o, none⟩ = some v) : (w.iterAt k s pos').cell? ⟨N, o, none⟩ = some v := by
  have hne : N ≠ k := by
    intro e
    subst e
    unfold World.cell? at h
    simp only [hk] at h
    cases h
  rw [World.cell?_of_block (w := w) (Lib.iterAt_other w k N s pos' hne)]
  exact h
theorem BoxAt.iter {N : Nat} {c a b : Int} {v : Nat} {w : World} (h : BoxAt N c a b v w) {k : Nat} {s : ByteArray} {pos : Nat} (hk : w.heap[k]? = some (.stringIter s pos)) (pos' : Nat) : BoxAt N c a b v (w.iterAt k s pos') :=
  ⟨cell_iter hk _ _ _ h.c, cell_iter hk _ _ _ h.a, cell_iter hk _ _ _ h.b, cell_iter hk _ _ _ h.v⟩
theorem BoxAt.above {N : Nat} {c a b : Int} {v : Nat} {w w' : World} (h : BoxAt N c a b v w) (hb : Below w.heap.size w w') : BoxAt N c a b v w' :=
  ⟨cell_keep hb h.c, cell_keep hb h.a, cell_keep hb h.b, cell_keep hb h.v⟩
theorem box_new (w : World) (c a b : Int) (v : Nat) (t : TypeId) : BoxAt w.heap.size c a b v (w.alloc (.cells #[.int .i64 c, .int .i64 a, .int .i64 b, .float .f64 v] t)) := by
  refine ⟨?_, ?_, ?_, ?_⟩ <;> (rw [World.cell?_alloc_new]; rfl)
theorem box_at (w : World) (c a b : Int) (v : Nat) (o : Obj) (s : ByteArray) : BoxAt w.heap.size c a b v (((w.alloc (.cells #[.int .i64 c, .int .i64 a, .int .i64 b, .float .f64 v] 77)).alloc o).drew.iter s 0) :=
  (box_new w c a b v 77).above ((((Below.refl _ _).up o).drew).up (.stringIter s 0))
theorem iter_at (w : World) (s : ByteArray) (n : Nat) (h : n = w.heap.size) : (w.iter s 0).heap[n]? = some (.stringIter s 0) := by
  subst h; exact World.iter_heap w s 0
theorem byte_mem (s : ByteArray) (p : Nat) (h : p < s.size) : s[p] ∈ s.data.toList := by
  have h1 : s[p] = s.data.toList[p]'(by simpa using h) := rfl
  rw [h1]; exact List.getElem_mem _

set_option maxRecDepth 20000 in
set_option maxHeartbeats 4000000 in
theorem optextS_any (k : Nat) (hk1 : 1 ≤ k) (hk : k ≤ 17) (a b : Int) (ha0 : 0 ≤ a) (ha : a ≤ 999) (hb0 : 0 ≤ b) (hb : b ≤ 999) (s : Bool) (r : Nat) (W T : ByteArray) (hW : wordsV[k]? = some (.string W)) (hWs : W.size ≤ 10) (hT : T.size ≤ 43)
    (hST : ∀ w, Calls Tryd.prog 98 #[.float .f64 (wd s r)] w fun e w' => e = .returned (.string T) ∧ Below w.heap.size w w') (w : World) :
    Calls Tryd.prog 71 #[.agg #[.int .i64 k, .int .i64 a, .int .i64 b, .float .f64 (wd s r)]] w fun e w' => e = .returned (.string (accT W (argX T a b) (useT k).data.toList)) ∧ Below w.heap.size w w' := by
  have hX : ∀ u, (argX T a b u).size ≤ 43 := by
    intro u
    unfold argX
    have := decB_size a ha0 ha
    have := decB_size b hb0 hb
    split
    · exact hT
    · split <;> omega
  have k1 : (1 : Int) ≤ k := by omega
  have k2 : (k : Int) < 18 := by omega
  have hws : wordsV.size = 18 := rfl
  obtain ⟨hU1, hU2⟩ := use_bytes k
  have HST := hide' hST
  have HX := hide' hX
  have HA := hide' (And.intro ha0 ha)
  have HB := hide' (And.intro hb0 hb)
  have HW := hide' hWs
  have HU2 := hide' hU2
  clear hST hX ha0 ha hb0 hb hT hWs hk1 hk hU2
  go_enter Tryd.func71, Tryd.ntmps71
  go_wp2_with fail
  go_region_with (go_at_call 96; refine (words_any _).mono ?_; rintro e w1 ⟨rfl, rfl⟩)
  all_goals go_wp2_with (go_at_call 97; refine (uses_any _ _).mono ?_; rintro e w' ⟨rfl, rfl⟩)
  all_goals
    go_loopw [3] (fun t wr => ∃ p : Nat, p ≤ (useT k).size ∧ t = .string (accT W (argX T a b) ((useT k).data.toList.take p)) ∧ Hid (wr.heap[w.heap.size + 1 + 1]? = some (.stringIter (useT k) p)) ∧ Hid (BoxAt w.heap.size k a b (wd s r) wr) ∧ Hid (Below w.heap.size w wr)) (fun _ wr => 2 - wr.iterPos (w.heap.size + 1 + 1))
    case atStart => exact ⟨0, Nat.zero_le _, rfl, iter_at _ _ _ (by simp), box_at w k a b (wd s r) _ _, (((((Below.refl _ _).up _).up _).drew).up (.stringIter (useT k) 0) : Below _ _ _)⟩
    case round =>
      obtain ⟨p, hp, rfl, hit, hbx, hbw⟩ := hrel
      by_cases hlt : p < (useT k).size
      · have hu := HU2.out (useT k)[p] (byte_mem _ p hlt)
        have hsn := take_snoc (useT k) p hlt
        have hnx : ∀ ty, (Instr.next (.pointer (some ⟨w.heap.size + 1 + 1, 0, none⟩)) true ty).run Tryd.prog wr = _ := fun ty => Lib.run_next_ascii_at wr (w.heap.size + 1 + 1) (useT k) p ty hit.out hlt (u97 _ hu)
        have hit2 := hide' (Lib.iterAt_heap wr (w.heap.size + 1 + 1) (useT k) p (p + 1) hit.out)
        have hbx2 := hbx.out.iter hit.out (p + 1)
        have hbw2 := hide' (Lib.below_iterAt hbw.out (k := w.heap.size + 1 + 1) (by omega) (useT k) (p + 1))
        have hsz2 := hide' (show w.heap.size + 1 + 1 < (wr.iterAt (w.heap.size + 1 + 1) (useT k) (p + 1)).heap.size by rw [Lib.iterAt_size]; exact (Array.getElem?_eq_some_iff.1 hit.out).1)
        have hz := hide' (accT_size (argX T a b) 43 HX.out ((useT k).data.toList.take p) W)
        have hl : ((useT k).data.toList.take p).length ≤ 2 := by rw [List.length_take]; omega
        have hzz : (accT W (argX T a b) ((useT k).data.toList.take p)).size ≤ 98 := by
          have h1 := hz.out
          have h2 := HW.out
          have h3 : ((useT k).data.toList.take p).length * 44 ≤ 2 * 44 := Nat.mul_le_mul_right _ hl
          omega
        have hX1 := HX.out (useT k)[p]
        have key : accT W (argX T a b) ((useT k).data.toList.take (p + 1)) = accT W (argX T a b) ((useT k).data.toList.take p) ++ (⟨#[32]⟩ ++ argX T a b (useT k)[p]) := by rw [hsn, accT_snoc]
        have KEY := hide' key
        generalize accT W (argX T a b) ((useT k).data.toList.take p) = acc at hzz KEY
        obtain ⟨c0, c1, c2, c3⟩ := hbx2
        have hms : wr.iterPos (w.heap.size + 1 + 1) = p := by simp only [World.iterPos, hit.out]
        have HMS := hide' hms
        have HP := hide' hp
        have HLT := hide' hlt
        have HIT := hide' hit.out
        have HU := hide' hU1
        generalize (useT k)[p] = u at hu hnx hX1 KEY
        clear hit hbx hbw hsn hz hl key hms hp hlt hU1
        rcases hu with h | h | h
        · subst h
          have e : argX T a b 118 = T := rfl
          rw [e] at hX1 KEY
          clear e
          go_wp2_with (go_at_call 98; refine (HST.out _).mono ?_; rintro e w3 ⟨rfl, hb3⟩)
          go_roundw
          case rel => exact ⟨p + 1, HLT.out, by rw [KEY.out], (hb3.block _ hsz2.out).trans hit2.out, BoxAt.above ⟨c0, c1, c2, c3⟩ hb3, hbw2.out.trans (hb3.mono (by have := hsz2.out; omega))⟩
          case measure =>
            have h1 : w3.iterPos (w.heap.size + 1 + 1) = p + 1 := by simp only [World.iterPos, (hb3.block _ hsz2.out).trans hit2.out]
            have := HMS.out
            have := HLT.out
            have := HU.out
            omega
        · subst h
          have e : argX T a b 97 = decB a := rfl
          rw [e] at hX1 KEY
          clear e
          go_wp2_with (go_at_call 70; refine (l1num_i a HA.out.1 HA.out.2 _).mono ?_; rintro e w3 ⟨rfl, hb3⟩)
          go_roundw
          case rel => exact ⟨p + 1, HLT.out, by rw [KEY.out], (hb3.block _ hsz2.out).trans hit2.out, BoxAt.above ⟨c0, c1, c2, c3⟩ hb3, hbw2.out.trans (hb3.mono (by have := hsz2.out; omega))⟩
          case measure =>
            have h1 : w3.iterPos (w.heap.size + 1 + 1) = p + 1 := by simp only [World.iterPos, (hb3.block _ hsz2.out).trans hit2.out]
            have := HMS.out
            have := HLT.out
            have := HU.out
            omega
        · subst h
          have e : argX T a b 98 = decB b := rfl
          rw [e] at hX1 KEY
          clear e
          go_wp2_with (go_at_call 70; refine (l1num_i b HB.out.1 HB.out.2 _).mono ?_; rintro e w3 ⟨rfl, hb3⟩)
          go_roundw
          case rel => exact ⟨p + 1, HLT.out, by rw [KEY.out], (hb3.block _ hsz2.out).trans hit2.out, BoxAt.above ⟨c0, c1, c2, c3⟩ hb3, hbw2.out.trans (hb3.mono (by have := hsz2.out; omega))⟩
          case measure =>
            have h1 : w3.iterPos (w.heap.size + 1 + 1) = p + 1 := by simp only [World.iterPos, (hb3.block _ hsz2.out).trans hit2.out]
            have := HMS.out
            have := HLT.out
            have := HU.out
            omega
      · have hnx : ∀ ty, (Instr.next (.pointer (some ⟨w.heap.size + 1 + 1, 0, none⟩)) true ty).run Tryd.prog wr = _ := fun ty => Lib.run_next_end_at wr (w.heap.size + 1 + 1) (useT k) p ty hit.out hlt
        have hpe : p = (useT k).size := by omega
        have hT : (useT k).data.toList.take p = (useT k).data.toList := by rw [hpe]; exact List.take_of_length_le (by simp)
        rw [hT]
        have HBW := hide' hbw.out
        clear hlt hp hpe hT
        go_wp2_with fail
        go_ret
        exact ⟨rfl, HBW.out⟩

end Go.Proofs.YtdifamjkbagfcaaDoor
