/- The drawn texts of numbers. -/
import Derived.Test.YtjijinjedeinmaaDoorStrs
import Derived.Test.YtjijinjedeinmaaDoorSpoilt
import Derived.Test.YtjijinjedeinmaaDoorBack
namespace Go.Proofs.YtjijinjedeinmaaDoor
open Go.RowKit
open Rd Fl

/-- A cursor is there still where nothing old has turned. -/
theorem Cur.above {w w' : World} {N : Nat} {a : Option Addr} {len cap pos : Nat} (h : Cur w N a len cap pos) (hN : N < w.heap.size) (hb : Below w.heap.size w w') : Cur w' N a len cap pos := by
  obtain ⟨c0, c1, ⟨sd, c2⟩, t1, t2⟩ := h
  exact ⟨(hb.cell (p := ⟨N, 0, none⟩) hN).trans c0, (hb.cell (p := ⟨N, 1, none⟩) hN).trans c1, ⟨sd, (hb.cell (p := ⟨N, 2, none⟩) hN).trans c2⟩, (hb.frozen (p := ⟨N, 1, none⟩) hN).trans t1, (hb.frozen (p := ⟨N, 2, none⟩) hN).trans t2⟩

def drawnTexts : List ByteArray := [⟨#[]⟩, ⟨#[112]⟩, ⟨#[49, 112]⟩, ⟨#[112, 49]⟩, ⟨#[50, 112, 48]⟩, ⟨#[49, 112, 45, 48]⟩, ⟨#[48, 49, 112, 48]⟩, ⟨#[49, 112, 49, 112, 49]⟩, ⟨#[45, 110, 97, 110]⟩, ⟨#[45, 48, 112, 49]⟩, ⟨#[49, 112, 45, 49, 48, 55, 53]⟩, ⟨#[57, 48, 48, 55, 49, 57, 57, 50, 53, 52, 55, 52, 48, 57, 57, 49, 112, 57, 55, 49]⟩, ⟨#[57, 48, 48, 55, 49, 57, 57, 50, 53, 52, 55, 52, 48, 57, 57, 49, 112, 57, 55, 50]⟩]
theorem drawn_small : ∀ v ∈ drawnTexts, v.size ≤ 1000 := by
  intro v hv
  simp only [drawnTexts, List.mem_cons, List.not_mem_nil, or_false] at hv
  rcases hv with h | h | h | h | h | h | h | h | h | h | h | h | h <;> subst h <;> decide

set_option maxRecDepth 20000 in
set_option maxHeartbeats 2000000 in
theorem dread_any (a : Option Addr) (len cap : Nat) (w : World) (hs : Src w w.heap.size a len) :
    Calls Tryd.prog 15 #[.slice a len cap] w fun e w' => (∃ v : ByteArray, e = .returned (.string v) ∧ v.size ≤ 1000) ∧ Below w.heap.size w w' := by
  have HS := hidec hs
  clear hs
  go_enter Tryd.func15, Tryd.ntmps15
  go_wp2_with fail
  refine (num_any w.heap.size len cap 0 a _ (new_cur w a len cap _) (HS.out.below (new_below w _)) (by omega) (new_size w _)).mono ?_
  rintro e w1 ⟨⟨s, r, hr, rfl⟩, ⟨pos1, hp1, hc1⟩, hb1⟩
  obtain ⟨T, u, p, hT, hST, -, -, -⟩ := text_of s r hr
  have HP := hidec hp1
  have HB := hidec ((new_below w _).trans hb1)
  have HZ := hidec (Nat.lt_of_lt_of_le (new_size w _) hb1.size)
  have HT := hidec hT
  have HST := hidec hST
  clear hr hp1 hb1 hT hST
  go_wp2_with fail
  refine (HST.out _).mono ?_
  rintro e w2 ⟨rfl, hb2⟩
  have HC2 := hidec (hc1.above HZ.out hb2)
  have HB2 := hidec (HB.out.trans (hb2.mono (Nat.le_of_lt HZ.out)))
  have HZ2 := hidec (Nat.lt_of_lt_of_le HZ.out hb2.size)
  clear hb2 hc1 HST
  go_wp2_with fail
  refine (one_any w.heap.size len cap pos1 a 3 _ HC2.out (HS.out.below HB2.out) (by have := HP.out; omega) (by omega) (by omega)).mono ?_
  rintro e w3 ⟨⟨v, rfl⟩, ⟨pos3, hp3, hc3⟩, hb3⟩
  have HP3 := hidec hp3
  have HB3 := hidec (HB2.out.trans hb3.below)
  have HZ3 := hidec (show w.heap.size < w3.heap.size by rw [hb3.size]; exact HZ2.out)
  clear hp3 hb3 HC2
  cases v with
  | false =>
    go_wp2_with fail
    refine (one_any w.heap.size len cap pos3 a 8 _ hc3 (HS.out.below HB3.out) (by have := HP.out; have := HP3.out; omega) (by omega) (by omega)).mono ?_
    rintro e w5 ⟨⟨v, rfl⟩, ⟨pos5, hp5, hc5⟩, hb5⟩
    have HP5 := hidec hp5
    have HB5 := hidec (HB3.out.trans hb5.below)
    have HZ5 := hidec (show w.heap.size < w5.heap.size by rw [hb5.size]; exact HZ3.out)
    clear hp5 hb5 hc3
    cases v with
    | false =>
      go_wp2_with fail
      go_ret
      exact ⟨⟨T, rfl, by have := HT.out; omega⟩, HB5.out⟩
    | true =>
      go_wp2_with fail
      refine (of_new w.heap.size len cap pos5 9 a drawnTexts _ _ rfl hc5 (HS.out.below HB5.out) (by have := HP.out; have := HP3.out; have := HP5.out; omega) HZ5.out (by decide) (by decide)).mono ?_
      rintro e w6 ⟨⟨x, hx, rfl⟩, ⟨pos6, hp6, hc6⟩, hb6⟩
      have HX := hidec (drawn_small x hx)
      clear hx hp6
      go_wp2_with fail
      go_ret
      exact ⟨⟨x, rfl, HX.out⟩, HB5.out.trans hb6⟩
  | true =>
    go_wp2_with fail
    refine (spoilt_any w.heap.size len cap pos3 a T ⟨#[49, 112, 45, 48, 110]⟩ _ hc3 (HS.out.below HB3.out) (by have := HP.out; have := HP3.out; omega) HZ3.out (by decide) (by decide) (by have := HT.out; omega)).mono ?_
    rintro e w4 ⟨⟨y, rfl, hy⟩, ⟨pos4, hp4, hc4⟩, hb4⟩
    have HY := hidec hy
    have HP4 := hidec hp4
    have HB4 := hidec (HB3.out.trans hb4)
    have HZ4 := hidec (Nat.lt_of_lt_of_le HZ3.out hb4.size)
    clear hy hp4 hb4 hc3
    go_wp2_with fail
    refine (one_any w.heap.size len cap pos4 a 8 _ hc4 (HS.out.below HB4.out) (by have := HP.out; have := HP3.out; have := HP4.out; omega) (by omega) (by omega)).mono ?_
    rintro e w5 ⟨⟨v, rfl⟩, ⟨pos5, hp5, hc5⟩, hb5⟩
    have HP5 := hidec hp5
    have HB5 := hidec (HB4.out.trans hb5.below)
    have HZ5 := hidec (show w.heap.size < w5.heap.size by rw [hb5.size]; exact HZ4.out)
    clear hp5 hb5 hc4
    cases v with
    | false =>
      go_wp2_with fail
      go_ret
      exact ⟨⟨y, rfl, by have := HT.out; have := HY.out; omega⟩, HB5.out⟩
    | true =>
      go_wp2_with fail
      refine (of_new w.heap.size len cap pos5 9 a drawnTexts _ _ rfl hc5 (HS.out.below HB5.out) (by have := HP.out; have := HP3.out; have := HP4.out; have := HP5.out; omega) HZ5.out (by decide) (by decide)).mono ?_
      rintro e w6 ⟨⟨x, hx, rfl⟩, ⟨pos6, hp6, hc6⟩, hb6⟩
      have HX := hidec (drawn_small x hx)
      clear hx hp6
      go_wp2_with fail
      go_ret
      exact ⟨⟨x, rfl, HX.out⟩, HB5.out.trans hb6⟩
end Go.Proofs.YtjijinjedeinmaaDoor
