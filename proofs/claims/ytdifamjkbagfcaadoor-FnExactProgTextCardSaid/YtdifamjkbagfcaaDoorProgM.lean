/- A program's text, as bytes. -/
import Derived.Test.YtdifamjkbagfcaaDoorBld
import Derived.Test.YtdifamjkbagfcaaDoorPrgI
import Derived.Test.YtdifamjkbagfcaaDoorOpTextW
namespace Go.Proofs.YtdifamjkbagfcaaDoor
open Go.RowKit
open Rd Fl

/-- the word routine and a byte 10 -/
def routW : ByteArray := ⟨#[114, 111, 117, 116, 105, 110, 101, 10]⟩
def lf : ByteArray := ⟨#[10]⟩
def linesL (tx : OpD → ByteArray) (acc : ByteArray) (l : List OpD) : ByteArray := l.foldl (fun a o => a ++ (tx o ++ lf)) acc
def routL (tx : OpD → ByteArray) (acc : ByteArray) (rs : List (List OpD)) : ByteArray := rs.foldl (fun a l => linesL tx (a ++ routW) l) acc
def headT (cl lk cd : Int) : ByteArray := ((((((⟨#[112, 114, 111, 103, 32]⟩ ++ decB cl) ++ ⟨#[32]⟩) ++ decB lk) ++ ⟨#[32]⟩) ++ decB cd) ++ lf)

theorem linesL_take (tx : OpD → ByteArray) (acc : ByteArray) (l : List OpD) (j : Nat) (h : j < l.length) : linesL tx acc (l.take (j + 1)) = linesL tx acc (l.take j) ++ (tx l[j] ++ lf) := by
  unfold linesL
  rw [List.take_add_one, List.getElem?_eq_getElem h, List.foldl_append]
  rfl
theorem routL_take (tx : OpD → ByteArray) (acc : ByteArray) (rs : List (List OpD)) (k : Nat) (h : k < rs.length) : routL tx acc (rs.take (k + 1)) = linesL tx (routL tx acc (rs.take k) ++ routW) rs[k] := by
  unfold routL
  rw [List.take_add_one, List.getElem?_eq_getElem h, List.foldl_append]
  rfl
theorem lf_size : lf.size = 1 := rfl
theorem routW_size : routW.size = 8 := rfl

theorem headT_size (cl lk cd : Int) (h1 : 0 ≤ cl ∧ cl ≤ 4) (h2 : 0 ≤ lk ∧ lk ≤ 4) (h3 : 0 ≤ cd ∧ cd ≤ 4) : (headT cl lk cd).size ≤ 100 := by
  have z1 := decB_size cl h1.1 (by omega)
  have z2 := decB_size lk h2.1 (by omega)
  have z3 := decB_size cd h3.1 (by omega)
  unfold headT
  simp only [ByteArray.size_append, lf_size]
  rw [show (ByteArray.mk #[112, 114, 111, 103, 32]).size = 5 from rfl, show (ByteArray.mk #[32]).size = 1 from rfl]
  omega

/-- What is said of an op's text on both sides. -/
def TxAt (tx : OpD → ByteArray) (o : OpD) : Prop :=
  (tx o).size ≤ 100 ∧
  (∀ w, Calls Tryd.prog 71 #[.agg #[.int .i64 o.c, .int .i64 o.a, .int .i64 o.b, .float .f64 (wd o.s o.r)]] w fun e w' => e = .returned (.string (tx o)) ∧ Below w.heap.size w w') ∧
  (∀ w, EnvT w → Forms w → Calls Tryd.prog 40 #[.agg #[.int .i64 o.c, .int .i64 o.a, .int .i64 o.b, .float .f64 (wd o.s o.r)]] w fun e w' => e = .returned (.tuple #[.string (tx o), .bool true]) ∧ Below w.heap.size w w')

theorem tx_one (o : OpD) (hr : o.r < 9223372036854775808) (hp : plainB o.c o.a o.b (sameB o.s o.r false 0) = true) : ∃ X : ByteArray, TxAt (fun _ => X) o := by
  obtain ⟨c, a, b, s, r⟩ := o
  have hp2 := hp
  unfold plainB at hp2
  simp only [Bool.and_eq_true, decide_eq_true_eq] at hp2
  obtain ⟨⟨⟨⟨⟨h1, h2⟩, h3⟩, -⟩, -⟩, -⟩ := hp2
  obtain ⟨k, rfl⟩ : ∃ k : Nat, c = k := ⟨c.toNat, by omega⟩
  have hk1 : 1 ≤ k := by omega
  have hk : k ≤ 17 := by omega
  obtain ⟨T, u, p, hT, hST, hIT, -, -⟩ := text_of s r hr
  refine ⟨accT (formW k) (argX T a b) (useT k).data.toList, ?_, fun w => optextS_any k hk1 hk a b h2.1 h2.2 h3.1 h3.2 s r (formW k) T (words_at k hk).1 (words_at k hk).2 hT hST w, fun w hE hF => iopText_yes k hk1 hk a b s r hr T hT hIT hp w hE hF⟩
  have hX : ∀ u, (argX T a b u).size ≤ 43 := by
    intro u
    unfold argX
    have := decB_size a h2.1 h2.2
    have := decB_size b h3.1 h3.2
    split
    · exact hT
    · split <;> omega
  have hz := accT_size (argX T a b) 43 hX (useT k).data.toList (formW k)
  have h5 := (words_at k hk).2
  obtain ⟨hU1, -⟩ := use_bytes k
  have h6 : (useT k).data.toList.length ≤ 2 := by rw [Array.length_toList]; exact hU1
  show (accT (formW k) (argX T a b) (useT k).data.toList).size ≤ 100
  have h7 : (useT k).data.toList.length * 44 ≤ 2 * 44 := Nat.mul_le_mul_right _ h6
  omega

/-- One way to write every op that is plain. -/
theorem tx_all : ∃ tx : OpD → ByteArray, ∀ o : OpD, o.r < 9223372036854775808 → plainB o.c o.a o.b (sameB o.s o.r false 0) = true → TxAt tx o := by
  have h : ∀ o : OpD, ∃ X : ByteArray, o.r < 9223372036854775808 → plainB o.c o.a o.b (sameB o.s o.r false 0) = true → TxAt (fun _ => X) o := by
    intro o
    by_cases hr : o.r < 9223372036854775808
    · by_cases hp : plainB o.c o.a o.b (sameB o.s o.r false 0) = true
      · obtain ⟨X, hX⟩ := tx_one o hr hp
        exact ⟨X, fun _ _ => hX⟩
      · exact ⟨⟨#[]⟩, fun _ h => absurd h hp⟩
    · exact ⟨⟨#[]⟩, fun h => absurd h hr⟩
  exact ⟨fun o => (h o).choose, fun o hr hp => (h o).choose_spec hr hp⟩

end Go.Proofs.YtdifamjkbagfcaaDoor
