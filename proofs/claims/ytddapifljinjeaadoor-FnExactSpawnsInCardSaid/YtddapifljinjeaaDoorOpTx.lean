/- spec.l2Words, l2OpText and OpText: contracts. -/
import Derived.Test.YtddapifljinjeaaDoorOpsS
import Derived.Lib.OthersKept
namespace Go.Proofs.YtddapifljinjeaaDoor
open Go.RowKit
open Rd Fl

def opWords : List ByteArray := [⟨#[]⟩, ⟨#[112, 117, 115, 104]⟩, ⟨#[108, 111, 97, 100]⟩, ⟨#[115, 116, 111, 114, 101]⟩, ⟨#[97, 100, 100]⟩, ⟨#[115, 117, 98]⟩, ⟨#[109, 117, 108]⟩, ⟨#[100, 105, 118]⟩, ⟨#[108, 101, 115, 115]⟩, ⟨#[115, 97, 109, 101]⟩, ⟨#[106, 117, 109, 112]⟩, ⟨#[117, 110, 108, 101, 115, 115]⟩, ⟨#[108, 111, 99, 107]⟩, ⟨#[117, 110, 108, 111, 99, 107]⟩, ⟨#[115, 112, 97, 119, 110]⟩, ⟨#[106, 111, 105, 110]⟩, ⟨#[119, 97, 105, 116]⟩, ⟨#[115, 105, 103, 110, 97, 108]⟩]
def wordsV : Array Value := (opWords.map Value.string).toArray

def decB (n : Int) : ByteArray := ⟨(Lib.decDigits n.toNat).toArray⟩
/-- the text of what a byte of the uses stands for -/
def argX (T : ByteArray) (a b : Int) (u : UInt8) : ByteArray := if u = 118 then T else if u = 97 then decB a else decB b
/-- the word and the texts behind it, up to a place of the uses -/
def accT (W : ByteArray) (X : UInt8 → ByteArray) (l : List UInt8) : ByteArray := l.foldl (fun acc u => acc ++ (⟨#[32]⟩ ++ X u)) W
theorem accT_snoc (W : ByteArray) (X : UInt8 → ByteArray) (l : List UInt8) (u : UInt8) : accT W X (l ++ [u]) = accT W X l ++ (⟨#[32]⟩ ++ X u) := by
  unfold accT; rw [List.foldl_append]; rfl
theorem accT_size (X : UInt8 → ByteArray) (n : Nat) (hX : ∀ u, (X u).size ≤ n) : ∀ (l : List UInt8) (W : ByteArray), (accT W X l).size ≤ W.size + l.length * (n + 1) := by
  intro l
  induction l with
  | nil => intro W; simp [accT]
  | cons u l ih =>
    intro W
    have h := ih (W ++ (⟨#[32]⟩ ++ X u))
    rw [ByteArray.size_append, ByteArray.size_append] at h
    have := hX u
    have h1 : (ByteArray.mk #[32]).size = 1 := rfl
    have h2 : (u :: l).length * (n + 1) = l.length * (n + 1) + (n + 1) := by simp [Nat.add_mul]
    have h3 : accT W X (u :: l) = accT (W ++ (⟨#[32]⟩ ++ X u)) X l := rfl
    rw [h3]
    omega

theorem use_bytes (c : Int) : (useT c).size ≤ 2 ∧ ∀ u ∈ (useT c).data.toList, u = 118 ∨ u = 97 ∨ u = 98 := by
  unfold useT
  split
  · exact ⟨by decide, by decide⟩
  · split
    · exact ⟨by decide, by decide⟩
    · split
      · exact ⟨by decide, by decide⟩
      · exact ⟨by decide, by decide⟩

theorem u97 (u : UInt8) (h : u = 118 ∨ u = 97 ∨ u = 98) : u.toNat < 128 := by rcases h with rfl | rfl | rfl <;> decide

/-- An op lies boxed at block N. -/
structure BoxAt (N : Nat) (c a b : Int) (v : Nat) (w : World) : Prop where
  c : w.cell? ⟨N, 0, none⟩ = some (.int .i64 c)
  a : w.cell? ⟨N, 1, none⟩ = some (.int .i64 a)
  b : w.cell? ⟨N, 2, none⟩ = some (.int .i64 b)
  v : w.cell? ⟨N, 3, none⟩ = some (.float .f64 v)

theorem cell_iter {w : World} {k : Nat} {s : ByteArray} {pos : Nat} (hk : w.heap[k]? = some (.stringIter s pos)) (pos' N o : Nat) {v : Value} (h : w.cell? ⟨N, o, none⟩ = some v) : (w.iterAt k s pos').cell? ⟨N, o, none⟩ = some v := by
  have hne : N ≠ k := by
    intro e
    subst e
    unfold World.cell? at h
    simp only [hk] at h
    cases h
  rw [World.cell?_of_block (w := w) (Lib.iterAt_other w k N s pos' hne)]
  exact h
theorem BoxAt.iter {N : Nat} {c a b : Int} {v : Nat} {w : World} (h : BoxAt N c a b v w) {k : Nat} {s : ByteArray} {pos : Nat} (hk : w.heap[k]? = some (.stringIter s pos)) (pos' : Nat) : BoxAt N c a b v (w.iterAt k s pos') :=
  ⟨cell_iter hk _ _ _ h.c, cell_iter hk _ _ _ h.a, cell_iter hk _ _ _ h.b, cell_iter hk _ _ _ h.v⟩
theorem BoxAt.above {N : Nat} {c a b : Int} {v : Nat} {w w' : World} (h : BoxAt N c a b v w) (hb : Below w.heap.size w w') : BoxAt N c a b v w' :=
  ⟨cell_keep hb h.c, cell_keep hb h.a, cell_keep hb h.b, cell_keep hb h.v⟩
theorem box_new (w : World) (c a b : Int) (v : Nat) (t : TypeId) : BoxAt w.heap.size c a b v (w.alloc (.cells #[.int .i64 c, .int .i64 a, .int .i64 b, .float .f64 v] t)) := by
  refine ⟨?_, ?_, ?_, ?_⟩ <;> (rw [World.cell?_alloc_new]; rfl)
theorem box_at (w : World) (c a b : Int) (v : Nat) (o : Obj) (s : ByteArray) : BoxAt w.heap.size c a b v (((w.alloc (.cells #[.int .i64 c, .int .i64 a, .int .i64 b, .float .f64 v] 43)).alloc o).drew.iter s 0) :=
  (box_new w c a b v 43).above ((((Below.refl _ _).up o).drew).up (.stringIter s 0))
theorem iter_at (w : World) (s : ByteArray) (n : Nat) (h : n = w.heap.size) : (w.iter s 0).heap[n]? = some (.stringIter s 0) := by
  subst h; exact World.iter_heap w s 0
theorem byte_mem (s : ByteArray) (p : Nat) (h : p < s.size) : s[p] ∈ s.data.toList := by
  have h1 : s[p] = s.data.toList[p]'(by simpa using h) := rfl
  rw [h1]; exact List.getElem_mem _

end Go.Proofs.YtddapifljinjeaaDoor
