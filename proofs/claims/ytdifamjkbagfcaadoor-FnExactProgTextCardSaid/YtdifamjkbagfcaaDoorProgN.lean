/- A builder in memory: what is kept, what is written. -/
import Derived.Test.YtdifamjkbagfcaaDoorProgM
namespace Go.Proofs.YtdifamjkbagfcaaDoor
open Go.RowKit
open Rd Fl

theorem strCells_add (a s : ByteArray) : Lib.strCells (a ++ s) = Lib.strCells a ++ Lib.strCells s := by
  unfold Lib.strCells
  rw [ByteArray.data_append, Array.toList_append, List.map_append]

/-- The builder at block b holds the bytes of acc. -/
def BldAt (b : Nat) (acc : ByteArray) (w : World) : Prop := Lib.IsBuilder 67 5 b b (Lib.strCells acc) w

theorem bldAt_keep {B b : Nat} {p : Value} {bs : List Value} {w w' : World} (h : Lib.BuilderAt 67 5 B b p bs w) (hb : Below w.heap.size w w') : Lib.BuilderAt 67 5 B b p bs w' := by
  obtain ⟨hB, v, hbk, hown, hne⟩ := h
  have hlt : ∀ {k : Nat} {o : Obj}, w.heap[k]? = some o → k < w.heap.size := fun h => (Array.getElem?_eq_some_iff.1 h).1
  refine ⟨hB, v, (hb.block _ (hlt hbk)).trans hbk, ⟨hown.1, ?_⟩, hne⟩
  rcases hown.2 with h | ⟨g, cap, cur, h1, h2, h3, h4⟩
  · exact .inl h
  · exact .inr ⟨g, cap, cur, h1, h2, (hb.block _ (hlt h3)).trans h3, h4⟩
theorem BldAt.keep {b : Nat} {acc : ByteArray} {w w' : World} (h : BldAt b acc w) (hb : Below w.heap.size w w') : BldAt b acc w' := by
  rcases h with h | h
  · exact .inl (bldAt_keep h hb)
  · exact .inr (bldAt_keep h hb)
theorem BldAt.lt {b : Nat} {acc : ByteArray} {w : World} (h : BldAt b acc w) : b < w.heap.size := by
  rcases h with h | h
  · exact h.lt
  · exact h.lt
theorem bld_new (w : World) : BldAt w.heap.size ⟨#[]⟩ (w.alloc (.cells #[.pointer none, .slice none 0 0] 67)) := by
  refine .inl ⟨Nat.le_refl _, .slice none 0 0, ?_, World.ownsRow_nil _ _ _ _, by simp [Value.ownBlock]⟩
  exact Array.getElem?_push_size

theorem write_acc (b : Nat) (acc s : ByteArray) (w : World) (h : BldAt b acc w) (h1 : acc.size ≤ 50000) (h2 : s.size ≤ 50000) :
    Calls Tryd.prog 38 #[.pointer (some ⟨b, 0, none⟩), .string s] w fun e w' => e = .returned (.tuple #[.int .i64 s.size, .nilIface]) ∧ BldAt b (acc ++ s) w' ∧ Below b w w' := by
  refine (write_any b b (Lib.strCells acc) s w h (by rw [Lib.strCells_length]; omega) (Nat.le_of_lt h.lt)).mono ?_
  rintro e w' ⟨rfl, h1, h2⟩
  refine ⟨rfl, ?_, h2⟩
  unfold BldAt
  rw [strCells_add]
  exact h1
theorem string_acc (b : Nat) (acc : ByteArray) (w : World) (h : BldAt b acc w) :
    Calls Tryd.prog 41 #[.pointer (some ⟨b, 0, none⟩)] w fun e w' => e = .returned (.string acc) ∧ Below b w w' := by
  have h2 : Lib.IsBuilder 67 5 b b (Lib.byteCells acc.data.toList) w := h
  refine (Tryd.Builder_String_any b b acc.data.toList w h2 (Nat.le_of_lt h.lt)).mono ?_
  rintro e w' ⟨rfl, h3⟩
  exact ⟨rfl, h3⟩

end Go.Proofs.YtdifamjkbagfcaaDoor
