/-
  Texts, one behind the other, as bytes; slices of one, two strings that a call makes.
-/
import Derived.Test.YtlhhecomjhfhjaaBase
namespace Go.Proofs.Ytlhhecomjhfhjaa
open Go.RowKit

/-- texts, one behind the other -/
def catB (l : List ByteArray) : List UInt8 := l.flatMap fun s => s.data.toList
theorem catB_take (l : List ByteArray) (k : Nat) (h : k < l.length) : catB (l.take (k + 1)) = catB (l.take k) ++ (l[k]).data.toList := by
  unfold catB; rw [List.take_succ_eq_append_getElem h, List.flatMap_append]; simp
theorem catB_one (s : ByteArray) : catB [s] = s.data.toList := by simp [catB]
theorem catB_two (s t : ByteArray) : catB [s, t] = s.data.toList ++ t.data.toList := by simp [catB]
theorem catB_le (l : List ByteArray) (k : Nat) : (catB (l.take k)).length ≤ (catB l).length := by
  have : catB l = catB (l.take k) ++ catB (l.drop k) := by unfold catB; rw [← List.flatMap_append, List.take_append_drop]
  rw [this, List.length_append]; omega
theorem byte_take (s : ByteArray) (k : Nat) (h : k < s.size) : s.data.toList.take (k + 1) = s.data.toList.take k ++ [s[k]] := by
  rw [List.take_succ_eq_append_getElem (by simpa using h)]; rfl
theorem reads_one (w : World) (s : ByteArray) (t : TypeId) : ReadsS (w.alloc (.cells #[.string s] t)) (some ⟨w.heap.size, 0, none⟩) [s] := by
  intro i hi
  refine ⟨_, _, rfl, ?_⟩
  obtain rfl : i = 0 := by simp at hi; omega
  rw [cell_of_row _ _ _ #[.string s] t (0, 0) (heap_alloc_new w _)]; rfl
theorem reads_two (w : World) (x y : ByteArray) (t : TypeId) : ReadsS (w.alloc (.cells #[.string x, .string y] t)) (some ⟨w.heap.size, 0, none⟩) [x, y] := by
  intro i hi
  refine ⟨_, _, rfl, ?_⟩
  rw [cell_of_row _ _ _ #[.string x, .string y] t (0, 0) (heap_alloc_new w _)]
  simp at hi
  match i, hi with
  | 0, _ => rfl
  | 1, _ => rfl
theorem below_made {w w' : World} {o : Obj} (h : Below (w.alloc o).heap.size (w.alloc o) w') : Below w.heap.size w w' :=
  ((Below.refl _ w).alloc (Nat.le_refl _) o).trans (h.mono (by simp))
end Go.Proofs.Ytlhhecomjhfhjaa
