/-
  Rows of cells that a call makes and writes (arrays, structs): what a block holds, as a list; words and bytes as cells; an array laid cell by cell.
-/
import Derived.Test.YtpniegglbglbcaaDoorBase
import Derived.Deep.WholeRow
import Derived.Laws.CopyOwn
namespace Go.Proofs.YtpniegglbglbcaaDoor
open Go.RowKit

theorem run_index_arr {P : Program} (w : World) (t e : TypeId) (n : Nat) (cs : Array Value) (k : IntKind) (i : Nat) (v : Value) (hu : P.underlying t = some (.array n e)) (he : P.underlying e = some (.int .u32)) (hs : (P.info? e).map (·.size) = some 1) (hi : i < n) (hv : cs[i]? = some v) :
    (Instr.index t (.agg cs) (.int k (i : Int))).run P w = .ok v w := by
  obtain ⟨i0, hi0, hz⟩ := Option.map_eq_some_iff.1 hs
  have hi3 : 0 ≤ (i : Int) := by omega
  simp [Instr.index, run_underlying hu, asIntOf, hi3, go_sem, sizeOf, typeInfo, hi0, hz, part, isAgg, run_underlying he, hv]
  intro h; omega
/-- words as cells -/
def vals (l : List Nat) : List Value := l.map fun x : Nat => Value.int .u32 (x : Int)
theorem vals_len (l : List Nat) : (vals l).length = l.length := by simp [vals]
theorem vals_at (l : List Nat) (i : Nat) (h : i < l.length) : (vals l)[i]? = some (.int .u32 (l.getD i 0 : Int)) := by
  simp [vals, List.getElem?_eq_getElem h, List.getD]
/-- block g holds just the cells l (type T) -/
def RowV (w : World) (g T : Nat) (l : List Value) : Prop := w.heap[g]? = some (.cells l.toArray T)
theorem rowV_cell {w : World} {g T : Nat} {l : List Value} (h : RowV w g T l) (i : Nat) : w.cell? ⟨g, i, none⟩ = l[i]? := by
  rw [cell_of_row w g i l.toArray T (0, 0) h, List.getElem?_toArray]
theorem rowV_frozen {w : World} {g T : Nat} {l : List Value} (h : RowV w g T l) (i : Nat) : w.frozen? ⟨g, i, none⟩ = false := by
  have h : w.heap[g]? = some (.cells l.toArray T) := h
  simp [World.frozen?, h]
theorem rowV_lt {w : World} {g T : Nat} {l : List Value} (h : RowV w g T l) : g < w.heap.size := (Array.getElem?_eq_some_iff.1 h).1
theorem rowV_stored {w : World} {g T : Nat} {l : List Value} (h : RowV w g T l) (i : Nat) (v : Value) : RowV (w.setCell ⟨g, i, none⟩ v) g T (l.set i v) := by
  unfold RowV at h ⊢
  rw [setCell_eq_setRow w g i l.toArray T _ _ h, setRow_heap w g l.toArray _ T _ h]
  simp
theorem rowV_below {w w' : World} {g T B : Nat} {l : List Value} (h : RowV w g T l) (hb : Below B w w') (hg : g < B) : RowV w' g T l := (hb.block g hg).trans h
theorem rowV_new (w : World) (T : Nat) (l : List Value) : RowV (w.alloc (.cells l.toArray T)) w.heap.size T l := heap_alloc_new w _
theorem rowV_alloc {w : World} {g T : Nat} {l : List Value} (h : RowV w g T l) (o : Obj) : RowV (w.alloc o) g T l := by
  have := rowV_lt h
  exact (Below.heap_alloc w o g this).trans h
theorem rowV_far {w : World} {g T g' i : Nat} {l : List Value} (h : RowV w g T l) (hg : g ≠ g') (v : Value) : RowV (w.setCell ⟨g', i, none⟩ v) g T l := (Below.heap_setCell w ⟨g', i, none⟩ v g hg).trans h
theorem rowV_row {w : World} {g T : Nat} {l : List Value} (h : RowV w g T l) (l' : List Value) : RowV (w.setRow g l'.toArray) g T l' := setRow_heap w g l.toArray l'.toArray T _ h
theorem rowV_rowFar {w : World} {g T g' : Nat} {l : List Value} (h : RowV w g T l) (hg : g ≠ g') (c : Array Value) : RowV (w.setRow g' c) g T l := by
  unfold RowV at h ⊢
  rw [← h]
  simp only [World.setRow, Array.getElem?_modify]
  rw [if_neg (by omega)]
theorem vals_set (l : List Nat) (i x : Nat) : (vals l).set i (.int .u32 (x : Int)) = vals (l.set i x) := by simp [vals, List.map_set]
theorem vals_arr (l : List Nat) (i : Nat) (h : i < l.length) : (vals l).toArray[i]? = some (.int .u32 (l.getD i 0 : Int)) := by
  rw [List.getElem?_toArray]; exact vals_at l i h
theorem vals_size (L : List Nat) (n : Nat) (h : L.length = n) : (vals L).toArray.size = n := by rw [List.size_toArray, vals_len, h]
theorem vals_one (L : List Nat) : (vals L).toArray.all (·.oneCell') = true := by
  rw [Array.all_eq_true_iff_forall_mem]
  intro x hx
  rw [List.mem_toArray] at hx
  obtain ⟨y, _, rfl⟩ := List.mem_map.1 hx; rfl
theorem eight_one (a b c d e f g h : Int) : (#[.int .u32 a, .int .u32 b, .int .u32 c, .int .u32 d, .int .u32 e, .int .u32 f, .int .u32 g, .int .u32 h] : Array Value).all (·.oneCell') = true := by
  rw [Array.all_eq_true_iff_forall_mem]
  intro x hx
  simp at hx
  rcases hx with rfl | rfl | rfl | rfl | rfl | rfl | rfl | rfl <;> rfl
theorem setRow_far (w : World) (g i : Nat) (c : Array Value) (h : i ≠ g) : (w.setRow g c).heap[i]? = w.heap[i]? := by
  simp only [World.setRow, Array.getElem?_modify]
  rw [if_neg (by omega)]
/-- bytes as cells -/
def valB (l : List UInt8) : List Value := l.map fun b => Value.int .u8 (b.toNat : Int)
theorem getD_take (l : List Nat) (n i : Nat) (h : i < n) : (l.take n).getD i 0 = l.getD i 0 := by
  rw [List.getD_eq_getElem?_getD, List.getD_eq_getElem?_getD, List.getElem?_take, if_pos h]
/-- n cells of which the first k are laid -/
def lay (n : Nat) (L : List Nat) (k : Nat) : List Nat := L.take k ++ List.replicate (n - k) 0
theorem lay_len (n : Nat) (L : List Nat) (k : Nat) (hL : L.length = n) (hk : k ≤ n) : (lay n L k).length = n := by
  unfold lay; rw [List.length_append, List.length_take, List.length_replicate]; omega
theorem lay_end (n : Nat) (L : List Nat) (hL : L.length = n) : lay n L n = L := by unfold lay; rw [List.take_of_length_le (by omega)]; simp
theorem lay_low (n : Nat) (L : List Nat) (k i : Nat) (hL : L.length = n) (hk : k ≤ n) (hi : i < k) : (lay n L k).getD i 0 = L.getD i 0 := by
  unfold lay
  rw [List.getD_eq_getElem?_getD, List.getElem?_append_left (by rw [List.length_take]; omega), ← List.getD_eq_getElem?_getD, getD_take _ _ _ hi]
theorem lay_succ (n : Nat) (L : List Nat) (k : Nat) (hL : L.length = n) (hk : k < n) : (vals (lay n L k)).set k (.int .u32 (L.getD k 0 : Int)) = vals (lay n L (k + 1)) := by
  have hk2 : k < L.length := by omega
  have e : L[k] = L.getD k 0 := by rw [List.getD_eq_getElem?_getD, List.getElem?_eq_getElem hk2]; rfl
  rw [vals_set]
  congr 1
  unfold lay
  rw [List.set_append_right _ _ (by rw [List.length_take]; omega), List.length_take, show k - min k L.length = 0 by omega, List.take_succ_eq_append_getElem hk2, e, List.append_assoc,
    show n - k = (n - (k + 1)) + 1 by omega, List.replicate_succ, List.set_cons_zero]
  rfl
end Go.Proofs.YtpniegglbglbcaaDoor
