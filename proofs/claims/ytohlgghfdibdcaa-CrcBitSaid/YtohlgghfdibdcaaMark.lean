/-
  A row of bytes that came of a string ('[]byte(s)': its row bears a mark behind its last cell): what it holds, as a list.
-/
import Derived.Test.YtohlgghfdibdcaaBase
import Derived.Laws.IdiomStrings
namespace Go.Proofs.Ytohlgghfdibdcaa
open Go.RowKit

/-- block g, whole of a marked row, begins with the bytes l -/
def MarkB (w : World) (g E : Nat) (l : List UInt8) : Prop := ∃ cur : Array Value, w.heap[g]? = some (.cells cur E (cur.size, cur.size + 1)) ∧ l.length ≤ cur.size ∧ cur.toList.take l.length = l.map fun b => Value.int .u8 (b.toNat : Int)

theorem markB_made (w : World) (E : Nat) (s : ByteArray) (cap : Nat) :
    MarkB (w.drew.alloc (.cells (bytesRow s cap) E ((bytesRow s cap).size, (bytesRow s cap).size + 1))) w.heap.size E s.data.toList := by
  refine ⟨bytesRow s cap, heap_alloc_new w.drew _, ?_, ?_⟩
  · simp [bytesRow]
  · have e : (bytesRow s cap).toList = s.data.toList.map (fun b => Value.int .u8 (b.toNat : Int)) ++ List.replicate (cap - s.size) (.int .u8 0) := by simp [bytesRow]
    rw [e, List.take_left' (by simp)]
theorem markB_cell {w : World} {g E : Nat} {l : List UInt8} (h : MarkB w g E l) (j : Nat) (hj : j < l.length) : w.cell? ⟨g, j, none⟩ = some (.int .u8 (l[j].toNat : Int)) := by
  obtain ⟨cur, hg, hl, ht⟩ := h
  rw [cell_of_row w g j cur E _ hg]
  have h1 : cur.toList[j]? = (cur.toList.take l.length)[j]? := by rw [List.getElem?_take, if_pos hj]
  have h2 : cur[j]? = cur.toList[j]? := by simp
  rw [h2, h1, ht]
  simp [List.getElem?_eq_getElem hj]
theorem markB_frozen {w : World} {g E : Nat} {l : List UInt8} (h : MarkB w g E l) (j : Nat) (hj : j < l.length) : w.frozen? ⟨g, j, none⟩ = false := by
  obtain ⟨cur, hg, hl, ht⟩ := h
  simp [World.frozen?, hg]; omega
theorem markB_lt {w : World} {g E : Nat} {l : List UInt8} (h : MarkB w g E l) : g < w.heap.size := by
  obtain ⟨cur, hg, hl, ht⟩ := h
  exact (Array.getElem?_eq_some_iff.1 hg).1
theorem markB_below {w w' : World} {g E : Nat} {l : List UInt8} (h : MarkB w g E l) (hb : Below w.heap.size w w') : MarkB w' g E l := by
  have hlt := markB_lt h
  obtain ⟨cur, hg, hl, ht⟩ := h
  exact ⟨cur, by rw [hb.block g hlt]; exact hg, hl, ht⟩
theorem markB_conv {P : Program} {w : World} {g E : Nat} {l : List UInt8} (h : MarkB w g E l) (cap : Nat) {src dst : TypeId}
    (hs : P.underlying src = some (.slice E)) (he : P.underlying E = some (.int .u8)) (hd : P.underlying dst = some .string) :
    (convert src dst (.slice (some ⟨g, 0, none⟩) l.length cap)).run P w = .ok (.string ⟨l.toArray⟩) w :=
  run_convert_bytes_back w src dst E ⟨g, 0, none⟩ cap l hs he hd fun j hj => by
    have hadd : (⟨g, 0, none⟩ : Addr).add j = ⟨g, j, none⟩ := by unfold Addr.add; split <;> simp_all
    rw [hadd]; exact markB_cell h j hj
theorem markB_stored {w : World} {g E : Nat} {l : List UInt8} (h : MarkB w g E l) (j : Nat) (b : UInt8) : MarkB (w.setCell ⟨g, j, none⟩ (.int .u8 (b.toNat : Int))) g E (l.set j b) := by
  obtain ⟨cur, hg, hl, ht⟩ := h
  refine ⟨cur.setIfInBounds j (.int .u8 (b.toNat : Int)), ?_, ?_, ?_⟩
  · rw [setCell_eq_setRow w g j cur E _ _ hg]
    simpa using setRow_heap w g cur (cur.setIfInBounds j (.int .u8 (b.toNat : Int))) E _ hg
  · simpa using hl
  · rw [List.length_set, List.map_set, ← ht, Array.toList_setIfInBounds, List.take_set]
end Go.Proofs.Ytohlgghfdibdcaa
