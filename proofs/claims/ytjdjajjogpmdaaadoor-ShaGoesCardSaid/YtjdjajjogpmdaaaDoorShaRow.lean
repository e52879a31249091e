/-
  Rows of cells that a call makes and writes: what a block holds, as a list; the digest's cells (layer 3).
-/
import Derived.Test.YtjdjajjogpmdaaaDoorShaLeaf
namespace Go.Proofs.YtjdjajjogpmdaaaDoor
open Go.RowKit

/-- block g holds just the cells l (type T) -/
def RowV (w : World) (g T : Nat) (l : List Value) : Prop := w.heap[g]? = some (.cells l.toArray T)
theorem rowV_cell {w : World} {g T : Nat} {l : List Value} (h : RowV w g T l) (i : Nat) : w.cell? ⟨g, i, none⟩ = l[i]? := by
  rw [cell_of_row w g i l.toArray T (0, 0) h, List.getElem?_toArray]
theorem rowV_frozen {w : World} {g T : Nat} {l : List Value} (h : RowV w g T l) (i : Nat) : w.frozen? ⟨g, i, none⟩ = false := by
  have h : w.heap[g]? = some (.cells l.toArray T) := h
  simp [World.frozen?, h]
theorem rowV_lt {w : World} {g T : Nat} {l : List Value} (h : RowV w g T l) : g < w.heap.size := (Array.getElem?_eq_some_iff.1 h).1
theorem rowV_stored {w : World} {g T : Nat} {l : List Value} (h : RowV w g T l) (i : Nat) (v : Value) : RowV (w.setCell ⟨g, i, none⟩ v) g T (l.set i v) := by
  unfold RowV at h ⊢
  rw [setCell_eq_setRow w g i l.toArray T _ _ h, setRow_heap w g l.toArray _ T _ h]
  simp
theorem rowV_below {w w' : World} {g T B : Nat} {l : List Value} (h : RowV w g T l) (hb : Below B w w') (hg : g < B) : RowV w' g T l := (hb.block g hg).trans h
theorem rowV_new (w : World) (T : Nat) (l : List Value) : RowV (w.alloc (.cells l.toArray T)) w.heap.size T l := heap_alloc_new w _
theorem rowV_alloc {w : World} {g T : Nat} {l : List Value} (h : RowV w g T l) (o : Obj) : RowV (w.alloc o) g T l := by
  have := rowV_lt h
  exact (Below.heap_alloc w o g this).trans h
theorem rowV_far {w : World} {g T g' i : Nat} {l : List Value} (h : RowV w g T l) (hg : g ≠ g') (v : Value) : RowV (w.setCell ⟨g', i, none⟩ v) g T l := (Below.heap_setCell w ⟨g', i, none⟩ v g hg).trans h
theorem rowV_row {w : World} {g T : Nat} {l : List Value} (h : RowV w g T l) (l' : List Value) : RowV (w.setRow g l'.toArray) g T l' := setRow_heap w g l.toArray l'.toArray T _ h
theorem rowV_rowFar {w : World} {g T g' : Nat} {l : List Value} (h : RowV w g T l) (hg : g ≠ g') (c : Array Value) : RowV (w.setRow g' c) g T l := by
  unfold RowV at h ⊢
  rw [← h]
  simp only [World.setRow, Array.getElem?_modify]
  rw [if_neg (by omega)]

/-- the digest's cells: eight words, a block's 64, how many bytes were taken -/
def digL (H B : List Nat) (n : Nat) : List Value := vals H ++ (vals B ++ [.int .u64 (n : Int)])
theorem digL_word (H B : List Nat) (n i : Nat) (hH : H.length = 8) (hi : i < 8) : (digL H B n)[i]? = some (.int .u32 (H.getD i 0 : Int)) := by
  unfold digL
  rw [List.getElem?_append_left (by rw [vals_len]; omega)]
  exact vals_at H i (by omega)
theorem digL_block (H B : List Nat) (n i : Nat) (hH : H.length = 8) (hB : B.length = 64) (hi : i < 64) : (digL H B n)[8 + i]? = some (.int .u32 (B.getD i 0 : Int)) := by
  unfold digL
  rw [List.getElem?_append_right (by rw [vals_len]; omega), vals_len, List.getElem?_append_left (by rw [vals_len]; omega), show 8 + i - H.length = i by omega]
  exact vals_at B i (by omega)
theorem digL_taken (H B : List Nat) (n : Nat) (hH : H.length = 8) (hB : B.length = 64) : (digL H B n)[72]? = some (.int .u64 (n : Int)) := by
  unfold digL
  rw [List.getElem?_append_right (by rw [vals_len]; omega), vals_len, List.getElem?_append_right (by rw [vals_len]; omega), vals_len, hH, hB]
  rfl
theorem vals_set (l : List Nat) (i x : Nat) : (vals l).set i (.int .u32 (x : Int)) = vals (l.set i x) := by simp [vals, List.map_set]
theorem digL_setWord (H B : List Nat) (n i x : Nat) (hH : H.length = 8) (hi : i < 8) : (digL H B n).set i (.int .u32 (x : Int)) = digL (H.set i x) B n := by
  unfold digL
  rw [List.set_append_left _ _ (by rw [vals_len]; omega), vals_set]
theorem digL_setBlock (H B : List Nat) (n i x : Nat) (hH : H.length = 8) (hB : B.length = 64) (hi : i < 64) : (digL H B n).set (8 + i) (.int .u32 (x : Int)) = digL H (B.set i x) n := by
  unfold digL
  rw [List.set_append_right _ _ (by rw [vals_len]; omega), vals_len, List.set_append_left _ _ (by rw [vals_len]; omega), show 8 + i - H.length = i by omega, vals_set]
theorem digL_setTaken (H B : List Nat) (n x : Nat) (hH : H.length = 8) (hB : B.length = 64) : (digL H B n).set 72 (.int .u64 (x : Int)) = digL H B x := by
  unfold digL
  rw [List.set_append_right _ _ (by rw [vals_len]; omega), vals_len, List.set_append_right _ _ (by rw [vals_len]; omega), vals_len, hH, hB]
  rfl
theorem getD_lt {l : List Nat} (h : Sha.Ws l) (i : Nat) : l.getD i 0 < 4294967296 := by
  by_cases hi : i < l.length
  · rw [List.getD_eq_getElem?_getD, List.getElem?_eq_getElem hi]; exact h _ (List.getElem_mem _)
  · rw [List.getD_eq_getElem?_getD, List.getElem?_eq_none (by omega)]; show 0 < _; omega
theorem ws_set {l : List Nat} (h : Sha.Ws l) (i x : Nat) (hx : x < 4294967296) : Sha.Ws (l.set i x) := fun y hy => by
  rcases List.mem_or_eq_of_mem_set hy with hy | rfl
  · exact h y hy
  · exact hx
theorem ws_append {l m : List Nat} (h1 : Sha.Ws l) (h2 : Sha.Ws m) : Sha.Ws (l ++ m) := fun x hx => by
  rcases List.mem_append.1 hx with hx | hx
  · exact h1 x hx
  · exact h2 x hx
theorem ws_take {l : List Nat} (h : Sha.Ws l) (k : Nat) : Sha.Ws (l.take k) := fun x hx => h x (List.mem_of_mem_take hx)
theorem ws_drop {l : List Nat} (h : Sha.Ws l) (k : Nat) : Sha.Ws (l.drop k) := fun x hx => h x (List.mem_of_mem_drop hx)

/-- a block's words while they are made: k + 16 of them are -/
def mixB (B : List Nat) (k : Nat) : List Nat := Sha.more k (B.take 16) ++ B.drop (k + 16)
theorem mixB_len (B : List Nat) (k : Nat) (hB : B.length = 64) (hk : k ≤ 48) : (mixB B k).length = 64 := by
  unfold mixB; rw [List.length_append, Sha.more_len, List.length_take, List.length_drop]; omega
theorem mixB_zero (B : List Nat) : mixB B 0 = B := by unfold mixB; exact List.take_append_drop 16 B
theorem mixB_end (B : List Nat) (hB : B.length = 64) : mixB B 48 = Sha.sched (B.take 16) := by
  unfold mixB; rw [List.drop_of_length_le (by omega), List.append_nil]; rfl
theorem mixB_ws (B : List Nat) (k : Nat) (h : Sha.Ws B) : Sha.Ws (mixB B k) := ws_append (Sha.more_ws _ _ (ws_take h _)) (ws_drop h _)
theorem mixB_succ (B : List Nat) (k : Nat) (hB : B.length = 64) (hk : k < 48) :
    (mixB B k).set (k + 16) ((((( (mixB B k).getD k 0 + Sha.s0 ((mixB B k).getD (k + 1) 0)) % 4294967296 + (mixB B k).getD (k + 9) 0) % 4294967296 + Sha.s1 ((mixB B k).getD (k + 14) 0)) % 4294967296)) = mixB B (k + 1) := by
  have hl : (Sha.more k (B.take 16)).length = k + 16 := by rw [Sha.more_len, List.length_take]; omega
  have hg : ∀ i, i < k + 16 → (mixB B k).getD i 0 = (Sha.more k (B.take 16)).getD i 0 := fun i hi => by
    unfold mixB; rw [List.getD_eq_getElem?_getD, List.getD_eq_getElem?_getD, List.getElem?_append_left (by omega)]
  rw [hg k (by omega), hg (k + 1) (by omega), hg (k + 9) (by omega), hg (k + 14) (by omega)]
  have hn : Sha.nextW (Sha.more k (B.take 16)) = (((( (Sha.more k (B.take 16)).getD k 0 + Sha.s0 ((Sha.more k (B.take 16)).getD (k + 1) 0)) % 4294967296 + (Sha.more k (B.take 16)).getD (k + 9) 0) % 4294967296 + Sha.s1 ((Sha.more k (B.take 16)).getD (k + 14) 0)) % 4294967296) := by
    unfold Sha.nextW; rw [hl]; rfl
  rw [← hn]
  unfold mixB
  rw [List.set_append_right _ _ (by omega), hl, Nat.sub_self, Sha.more, List.append_assoc]
  congr 1
  rw [List.drop_eq_getElem_cons (by omega), List.set_cons_zero]
  rfl
end Go.Proofs.YtjdjajjogpmdaaaDoor
