/-
  Texts of the layers, part 1: Base, RowV, Only, Bits, Dump, DskArr, DskMath, DskObj, DskSet, DskFall, QTail, DskOps, DskCrash, DskBuild, DskNew.
-/
import Derived.WalkKit
import Derived.WalkSpells
import Derived.WalkLawsBesides
import Derived.Deep.Draws
import Derived.Deep.QuietTactic
import Derived.BigQuiet
import Derived.OpenShut
import Derived.Lib.Hide
import Derived.Below
import Derived.Deep.WholeRow
import Derived.Laws.CopyOwn
import Derived.IntWalk
import Derived.Test.YtednmncapfclfaaProg
import Derived.Deep.MidRow
import Derived.ChangeKeysEq
import Derived.Laws.MakeOwn
import Derived.Deep.RegionHeld3
import Derived.BigRegion
import Derived.StillTail
import Derived.Deep.Quiet
import Derived.StillTailTactics
import Derived.Sort.AtCall
import Derived.Great.FillDense
import Derived.Great.BuildSlice
import Derived.Deep.AppendSrc
import Derived.Deep.DeepAppendWide
import Derived.ArgAppend
/-
  Small words that every layer uses: ends of a walk, strings unlike, slices that read as strings, blocks above.
-/
namespace Go.Proofs.Ytednmncapfclfaa
open Go.RowKit

theorem ret_int {k : IntKind} {a b : Int} (h : a = b) : Ending.returned (.int k a) = .returned (.int k b) := by rw [h]
theorem ret_str {a b : ByteArray} (h : a = b) : Ending.returned (.string a) = .returned (.string b) := by rw [h]
theorem str_ne (A : ByteArray) (h : 0 < A.size) : ¬ A.toList = [] ∧ (!A.toList.isEmpty) = true := by
  have h1 : ¬ A.toList = [] := by
    rw [ByteArray.toList_eq]; intro h2
    have := congrArg List.length h2
    have e : A.data.size = A.size := rfl
    rw [Array.length_toList, List.length_nil] at this; omega
  refine ⟨h1, ?_⟩
  cases hA : A.toList with
  | nil => exact absurd hA h1
  | cons a l => rfl
theorem str_neq {A B : ByteArray} (h : A ≠ B) : ¬ A.toList = B.toList := by
  rw [ByteArray.toList_eq, ByteArray.toList_eq]; exact fun h2 => h (Go.WideShapes.bytes_inj h2)
theorem str_beq {A B : ByteArray} (h : ¬ A.toList = B.toList) : (A.toList == B.toList) = false := by simpa using h
theorem below_two {w w1 w2 : World} (h1 : Below w.heap.size w w1) (h2 : Below w1.heap.size w1 w2) : Below w.heap.size w w2 := h1.trans (h2.mono h1.size)
/-- the slice at a reads as the strings l -/
def ReadsS (w : World) (a : Option Addr) (l : List ByteArray) : Prop := ∀ i (h : i < l.length), ∃ b off, a = some ⟨b, off, none⟩ ∧ w.cell? ⟨b, off + i, none⟩ = some (.string (l[i]))
theorem readsS_none (w : World) (a : Option Addr) : ReadsS w a [] := by intro i hi; simp at hi
theorem readsS_open {w : World} {a : Addr} {len cap : Nat} {ss : List ByteArray} (hl : len ≤ cap) (hm : cap ≤ maxLen) (hz : ss.length = cap)
    (hcell : ∀ i, i < ss.length → w.cell? (a.add i) = some (.string (ss.getD i ByteArray.empty))) (hws : ∀ s ∈ ss, s.size ≤ maxLen) :
    ∃ l : List ByteArray, l.length = len ∧ l.length ≤ maxLen ∧ (∀ x ∈ l, x.size ≤ maxLen) ∧ ReadsS w (some a) l := by
  refine ⟨ss.take len, by rw [List.length_take]; omega, by rw [List.length_take]; omega, fun x hx => hws x (List.mem_of_mem_take hx), ?_⟩
  intro i hi
  have hi2 : i < ss.length := by rw [List.length_take] at hi; omega
  obtain ⟨b, off, spot⟩ := a
  have hc := hcell i hi2
  have hs : spot = none := by
    have h0 := hcell 0 (by omega)
    simpa [Addr.add] using World.cell?_spot h0
  subst hs
  refine ⟨b, off, rfl, ?_⟩
  have e : (⟨b, off, none⟩ : Addr).add i = ⟨b, off + i, none⟩ := by unfold Addr.add; split <;> simp_all
  rw [e] at hc
  rw [hc, List.getElem_take]
  simp [List.getD, List.getElem?_eq_getElem hi2]
theorem readsS_below {w w' : World} {a : Option Addr} {l : List ByteArray} (h : ReadsS w a l) (hb : Below w.heap.size w w') : ReadsS w' a l := by
  intro i hi
  obtain ⟨b, off, h1, h2⟩ := h i hi
  exact ⟨b, off, h1, by rw [hb.cell (World.block_lt_of_cell? w _ h2)]; exact h2⟩
end Go.Proofs.Ytednmncapfclfaa

/-
  Rows of cells that a call makes and writes (arrays, structs): what a block holds, as a list; words and bytes as cells; an array laid cell by cell.
-/
namespace Go.Proofs.Ytednmncapfclfaa
open Go.RowKit

theorem run_index_arr {P : Program} (w : World) (t e : TypeId) (n : Nat) (cs : Array Value) (k : IntKind) (i : Nat) (v : Value) (hu : P.underlying t = some (.array n e)) (he : P.underlying e = some (.int .u32)) (hs : (P.info? e).map (·.size) = some 1) (hi : i < n) (hv : cs[i]? = some v) :
    (Instr.index t (.agg cs) (.int k (i : Int))).run P w = .ok v w := by
  obtain ⟨i0, hi0, hz⟩ := Option.map_eq_some_iff.1 hs
  have hi3 : 0 ≤ (i : Int) := by omega
  simp [Instr.index, run_underlying hu, asIntOf, hi3, go_sem, sizeOf, typeInfo, hi0, hz, part, isAgg, run_underlying he, hv]
  intro h; omega
/-- words as cells -/
def vals (l : List Nat) : List Value := l.map fun x : Nat => Value.int .u32 (x : Int)
theorem vals_len (l : List Nat) : (vals l).length = l.length := by simp [vals]
theorem vals_at (l : List Nat) (i : Nat) (h : i < l.length) : (vals l)[i]? = some (.int .u32 (l.getD i 0 : Int)) := by
  simp [vals, List.getElem?_eq_getElem h, List.getD]
/-- block g holds just the cells l (type T) -/
def RowV (w : World) (g T : Nat) (l : List Value) : Prop := w.heap[g]? = some (.cells l.toArray T)
theorem rowV_cell {w : World} {g T : Nat} {l : List Value} (h : RowV w g T l) (i : Nat) : w.cell? ⟨g, i, none⟩ = l[i]? := by
  rw [cell_of_row w g i l.toArray T (0, 0) h, List.getElem?_toArray]
theorem rowV_frozen {w : World} {g T : Nat} {l : List Value} (h : RowV w g T l) (i : Nat) : w.frozen? ⟨g, i, none⟩ = false := by
  have h : w.heap[g]? = some (.cells l.toArray T) := h
  simp [World.frozen?, h]
theorem rowV_lt {w : World} {g T : Nat} {l : List Value} (h : RowV w g T l) : g < w.heap.size := (Array.getElem?_eq_some_iff.1 h).1
theorem rowV_stored {w : World} {g T : Nat} {l : List Value} (h : RowV w g T l) (i : Nat) (v : Value) : RowV (w.setCell ⟨g, i, none⟩ v) g T (l.set i v) := by
  unfold RowV at h ⊢
  rw [setCell_eq_setRow w g i l.toArray T _ _ h, setRow_heap w g l.toArray _ T _ h]
  simp
theorem rowV_below {w w' : World} {g T B : Nat} {l : List Value} (h : RowV w g T l) (hb : Below B w w') (hg : g < B) : RowV w' g T l := (hb.block g hg).trans h
theorem rowV_new (w : World) (T : Nat) (l : List Value) : RowV (w.alloc (.cells l.toArray T)) w.heap.size T l := heap_alloc_new w _
theorem rowV_alloc {w : World} {g T : Nat} {l : List Value} (h : RowV w g T l) (o : Obj) : RowV (w.alloc o) g T l := by
  have := rowV_lt h
  exact (Below.heap_alloc w o g this).trans h
theorem rowV_far {w : World} {g T g' i : Nat} {l : List Value} (h : RowV w g T l) (hg : g ≠ g') (v : Value) : RowV (w.setCell ⟨g', i, none⟩ v) g T l := (Below.heap_setCell w ⟨g', i, none⟩ v g hg).trans h
theorem rowV_row {w : World} {g T : Nat} {l : List Value} (h : RowV w g T l) (l' : List Value) : RowV (w.setRow g l'.toArray) g T l' := setRow_heap w g l.toArray l'.toArray T _ h
theorem rowV_rowFar {w : World} {g T g' : Nat} {l : List Value} (h : RowV w g T l) (hg : g ≠ g') (c : Array Value) : RowV (w.setRow g' c) g T l := by
  unfold RowV at h ⊢
  rw [← h]
  simp only [World.setRow, Array.getElem?_modify]
  rw [if_neg (by omega)]
theorem vals_set (l : List Nat) (i x : Nat) : (vals l).set i (.int .u32 (x : Int)) = vals (l.set i x) := by simp [vals, List.map_set]
theorem vals_arr (l : List Nat) (i : Nat) (h : i < l.length) : (vals l).toArray[i]? = some (.int .u32 (l.getD i 0 : Int)) := by
  rw [List.getElem?_toArray]; exact vals_at l i h
theorem vals_size (L : List Nat) (n : Nat) (h : L.length = n) : (vals L).toArray.size = n := by rw [List.size_toArray, vals_len, h]
theorem vals_one (L : List Nat) : (vals L).toArray.all (·.oneCell') = true := by
  rw [Array.all_eq_true_iff_forall_mem]
  intro x hx
  rw [List.mem_toArray] at hx
  obtain ⟨y, _, rfl⟩ := List.mem_map.1 hx; rfl
theorem eight_one (a b c d e f g h : Int) : (#[.int .u32 a, .int .u32 b, .int .u32 c, .int .u32 d, .int .u32 e, .int .u32 f, .int .u32 g, .int .u32 h] : Array Value).all (·.oneCell') = true := by
  rw [Array.all_eq_true_iff_forall_mem]
  intro x hx
  simp at hx
  rcases hx with rfl | rfl | rfl | rfl | rfl | rfl | rfl | rfl <;> rfl
theorem setRow_far (w : World) (g i : Nat) (c : Array Value) (h : i ≠ g) : (w.setRow g c).heap[i]? = w.heap[i]? := by
  simp only [World.setRow, Array.getElem?_modify]
  rw [if_neg (by omega)]
/-- bytes as cells -/
def valB (l : List UInt8) : List Value := l.map fun b => Value.int .u8 (b.toNat : Int)
theorem getD_take (l : List Nat) (n i : Nat) (h : i < n) : (l.take n).getD i 0 = l.getD i 0 := by
  rw [List.getD_eq_getElem?_getD, List.getD_eq_getElem?_getD, List.getElem?_take, if_pos h]
/-- n cells of which the first k are laid -/
def lay (n : Nat) (L : List Nat) (k : Nat) : List Nat := L.take k ++ List.replicate (n - k) 0
theorem lay_len (n : Nat) (L : List Nat) (k : Nat) (hL : L.length = n) (hk : k ≤ n) : (lay n L k).length = n := by
  unfold lay; rw [List.length_append, List.length_take, List.length_replicate]; omega
theorem lay_end (n : Nat) (L : List Nat) (hL : L.length = n) : lay n L n = L := by unfold lay; rw [List.take_of_length_le (by omega)]; simp
theorem lay_low (n : Nat) (L : List Nat) (k i : Nat) (hL : L.length = n) (hk : k ≤ n) (hi : i < k) : (lay n L k).getD i 0 = L.getD i 0 := by
  unfold lay
  rw [List.getD_eq_getElem?_getD, List.getElem?_append_left (by rw [List.length_take]; omega), ← List.getD_eq_getElem?_getD, getD_take _ _ _ hi]
theorem lay_succ (n : Nat) (L : List Nat) (k : Nat) (hL : L.length = n) (hk : k < n) : (vals (lay n L k)).set k (.int .u32 (L.getD k 0 : Int)) = vals (lay n L (k + 1)) := by
  have hk2 : k < L.length := by omega
  have e : L[k] = L.getD k 0 := by rw [List.getD_eq_getElem?_getD, List.getElem?_eq_getElem hk2]; rfl
  rw [vals_set]
  congr 1
  unfold lay
  rw [List.set_append_right _ _ (by rw [List.length_take]; omega), List.length_take, show k - min k L.length = 0 by omega, List.take_succ_eq_append_getElem hk2, e, List.append_assoc,
    show n - k = (n - (k + 1)) + 1 by omega, List.replicate_succ, List.set_cons_zero]
  rfl
end Go.Proofs.Ytednmncapfclfaa

/-
  What a call may have turned, said by a set of blocks ('Only F w w''): for calls that write into objects that were there before them. Objects whose blocks are apart go their own ways.
-/
namespace Go.Proofs.Ytednmncapfclfaa
open Go.RowKit

/-- of the blocks that were there only those of F may have turned; the streams are as they were -/
structure Only (F : Nat → Prop) (w w' : World) : Prop where
  os : w'.os = w.os
  tape : w'.tape = w.tape
  output : w'.output = w.output
  size : w.heap.size ≤ w'.heap.size
  block : ∀ k, k < w.heap.size → ¬ F k → w'.heap[k]? = w.heap[k]?
namespace Only
theorem refl (F : Nat → Prop) (w : World) : Only F w w := ⟨rfl, rfl, rfl, Nat.le_refl _, fun _ _ _ => rfl⟩
theorem mono {F G : Nat → Prop} {w w' : World} (h : Only F w w') (hs : ∀ k, k < w.heap.size → F k → G k) : Only G w w' := ⟨h.os, h.tape, h.output, h.size, fun k hk hn => h.block k hk fun hf => hn (hs k hk hf)⟩
theorem trans {F G : Nat → Prop} {a b c : World} (h : Only F a b) (k : Only G b c) (hs : ∀ i, i < a.heap.size → G i → F i) : Only F a c :=
  ⟨k.os.trans h.os, k.tape.trans h.tape, k.output.trans h.output, Nat.le_trans h.size k.size, fun i hi hn => (k.block i (Nat.lt_of_lt_of_le hi h.size) fun hg => hn (hs i hi hg)).trans (h.block i hi hn)⟩
/-- the same set again -/
theorem more {F : Nat → Prop} {a b c : World} (h : Only F a b) (k : Only F b c) : Only F a c := h.trans k fun _ _ x => x
theorem of_below {B : Nat} {w w' : World} (h : Below B w w') : Only (fun k => B ≤ k) w w' := ⟨h.os, h.tape, h.output, h.size, fun k _ hn => h.block k (by omega)⟩
/-- nothing that was there has turned -/
theorem of_none {F : Nat → Prop} {w w' : World} (h : Below w.heap.size w w') : Only F w w' := (of_below h).mono fun k hk hf => by omega
theorem below {F : Nat → Prop} {B : Nat} {w w' : World} (h : Only F w w') (hF : ∀ k, k < w.heap.size → F k → B ≤ k) (hB : B ≤ w.heap.size) : Below B w w' :=
  ⟨h.os, h.tape, h.output, h.size, fun k hk => h.block k (by omega) fun hf => by have := hF k (by omega) hf; omega⟩
theorem drewN {F : Nat → Prop} {a w : World} (h : Only F a w) (n : Nat) : Only F a (w.drewN n) := ⟨h.os, h.tape, h.output, h.size, h.block⟩
theorem drew {F : Nat → Prop} {a w : World} (h : Only F a w) : Only F a w.drew := ⟨h.os, h.tape, h.output, h.size, h.block⟩
theorem alloc {F : Nat → Prop} {a w : World} (h : Only F a w) (o : Obj) : Only F a (w.alloc o) :=
  h.trans (of_none (F := F) ((Below.refl _ w).alloc (Nat.le_refl _) o)) fun _ _ x => x
theorem setCell {F : Nat → Prop} {a w : World} (h : Only F a w) {g i : Nat} (hg : g < a.heap.size → F g) (v : Value) : Only F a (w.setCell ⟨g, i, none⟩ v) :=
  h.trans (G := fun k => k = g) ⟨rfl, rfl, rfl, by simp [World.setCell], fun k _ hk => Below.heap_setCell _ _ _ _ hk⟩ fun k hk e => by subst e; exact hg hk
theorem setRow {F : Nat → Prop} {a w : World} (h : Only F a w) {g : Nat} (hg : g < a.heap.size → F g) (c : Array Value) : Only F a (w.setRow g c) :=
  h.trans (G := fun k => k = g) ⟨rfl, rfl, rfl, by simp [World.setRow], fun k _ hk => setRow_far w g k c hk⟩ fun k hk e => by subst e; exact hg hk
/-- behind an append or a make -/
theorem grown {F : Nat → Prop} {a w w' : World} {row : Option Nat} (h : Only F a w) (hg : w.grownBy w' row) (hr : ∀ k, k < a.heap.size → row = some k → F k) : Only F a w' :=
  h.trans (G := fun k => row = some k) ⟨hg.os, hg.tape, hg.output, hg.size, fun k hk hn => hg.block k hk fun e => hn e.symm⟩ hr
theorem cell {F : Nat → Prop} {w w' : World} (h : Only F w w') {p : Addr} (hp : p.block < w.heap.size) (hn : ¬ F p.block) : w'.cell? p = w.cell? p := World.cell?_of_block (w := w) (h.block p.block hp hn)
theorem frozen {F : Nat → Prop} {w w' : World} (h : Only F w w') {p : Addr} (hp : p.block < w.heap.size) (hn : ¬ F p.block) : w'.frozen? p = w.frozen? p := World.frozen?_of_block (w := w) (h.block p.block hp hn)
end Only
theorem rowV_only {F : Nat → Prop} {w w' : World} {g T : Nat} {l : List Value} (h : RowV w g T l) (ho : Only F w w') (hn : ¬ F g) : RowV w' g T l := (ho.block g (rowV_lt h) hn).trans h
/-- a row that the call owns stays, if its block is not of F -/
theorem ownsRow_only {F : Nat → Prop} {w w' : World} {B E size n : Nat} {v : Value} {xs : List Value} (h : w.ownsRow B E size v n xs) (ho : Only F w w') (hn : ∀ k, v.ownBlock = some k → ¬ F k) : w'.ownsRow B E size v n xs := by
  refine ⟨h.1, ?_⟩
  rcases h.2 with hv | ⟨g, cap, cur, rfl, hg, hh, r⟩
  · exact .inl hv
  · exact .inr ⟨g, cap, cur, rfl, hg, by rw [ho.block g (Array.getElem?_eq_some_iff.1 hh).1 (hn g rfl)]; exact hh, r⟩
theorem readsS_only {F : Nat → Prop} {w w' : World} {a : Option Addr} {l : List ByteArray} (h : ReadsS w a l) (ho : Only F w w') (hn : ∀ b, a = some b → ¬ F b.block) : ReadsS w' a l := by
  intro i hi
  obtain ⟨b, off, h1, h2⟩ := h i hi
  exact ⟨b, off, h1, (ho.cell (World.block_lt_of_cell? w _ h2) (show ¬ F b from hn _ h1)).trans h2⟩
end Go.Proofs.Ytednmncapfclfaa

/-
  Words of 32 bits as natural numbers: or, and, xor, not, shifts; a byte of a number; a rest of a division; a bool's end.
-/
namespace Go.Proofs.Ytednmncapfclfaa
open Go.RowKit

theorem or_32 (a b : Nat) (h1 : a < 4294967296) (h2 : b < 4294967296) : bits .or .u32 (a : Int) (b : Int) = ((a ||| b : Nat) : Int) := by
  rw [u32_or _ _ (by omega) (by omega) (by omega) (by omega)]
  simp only [Int.toNat_natCast]
theorem and_32 (a b : Nat) (h1 : a < 4294967296) (h2 : b < 4294967296) : bits .and .u32 (a : Int) (b : Int) = ((a &&& b : Nat) : Int) := by
  rw [u32_and _ _ (by omega) (by omega) (by omega) (by omega)]
  simp only [Int.toNat_natCast]
theorem xor_32 (a b : Nat) (h1 : a < 4294967296) (h2 : b < 4294967296) : bits .xor .u32 (a : Int) (b : Int) = ((a ^^^ b : Nat) : Int) := by
  rw [u32_xor _ _ (by omega) (by omega) (by omega) (by omega)]
  simp only [Int.toNat_natCast]
theorem cast_div (x n : Nat) : ((x / 2 ^ n : Nat) : Int) = (x : Int) / 2 ^ n := by rw [Int.natCast_ediv, Int.natCast_pow]; rfl
theorem cast_shl (x n : Nat) : ((x * 2 ^ n % 4294967296 : Nat) : Int) = (x : Int) * 2 ^ n % 4294967296 := by rw [Int.natCast_emod, Int.natCast_mul, Int.natCast_pow]; rfl
theorem not_32 (e : Nat) (he : e < 4294967296) : 4294967295 ^^^ e = 4294967295 - e := by
  have h1 : 4294967295 - e = 2 ^ 32 - (e + 1) := by omega
  have h2 : (4294967295 : Nat) = 2 ^ 32 - 1 := by decide
  rw [h1]
  apply Nat.eq_of_testBit_eq
  intro i
  rw [Nat.testBit_xor, Nat.testBit_two_pow_sub_succ (by omega), h2, Nat.testBit_two_pow_sub_one]
  by_cases hi : i < 32
  · simp [hi]
  · have : e.testBit i = false := Nat.testBit_lt_two_pow (Nat.lt_of_lt_of_le he (by
      have : 2 ^ 32 ≤ 2 ^ i := Nat.pow_le_pow_right (by omega) (by omega)
      omega))
    simp [hi, this]
theorem ofNat_int (x : Nat) : ((UInt8.ofNat x).toNat : Int) = (x : Int) % 256 := by simp
theorem u64_rem (x : Int) (n : Nat) (h : 0 < n) : ∃ j : Nat, j < n ∧ (IntKind.u64.wrap x).tmod (n : Int) = (j : Int) := by
  refine ⟨((IntKind.u64.wrap x).tmod (n : Int)).toNat, ?_, ?_⟩
  all_goals
    rw [IntKind.wrap_u64, Int.tmod_eq_emod_of_nonneg (by omega)]
    have h1 := Int.emod_nonneg (x % 18446744073709551616) (show (n : Int) ≠ 0 by omega)
    have h2 := Int.emod_lt_of_pos (x % 18446744073709551616) (show (0 : Int) < (n : Int) by omega)
    omega
theorem ret_bool {a b : Bool} (h : a = b) : Ending.returned (.bool a) = .returned (.bool b) := by rw [h]
end Go.Proofs.Ytednmncapfclfaa

/-
  Closed facts of the translation that more than one text uses.
-/
namespace Go.Proofs.Ytednmncapfclfaa
open Go.RowKit
theorem Try.info5 : (Try.prog.info? 5).map (fun i => (i.zero, i.size, i.bytes)) = some (some (.int .u8 0), 1, 1) := by kernel_rfl
end Go.Proofs.Ytednmncapfclfaa

/-
  Layer 4: blocks as arrays of 512 bytes: their cells; elements of many cells in a row; two arrays held against one another.
-/
namespace Go.Proofs.Ytednmncapfclfaa
open Go.RowKit

/-- a text's bytes as cells -/
def bv (b : ByteArray) : List Value := valB b.data.toList
theorem ba_len (b : ByteArray) : b.data.toList.length = b.size := by rw [Array.length_toList]; rfl
theorem bv_len (b : ByteArray) : (bv b).length = b.size := by unfold bv valB; rw [List.length_map, ba_len]
theorem bv_at (b : ByteArray) (i : Nat) (h : i < b.size) : (bv b)[i]? = some (.int .u8 ((b.data.toList[i]'(by rw [ba_len]; exact h)).toNat : Int)) := by
  unfold bv valB
  rw [List.getElem?_map, List.getElem?_eq_getElem (by rw [ba_len]; exact h)]; rfl
theorem valB_inj {a b : List UInt8} (h : valB a = valB b) : a = b := by
  unfold valB at h
  refine List.map_inj_right (fun x y hxy => ?_) |>.1 h
  simp only [Value.int.injEq, true_and] at hxy
  have : x.toNat = y.toNat := by omega
  exact UInt8.toNat_inj.1 this
theorem bv_inj {a b : ByteArray} (h : bv a = bv b) : a = b := by
  have h2 := valB_inj h
  cases a; cases b
  simp at h2
  rw [h2]
theorem valB_one (l : List UInt8) : ∀ v ∈ valB l, v.oneCell' = true := by
  intro v hv
  obtain ⟨x, _, rfl⟩ := List.mem_map.1 hv; rfl
theorem bv_one (b : ByteArray) : ∀ v ∈ bv b, v.oneCell' = true := valB_one _

/-! elements of k cells each, one behind the other -/
section
variable {α : Type} (f : α → List Value) (k : Nat)
theorem flat_len (bs : List α) (h : ∀ b ∈ bs, (f b).length = k) : (bs.flatMap f).length = bs.length * k := by
  induction bs with
  | nil => simp
  | cons b bs ih =>
    rw [List.flatMap_cons, List.length_append, h b (by simp), ih fun x hx => h x (by simp [hx]), List.length_cons, Nat.add_mul]; omega
theorem flat_at (bs : List α) (h : ∀ b ∈ bs, (f b).length = k) (i : Nat) (hi : i < bs.length) (j : Nat) (hj : j < k) : (bs.flatMap f)[i * k + j]? = (f bs[i])[j]? := by
  induction bs generalizing i with
  | nil => simp at hi
  | cons b bs ih =>
    have hb := h b (by simp)
    rw [List.flatMap_cons]
    cases i with
    | zero => rw [List.getElem?_append_left (by omega)]; simp
    | succ i =>
      rw [List.getElem?_append_right (by rw [hb, Nat.add_mul]; omega), hb, show (i + 1) * k + j - k = i * k + j by rw [Nat.add_mul]; omega]
      exact ih (fun x hx => h x (by simp [hx])) i (by simpa using hi)
theorem flat_set (bs : List α) (h : ∀ b ∈ bs, (f b).length = k) (i : Nat) (hi : i < bs.length) (x : α) (r : List Value) :
    (bs.flatMap f ++ r).take (i * k) ++ f x ++ (bs.flatMap f ++ r).drop (i * k + k) = (bs.set i x).flatMap f ++ r := by
  induction bs generalizing i with
  | nil => simp at hi
  | cons b bs ih =>
    have hb := h b (by simp)
    cases i with
    | zero =>
      simp only [List.flatMap_cons, List.set_cons_zero, Nat.zero_mul, Nat.zero_add, List.take_zero, List.nil_append, List.append_assoc]
      congr 1
      rw [List.drop_append, hb, Nat.sub_self, List.drop_zero, List.drop_of_length_le (by omega), List.nil_append]
    | succ i =>
      have e := ih (fun x hx => h x (by simp [hx])) i (by simpa using hi)
      simp only [List.flatMap_cons, List.set_cons_succ, List.append_assoc] at e ⊢
      rw [← e, List.take_append, List.drop_append, hb, List.take_of_length_le (by rw [hb, Nat.add_mul]; omega), List.drop_of_length_le (by rw [hb, Nat.add_mul]; omega),
        show (i + 1) * k - k = i * k by rw [Nat.add_mul]; omega, show (i + 1) * k + k - k = i * k + k by rw [Nat.add_mul]; omega, List.nil_append, List.append_assoc]
end
/-- what a store of many cells makes of a row -/
theorem rowV_setCells (vs : List Value) : ∀ (o : Nat) {w : World} {g T : Nat} {l : List Value}, RowV w g T l → o + vs.length ≤ l.length → RowV (w.setCells g o vs) g T (l.take o ++ vs ++ l.drop (o + vs.length)) := by
  induction vs with
  | nil => intro o w g T l h _; simpa [World.setCells] using h
  | cons v r ih =>
    intro o w g T l h ho
    rw [World.setCells]
    have h2 := ih (o + 1) (rowV_stored h o v) (by rw [List.length_set]; simp at ho; omega)
    have e : (l.set o v).take (o + 1) ++ r ++ (l.set o v).drop (o + 1 + r.length) = l.take o ++ (v :: r) ++ l.drop (o + (v :: r).length) := by
      have ho2 : o < l.length := by simp at ho; omega
      rw [List.take_set, List.drop_set_of_lt (by omega), List.take_succ_eq_append_getElem ho2, List.set_append_right _ _ (by rw [List.length_take]; omega), List.length_take, show o - min o l.length = 0 by omega, List.set_cons_zero]
      simp [Nat.add_assoc, Nat.add_comm 1]
    rw [e] at h2
    exact h2
theorem setCells_far (g : Nat) (vs : List Value) : ∀ (o : Nat) (w : World) (i : Nat), i ≠ g → (w.setCells g o vs).heap[i]? = w.heap[i]? := by
  induction vs with
  | nil => intro o w i _; rfl
  | cons v r ih => intro o w i h; rw [World.setCells, ih _ _ _ h]; exact Below.heap_setCell w ⟨g, o, none⟩ v i h
theorem setCells_size (g : Nat) (vs : List Value) : ∀ (o : Nat) (w : World), (w.setCells g o vs).heap.size = w.heap.size := by
  induction vs with
  | nil => intro o w; rfl
  | cons v r ih => intro o w; rw [World.setCells, ih]; simp [World.setCell]
theorem setCells_rest (g : Nat) (vs : List Value) : ∀ (o : Nat) (w : World), (w.setCells g o vs).os = w.os ∧ (w.setCells g o vs).tape = w.tape ∧ (w.setCells g o vs).output = w.output := by
  induction vs with
  | nil => intro o w; exact ⟨rfl, rfl, rfl⟩
  | cons v r ih => intro o w; rw [World.setCells]; exact ih _ _
theorem Only.setCells {F : Nat → Prop} {a w : World} (h : Only F a w) {g : Nat} (hg : g < a.heap.size → F g) (o : Nat) (vs : List Value) : Only F a (w.setCells g o vs) :=
  h.trans (G := fun k => k = g) ⟨(setCells_rest _ _ _ _).1, (setCells_rest _ _ _ _).2.1, (setCells_rest _ _ _ _).2.2, by rw [setCells_size]; exact Nat.le_refl _, fun k _ hk => setCells_far g vs o w k hk⟩ fun k hk e => by subst e; exact hg hk
theorem rowV_cellsFar {w : World} {g T g' : Nat} {l : List Value} (h : RowV w g T l) (hg : g ≠ g') (o : Nat) (vs : List Value) : RowV (w.setCells g' o vs) g T l := (setCells_far g' vs o w g hg).trans h
/-- the cells of a row from o on -/
theorem rowV_range {w : World} {g T : Nat} {l : List Value} (h : RowV w g T l) (o : Nat) (cs : List Value) (hc : ∀ j, j < cs.length → l[o + j]? = cs[j]?) : w.rangeAt g o cs := by
  intro j v hv
  have hj : j < cs.length := (List.getElem?_eq_some_iff.1 hv).1
  rw [rowV_cell h, hc j hj, hv]
theorem rowV_there {w : World} {g T : Nat} {l : List Value} (h : RowV w g T l) (o n : Nat) (hn : o + n ≤ l.length) : w.there g o n := by
  intro j hj
  refine ⟨?_, rowV_frozen h _⟩
  rw [rowV_cell h, List.getElem?_eq_getElem (by omega)]; rfl

/-! two arrays of bytes held against one another -/
theorem info_block : (Try.prog.info? 88).map (fun i => (i.zero.isSome, i.size, i.bytes)) = some (true, 512, 512) := by kernel_rfl
theorem info_byte : (Try.prog.info? 5).map (fun i => (i.zero, i.size, i.bytes)) = some (some (.int .u8 0), 1, 1) := by kernel_rfl
theorem eqItems_int {P : Program} (w : World) (e : TypeId) (k : IntKind) (he : P.underlying e = some (.int k)) (d : Nat) (is : List Nat) : ∀ (X Y : List Int), (∀ i ∈ is, i < X.length ∧ i < Y.length) →
    (Op.eqItems (d + 1) e 1 (X.map (Value.int k)).toArray (Y.map (Value.int k)).toArray is).run P w = .ok (is.all fun i => X.getD i 0 == Y.getD i 0) w := by
  induction is with
  | nil => intro X Y _; simp [Op.eqItems]
  | cons i is ih =>
    intro X Y h
    obtain ⟨h1, h2⟩ := h i (by simp)
    have hag : (isAgg e).run P w = .ok false w := by unfold isAgg; rw [Sem.run_bind, run_underlying he w]; rfl
    have hx : (part e (X.map (Value.int k)).toArray (i * 1)).run P w = .ok (.int k (X.getD i 0)) w := by
      simp [part, hag, List.getElem?_eq_getElem h1, List.getD]
    have hy : (part e (Y.map (Value.int k)).toArray (i * 1)).run P w = .ok (.int k (Y.getD i 0)) w := by
      simp [part, hag, List.getElem?_eq_getElem h2, List.getD]
    simp only [Op.eqItems, Sem.run_bind, hx, hy, Result.andThen_ok, run_equalIn_int w d e k k _ _ he]
    by_cases hq : X.getD i 0 = Y.getD i 0
    · rw [List.all_cons]
      have : (X.getD i 0 == Y.getD i 0) = true := by simpa using hq
      rw [this]
      simpa using ih X Y fun j hj => h j (by simp [hj])
    · have : (X.getD i 0 == Y.getD i 0) = false := by simpa using hq
      rw [List.all_cons, this]
      simp
theorem all_getD {X Y : List Int} {n : Nat} (hX : X.length = n) (hY : Y.length = n) : ((List.range n).all fun i => X.getD i 0 == Y.getD i 0) = decide (X = Y) := by
  rw [Bool.eq_iff_iff, List.all_eq_true, decide_eq_true_iff]
  constructor
  · intro h
    apply List.ext_getElem (by omega)
    intro i h1 h2
    have := h i (List.mem_range.2 (by omega))
    simpa [List.getD, List.getElem?_eq_getElem h1, List.getElem?_eq_getElem h2] using this
  · rintro rfl i _; simp
theorem valB_int (l : List UInt8) : valB l = (l.map fun b => (b.toNat : Int)).map (Value.int .u8) := by unfold valB; rw [List.map_map]; rfl
set_option maxRecDepth 100000 in
/-- two blocks held against one another -/
theorem run_equal_bv (w : World) (a b : ByteArray) (ha : a.size = 512) (hb : b.size = 512) :
    (Op.equal 88 (.agg (bv a).toArray) (.agg (bv b).toArray)).run Try.prog w = .ok (decide (a = b)) w := by
  obtain ⟨i, hi, hi2⟩ := Option.map_eq_some_iff.1 info_byte
  simp only [Prod.mk.injEq] at hi2
  have hc : Try.prog.cellsOf 5 = 1 := by kernel_rfl
  unfold Op.equal
  rw [show Op.maxDepth = 9998 + 1 + 1 from rfl, run_equalIn_array w (9998 + 1) _ _ Try.underlying88 hi, hc]
  unfold bv
  rw [valB_int, valB_int, eqItems_int w 5 .u8 Try.underlying5 9998 _ _ _ (fun j hj => by
    have := List.mem_range.1 hj
    have ea := ba_len a
    have eb := ba_len b
    rw [List.length_map, List.length_map]; omega)]
  rw [all_getD (by rw [List.length_map, ba_len]; exact ha) (by rw [List.length_map, ba_len]; exact hb)]
  congr 1
  rw [Bool.eq_iff_iff, decide_eq_true_iff, decide_eq_true_iff]
  constructor
  · intro h
    apply bv_inj
    unfold bv
    rw [valB_int, valB_int, h]
  · rintro rfl; rfl
end Go.Proofs.Ytednmncapfclfaa

/-
  Layer 4: the document's disk as plain lists: what was flushed, what is loose, when the power goes.
-/
namespace Go.Proofs.Ytednmncapfclfaa
namespace Dk

/-- blocks, loose writes, how many writes and flushes are left, whether the power is gone -/
structure D where
  B : List ByteArray
  W : List (Nat × ByteArray)
  fuse : Int
  gone : Bool

abbrev blk (B : List ByteArray) (i : Nat) : ByteArray := B.getD i ByteArray.empty
/-- the first k loose writes, done -/
def overK (B : List ByteArray) (W : List (Nat × ByteArray)) : Nat → List ByteArray
  | 0 => B
  | k + 1 => (overK B W k).set (W.getD k (0, ByteArray.empty)).1 (W.getD k (0, ByteArray.empty)).2
def over (B : List ByteArray) (W : List (Nat × ByteArray)) : List ByteArray := overK B W W.length
/-- what a write's fate makes of a block -/
def falls (f : Int) (old s : ByteArray) : ByteArray :=
  if f = 1 then s else if f = 2 then s.extract 0 256 ++ old.extract 256 512 else if f = 3 then old.extract 0 256 ++ s.extract 256 512 else old
/-- the first k loose writes, done by their fates -/
def crashK (B : List ByteArray) (W : List (Nat × ByteArray)) (F : List Int) : Nat → List ByteArray
  | 0 => B
  | k + 1 => (crashK B W F k).set (W.getD k (0, ByteArray.empty)).1 (falls (F.getD k 0) (blk (crashK B W F k) (W.getD k (0, ByteArray.empty)).1) (W.getD k (0, ByteArray.empty)).2)
/-- the blocks of the first k loose writes of 'to' made like those of 'from' -/
def settleK (to fr : List ByteArray) (W : List (Nat × ByteArray)) : Nat → List ByteArray
  | 0 => to
  | k + 1 => (settleK to fr W k).set (W.getD k (0, ByteArray.empty)).1 (blk fr (W.getD k (0, ByteArray.empty)).1)

structure Ok (d : D) : Prop where
  pos : 1 ≤ d.B.length
  most : d.B.length ≤ 4096
  size : ∀ b ∈ d.B, b.size = 512
  loose : ∀ x ∈ d.W, x.1 < d.B.length ∧ x.2.size = 512
  low : -9223372036854775808 ≤ d.fuse
  high : d.fuse ≤ 9223372036854775807

/-- a block of zeros -/
def zeros : ByteArray := ⟨(List.replicate 512 (0 : UInt8)).toArray⟩
theorem zeros_size : zeros.size = 512 := by show (List.replicate 512 (0 : UInt8)).toArray.size = 512; rw [List.size_toArray, List.length_replicate]
def new (n : Nat) : D := ⟨List.replicate n zeros, [], -1, false⟩
def burn (f : Int) : Int := if f > 0 then f - 1 else f
/-- a write's error, and the disk behind it -/
def writeE (d : D) (i : Int) (s : ByteArray) : Int := if d.gone then 7 else if ¬ (0 ≤ i ∧ i < d.B.length) ∨ s.size ≠ 512 then 2 else if d.fuse = 0 then 7 else 0
def write (d : D) (i : Int) (s : ByteArray) : D := if d.gone then d else if ¬ (0 ≤ i ∧ i < d.B.length) ∨ s.size ≠ 512 then d else if d.fuse = 0 then { d with gone := true } else { d with W := d.W ++ [(i.toNat, s)], fuse := burn d.fuse }
def flushE (d : D) : Int := if d.gone then 7 else if d.fuse = 0 then 7 else 0
def flush (d : D) : D := if d.gone then d else if d.fuse = 0 then { d with gone := true } else { d with B := over d.B d.W, W := [], fuse := burn d.fuse }
def armE (d : D) : Int := if d.gone then 7 else 0
def arm (d : D) (n : Int) : D := if d.gone then d else { d with fuse := n }
def crash (d : D) (F : List Int) : D := ⟨crashK d.B d.W F d.W.length, [], -1, false⟩
def readE (d : D) (i : Int) : Int := if d.gone then 7 else if 0 ≤ i ∧ i < d.B.length then 0 else 2
def readS (d : D) (i : Int) : ByteArray := if d.gone then ByteArray.empty else if 0 ≤ i ∧ i < d.B.length then blk (over d.B d.W) i.toNat else ByteArray.empty

theorem overK_len (B : List ByteArray) (W : List (Nat × ByteArray)) (k : Nat) : (overK B W k).length = B.length := by
  induction k with
  | zero => rfl
  | succ k ih => rw [overK, List.length_set, ih]
theorem crashK_len (B : List ByteArray) (W : List (Nat × ByteArray)) (F : List Int) (k : Nat) : (crashK B W F k).length = B.length := by
  induction k with
  | zero => rfl
  | succ k ih => rw [crashK, List.length_set, ih]
theorem settleK_len (to fr : List ByteArray) (W : List (Nat × ByteArray)) (k : Nat) : (settleK to fr W k).length = to.length := by
  induction k with
  | zero => rfl
  | succ k ih => rw [settleK, List.length_set, ih]
theorem over_len (B : List ByteArray) (W : List (Nat × ByteArray)) : (over B W).length = B.length := overK_len _ _ _
theorem getD_mem {α : Type} (l : List α) (i : Nat) (d : α) (h : i < l.length) : l.getD i d ∈ l := by
  rw [List.getD_eq_getElem?_getD, List.getElem?_eq_getElem h]; exact List.getElem_mem h
theorem getD_get {α : Type} (l : List α) (i : Nat) (d : α) (h : i < l.length) : l.getD i d = l[i] := by
  rw [List.getD_eq_getElem?_getD, List.getElem?_eq_getElem h]; rfl
theorem all_set {B : List ByteArray} (h : ∀ b ∈ B, b.size = 512) (i : Nat) (x : ByteArray) (hx : x.size = 512) : ∀ b ∈ B.set i x, b.size = 512 := by
  intro b hb
  rcases List.mem_or_eq_of_mem_set hb with h1 | rfl
  · exact h b h1
  · exact hx
theorem blk_size {B : List ByteArray} (h : ∀ b ∈ B, b.size = 512) (i : Nat) (hi : i < B.length) : (blk B i).size = 512 := h _ (getD_mem B i _ hi)
theorem overK_ok {B : List ByteArray} {W : List (Nat × ByteArray)} (h : ∀ b ∈ B, b.size = 512) (hw : ∀ x ∈ W, x.1 < B.length ∧ x.2.size = 512) (k : Nat) (hk : k ≤ W.length) : ∀ b ∈ overK B W k, b.size = 512 := by
  induction k with
  | zero => exact h
  | succ k ih => rw [overK]; exact all_set (ih (by omega)) _ _ (hw _ (getD_mem W k _ (by omega))).2
theorem over_ok {B : List ByteArray} {W : List (Nat × ByteArray)} (h : ∀ b ∈ B, b.size = 512) (hw : ∀ x ∈ W, x.1 < B.length ∧ x.2.size = 512) : ∀ b ∈ over B W, b.size = 512 := overK_ok h hw _ (Nat.le_refl _)
theorem falls_size (f : Int) (old s : ByteArray) (h1 : old.size = 512) (h2 : s.size = 512) : (falls f old s).size = 512 := by
  unfold falls
  repeat' split
  · exact h2
  · rw [ByteArray.size_append, ByteArray.size_extract, ByteArray.size_extract]; omega
  · rw [ByteArray.size_append, ByteArray.size_extract, ByteArray.size_extract]; omega
  · exact h1
theorem crashK_ok {B : List ByteArray} {W : List (Nat × ByteArray)} (F : List Int) (h : ∀ b ∈ B, b.size = 512) (hw : ∀ x ∈ W, x.1 < B.length ∧ x.2.size = 512) (k : Nat) (hk : k ≤ W.length) : ∀ b ∈ crashK B W F k, b.size = 512 := by
  induction k with
  | zero => exact h
  | succ k ih =>
    have hm := hw _ (getD_mem W k (0, ByteArray.empty) (by omega))
    rw [crashK]
    exact all_set (ih (by omega)) _ _ (falls_size _ _ _ (blk_size (ih (by omega)) _ (by rw [crashK_len]; exact hm.1)) hm.2)
theorem getD_set (B : List ByteArray) (a i : Nat) (x : ByteArray) : blk (B.set a x) i = if i = a ∧ a < B.length then x else blk B i := by
  unfold blk
  rw [List.getD_eq_getElem?_getD, List.getD_eq_getElem?_getD, List.getElem?_set]
  by_cases h : a = i
  · subst h
    by_cases h2 : a < B.length
    · simp [h2]
    · simp [h2]
  · have h2 : ¬ i = a := fun e => h e.symm
    simp [h, h2]
/-- a block that no loose write is of is as it was -/
theorem overK_off (B : List ByteArray) (W : List (Nat × ByteArray)) (k i : Nat) (h : ∀ j, j < k → (W.getD j (0, ByteArray.empty)).1 ≠ i) : blk (overK B W k) i = blk B i := by
  induction k with
  | zero => rfl
  | succ k ih =>
    rw [overK, getD_set, if_neg (fun e => h k (by omega) e.1.symm)]
    exact ih fun j hj => h j (by omega)
theorem crashK_off (B : List ByteArray) (W : List (Nat × ByteArray)) (F : List Int) (k i : Nat) (h : ∀ j, j < k → (W.getD j (0, ByteArray.empty)).1 ≠ i) : blk (crashK B W F k) i = blk B i := by
  induction k with
  | zero => rfl
  | succ k ih =>
    rw [crashK, getD_set, if_neg (fun e => h k (by omega) e.1.symm)]
    exact ih fun j hj => h j (by omega)
/-- the last loose write of a block is what is read -/
theorem overK_last (B : List ByteArray) (W : List (Nat × ByteArray)) (k : Nat) (n : Nat) (hk : k < n) (hl : (W.getD k (0, ByteArray.empty)).1 < B.length) (h : ∀ j, k < j → j < n → (W.getD j (0, ByteArray.empty)).1 ≠ (W.getD k (0, ByteArray.empty)).1) :
    blk (overK B W n) (W.getD k (0, ByteArray.empty)).1 = (W.getD k (0, ByteArray.empty)).2 := by
  induction n with
  | zero => omega
  | succ n ih =>
    by_cases e : k = n
    · subst e
      rw [overK, getD_set, if_pos ⟨rfl, by rw [overK_len]; exact hl⟩]
    · rw [overK, getD_set, if_neg (fun e2 => h n (by omega) (by omega) e2.1.symm)]
      exact ih (by omega) fun j h1 h2 => h j h1 (by omega)
theorem overK_app (B : List ByteArray) (W V : List (Nat × ByteArray)) (k : Nat) (h : k ≤ W.length) : overK B (W ++ V) k = overK B W k := by
  induction k with
  | zero => rfl
  | succ k ih =>
    have e : (W ++ V).getD k (0, ByteArray.empty) = W.getD k (0, ByteArray.empty) := by
      rw [List.getD_eq_getElem?_getD, List.getD_eq_getElem?_getD, List.getElem?_append_left (by omega)]
    rw [overK, overK, ih (by omega), e]
theorem over_snoc (B : List ByteArray) (W : List (Nat × ByteArray)) (i : Nat) (s : ByteArray) : over B (W ++ [(i, s)]) = (over B W).set i s := by
  have e : (W ++ [(i, s)]).getD W.length (0, ByteArray.empty) = (i, s) := by
    rw [List.getD_eq_getElem?_getD, List.getElem?_append_right (Nat.le_refl _)]; simp
  unfold over
  rw [List.length_append, List.length_singleton, overK, e, overK_app _ _ _ _ (Nat.le_refl _)]
theorem blk_ext {A C : List ByteArray} (hl : A.length = C.length) (h : ∀ i, i < A.length → blk A i = blk C i) : A = C := by
  apply List.ext_getElem hl
  intro i h1 h2
  have := h i h1
  unfold blk at this
  rwa [getD_get _ _ _ h1, getD_get _ _ _ h2] at this
theorem settleK_at (to fr : List ByteArray) (W : List (Nat × ByteArray)) (k i : Nat) (hi : i < to.length) : blk (settleK to fr W k) i = if ∃ j, j < k ∧ (W.getD j (0, ByteArray.empty)).1 = i then blk fr i else blk to i := by
  induction k with
  | zero => simp [settleK]
  | succ k ih =>
    rw [settleK, getD_set, settleK_len]
    by_cases h : i = (W.getD k (0, ByteArray.empty)).1
    · rw [if_pos ⟨h, h ▸ hi⟩, if_pos ⟨k, by omega, h.symm⟩, ← h]
    · rw [if_neg (fun e => h e.1), ih]
      by_cases h2 : ∃ j, j < k ∧ (W.getD j (0, ByteArray.empty)).1 = i
      · rw [if_pos h2, if_pos]
        obtain ⟨j, h3, h4⟩ := h2
        exact ⟨j, by omega, h4⟩
      · rw [if_neg h2, if_neg]
        rintro ⟨j, h3, h4⟩
        by_cases e : j = k
        · subst e; exact h h4.symm
        · exact h2 ⟨j, by omega, h4⟩
theorem settle_all (to fr : List ByteArray) (W : List (Nat × ByteArray)) (n : Nat) (hl : to.length = fr.length) (h : ∀ i, (∀ j, j < n → (W.getD j (0, ByteArray.empty)).1 ≠ i) → blk to i = blk fr i) : settleK to fr W n = fr := by
  apply blk_ext (by rw [settleK_len, hl])
  intro i hi
  rw [settleK_len] at hi
  rw [settleK_at to fr W n i hi]
  by_cases h2 : ∃ j, j < n ∧ (W.getD j (0, ByteArray.empty)).1 = i
  · rw [if_pos h2]
  · rw [if_neg h2]
    exact h i fun j h3 h4 => h2 ⟨j, h3, h4⟩
theorem settle_flush (B : List ByteArray) (W : List (Nat × ByteArray)) : settleK B (over B W) W W.length = over B W :=
  settle_all _ _ _ _ (over_len _ _).symm fun i h => (overK_off B W W.length i h).symm
theorem settle_crash (B : List ByteArray) (W : List (Nat × ByteArray)) (F : List Int) : settleK (over B W) (crashK B W F W.length) W W.length = crashK B W F W.length :=
  settle_all _ _ _ _ (by rw [over_len, crashK_len]) fun i h => (overK_off B W W.length i h).trans (crashK_off B W F W.length i h).symm
/-- where the blocks are alike already nothing is to be done -/
theorem settleK_same (to fr : List ByteArray) (W : List (Nat × ByteArray)) (k : Nat) (h : blk (settleK to fr W k) (W.getD k (0, ByteArray.empty)).1 = blk fr (W.getD k (0, ByteArray.empty)).1) : settleK to fr W (k + 1) = settleK to fr W k := by
  rw [settleK, ← h]
  apply blk_ext (by rw [List.length_set])
  intro i hi
  rw [getD_set]
  split
  · rename_i h2; rw [h2.1]
  · rfl

theorem new_ok (n : Nat) (h1 : 1 ≤ n) (h2 : n ≤ 4096) : Ok (new n) :=
  ⟨by show 1 ≤ (List.replicate n zeros).length; rw [List.length_replicate]; exact h1, by show (List.replicate n zeros).length ≤ 4096; rw [List.length_replicate]; exact h2,
    fun b hb => by rw [(List.mem_replicate.1 hb).2]; exact zeros_size, (fun x hx => by cases hx), by show (-9223372036854775808 : Int) ≤ -1; omega, by show (-1 : Int) ≤ 9223372036854775807; omega⟩
theorem burn_low {f : Int} (h : -9223372036854775808 ≤ f) : -9223372036854775808 ≤ burn f := by unfold burn; split <;> omega
theorem burn_high {f : Int} (h : f ≤ 9223372036854775807) : burn f ≤ 9223372036854775807 := by unfold burn; split <;> omega
/-- what a write or a flush takes -/
def spent (d : D) : D := if d.fuse = 0 then { d with gone := true } else { d with fuse := burn d.fuse }
def spendE (d : D) : Int := if d.fuse = 0 then 7 else 0
theorem spent_ok {d : D} (h : Ok d) : Ok (spent d) := by
  unfold spent
  split
  · exact ⟨h.pos, h.most, h.size, h.loose, h.low, h.high⟩
  · exact ⟨h.pos, h.most, h.size, h.loose, burn_low h.low, burn_high h.high⟩
theorem write_ok {d : D} (h : Ok d) (i : Int) (s : ByteArray) : Ok (write d i s) := by
  unfold write
  split
  · exact h
  · split
    · exact h
    · rename_i h2
      split
      · exact ⟨h.pos, h.most, h.size, h.loose, h.low, h.high⟩
      · refine ⟨h.pos, h.most, h.size, fun x hx => ?_, burn_low h.low, burn_high h.high⟩
        rcases List.mem_append.1 hx with hx | hx
        · exact h.loose x hx
        · rw [List.mem_singleton] at hx; subst hx
          have h3 : (0 ≤ i ∧ i < d.B.length) ∧ s.size = 512 := by
            refine ⟨Classical.byContradiction fun hn => h2 (.inl hn), Classical.byContradiction fun hn => h2 (.inr hn)⟩
          exact ⟨by show i.toNat < d.B.length; omega, h3.2⟩
theorem flush_ok {d : D} (h : Ok d) : Ok (flush d) := by
  unfold flush
  split
  · exact h
  · split
    · exact ⟨h.pos, h.most, h.size, h.loose, h.low, h.high⟩
    · exact ⟨by rw [over_len]; exact h.pos, by rw [over_len]; exact h.most, over_ok h.size h.loose, (fun x hx => by cases hx), burn_low h.low, burn_high h.high⟩
theorem arm_ok {d : D} (h : Ok d) (n : Int) (h1 : -9223372036854775808 ≤ n) (h2 : n ≤ 9223372036854775807) : Ok (arm d n) := by
  unfold arm
  split
  · exact h
  · exact ⟨h.pos, h.most, h.size, h.loose, h1, h2⟩
theorem crash_ok {d : D} (h : Ok d) (F : List Int) : Ok (crash d F) :=
  ⟨by show 1 ≤ (crashK _ _ _ _).length; rw [crashK_len]; exact h.pos, by show (crashK _ _ _ _).length ≤ 4096; rw [crashK_len]; exact h.most, crashK_ok F h.size h.loose _ (Nat.le_refl _), (fun x hx => by cases hx), by show (-9223372036854775808 : Int) ≤ -1; omega, by show (-1 : Int) ≤ 9223372036854775807; omega⟩
end Dk
end Go.Proofs.Ytednmncapfclfaa

/-
  Layer 4: the program's disk in memory, and what its small calls do.
-/
namespace Go.Proofs.Ytednmncapfclfaa
open Go.RowKit

/-- a loose write's cells -/
def wv (x : Nat × ByteArray) : List Value := .int .i64 (x.1 : Int) :: bv x.2
/-- a disk's own cells -/
def HeadAt (w : World) (p gn gk cn ck : Nat) (la : Option Addr) (cap : Nat) (d : Dk.D) : Prop :=
  RowV w p 70 [.slice (some ⟨gn, 0, none⟩) d.B.length cn, .slice (some ⟨gk, 0, none⟩) d.B.length ck, .slice la d.W.length cap, .int .i64 d.fuse, .bool d.gone]
/-- a loose list in memory: what lies behind its length is the disk's own, where there is room -/
def LooseAt (w : World) (S : Nat → Prop) (p gn gk : Nat) (la : Option Addr) (cap : Nat) (W : List (Nat × ByteArray)) : Prop :=
  (la = none ∧ cap = 0 ∧ W = []) ∨ ∃ g r, la = some ⟨g, 0, none⟩ ∧ RowV w g 90 (W.flatMap wv ++ r) ∧ W.length ≤ cap ∧ cap ≤ maxLen ∧ g ≠ p ∧ g ≠ gn ∧ g ≠ gk ∧ (W.length < cap → S g ∧ W.length * 513 + r.length = cap * 513)
/-- a slice of blocks in memory -/
def BlocksAt (w : World) (g c : Nat) (B : List ByteArray) : Prop := ∃ r, RowV w g 88 (B.flatMap bv ++ r) ∧ B.length ≤ c ∧ c ≤ maxLen
/-- the program's disk at block p, told by its blocks' numbers -/
structure DiskIn (w : World) (S : Nat → Prop) (p gn gk cn ck : Nat) (la : Option Addr) (cap : Nat) (d : Dk.D) : Prop where
  ok : Dk.Ok d
  head : HeadAt w p gn gk cn ck la cap d
  now : BlocksAt w gn cn (Dk.over d.B d.W)
  kept : BlocksAt w gk ck d.B
  loose : LooseAt w S p gn gk la cap d.W
  pn : gn ≠ p
  pk : gk ≠ p
  nk : gk ≠ gn
  sp : S p
  sn : S gn
  sk : S gk
def DiskAt (w : World) (S : Nat → Prop) (p : Nat) (d : Dk.D) : Prop := ∃ gn gk cn ck la cap, DiskIn w S p gn gk cn ck la cap d

/-- a disk behind a call: its loose list lies where it lay, or in what is its own -/
def DiskNext (w : World) (S : Nat → Prop) (p : Nat) (d : Dk.D) (la : Option Addr) : Prop := ∃ gn gk cn ck la' cap, DiskIn w S p gn gk cn ck la' cap d ∧ (la' = none ∨ la' = la ∨ ∃ g, la' = some ⟨g, 0, none⟩ ∧ S g)
/-- a disk whose loose list, too, lies in L -/
def DiskAtL (w : World) (S L : Nat → Prop) (p : Nat) (d : Dk.D) : Prop := ∃ gn gk cn ck la cap, DiskIn w S p gn gk cn ck la cap d ∧ ∀ a, la = some a → L a.block
theorem looseAt_lt {w : World} {S : Nat → Prop} {p gn gk cap : Nat} {la : Option Addr} {W : List (Nat × ByteArray)} (h : LooseAt w S p gn gk la cap W) : ∀ a, la = some a → a.block < w.heap.size := by
  rintro a rfl
  rcases h with ⟨h1, _⟩ | ⟨g, r, h1, h2, _⟩
  · cases h1
  · cases h1; exact rowV_lt h2
/-- what happens elsewhere does not touch a disk -/
theorem looseAt_only {F S : Nat → Prop} {w w' : World} {p gn gk cap : Nat} {la : Option Addr} {W : List (Nat × ByteArray)} (h : LooseAt w S p gn gk la cap W) (ho : Only F w w') (hn : ∀ a, la = some a → ¬ F a.block) : LooseAt w' S p gn gk la cap W := by
  rcases h with h | ⟨g, r, h1, h2, h3⟩
  · exact .inl h
  · exact .inr ⟨g, r, h1, rowV_only h2 ho (hn _ h1), h3⟩
theorem looseAt_mono {S S' : Nat → Prop} {w : World} {p gn gk cap : Nat} {la : Option Addr} {W : List (Nat × ByteArray)} (h : LooseAt w S p gn gk la cap W) (hs : ∀ k, k < w.heap.size → S k → S' k) : LooseAt w S' p gn gk la cap W := by
  rcases h with h | ⟨g, r, h1, h2, h3, h4, h5, h6, h7, h8⟩
  · exact .inl h
  · exact .inr ⟨g, r, h1, h2, h3, h4, h5, h6, h7, fun hc => ⟨hs _ (rowV_lt h2) (h8 hc).1, (h8 hc).2⟩⟩
theorem blocksAt_only {F : Nat → Prop} {w w' : World} {g c : Nat} {B : List ByteArray} (h : BlocksAt w g c B) (ho : Only F w w') (hn : ¬ F g) : BlocksAt w' g c B := by
  obtain ⟨r, h1, h2⟩ := h
  exact ⟨r, rowV_only h1 ho hn, h2⟩
theorem diskIn_only {F S : Nat → Prop} {w w' : World} {p gn gk cn ck cap : Nat} {la : Option Addr} {d : Dk.D} (h : DiskIn w S p gn gk cn ck la cap d) (ho : Only F w w') (h1 : ¬ F p) (h2 : ¬ F gn) (h3 : ¬ F gk) (h4 : ∀ a, la = some a → ¬ F a.block) : DiskIn w' S p gn gk cn ck la cap d :=
  ⟨h.ok, rowV_only h.head ho h1, blocksAt_only h.now ho h2, blocksAt_only h.kept ho h3, looseAt_only h.loose ho h4, h.pn, h.pk, h.nk, h.sp, h.sn, h.sk⟩
theorem diskIn_below {S : Nat → Prop} {w w' : World} {p gn gk cn ck cap : Nat} {la : Option Addr} {d : Dk.D} (h : DiskIn w S p gn gk cn ck la cap d) (hb : Below w.heap.size w w') : DiskIn w' S p gn gk cn ck la cap d := by
  obtain ⟨r1, h1, _⟩ := h.now
  obtain ⟨r2, h2, _⟩ := h.kept
  have l0 := rowV_lt h.head
  have l1 := rowV_lt h1
  have l2 := rowV_lt h2
  exact diskIn_only h (Only.of_below hb) (by omega) (by omega) (by omega) fun a ha => by have := looseAt_lt h.loose a ha; omega
theorem diskIn_mono {S S' : Nat → Prop} {w : World} {p gn gk cn ck cap : Nat} {la : Option Addr} {d : Dk.D} (h : DiskIn w S p gn gk cn ck la cap d) (hs : ∀ k, k < w.heap.size → S k → S' k) : DiskIn w S' p gn gk cn ck la cap d := by
  obtain ⟨r1, h1, _⟩ := h.now
  obtain ⟨r2, h2, _⟩ := h.kept
  exact ⟨h.ok, h.head, h.now, h.kept, looseAt_mono h.loose hs, h.pn, h.pk, h.nk, hs _ (rowV_lt h.head) h.sp, hs _ (rowV_lt h1) h.sn, hs _ (rowV_lt h2) h.sk⟩

section
variable {w : World} {p gn gk cn ck cap : Nat} {la : Option Addr} {d : Dk.D}
theorem head_now (h : HeadAt w p gn gk cn ck la cap d) : w.cell? ⟨p, 0, none⟩ = some (.slice (some ⟨gn, 0, none⟩) d.B.length cn) := rowV_cell h 0
theorem head_kept (h : HeadAt w p gn gk cn ck la cap d) : w.cell? ⟨p, 1, none⟩ = some (.slice (some ⟨gk, 0, none⟩) d.B.length ck) := rowV_cell h 1
theorem head_loose (h : HeadAt w p gn gk cn ck la cap d) : w.cell? ⟨p, 2, none⟩ = some (.slice la d.W.length cap) := rowV_cell h 2
theorem head_left (h : HeadAt w p gn gk cn ck la cap d) : w.cell? ⟨p, 3, none⟩ = some (.int .i64 d.fuse) := rowV_cell h 3
theorem head_gone (h : HeadAt w p gn gk cn ck la cap d) : w.cell? ⟨p, 4, none⟩ = some (.bool d.gone) := rowV_cell h 4

set_option maxRecDepth 100000 in
theorem none_any (h : HeadAt w p gn gk cn ck la cap d) (hd : Dk.Ok d) : Calls Try.prog 46 #[.pointer (some ⟨p, 0, none⟩)] w fun e w' => e = .returned (.bool false) ∧ w' = w := by
  have c0 := head_now h
  have h0 : ((d.B.length : Int) == 0) = false := by rw [beq_eq_false_iff_ne]; have := hd.pos; omega
  have HH := Lib.hid h; clear h
  go_enter Try.func46, Try.ntmps46
  go_wp2_with fail
  go_ret
  exact ⟨rfl, rfl⟩
set_option maxRecDepth 100000 in
theorem asked_any (h : HeadAt w p gn gk cn ck la cap d) (hd : Dk.Ok d) : Calls Try.prog 43 #[.pointer (some ⟨p, 0, none⟩)] w fun e w' => e = .returned (.int .i64 (if d.gone then 7 else 0)) ∧ w' = w := by
  have c4 := head_gone h
  have cn := none_any h hd
  have HH := Lib.hid (And.intro h cn); clear h cn
  cases hg : d.gone with
  | true =>
    rw [hg] at c4
    go_enter Try.func43, Try.ntmps43
    go_wp2_with fail
    refine HH.out.2.mono ?_
    rintro e _ ⟨rfl, rfl⟩
    go_wp2_with fail
    go_ret
    exact ⟨rfl, rfl⟩
  | false =>
    rw [hg] at c4
    go_enter Try.func43, Try.ntmps43
    go_wp2_with fail
    refine HH.out.2.mono ?_
    rintro e _ ⟨rfl, rfl⟩
    go_wp2_with fail
    go_ret
    exact ⟨rfl, rfl⟩
set_option maxRecDepth 100000 in
theorem has_any (h : HeadAt w p gn gk cn ck la cap d) (i : Int) : Calls Try.prog 48 #[.pointer (some ⟨p, 0, none⟩), .int .i64 i] w fun e w' => e = .returned (.bool (decide (0 ≤ i ∧ i < d.B.length))) ∧ w' = w := by
  have c0 := head_now h
  have HH := Lib.hid h; clear h
  by_cases h1 : 0 ≤ i
  · by_cases h2 : i < d.B.length
    · go_enter Try.func48, Try.ntmps48
      go_wp2_with fail
      go_ret
      exact ⟨ret_bool (by simp [h1, h2]), rfl⟩
    · go_enter Try.func48, Try.ntmps48
      go_wp2_with fail
      go_ret
      exact ⟨ret_bool (by simp [h2]), rfl⟩
  · go_enter Try.func48, Try.ntmps48
    go_wp2_with fail
    go_ret
    exact ⟨ret_bool (by simp; omega), rfl⟩
set_option maxRecDepth 100000 in
theorem spend_any (h : HeadAt w p gn gk cn ck la cap d) (hd : Dk.Ok d) : Calls Try.prog 44 #[.pointer (some ⟨p, 0, none⟩)] w fun e w' => e = .returned (.int .i64 (Dk.spendE d)) ∧ HeadAt w' p gn gk cn ck la cap (Dk.spent d) ∧ Only (fun k => k = p) w w' := by
  have c3 := head_left h
  have f3 := rowV_frozen h 3
  have c4 := head_gone h
  have f4 := rowV_frozen h 4
  have hh := hd.high
  by_cases h0 : d.fuse = 0
  · have hst := rowV_stored h 4 (.bool true)
    have ho := (Only.refl (fun k => k = p) w).setCell (g := p) (i := 4) (fun _ => rfl) (.bool true)
    have e1 : Dk.spent d = { d with gone := true } := by unfold Dk.spent; rw [if_pos h0]
    have e2 : Dk.spendE d = 7 := by unfold Dk.spendE; rw [if_pos h0]
    rw [h0] at c3
    have HH := Lib.hid (And.intro hst (And.intro ho (And.intro e1 (And.intro e2 h0)))); clear h hst ho e1 e2 h0 hd hh
    go_enter Try.func44, Try.ntmps44
    go_wp2_with fail
    go_ret
    exact ⟨by rw [HH.out.2.2.2.1]; rfl, by rw [HH.out.2.2.1]; exact HH.out.1, HH.out.2.1⟩
  · have t0 : (d.fuse == 0) = false := by rw [beq_eq_false_iff_ne]; exact h0
    have e2 : Dk.spendE d = 0 := by unfold Dk.spendE; rw [if_neg h0]
    by_cases h1 : 0 < d.fuse
    · have hst := rowV_stored h 3 (.int .i64 (d.fuse - 1))
      have ho := (Only.refl (fun k => k = p) w).setCell (g := p) (i := 3) (fun _ => rfl) (.int .i64 (d.fuse - 1))
      have e1 : Dk.spent d = { d with fuse := d.fuse - 1 } := by unfold Dk.spent Dk.burn; rw [if_neg h0, if_pos h1]
      have HH := Lib.hid (And.intro hst (And.intro ho (And.intro e1 (And.intro e2 h0)))); clear h hst ho e1 e2 h0 hd
      go_enter Try.func44, Try.ntmps44
      go_wp2_with fail
      go_ret
      exact ⟨by rw [HH.out.2.2.2.1]; rfl, by rw [HH.out.2.2.1]; exact HH.out.1, HH.out.2.1⟩
    · have e1 : Dk.spent d = { d with fuse := d.fuse } := by unfold Dk.spent Dk.burn; rw [if_neg h0, if_neg h1]
      have HH := Lib.hid (And.intro h (And.intro e1 (And.intro e2 h0))); clear h e1 e2 h0 hd
      go_enter Try.func44, Try.ntmps44
      go_wp2_with fail
      go_ret
      exact ⟨by rw [HH.out.2.2.1]; rfl, by rw [HH.out.2.1]; exact HH.out.1, Only.refl _ _⟩
set_option maxRecDepth 100000 in
theorem len_any (h : HeadAt w p gn gk cn ck la cap d) (hd : Dk.Ok d) : Calls Try.prog 54 #[.pointer (some ⟨p, 0, none⟩)] w fun e w' => e = .returned (.int .i64 (d.B.length : Int)) ∧ w' = w := by
  have c0 := head_now h
  have cn := none_any h hd
  have HH := Lib.hid (And.intro h cn); clear h cn
  go_enter Try.func54, Try.ntmps54
  go_wp2_with fail
  refine HH.out.2.mono ?_
  rintro e _ ⟨rfl, rfl⟩
  go_wp2_with fail
  go_ret
  exact ⟨rfl, rfl⟩
set_option maxRecDepth 100000 in
theorem arm_any (h : HeadAt w p gn gk cn ck la cap d) (hd : Dk.Ok d) (n : Int) : Calls Try.prog 27 #[.pointer (some ⟨p, 0, none⟩), .int .i64 n] w fun e w' => e = .returned (.int .i64 (Dk.armE d)) ∧ HeadAt w' p gn gk cn ck la cap (Dk.arm d n) ∧ Only (fun k => k = p) w w' := by
  have c3 := head_left h
  have f3 := rowV_frozen h 3
  have ca := asked_any h hd
  have hst := rowV_stored h 3 (.int .i64 n)
  have ho := (Only.refl (fun k => k = p) w).setCell (g := p) (i := 3) (fun _ => rfl) (.int .i64 n)
  have HH := Lib.hid (And.intro h (And.intro ca (And.intro hst ho))); clear h ca hst ho hd
  cases hg : d.gone with
  | true =>
    have e1 : Dk.arm d n = d := by unfold Dk.arm; rw [if_pos hg]
    have e2 : Dk.armE d = 7 := by unfold Dk.armE; rw [if_pos hg]
    have ca := HH.out.2.1
    rw [hg] at ca
    have HE := Lib.hid (And.intro e1 (And.intro e2 ca)); clear e1 e2 ca hg
    go_enter Try.func27, Try.ntmps27
    go_wp2_with fail
    refine HE.out.2.2.mono ?_
    rintro e _ ⟨rfl, rfl⟩
    go_wp2_with fail
    go_ret
    exact ⟨by rw [HE.out.2.1]; rfl, by rw [HE.out.1]; exact HH.out.1, Only.refl _ _⟩
  | false =>
    have e1 : Dk.arm d n = { d with fuse := n } := by unfold Dk.arm; rw [if_neg (by rw [hg]; simp)]
    have e2 : Dk.armE d = 0 := by unfold Dk.armE; rw [if_neg (by rw [hg]; simp)]
    have ca := HH.out.2.1
    rw [hg] at ca
    have HE := Lib.hid (And.intro e1 (And.intro e2 ca)); clear e1 e2 ca hg
    go_enter Try.func27, Try.ntmps27
    go_wp2_with fail
    refine HE.out.2.2.mono ?_
    rintro e _ ⟨rfl, rfl⟩
    go_wp2_with fail
    go_ret
    exact ⟨by rw [HE.out.2.1]; rfl, by rw [HE.out.1]; exact HH.out.2.2.1, HH.out.2.2.2⟩
end
end Go.Proofs.Ytednmncapfclfaa

/-
  Layer 4: what settle does: blocks that a loose write is of made like others, and nothing loose any more.
-/
namespace Go.Proofs.Ytednmncapfclfaa
open Go.RowKit

/-- a load of an array or a struct, in a region that only reads -/
theorem wpQuiet_load_mid {P : Program} {ops : Array Oper} {w : World} {Q : Act → Prop} {op : Oper} {rest : List Oper} {a : Act} (hgd : op.guard = none) (ty : TypeId) (x : Operand) (ho : op.op = .load ty x)
    (b o : Nat) (hx : a.eval x = .pointer (some ⟨b, o, none⟩)) (cs : List Value) (d : TypeDesc) (hc : w.rangeAt b o cs) (hu : P.underlying ty = some d) (hd : d.isRow = true) (hi : (P.info? ty).map (·.size) = some cs.length)
    (h : wpQuiet P ops (fun w' => ∃ n, w' = w.drewN n) Q rest (a.put op.dst (.agg cs.toArray))) : wpQuiet P ops (fun w' => ∃ n, w' = w.drewN n) Q (op :: rest) a := by
  refine wpQuiet_step fun K hK => ?_
  have hw : Region.wanted op (yielded ops a.tmps) = true := by simp [Region.wanted, hgd]
  rw [if_pos hw]
  refine ⟨.agg cs.toArray, ?_, hK _ h⟩
  rintro w' ⟨n, rfl⟩
  unfold Oper.quietAt execOp
  have hc2 : (w.drewN n).rangeAt b o cs := hc
  simp only [ho, hx, Instr.loadAt, Instr.sureAddr, Sem.run_bind, Sem.run_pure, Result.andThen_ok, run_loadVar_mid (w.drewN n) b o ty cs d hc2 hu hd hi]
  exact ⟨rfl, rfl⟩
theorem setCells_drewN (g : Nat) (vs : List Value) (n : Nat) : ∀ (o : Nat) (w : World), (w.drewN n).setCells g o vs = (w.setCells g o vs).drewN n := by
  induction vs with
  | nil => intro o w; rfl
  | cons v r ih =>
    intro o w
    rw [World.setCells, World.setCells, ← ih]
    rfl
theorem block_under : Try.prog.underlying 88 = some (.array 512 5) := Try.underlying88
theorem block_size (b : ByteArray) (h : b.size = 512) : (Try.prog.info? 88).map (·.size) = some (bv b).length := by
  rw [bv_len, h]
  obtain ⟨i, hi, hi2⟩ := Option.map_eq_some_iff.1 info_block
  simp only [Prod.mk.injEq] at hi2
  rw [hi, Option.map_some, hi2.2.1]
theorem guard_block (w : World) (x y : Operand) (X Y : Array Value) : (eqGuard .neq 88 x y (.agg X) (.agg Y)).run Try.prog w = .ok () w := by
  have h : Try.prog.eqGuardType Try.prog.depth 88 = false := by kernel_rfl
  simp [eqGuard, h]
theorem wv_len (x : Nat × ByteArray) (h : x.2.size = 512) : (wv x).length = 513 := by unfold wv; rw [List.length_cons, bv_len, h]
theorem neq_block (w : World) (a b : ByteArray) (ha : a.size = 512) (hb : b.size = 512) : (binOp .neq 88 (.agg (bv a).toArray) (.agg (bv b).toArray)).run Try.prog w = .ok (.bool (!decide (a = b))) w := by
  simp only [binOp, Sem.run_bind, run_equal_bv w a b ha hb, Result.andThen_ok, Sem.run_pure]
/-- block i of a row of blocks -/
theorem blocks_range {w : World} {g c : Nat} {B : List ByteArray} (h : BlocksAt w g c B) (hs : ∀ b ∈ B, b.size = 512) (i : Nat) (hi : i < B.length) : w.rangeAt g (i * 512) (bv (Dk.blk B i)) := by
  obtain ⟨r, h1, _⟩ := h
  have hk : ∀ b ∈ B, (bv b).length = 512 := fun b hb => by rw [bv_len]; exact hs b hb
  refine rowV_range h1 _ _ fun j hj => ?_
  rw [bv_len, Dk.blk_size hs i hi] at hj
  rw [List.getElem?_append_left (by
    rw [flat_len bv 512 B hk]
    have := Nat.mul_le_mul_right 512 (show i + 1 ≤ B.length from hi)
    omega), flat_at bv 512 B hk i hi j hj, ← Dk.getD_get B i ByteArray.empty hi]
theorem blocks_there {w : World} {g c : Nat} {B : List ByteArray} (h : BlocksAt w g c B) (hs : ∀ b ∈ B, b.size = 512) (i : Nat) (hi : i < B.length) : w.there g (i * 512) 512 := by
  obtain ⟨r, h1, _⟩ := h
  have hk : ∀ b ∈ B, (bv b).length = 512 := fun b hb => by rw [bv_len]; exact hs b hb
  refine rowV_there h1 _ _ ?_
  rw [List.length_append, flat_len bv 512 B hk]
  have := Nat.mul_le_mul_right 512 (show i + 1 ≤ B.length from hi)
  omega
theorem blocks_set {w : World} {g c : Nat} {B : List ByteArray} (h : BlocksAt w g c B) (hs : ∀ b ∈ B, b.size = 512) (i : Nat) (hi : i < B.length) (x : ByteArray) (hx : x.size = 512) : BlocksAt (w.setCells g (i * 512) (bv x)) g c (B.set i x) := by
  obtain ⟨r, h1, h2, h3⟩ := h
  have hk : ∀ b ∈ B, (bv b).length = 512 := fun b hb => by rw [bv_len]; exact hs b hb
  have hle := Nat.mul_le_mul_right 512 (show i + 1 ≤ B.length from hi)
  have hl : (B.flatMap bv ++ r).length = B.length * 512 + r.length := by rw [List.length_append, flat_len bv 512 B hk]
  have h4 := rowV_setCells (bv x) (i * 512) h1 (by rw [bv_len, hx, hl]; omega)
  rw [bv_len, hx, flat_set bv 512 B hk i hi x r] at h4
  exact ⟨r, h4, by rw [List.length_set]; exact h2, h3⟩
theorem blocksAt_cells {w : World} {g c g' : Nat} {B : List ByteArray} (h : BlocksAt w g c B) (hg : g ≠ g') (o : Nat) (vs : List Value) : BlocksAt (w.setCells g' o vs) g c B := by
  obtain ⟨r, h1, h2⟩ := h
  exact ⟨r, rowV_cellsFar h1 hg o vs, h2⟩
/-- loose write k's block number and bytes -/
theorem loose_at {w : World} {g : Nat} {W : List (Nat × ByteArray)} {r : List Value} (h : RowV w g 90 (W.flatMap wv ++ r)) (hs : ∀ x ∈ W, x.2.size = 512) (k : Nat) (hk : k < W.length) :
    w.cell? ⟨g, k * 513, none⟩ = some (.int .i64 ((W.getD k (0, ByteArray.empty)).1 : Int)) ∧ w.rangeAt g (k * 513 + 1) (bv (W.getD k (0, ByteArray.empty)).2) := by
  have hl : ∀ x ∈ W, (wv x).length = 513 := fun x hx => wv_len x (hs x hx)
  have hlen := flat_len wv 513 W hl
  have hle := Nat.mul_le_mul_right 513 (show k + 1 ≤ W.length from hk)
  have e := Dk.getD_get W k (0, ByteArray.empty) hk
  have hz : (W.getD k (0, ByteArray.empty)).2.size = 512 := hs _ (Dk.getD_mem W k _ hk)
  constructor
  · have h0 := flat_at wv 513 W hl k hk 0 (by omega)
    rw [rowV_cell h, List.getElem?_append_left (by rw [hlen]; omega)]
    rw [Nat.add_zero] at h0
    rw [h0, ← e]; rfl
  · refine rowV_range h _ _ fun j hj => ?_
    rw [bv_len, hz] at hj
    have h0 := flat_at wv 513 W hl k hk (1 + j) (by omega)
    rw [List.getElem?_append_left (by rw [hlen]; omega), show k * 513 + 1 + j = k * 513 + (1 + j) by omega, h0, ← e]
    show (_ :: bv _)[1 + j]? = _
    rw [Nat.add_comm, List.getElem?_cons_succ]

set_option maxRecDepth 100000 in
set_option maxHeartbeats 1600000 in
theorem settle_any {w : World} {S : Nat → Prop} {p gn gk cn ck cap : Nat} {la : Option Addr} {d : Dk.D} (gt ct gf cf : Nat) (T F : List ByteArray)
    (hd : Dk.Ok d) (hh : HeadAt w p gn gk cn ck la cap d) (hl : LooseAt w S p gn gk la cap d.W) (hT : BlocksAt w gt ct T) (hF : BlocksAt w gf cf F) (zT : ∀ b ∈ T, b.size = 512) (zF : ∀ b ∈ F, b.size = 512)
    (lT : T.length = d.B.length) (lF : F.length = d.B.length) (n1 : gt ≠ p) (n2 : gt ≠ gf) (n3 : gf ≠ p) (n4 : ∀ a, la = some a → a.block ≠ gt) :
    Calls Try.prog 45 #[.pointer (some ⟨p, 0, none⟩), .slice (some ⟨gt, 0, none⟩) d.B.length ct, .slice (some ⟨gf, 0, none⟩) d.B.length cf] w fun e w' => e = .returned (.tuple #[]) ∧
      HeadAt w' p gn gk cn ck none 0 { d with W := [] } ∧ BlocksAt w' gt ct (Dk.settleK T F d.W d.W.length) ∧ Only (fun k => k = p ∨ k = gt) w w' := by
  have c2 := head_loose hh
  have hmost := hd.most
  have HH := Lib.hid (And.intro hd (And.intro hh (And.intro hl (And.intro hT (And.intro hF (And.intro zT (And.intro zF (And.intro lT (And.intro lF (And.intro n1 (And.intro n2 (And.intro n3 n4))))))))))))
  clear hd hh hl hT hF zT zF lT lF n1 n2 n3 n4
  go_enter Try.func45, Try.ntmps45
  go_wp2_with fail
  go_loopw [6, 7, 13] (fun _ _ i wr => ∃ k : Nat, k ≤ d.W.length ∧ i = .int .i64 (k : Int) ∧ Hid (BlocksAt wr gt ct (Dk.settleK T F d.W k)) ∧ Hid (Only (fun k => k = gt) w wr))
    (fun _ _ i _ => d.W.length - (intOf i).toNat)
  case atStart => exact ⟨0, by omega, rfl, Lib.hid HH.out.2.2.2.1, Lib.hid (Only.refl _ _)⟩
  case round =>
    obtain ⟨k, hk, rfl, HR, HO⟩ := hrel
    by_cases hlt : k < d.W.length
    · obtain ⟨hd, hh, hl, hT, hF, zT, zF, lT, lF, n1, n2, n3, n4⟩ := HH.out
      obtain ⟨g, r, rfl, hg, hcap, hmax, g1, g2, g3, hown⟩ : ∃ g r, la = some ⟨g, 0, none⟩ ∧ RowV w g 90 (d.W.flatMap wv ++ r) ∧ d.W.length ≤ cap ∧ cap ≤ maxLen ∧ g ≠ p ∧ g ≠ gn ∧ g ≠ gk ∧ (d.W.length < cap → S g ∧ d.W.length * 513 + r.length = cap * 513) := by
        rcases hl with ⟨_, _, h⟩ | h
        · rw [h] at hlt; simp at hlt
        · exact h
      have hgt : g ≠ gt := n4 _ rfl
      have hm := hd.loose _ (Dk.getD_mem d.W k (0, ByteArray.empty) hlt)
      have hr2 := rowV_only hg HO.out (fun e => hgt e)
      have hh2 : HeadAt wr p gn gk cn ck (some ⟨g, 0, none⟩) cap d := rowV_only hh HO.out (fun e => n1 e.symm)
      have cl := head_loose hh2
      have ca := (loose_at hr2 (fun x hx => (hd.loose x hx).2) k hlt).1
      have zK : ∀ b ∈ Dk.settleK T F d.W k, b.size = 512 := by
        intro b hb
        have : ∀ m, m ≤ d.W.length → ∀ b ∈ Dk.settleK T F d.W m, b.size = 512 := by
          intro m
          induction m with
          | zero => intro _; exact zT
          | succ m ih => intro hm2; exact Dk.all_set (ih (by omega)) _ _ (Dk.blk_size zF _ (by rw [lF]; exact (hd.loose _ (Dk.getD_mem d.W m _ (by omega))).1))
        exact this k hk b hb
      have hat : (d.W.getD k (0, ByteArray.empty)).1 < (Dk.settleK T F d.W k).length := by rw [Dk.settleK_len, lT]; exact hm.1
      have r1 := blocks_range HR.out zK _ hat
      have t1 := blocks_there HR.out zK _ hat
      have hF2 : BlocksAt wr gf cf F := blocksAt_only hF HO.out (fun e => n2 e.symm)
      have haf : (d.W.getD k (0, ByteArray.empty)).1 < F.length := by rw [lF]; exact hm.1
      have r2 := blocks_range hF2 zF _ haf
      have s1 := Dk.blk_size zK _ hat
      have s2 := Dk.blk_size zF _ haf
      have hset := blocks_set HR.out zK _ hat _ s2
      have hsame := Dk.settleK_same T F d.W k
      have hsucc : (Dk.settleK T F d.W k).set (d.W.getD k (0, ByteArray.empty)).1 (Dk.blk F (d.W.getD k (0, ByteArray.empty)).1) = Dk.settleK T F d.W (k + 1) := rfl
      rw [hsucc] at hset
      have honly := HO.out.setCells (g := gt) (fun _ => rfl) ((d.W.getD k (0, ByteArray.empty)).1 * 512) (bv (Dk.blk F (d.W.getD k (0, ByteArray.empty)).1))
      have hmB := hm.1
      have hWm : d.W.length ≤ maxLen := Nat.le_trans hcap hmax
      unfold maxLen at hWm
      clear hsucc hF2 haf hat zK hh2 hr2 hm hown g1 g2 g3 hgt hg hh hl hT hF zT zF lT lF n1 n2 n3 n4 hd hcap hmax
      obtain ⟨TK2, hTK2⟩ : ∃ A, Dk.settleK T F d.W (k + 1) = A := ⟨_, rfl⟩
      have hTK := Lib.hid hTK2
      rw [hTK2] at hset hsame
      clear hTK2
      have hsm : Dk.blk (Dk.settleK T F d.W k) (d.W.getD k (0, ByteArray.empty)).1 = Dk.blk F (d.W.getD k (0, ByteArray.empty)).1 → BlocksAt wr gt ct TK2 := fun h => by rw [hsame h]; exact HR.out
      have honly0 := HO.out
      clear hsame
      generalize Dk.blk (Dk.settleK T F d.W k) (d.W.getD k (0, ByteArray.empty)).1 = X at *
      generalize Dk.blk F (d.W.getD k (0, ByteArray.empty)).1 = Y at *
      generalize (d.W.getD k (0, ByteArray.empty)).1 = at_ at *
      have hneq := fun w0 => neq_block w0 X Y s1 s2
      have hgd := fun w0 x y => guard_block w0 x y (bv X).toArray (bv Y).toArray
      have hu := block_under
      have i1 := block_size X s1
      have i2 := block_size Y s2
      have l1 : (bv X).length = 512 := by rw [bv_len, s1]
      have l2 : (bv Y).length = 512 := by rw [bv_len, s2]
      have o1 := bv_one X
      have o2 := bv_one Y
      by_cases hXY : X = Y
      · have HF := Lib.hid (And.intro (hsm hXY) honly0)
        have t : (!decide (X = Y)) = false := by simp [hXY]
        simp only [t] at hneq
        clear hXY t hsm hset honly honly0 s1 s2 HR HO
        generalize bv X = LX at *
        generalize bv Y = LY at *
        go_wp2_with fail
        refine wp_region_quiet_lit (by kernel_rfl) (by kernel_rfl) ?_
        iterate 3 (go_big_quiet_step (fail))
        refine wpQuiet_load_mid rfl _ _ rfl _ _ rfl LX _ r1 hu rfl i1 ?_
        simp only [Act.put, List.setIfInBounds_toArray, List.set_cons_zero, List.set_cons_succ]
        iterate 3 (go_big_quiet_step (fail))
        refine wpQuiet_load_mid rfl _ _ rfl _ _ rfl LY _ r2 hu rfl i2 ?_
        simp only [Act.put, List.setIfInBounds_toArray, List.set_cons_zero, List.set_cons_succ]
        go_big_quiet_step (fail)
        refine wpQuiet_nil ?_
        rintro _ ⟨nq, rfl⟩
        go_wp2_with fail
        go_roundw
        case rel => exact ⟨k + 1, by omega, by go_num, Lib.hid (by rw [hTK.out]; exact HF.out.1), Lib.hid (HF.out.2.drewN _)⟩
        case measure => simp [intOf]; omega
      · have t : (!decide (X = Y)) = true := by simp [hXY]
        simp only [t] at hneq
        clear t hsm hXY s1 s2 honly0 HR HO
        have HF := Lib.hid (And.intro hset honly)
        clear hset honly
        generalize bv X = LX at *
        generalize bv Y = LY at *
        go_wp2_with fail
        refine wp_region_quiet_lit (by kernel_rfl) (by kernel_rfl) ?_
        iterate 3 (go_big_quiet_step (fail))
        refine wpQuiet_load_mid rfl _ _ rfl _ _ rfl LX _ r1 hu rfl i1 ?_
        simp only [Act.put, List.setIfInBounds_toArray, List.set_cons_zero, List.set_cons_succ]
        iterate 3 (go_big_quiet_step (fail))
        refine wpQuiet_load_mid rfl _ _ rfl _ _ rfl LY _ r2 hu rfl i2 ?_
        simp only [Act.put, List.setIfInBounds_toArray, List.set_cons_zero, List.set_cons_succ]
        go_big_quiet_step (fail)
        refine wpQuiet_nil ?_
        rintro _ ⟨nq, rfl⟩
        generalize hwq : wr.drewN nq = wq
        have r2q : wq.rangeAt gf (at_ * 512) LY := by rw [← hwq]; exact r2
        have t1q : wq.there gt (at_ * 512) LY.toArray.size := by rw [← hwq, List.size_toArray, l2]; exact t1
        have HQ : Hid (BlocksAt (wq.setCells gt (at_ * 512) LY.toArray.toList) gt ct TK2 ∧ Only (fun k => k = gt) w (wq.setCells gt (at_ * 512) LY.toArray.toList)) := Lib.hid (by
          rw [← hwq, setCells_drewN]
          exact ⟨HF.out.1, HF.out.2.drewN _⟩)
        clear hwq HF r2 t1
        go_wp2_with (first
          | (refine wpList_load_mid rfl _ _ rfl _ _ rfl LY _ r2q hu rfl i2 ?_)
          | (refine wpList_store_mid rfl _ _ _ rfl gt (at_ * 512) LY.toArray rfl rfl t1q (by rw [List.size_toArray]; exact i2) (all_oneCell_toArray o2) ?_))
        go_roundw
        case rel => exact ⟨k + 1, by omega, by go_num, Lib.hid (by rw [hTK.out]; exact HQ.out.1), Lib.hid HQ.out.2⟩
        case measure => simp [intOf]; omega
    · obtain rfl : k = d.W.length := by omega
      obtain ⟨hd, hh, hl, hT, hF, zT, zF, lT, lF, n1, n2, n3, n4⟩ := HH.out
      have hh2 : HeadAt wr p gn gk cn ck la cap d := rowV_only hh HO.out (fun e => n1 e.symm)
      have f2 := rowV_frozen hh2 2
      have c2' := head_loose hh2
      have hst := rowV_stored hh2 2 (.slice none 0 0)
      have hb := blocksAt_only HR.out ((Only.refl (fun k => k = p) wr).setCell (g := p) (i := 2) (fun _ => rfl) (.slice none 0 0)) (fun e => n1 e)
      have ho := (HO.out.mono (G := fun k => k = p ∨ k = gt) fun k _ h => .inr h).setCell (g := p) (i := 2) (fun _ => .inl rfl) (.slice none 0 0)
      have HE := Lib.hid (And.intro hst (And.intro hb ho))
      clear hd hh hl hT hF zT zF lT lF n1 n2 n3 n4 hh2 hst hb ho HR HO
      go_wp2_with fail
      go_end0
      exact ⟨rfl, HE.out.1, HE.out.2.1, HE.out.2.2⟩
end Go.Proofs.Ytednmncapfclfaa

/-
  Layer 4: what the fate of a write makes of a block.
-/
namespace Go.Proofs.Ytednmncapfclfaa
open Go.RowKit

theorem block_zero : (Try.prog.info? 88).map (fun i => (i.zero, i.size)) = some (some (.agg (bv Dk.zeros).toArray), 512) := by kernel_rfl
theorem byte_one : (Try.prog.info? 5).map (·.size) = some 1 := by kernel_rfl
theorem bv_app (a b : ByteArray) : bv (a ++ b) = bv a ++ bv b := by
  unfold bv valB
  rw [show (a ++ b).data = a.data ++ b.data from ByteArray.data_append .., Array.toList_append, List.map_append]
theorem bv_cut (a : ByteArray) (i j : Nat) : bv (a.extract i j) = ((bv a).take j).drop i := by
  unfold bv valB
  rw [show (a.extract i j).data = a.data.extract i j from ByteArray.data_extract .., Array.toList_extract, List.extract_eq_take_drop, ← List.drop_take, List.map_drop, List.map_take]
theorem splice_front (old s : ByteArray) (h1 : old.size = 512) (h2 : s.size = 512) : splice (bv old) 0 (bv (s.extract 0 256)) = bv (s.extract 0 256 ++ old.extract 256 512) := by
  have e1 : (bv (s.extract 0 256)).length = 256 := by rw [bv_len, ByteArray.size_extract]; omega
  have e2 : (bv old).take 512 = bv old := List.take_of_length_le (by rw [bv_len]; omega)
  unfold splice
  rw [bv_app, e1, bv_cut old, e2]; rfl
theorem splice_back (old s : ByteArray) (h1 : old.size = 512) (h2 : s.size = 512) : splice (bv old) 256 (bv (s.extract 256 512)) = bv (old.extract 0 256 ++ s.extract 256 512) := by
  have e1 : (bv (s.extract 256 512)).length = 256 := by rw [bv_len, ByteArray.size_extract]; omega
  have e2 : (bv old).drop (256 + 256) = [] := List.drop_of_length_le (by rw [bv_len]; omega)
  unfold splice
  rw [bv_app, e1, e2, List.append_nil, bv_cut old, List.drop_zero]
/-- copy into a row that is known whole, as one step of a region that draws its order; the source a slice -/
theorem step_copy_row {P : Program} {ops : Array Oper} {o : Oper} {a : Act} {w : World} {K : Act → World → Prop} {Q : Exit → Act → World → Prop} {E : Prop} (hgd : o.guard = none) (d s : Operand) (dT sT : TypeId)
    (ho : o.op = .call { callee := .builtin .copy, args := #[d, s], argTypes := #[dT, sT] }) (elem : TypeId) (hu : P.underlying dT = some (.slice elem)) (hsz : (P.info? elem).map (·.size) = some 1)
    (g off dLen dCap : Nat) (ad : Addr) (sLen sCap : Nat) (hd : a.eval d = .slice (some ⟨g, off, none⟩) dLen dCap) (hs : a.eval s = .slice (some ad) sLen sCap)
    (cur : List Value) (t : TypeId) (hg : w.heap[g]? = some (.cells cur.toArray t (0, 0))) (cs : List Value) (hn : cs.length = Nat.min sLen dLen)
    (hsrc : ∀ j v, cs[j]? = some v → w.cell? (ad.add j) = some v) (hfit : off + cs.length ≤ cur.length) (h1 : ∀ v ∈ cs, v.oneCell' = true) (R : List Value) (hR : splice cur off cs = R)
    (h : K (a.put o.dst (goInt cs.length)) (w.setRow g R.toArray)) : if Region.wanted o (yielded ops a.tmps) = true then Oper.wp P o a w K Q else E := by
  have hw : Region.wanted o (yielded ops a.tmps) = true := by simp [Region.wanted, hgd]
  rw [if_pos hw]
  have hrun := run_copy_row (P := P) w dT sT o.type elem g off dLen dCap ad sLen sCap cur.toArray t cs hu hsz hg hn hsrc (by simpa using hfit) h1
  have e : cur.toArray.toList.take off ++ cs ++ cur.toArray.toList.drop (off + cs.length) = R := by rw [← hR]; simp [splice]
  rw [e] at hrun
  unfold Oper.wp
  simp [execOp, ho, resolve, invoke, builtin, hd, hs, hrun, Result.andThen]
  exact h
theorem below_alloc2 (w : World) (o1 o2 : Obj) : Below w.heap.size w ((w.alloc o1).alloc o2) := ((Below.refl _ w).alloc (Nat.le_refl _) _).alloc (by simp) _

set_option maxRecDepth 100000 in
set_option maxHeartbeats 1600000 in
theorem falls_any (w : World) (g o : Nat) (old s : ByteArray) (f : Int) (h1 : old.size = 512) (h2 : s.size = 512) (hs : w.rangeAt g (o + 1) (bv s)) :
    Calls Try.prog 47 #[.pointer (some ⟨g, o, none⟩), .agg (bv old).toArray, .int .i64 f] w fun e w' => e = .returned (.agg (bv (Dk.falls f old s)).toArray) ∧ Below w.heap.size w w' := by
  have hz := (zero_of_info (P := Try.prog) block_zero).1
  have hu := block_under
  have k1 : (bv old).toArray.size = 512 := by rw [List.size_toArray, bv_len, h1]
  have k2 : (bv s).toArray.size = 512 := by rw [List.size_toArray, bv_len, h2]
  have k3 : (bv Dk.zeros).toArray.size = 512 := by rw [List.size_toArray, bv_len, Dk.zeros_size]
  have i0 : (Try.prog.info? 88).map (·.size) = some 512 := (zero_of_info (P := Try.prog) block_zero).2
  have o2 := bv_one s
  have i2 := block_size s h2
  have hlen : ∀ X : Array Value, X.size = 512 → (Try.prog.info? 88).map (·.size) = some X.size := fun X h => by rw [h]; exact i0
  have hZ1 : (bv Dk.zeros).toArray.all (·.oneCell') = true := all_oneCell_toArray (bv_one _)
  have hO1 : (bv old).toArray.all (·.oneCell') = true := all_oneCell_toArray (bv_one _)
  have ga := heap_alloc2_old w (.cells (bv old).toArray 88) (.cells (bv Dk.zeros).toArray 88)
  have gb := heap_alloc2_new w (.cells (bv old).toArray 88) (.cells (bv Dk.zeros).toArray 88)
  have hb := below_alloc2 w (.cells (bv old).toArray 88) (.cells (bv Dk.zeros).toArray 88)
  have hs2 : ((w.alloc (.cells (bv old).toArray 88)).alloc (.cells (bv Dk.zeros).toArray 88)).rangeAt g (o + 1) (bv s) := World.rangeAt_alloc (World.rangeAt_alloc hs _) _
  by_cases f1 : f = 1
  · have eF : Dk.falls f old s = s := by unfold Dk.falls; rw [if_pos f1]
    generalize Dk.falls f old s = R at *
    subst eF
    have hsR : (bv R).toArray.all (·.oneCell') = true := all_oneCell_toArray o2
    subst f1
    generalize bv Dk.zeros = LZ at *
    generalize bv old = LO at *
    generalize bv R = LS at *
    have HH := Lib.hid (And.intro hb (And.intro gb (And.intro hlen (And.intro k2 (And.intro k3 (And.intro hsR i2))))))
    clear hb ga gb hlen k1 k2 k3 i0 i2 o2 hZ1 hO1 h1 h2 hs hsR
    go_enter Try.func47, Try.ntmps47
    go_wp2_with (first
      | (refine wpList_load_mid rfl _ _ rfl _ _ rfl LS _ hs2 hu rfl HH.out.2.2.2.2.2.2 ?_)
      | (refine wpList_store_row rfl 88 _ _ rfl (w.heap.size + 1) LS.toArray rfl rfl 88 LZ.toArray HH.out.2.1 (HH.out.2.2.1 _ HH.out.2.2.2.1) (by rw [HH.out.2.2.2.2.1, HH.out.2.2.2.1]) HH.out.2.2.2.2.2.1 ?_))
    have hr := setRow_heap _ (w.heap.size + 1) LZ.toArray LS.toArray 88 (0, 0) HH.out.2.1
    refine bodyPost_ret (v := .agg LS.toArray) (results_cell_row rfl _ _ (w.heap.size + 1) _ _ _ _ rfl hr Try.underlying88 rfl (HH.out.2.2.1 _ HH.out.2.2.2.1)) rfl ⟨rfl, ?_⟩
    exact below_setRow HH.out.1 (by omega) _
  · by_cases f2 : f = 2
    · have eF : Dk.falls f old s = s.extract 0 256 ++ old.extract 256 512 := by unfold Dk.falls; rw [if_neg f1, if_pos f2]
      have hsp := splice_front old s h1 h2
      rw [← eF] at hsp
      have cl : (bv (s.extract 0 256)).length = 256 := by rw [bv_len, ByteArray.size_extract]; omega
      have co := bv_one (s.extract 0 256)
      have csrc : ∀ (j : Nat) (v : Value), (bv (s.extract 0 256))[j]? = some v → (bv s)[j]? = some v := by
        intro j v hv
        have hj : j < 256 := by have := (List.getElem?_eq_some_iff.1 hv).1; omega
        rw [bv_cut, List.drop_zero, List.getElem?_take, if_pos hj] at hv
        exact hv
      have hR : (bv (Dk.falls f old s)).toArray.size = 512 := by rw [List.size_toArray, bv_len, Dk.falls_size _ _ _ h1 h2]
      have hR1 : (bv (Dk.falls f old s)).toArray.all (·.oneCell') = true := all_oneCell_toArray (bv_one _)
      have kO : (bv old).length = 512 := by rw [bv_len, h1]
      generalize Dk.falls f old s = R at *
      generalize s.extract 0 256 = H at *
      subst f2
      generalize bv Dk.zeros = LZ at *
      generalize bv old = LO at *
      generalize bv R = LR at *
      generalize bv H = LH at *
      have hsrc : ∀ (j : Nat) (v : Value), LH[j]? = some v → ((w.alloc (.cells LO.toArray 88)).alloc (.cells LZ.toArray 88)).cell? ⟨g, o + 1 + j, none⟩ = some v := fun j v hv => hs2 j v (csrc j v hv)
      have HH := Lib.hid (And.intro hb (And.intro gb (And.intro hlen (And.intro hR (And.intro k3 (And.intro hR1 (And.intro ga (And.intro hsp (And.intro cl (And.intro co (And.intro hsrc kO)))))))))))
      clear hb ga gb hlen k1 k2 k3 i0 i2 o2 hZ1 hO1 h1 h2 hs hs2 hR hR1 hsp cl co csrc hsrc eF kO
      go_enter Try.func47, Try.ntmps47
      go_wp2_with fail
      go_region_law (refine step_copy_row rfl (.tmp 16) (.tmp 20) 74 74 rfl 5 Try.underlying74 byte_one w.heap.size 0 256 512 ⟨g, o + 1, none⟩ 256 512 (by simp [Act.eval, Act.put]) (by simp [Act.eval, Act.put]) LO 88 HH.out.2.2.2.2.2.2.1 LH (by rw [HH.out.2.2.2.2.2.2.2.2.1]; rfl) (fun j v hv => by rw [Addr.add_mid]; exact HH.out.2.2.2.2.2.2.2.2.2.2.1 j v hv) (by rw [HH.out.2.2.2.2.2.2.2.2.1, HH.out.2.2.2.2.2.2.2.2.2.2.2]; omega) HH.out.2.2.2.2.2.2.2.2.2.1 LR HH.out.2.2.2.2.2.2.2.1 ?_)
      generalize hwa : World.setRow _ _ _ = wa
      have hga : wa.heap[w.heap.size]? = some (.cells LR.toArray 88 (0, 0)) := by rw [← hwa]; exact setRow_heap _ w.heap.size LO.toArray LR.toArray 88 (0, 0) HH.out.2.2.2.2.2.2.1
      have hgb : wa.heap[w.heap.size + 1]? = some (.cells LZ.toArray 88 (0, 0)) := by rw [← hwa, setRow_far _ _ _ _ (by omega)]; exact HH.out.2.1
      have hbb : Below w.heap.size w wa := by rw [← hwa]; exact below_setRow HH.out.1.drew (Nat.le_refl _) _
      have HA := Lib.hid (And.intro hga (And.intro hgb hbb))
      clear hwa hga hgb hbb
      go_wp2_with (first
        | (refine wpList_load_row rfl 88 _ rfl w.heap.size rfl _ _ _ _ HA.out.1 Try.underlying88 rfl (HH.out.2.2.1 _ HH.out.2.2.2.1) ?_)
        | (refine wpList_store_row rfl 88 _ _ rfl (w.heap.size + 1) LR.toArray rfl rfl 88 LZ.toArray HA.out.2.1 (HH.out.2.2.1 _ HH.out.2.2.2.1) (by rw [HH.out.2.2.2.2.1, HH.out.2.2.2.1]) HH.out.2.2.2.2.2.1 ?_))
      have hr := setRow_heap _ (w.heap.size + 1) LZ.toArray LR.toArray 88 (0, 0) HA.out.2.1
      refine bodyPost_ret (v := .agg LR.toArray) (results_cell_row rfl _ _ (w.heap.size + 1) _ _ _ _ rfl hr Try.underlying88 rfl (HH.out.2.2.1 _ HH.out.2.2.2.1)) rfl ⟨rfl, ?_⟩
      exact below_setRow HA.out.2.2 (by omega) _
    · by_cases f3 : f = 3
      · have eF : Dk.falls f old s = old.extract 0 256 ++ s.extract 256 512 := by unfold Dk.falls; rw [if_neg f1, if_neg f2, if_pos f3]
        have hsp := splice_back old s h1 h2
        rw [← eF] at hsp
        have cl : (bv (s.extract 256 512)).length = 256 := by rw [bv_len, ByteArray.size_extract]; omega
        have co := bv_one (s.extract 256 512)
        have csrc : ∀ (j : Nat) (v : Value), (bv (s.extract 256 512))[j]? = some v → (bv s)[256 + j]? = some v := by
          intro j v hv
          have hj : j < 256 := by have := (List.getElem?_eq_some_iff.1 hv).1; omega
          rw [bv_cut, List.getElem?_drop, List.getElem?_take, if_pos (by omega)] at hv
          exact hv
        have hR : (bv (Dk.falls f old s)).toArray.size = 512 := by rw [List.size_toArray, bv_len, Dk.falls_size _ _ _ h1 h2]
        have hR1 : (bv (Dk.falls f old s)).toArray.all (·.oneCell') = true := all_oneCell_toArray (bv_one _)
        have kO : (bv old).length = 512 := by rw [bv_len, h1]
        generalize Dk.falls f old s = R at *
        generalize s.extract 256 512 = H at *
        subst f3
        generalize bv Dk.zeros = LZ at *
        generalize bv old = LO at *
        generalize bv R = LR at *
        generalize bv H = LH at *
        have hsrc : ∀ (j : Nat) (v : Value), LH[j]? = some v → ((w.alloc (.cells LO.toArray 88)).alloc (.cells LZ.toArray 88)).cell? ⟨g, o + 1 + 256 + j, none⟩ = some v := fun j v hv => by rw [Nat.add_assoc (o + 1)]; exact hs2 _ v (csrc j v hv)
        have HH := Lib.hid (And.intro hb (And.intro gb (And.intro hlen (And.intro hR (And.intro k3 (And.intro hR1 (And.intro ga (And.intro hsp (And.intro cl (And.intro co (And.intro hsrc kO)))))))))))
        clear hb ga gb hlen k1 k2 k3 i0 i2 o2 hZ1 hO1 h1 h2 hs hs2 hR hR1 hsp cl co csrc hsrc eF kO
        go_enter Try.func47, Try.ntmps47
        go_wp2_with fail
        go_region_law (refine step_copy_row rfl (.tmp 24) (.tmp 28) 74 74 rfl 5 Try.underlying74 byte_one w.heap.size 256 256 256 ⟨g, o + 1 + 256, none⟩ 256 256 (by simp [Act.eval, Act.put]) (by simp [Act.eval, Act.put]) LO 88 HH.out.2.2.2.2.2.2.1 LH (by rw [HH.out.2.2.2.2.2.2.2.2.1]; rfl) (fun j v hv => by rw [Addr.add_mid]; exact HH.out.2.2.2.2.2.2.2.2.2.2.1 j v hv) (by rw [HH.out.2.2.2.2.2.2.2.2.1, HH.out.2.2.2.2.2.2.2.2.2.2.2]; omega) HH.out.2.2.2.2.2.2.2.2.2.1 LR HH.out.2.2.2.2.2.2.2.1 ?_)
        generalize hwa : World.setRow _ _ _ = wa
        have hga : wa.heap[w.heap.size]? = some (.cells LR.toArray 88 (0, 0)) := by rw [← hwa]; exact setRow_heap _ w.heap.size LO.toArray LR.toArray 88 (0, 0) HH.out.2.2.2.2.2.2.1
        have hgb : wa.heap[w.heap.size + 1]? = some (.cells LZ.toArray 88 (0, 0)) := by rw [← hwa, setRow_far _ _ _ _ (by omega)]; exact HH.out.2.1
        have hbb : Below w.heap.size w wa := by rw [← hwa]; exact below_setRow HH.out.1.drew (Nat.le_refl _) _
        have HA := Lib.hid (And.intro hga (And.intro hgb hbb))
        clear hwa hga hgb hbb
        go_wp2_with (first
          | (refine wpList_load_row rfl 88 _ rfl w.heap.size rfl _ _ _ _ HA.out.1 Try.underlying88 rfl (HH.out.2.2.1 _ HH.out.2.2.2.1) ?_)
          | (refine wpList_store_row rfl 88 _ _ rfl (w.heap.size + 1) LR.toArray rfl rfl 88 LZ.toArray HA.out.2.1 (HH.out.2.2.1 _ HH.out.2.2.2.1) (by rw [HH.out.2.2.2.2.1, HH.out.2.2.2.1]) HH.out.2.2.2.2.2.1 ?_))
        have hr := setRow_heap _ (w.heap.size + 1) LZ.toArray LR.toArray 88 (0, 0) HA.out.2.1
        refine bodyPost_ret (v := .agg LR.toArray) (results_cell_row rfl _ _ (w.heap.size + 1) _ _ _ _ rfl hr Try.underlying88 rfl (HH.out.2.2.1 _ HH.out.2.2.2.1)) rfl ⟨rfl, ?_⟩
        exact below_setRow HA.out.2.2 (by omega) _
      · have eF : Dk.falls f old s = old := by unfold Dk.falls; rw [if_neg f1, if_neg f2, if_neg f3]
        rw [eF]
        generalize bv Dk.zeros = LZ at *
        generalize bv old = LO at *
        have HH := Lib.hid (And.intro hb (And.intro gb (And.intro hlen (And.intro k1 (And.intro k3 (And.intro hO1 ga))))))
        clear hb ga gb hlen k1 k2 k3 i0 i2 o2 hZ1 hO1 h1 h2 hs eF hs2
        go_enter Try.func47, Try.ntmps47
        go_wp2_with (first
          | (refine wpList_load_row rfl 88 _ rfl w.heap.size rfl _ _ _ _ HH.out.2.2.2.2.2.2 Try.underlying88 rfl (HH.out.2.2.1 _ HH.out.2.2.2.1) ?_)
          | (refine wpList_store_row rfl 88 _ _ rfl (w.heap.size + 1) LO.toArray rfl rfl 88 LZ.toArray HH.out.2.1 (HH.out.2.2.1 _ HH.out.2.2.2.1) (by rw [HH.out.2.2.2.2.1, HH.out.2.2.2.1]) HH.out.2.2.2.2.2.1 ?_))
        have hr := setRow_heap _ (w.heap.size + 1) LZ.toArray LO.toArray 88 (0, 0) HH.out.2.1
        refine bodyPost_ret (v := .agg LO.toArray) (results_cell_row rfl _ _ (w.heap.size + 1) _ _ _ _ rfl hr Try.underlying88 rfl (HH.out.2.2.1 _ HH.out.2.2.2.1)) rfl ⟨rfl, ?_⟩
        exact below_setRow HH.out.1 (by omega) _
end Go.Proofs.Ytednmncapfclfaa

/-
  A region that draws its order, whose operations but the last ones (these in one forced order) read, or call what makes memory of its own and always hands back the same: one walk, in the order of the text. What the kit has for one world ('wp_region_still_tail') and for a class of worlds without a tail ('wp_region_quiet'), put together.
-/
namespace Go.Proofs.Ytednmncapfclfaa
open Go.RowKit

section
variable {P : Program} {ops : Array Oper} {md : Region.Mode} {C : World → Prop}
/-- whatever order is picked among the first n -/
def HeadQ (P : Program) (md : Region.Mode) (ops : Array Oper) (C : World → Prop) (n : Nat) (L : Array Bool → Act → Prop) : Nat → Array Bool → Act → Prop
  | 0, listed, a => L listed a
  | f + 1, listed, a => Region.ready md ops listed ≠ [] ∧ ∀ i ∈ Region.ready md ops listed, i < n ∧ qOp P ops C i (HeadQ P md ops C n L f (listed.setIfInBounds i true)) a
theorem headQ_any {n g : Nat} {L : Array Bool → Act → Prop} {Q : Exit → Act → World → Prop} (hL : ∀ listed a, L listed a → ∀ w, C w → wpAny P md ops Q g listed a w) :
    ∀ (f : Nat) (listed : Array Bool) (a : Act), HeadQ P md ops C n L f listed a → ∀ w, C w → wpAny P md ops Q (f + g) listed a w := by
  intro f
  induction f with
  | zero => intro listed a h w hw; rw [Nat.zero_add]; exact hL _ _ h w hw
  | succ f ih =>
    intro listed a h w hw
    rw [show f + 1 + g = (f + g) + 1 by omega]
    exact ⟨fun h0 => absurd h0 h.1, fun i hi => wpOp_of_qOp hw (fun a' w' hw' k => ih _ a' k w' hw') (h.2 i hi).2⟩
theorem headQ_first {n i : Nat} {oi : Oper} {v : Value} {L : Array Bool → Act → Prop} (hi : ops[i]? = some oi) (hsel : ∀ (j : Nat) (o : Oper) cs b, ops[j]? = some o → o.op ≠ .select cs b)
    (hs : Region.sinkB md ops n = true) (hc : Region.chainB md ops n = true) (hn : n < ops.size) (hin : i < n) (hdone : ∀ listed a, L listed a → ∀ j ∈ Region.ready md ops listed, n ≤ j) :
    ∀ (f : Nat) (listed : Array Bool) (a : Act), HeadInv md ops n listed →
      (∀ j oj, ops[j]? = some oj → j ≠ i → listed.getD j true = false → (∀ e ∈ oj.after, Region.binds md e = true → e.on ≠ i) → oi.apart ops oj = true) →
      i ∈ Region.ready md ops listed → YieldsIn P ops C oi v a → HeadQ P md ops C n L f (listed.setIfInBounds i true) (a.put oi.dst v) → HeadQ P md ops C n L (f + 1) listed a := by
  intro f
  induction f with
  | zero =>
    intro listed a inv _ hr hy H
    have hun := (mem_ready.1 hr).1
    refine ⟨fun h => (by rw [h] at hr; cases hr), fun j hj => ?_⟩
    have hjn : j < n := Nat.lt_of_not_le fun h => absurd hj (tail_waits hs hc hn inv _ i rfl hin hun j h)
    refine ⟨hjn, ?_⟩
    by_cases hji : j = i
    · subst hji; exact hy.qOp hi H
    · have := hdone _ _ H j (ready_mono hj hji)
      omega
  | succ f ih =>
    intro listed a inv hfree hr hy H
    have hun := (mem_ready.1 hr).1
    refine ⟨fun h => (by rw [h] at hr; cases hr), fun j hj => ?_⟩
    have hjn : j < n := Nat.lt_of_not_le fun h => absurd hj (tail_waits hs hc hn inv _ i rfl hin hun j h)
    refine ⟨hjn, ?_⟩
    by_cases hji : j = i
    · subst hji; exact hy.qOp hi H
    · have h1 := (H.2 j (ready_mono hj hji)).2
      obtain ⟨hjun, oj, hoj, hall⟩ := mem_ready.1 hj
      have hnot : ∀ e ∈ oj.after, Region.binds md e = true → e.on ≠ i := fun e he hb heq => by
        have h2 := hall e he hb
        rw [heq, getD_both hun] at h2
        cases h2
      have h2 := qOp_put hoj (hfree j oj hoj hji hjun hnot) (fun cs b => hsel i oi cs b hi) (fun cs b => hsel j oj cs b hoj) hy h1
      refine qOp_mono (fun a' h3 => ih (listed.setIfInBounds j true) a' (inv.set hj hjn) (fun k ok hk hki hunk hno => hfree k ok hk hki ?_ hno) (ready_mono hr (Ne.symm hji)) h3.1 ?_) h2
      · by_cases hjk : j = k
        · subst hjk; exact hjun
        · rw [getD_set_ne true hjk] at hunk; exact hunk
      · rw [Array.setIfInBounds_comm _ _ hji]
        exact h3.2
theorem headQ_lex {n g : Nat} {Lq : Act → Prop} (hsel : Region.noSelect ops = true) (hs : Region.sinkB md ops n = true) (hc : Region.chainB md ops n = true) (hn : n < ops.size) :
    ∀ (l : List Oper) (k : Nat) (listed : Array Bool) (a : Act), (∀ j, j < l.length → l[j]? = ops[k + j]?) → k + l.length = n → HeadInv md ops n listed →
    Region.lexHead md ops g l.length k listed = true → wpQuiet P ops C Lq l a → HeadQ P md ops C n (fun listed' a' => Region.seqB md ops g n listed' = true ∧ Lq a') l.length listed a := by
  intro l
  induction l with
  | nil =>
    intro k listed a _ hk _ hB h
    obtain rfl : k = n := by simpa using hk
    exact ⟨by simpa [Region.lexHead] using hB, h⟩
  | cons o l ih =>
    intro k listed a hl hk inv hB h
    have h0 : ops[k]? = some o := by simpa using (hl 0 (by simp)).symm
    simp only [List.length_cons, Region.lexHead, Bool.and_eq_true] at hB
    obtain ⟨⟨hr, hf⟩, hB'⟩ := hB
    have hkn : k < n := by simp only [List.length_cons] at hk; omega
    have hr' : k ∈ Region.ready md ops listed := by simpa using hr
    have hst : qOp P ops C k (wpQuiet P ops C Lq l) a := by unfold qOp; simp only [h0]; exact h
    obtain ⟨v, hy, hK⟩ := yieldsIn_of_qOp h0 hst
    exact headQ_first h0 (Region.noSelect_spec hsel) hs hc hn hkn (fun listed' a' hL => seqB_ready hL.1) l.length listed a inv (Region.free_spec h0 hf) hr' hy
      (ih (k + 1) _ _ (fun j hj => by have := hl (j + 1) (by simp; omega); simpa [Nat.add_assoc, Nat.add_comm 1 j] using this) (by simp only [List.length_cons] at hk; omega) (inv.set hr' hkn) hB' hK)
/-- the law -/
theorem wp_region_quiet_tail {id : Nat} {Q : Exit → Act → World → Prop} {a : Act} {w : World} {l : List Oper} (n : Nat) (hm : P.follows .mixedOrders = true) (hB : Region.lexTailB .any l.toArray n = true) (hC : C w.drew)
    (h : wpQuiet P l.toArray C (fun a' => ∀ w', C w' → wpList P l.toArray Q (l.drop n) a' w') (l.take n) a) : (Code.region id l.toArray true).wp P Q a w := by
  simp only [Region.lexTailB, Bool.and_eq_true, decide_eq_true_eq] at hB
  obtain ⟨⟨⟨⟨hsel, hn⟩, hs⟩, hc⟩, hlex⟩ := hB
  have hn' : n < l.length := by simpa using hn
  have htl : (l.take n).length = n := by simp; omega
  have hdl : (l.drop n).length = l.toArray.size - n := by simp
  have inv0 : HeadInv .any l.toArray n (Array.replicate l.toArray.size false) :=
    ⟨by simp, fun j oj _ hl => (by rw [getD_replicate_false] at hl; cases hl), fun t _ ht => getD_in (by simpa using ht) (getD_replicate_false _ _)⟩
  have H := headQ_lex (md := .any) (g := l.toArray.size - n) hsel hs hc hn (l.take n) 0 _ a (fun j hj => by
    have hj' : j < n := by rw [htl] at hj; exact hj
    simp [hj']) (by simpa using htl) inv0 (by rw [htl]; exact hlex) h
  refine wp_region_any hm ?_
  have := headQ_any (Q := Q) (g := l.toArray.size - n) (fun listed a' hL w' hw' => by
    have := wpAny_of_seq (md := .any) (Q' := Q) (l.drop n) n listed a' w' (fun j => by simp [List.getElem?_drop]) (by rw [hdl]; exact hL.1) (hL.2 w' hw')
    rwa [hdl] at this) _ _ _ H w.drew hC
  rw [htl, show n + (l.toArray.size - n) = l.toArray.size by omega] at this
  exact this
/-- a load of an array or a struct, in whatever class of worlds -/
theorem wpQuiet_load_rows {Q : Act → Prop} {op : Oper} {rest : List Oper} {a : Act} (hgd : op.guard = none) (ty : TypeId) (x : Operand) (ho : op.op = .load ty x)
    (b o : Nat) (hx : a.eval x = .pointer (some ⟨b, o, none⟩)) (cs : Array Value) (hc : ∀ w, C w → (loadVar ty ⟨b, o, none⟩).run P w = .ok (.agg cs) w)
    (h : wpQuiet P ops C Q rest (a.put op.dst (.agg cs))) : wpQuiet P ops C Q (op :: rest) a := by
  refine wpQuiet_step fun K hK => ?_
  have hw : Region.wanted op (yielded ops a.tmps) = true := by simp [Region.wanted, hgd]
  rw [if_pos hw]
  refine ⟨.agg cs, ?_, hK _ h⟩
  intro w' hw'
  unfold Oper.quietAt execOp
  simp only [ho, hx, Instr.loadAt, Instr.sureAddr, Sem.run_bind, Sem.run_pure, Result.andThen_ok, hc w' hw']
  exact ⟨rfl, rfl⟩
/-- a call by its contract, in whatever class of worlds -/
theorem wpQuiet_call {Q : Act → Prop} {op : Oper} {rest : List Oper} {a : Act} (hgd : op.guard = none) (f : FuncId) (args : Array Value) (v : Value) (hrun : ∀ w, C w → (execOp a.eval op).run P w = .ok (.enter f args) w)
    (hc : ∀ w, C w → Calls P f args w fun e w' => e = .returned v ∧ C w') (h : wpQuiet P ops C Q rest (a.put op.dst v)) : wpQuiet P ops C Q (op :: rest) a := by
  refine wpQuiet_step fun K hK => ?_
  have hw : Region.wanted op (yielded ops a.tmps) = true := by simp [Region.wanted, hgd]
  rw [if_pos hw]
  refine ⟨v, ?_, hK _ h⟩
  intro w' hw'
  unfold Oper.quietAt
  rw [hrun w' hw']
  exact ⟨rfl, hc w' hw'⟩
/-- any operation that only reads -/
theorem wpQuiet_value {Q : Act → Prop} {op : Oper} {rest : List Oper} {a : Act} (hgd : op.guard = none) (v : Value) (hrun : ∀ w, C w → (execOp a.eval op).run P w = .ok (.value v) w)
    (h : wpQuiet P ops C Q rest (a.put op.dst v)) : wpQuiet P ops C Q (op :: rest) a := by
  refine wpQuiet_step fun K hK => ?_
  have hw : Region.wanted op (yielded ops a.tmps) = true := by simp [Region.wanted, hgd]
  rw [if_pos hw]
  refine ⟨v, ?_, hK _ h⟩
  intro w' hw'
  unfold Oper.quietAt
  rw [hrun w' hw']
  exact ⟨rfl, rfl⟩
/-- one step that only reads; its value is found by the walk -/
theorem wpQuiet_read {Q : Act → Prop} {op : Oper} {rest : List Oper} {a : Act} (h : ∃ v, (Region.wanted op (yielded ops a.tmps) = true ∧ ∀ w, C w → (execOp a.eval op).run P w = .ok (.value v) w) ∧ wpQuiet P ops C Q rest (a.put op.dst v)) : wpQuiet P ops C Q (op :: rest) a := by
  obtain ⟨v, ⟨h1, h2⟩, h3⟩ := h
  refine wpQuiet_step fun K hK => ?_
  rw [if_pos h1]
  refine ⟨v, ?_, hK _ h3⟩
  intro w' hw'
  unfold Oper.quietAt
  rw [h2 w' hw']
  exact ⟨rfl, rfl⟩
end
end Go.Proofs.Ytednmncapfclfaa

/-
  Layer 4: what Read and Flush do.
-/
namespace Go.Proofs.Ytednmncapfclfaa
open Go.RowKit

theorem Only.of_drew {F : Nat → Prop} {w w' : World} (h : Only F w.drew w') : Only F w w' := ⟨h.os, h.tape, h.output, h.size, h.block⟩
set_option maxRecDepth 100000 in
theorem conv_block (w : World) (g o cap : Nat) (b : ByteArray) (hz : b.size = 512) (h : w.rangeAt g o (bv b)) : (convert 74 9 (.slice (some ⟨g, o, none⟩) 512 cap)).run Try.prog w = .ok (.string b) w := by
  have hl : b.data.toList.length = 512 := by rw [ba_len, hz]
  have hc := run_convert_bytes_arg w 74 5 Try.underlying74 Try.underlying5 g o 512 cap (b.data.toList.map fun x => (x.toNat : Int)) (by rw [List.length_map, hl]) (fun i hi => by
    have hlt : i < b.data.toList.length := by omega
    rw [h i _ (by unfold bv valB; rw [List.getElem?_map, List.getElem?_eq_getElem hlt]; rfl)]
    rw [List.getD_eq_getElem?_getD, List.getElem?_map, List.getElem?_eq_getElem hlt]; rfl) 9 Try.underlying9
  rw [hc]
  congr 2
  unfold strOfNums
  rw [List.map_map]
  have e : (List.map ((fun n => UInt8.ofNat n.toNat) ∘ fun x : UInt8 => (x.toNat : Int)) b.data.toList) = b.data.toList := by
    conv => rhs; rw [← List.map_id b.data.toList]
    apply List.map_congr_left
    intro x _
    simp
  rw [e]

set_option maxRecDepth 100000 in
theorem read_any {w : World} {p gn gk cn ck cap : Nat} {la : Option Addr} {d : Dk.D} (hd : Dk.Ok d) (hh : HeadAt w p gn gk cn ck la cap d) (hn : BlocksAt w gn cn (Dk.over d.B d.W)) (i : Int) :
    Calls Try.prog 24 #[.pointer (some ⟨p, 0, none⟩), .int .i64 i] w fun e w' => e = .returned (.tuple #[.string (Dk.readS d i), .int .i64 (Dk.readE d i)]) ∧ w' = w := by
  have ca := asked_any hh hd
  have ch := has_any hh i
  have c0 := head_now hh
  cases hg : d.gone with
  | true =>
    have e1 : Dk.readS d i = ByteArray.empty := by unfold Dk.readS; rw [if_pos hg]
    have e2 : Dk.readE d i = 7 := by unfold Dk.readE; rw [if_pos hg]
    rw [hg] at ca
    rw [e1, e2]
    have HH := Lib.hid ca; clear ca ch hh hn e1 e2 hg hd
    go_enter Try.func24, Try.ntmps24
    go_wp2_with fail
    refine HH.out.mono ?_
    rintro e _ ⟨rfl, rfl⟩
    go_wp2_with fail
    go_ret2
    exact ⟨rfl, rfl⟩
  | false =>
    rw [hg] at ca
    by_cases hi : 0 ≤ i ∧ i < d.B.length
    · have e1 : Dk.readS d i = Dk.blk (Dk.over d.B d.W) i.toNat := by unfold Dk.readS; rw [if_neg (by rw [hg]; simp), if_pos hi]
      have e2 : Dk.readE d i = 0 := by unfold Dk.readE; rw [if_neg (by rw [hg]; simp), if_pos hi]
      rw [e1, e2]
      obtain ⟨j, rfl⟩ : ∃ j : Nat, i = (j : Int) := ⟨i.toNat, by omega⟩
      have hj : j < d.B.length := by omega
      have hz := Dk.over_ok hd.size hd.loose
      have r1 := blocks_range hn hz j (by rw [Dk.over_len]; exact hj)
      have hcv := conv_block w gn (j * 512) 512 _ (Dk.blk_size hz j (by rw [Dk.over_len]; exact hj)) r1
      rw [decide_eq_true hi] at ch
      rw [show ((j : Int)).toNat = j from by omega]
      have HH := Lib.hid (And.intro ca ch); clear ca ch hh hn e1 e2 hg hd hz r1 hi
      generalize Dk.blk (Dk.over d.B d.W) j = b at *
      go_enter Try.func24, Try.ntmps24
      go_wp2_with fail
      refine HH.out.1.mono ?_
      rintro e _ ⟨rfl, rfl⟩
      go_wp2_with fail
      refine HH.out.2.mono ?_
      rintro e _ ⟨rfl, rfl⟩
      go_wp2_with fail
      go_ret2
      exact ⟨rfl, rfl⟩
    · have e1 : Dk.readS d i = ByteArray.empty := by unfold Dk.readS; rw [if_neg (by rw [hg]; simp), if_neg hi]
      have e2 : Dk.readE d i = 2 := by unfold Dk.readE; rw [if_neg (by rw [hg]; simp), if_neg hi]
      rw [e1, e2]
      rw [decide_eq_false hi] at ch
      have HH := Lib.hid (And.intro ca ch); clear ca ch hh hn e1 e2 hg hd hi
      go_enter Try.func24, Try.ntmps24
      go_wp2_with fail
      refine HH.out.1.mono ?_
      rintro e _ ⟨rfl, rfl⟩
      go_wp2_with fail
      refine HH.out.2.mono ?_
      rintro e _ ⟨rfl, rfl⟩
      go_wp2_with fail
      go_ret2
      exact ⟨rfl, rfl⟩

theorem headAt_size {w : World} {p gn gk cn ck cap : Nat} {la : Option Addr} {d d' : Dk.D} (h : HeadAt w p gn gk cn ck la cap d) (h1 : d'.B.length = d.B.length) (h2 : d'.W.length = d.W.length) (h3 : d'.fuse = d.fuse) (h4 : d'.gone = d.gone) : HeadAt w p gn gk cn ck la cap d' := by
  unfold HeadAt
  rw [h1, h2, h3, h4]; exact h
theorem spent_B (d : Dk.D) : (Dk.spent d).B = d.B := by unfold Dk.spent; split <;> rfl
theorem spent_W (d : Dk.D) : (Dk.spent d).W = d.W := by unfold Dk.spent; split <;> rfl
/-- behind spend -/
theorem diskIn_spent {w w' : World} {S : Nat → Prop} {p gn gk cn ck cap : Nat} {la : Option Addr} {d : Dk.D} (h : DiskIn w S p gn gk cn ck la cap d) (hh : HeadAt w' p gn gk cn ck la cap (Dk.spent d)) (ho : Only (fun k => k = p) w w') : DiskIn w' S p gn gk cn ck la cap (Dk.spent d) := by
  refine ⟨Dk.spent_ok h.ok, hh, ?_, ?_, ?_, h.pn, h.pk, h.nk, h.sp, h.sn, h.sk⟩
  · rw [spent_B, spent_W]; exact blocksAt_only h.now ho (fun e => h.pn e)
  · rw [spent_B]; exact blocksAt_only h.kept ho (fun e => h.pk e)
  · rw [spent_W]
    refine looseAt_only h.loose ho ?_
    rintro a rfl
    rcases h.loose with ⟨h1, _⟩ | ⟨g, r, h1, _, _, _, h5, _⟩
    · cases h1
    · cases h1; exact h5

set_option maxRecDepth 100000 in
set_option maxHeartbeats 800000 in
theorem flush_any {w : World} {S : Nat → Prop} {p gn gk cn ck cap : Nat} {la : Option Addr} {d : Dk.D} (h : DiskIn w S p gn gk cn ck la cap d) :
    Calls Try.prog 22 #[.pointer (some ⟨p, 0, none⟩)] w fun e w' => e = .returned (.int .i64 (Dk.flushE d)) ∧ DiskNext w' S p (Dk.flush d) la ∧ Only S w w' := by
  have ca := asked_any h.head h.ok
  cases hg : d.gone with
  | true =>
    have e1 : Dk.flush d = d := by unfold Dk.flush; rw [if_pos hg]
    have e2 : Dk.flushE d = 7 := by unfold Dk.flushE; rw [if_pos hg]
    rw [hg] at ca
    rw [e1, e2]
    have HH := Lib.hid (And.intro ca h); clear ca h e1 e2 hg
    go_enter Try.func22, Try.ntmps22
    go_wp2_with fail
    refine HH.out.1.mono ?_
    rintro e _ ⟨rfl, rfl⟩
    go_wp2_with fail
    go_ret
    exact ⟨rfl, ⟨_, _, _, _, _, _, HH.out.2, .inr (.inl rfl)⟩, Only.refl _ _⟩
  | false =>
    rw [hg] at ca
    have cs := spend_any h.head h.ok
    by_cases h0 : d.fuse = 0
    · have e1 : Dk.flush d = Dk.spent d := by unfold Dk.flush Dk.spent; rw [if_neg (by rw [hg]; simp), if_pos h0, if_pos h0]
      have e2 : Dk.flushE d = 7 := by unfold Dk.flushE; rw [if_neg (by rw [hg]; simp), if_pos h0]
      have e3 : Dk.spendE d = 7 := by unfold Dk.spendE; rw [if_pos h0]
      rw [e1, e2]
      rw [e3] at cs
      have HH := Lib.hid (And.intro ca (And.intro cs h)); clear ca cs h e1 e2 e3 hg h0
      go_enter Try.func22, Try.ntmps22
      go_wp2_with fail
      refine HH.out.1.mono ?_
      rintro e _ ⟨rfl, rfl⟩
      go_wp2_with fail
      refine HH.out.2.1.mono ?_
      rintro e w1 ⟨rfl, hh1, ho1⟩
      have H1 := Lib.hid (And.intro hh1 ho1); clear hh1 ho1
      go_wp2_with fail
      go_ret
      exact ⟨rfl, ⟨_, _, _, _, _, _, diskIn_spent HH.out.2.2 H1.out.1 H1.out.2, .inr (.inl rfl)⟩, H1.out.2.mono fun k _ e => e ▸ HH.out.2.2.sp⟩
    · have e1 : Dk.flush d = ⟨Dk.over d.B d.W, [], Dk.burn d.fuse, d.gone⟩ := by unfold Dk.flush; rw [if_neg (by rw [hg]; simp), if_neg h0]
      have e2 : Dk.flushE d = 0 := by unfold Dk.flushE; rw [if_neg (by rw [hg]; simp), if_neg h0]
      have e3 : Dk.spendE d = 0 := by unfold Dk.spendE; rw [if_neg h0]
      have e4 : Dk.spent d = ⟨d.B, d.W, Dk.burn d.fuse, d.gone⟩ := by unfold Dk.spent; rw [if_neg h0]
      have hok := Dk.flush_ok h.ok
      rw [e1] at hok
      rw [e1, e2]
      rw [e3] at cs
      have HH := Lib.hid (And.intro ca (And.intro cs (And.intro h (And.intro e4 hok)))); clear ca cs h e1 e2 e3 e4 hg h0 hok
      go_enter Try.func22, Try.ntmps22
      go_wp2_with fail
      refine HH.out.1.mono ?_
      rintro e _ ⟨rfl, rfl⟩
      go_wp2_with fail
      refine HH.out.2.1.mono ?_
      rintro e w1 ⟨rfl, hh1, ho1⟩
      have hin := diskIn_spent HH.out.2.2.1 hh1 ho1
      rw [HH.out.2.2.2.1] at hin
      have c0 := head_now hin.head
      have c1 := head_kept hin.head
      have H1 := Lib.hid (And.intro hin ho1); clear hh1 ho1 hin
      go_wp2_with fail
      go_still_tail 9, (by kernel_rfl)
      change wpList _ _ _ _ _ w1.drew
      clear c0 c1
      go_wp2_with fail
      have hin := H1.out.1
      have hs := settle_any (w := w1.drew) (d := ⟨d.B, d.W, Dk.burn d.fuse, d.gone⟩) gk ck gn cn d.B (Dk.over d.B d.W) hin.ok hin.head hin.loose hin.kept hin.now hin.ok.size (Dk.over_ok hin.ok.size hin.ok.loose) rfl (Dk.over_len _ _) hin.pk hin.nk hin.pn
        (by
          rintro a rfl
          rcases hin.loose with ⟨h1, _⟩ | ⟨g, r, h1, _, _, _, _, _, h7, _⟩
          · cases h1
          · cases h1; exact h7)
      clear hin
      refine hs.mono ?_
      rintro e w2 ⟨rfl, hh2, hk2, ho2⟩
      have H2 := Lib.hid (And.intro hh2 (And.intro hk2 ho2)); clear hh2 hk2 ho2 hs
      go_wp2_with fail
      go_ret
      have hin := H1.out.1
      have ho2 : Only (fun k => k = p ∨ k = gk) w1 w2 := H2.out.2.2.of_drew
      refine ⟨rfl, ⟨gn, gk, cn, ck, none, 0, ⟨HH.out.2.2.2.2, headAt_size H2.out.1 (Dk.over_len _ _) rfl rfl rfl, ?_, ?_, .inl ⟨rfl, rfl, rfl⟩, hin.pn, hin.pk, hin.nk, hin.sp, hin.sn, hin.sk⟩, .inl rfl⟩, ?_⟩
      · exact blocksAt_only hin.now ho2 (fun e => by rcases e with e | e; exact hin.pn e; exact hin.nk e.symm)
      · have := H2.out.2.1
        rw [Dk.settle_flush] at this
        exact this
      · exact (H1.out.2.mono (G := S) fun k _ e => e ▸ hin.sp).trans (ho2.mono (G := S) fun k _ e => by rcases e with e | e; exact e ▸ hin.sp; exact e ▸ hin.sk) fun _ _ x => x
end Go.Proofs.Ytednmncapfclfaa

/-
  Layer 4: what Crash does.
-/
namespace Go.Proofs.Ytednmncapfclfaa
open Go.RowKit

/-- the slice at a reads as the integers l -/
def ReadsI (w : World) (a : Option Addr) (l : List Int) : Prop := ∀ i (h : i < l.length), ∃ b off, a = some ⟨b, off, none⟩ ∧ w.cell? ⟨b, off + i, none⟩ = some (.int .i64 (l[i]))
theorem readsI_none (w : World) (a : Option Addr) : ReadsI w a [] := by intro i hi; simp at hi
theorem ne_nil {α : Type} {l : List α} {i : Nat} (h : i < l.length) : l ≠ [] := by rintro rfl; simp at h
theorem readsI_only {F : Nat → Prop} {w w' : World} {a : Option Addr} {l : List Int} (h : ReadsI w a l) (ho : Only F w w') (hn : ∀ b, a = some b → l ≠ [] → ¬ F b.block) : ReadsI w' a l := by
  intro i hi
  obtain ⟨b, off, h1, h2⟩ := h i hi
  exact ⟨b, off, h1, (ho.cell (World.block_lt_of_cell? w _ h2) (show ¬ F b from hn _ h1 (ne_nil hi))).trans h2⟩
theorem readsI_lt {w : World} {a : Option Addr} {l : List Int} (h : ReadsI w a l) : ∀ b, a = some b → l ≠ [] → b.block < w.heap.size := by
  intro b hb hl
  obtain ⟨c, off, h1, h2⟩ := h 0 (List.length_pos_iff.2 hl)
  have := World.block_lt_of_cell? w _ h2
  rw [hb] at h1
  cases h1
  exact this
theorem readsI_below {w w' : World} {a : Option Addr} {l : List Int} (h : ReadsI w a l) (hb : Below w.heap.size w w') : ReadsI w' a l :=
  readsI_only h (Only.of_below hb) fun b e hl => by have := readsI_lt h b e hl; omega

set_option maxRecDepth 100000 in
set_option maxHeartbeats 3200000 in
theorem crash_any {w : World} {S : Nat → Prop} {p gn gk cn ck cap : Nat} {la : Option Addr} {d : Dk.D} (h : DiskIn w S p gn gk cn ck la cap d) (fa : Option Addr) (F : List Int) (fc : Nat) (hF : ReadsI w fa F) (hfa : ∀ a, fa = some a → F ≠ [] → ¬ S a.block) :
    Calls Try.prog 23 #[.pointer (some ⟨p, 0, none⟩), .slice fa F.length fc] w fun e w' => e = .returned (.int .i64 0) ∧ DiskNext w' (fun k => S k ∨ w.heap.size ≤ k) p (Dk.crash d F) la ∧ Only S w w' := by
  have cn0 := none_any h.head h.ok
  have cl := head_loose h.head
  have HH := Lib.hid (And.intro h (And.intro hF (And.intro hfa cn0))); clear h hF hfa cn0
  go_enter Try.func23, Try.ntmps23
  go_wp2_with fail
  refine HH.out.2.2.2.mono ?_
  rintro e w0 ⟨rfl, hw0⟩
  obtain rfl := hw0.symm
  clear hw0
  go_wp2_with fail
  go_loopw [5, 6, 7, 15] (fun _ _ _ i wr => ∃ k : Nat, k ≤ d.W.length ∧ i = .int .i64 (k : Int) ∧ Hid (BlocksAt wr gk ck (Dk.crashK d.B d.W F k)) ∧ Hid (Only (fun x => x = gk) w wr))
    (fun _ _ _ i _ => d.W.length - (intOf i).toNat)
  case atStart => exact ⟨0, by omega, rfl, Lib.hid HH.out.1.kept, Lib.hid (Only.refl _ _)⟩
  case round =>
    obtain ⟨k, hk, rfl, HR, HO⟩ := hrel
    by_cases hlt : k < d.W.length
    · obtain ⟨hin, hF, hfa, _⟩ := HH.out
      obtain ⟨g, r, rfl, hg, hcap, hmax, g1, g2, g3, hown⟩ : ∃ g r, la = some ⟨g, 0, none⟩ ∧ RowV w g 90 (d.W.flatMap wv ++ r) ∧ d.W.length ≤ cap ∧ cap ≤ maxLen ∧ g ≠ p ∧ g ≠ gn ∧ g ≠ gk ∧ (d.W.length < cap → S g ∧ d.W.length * 513 + r.length = cap * 513) := by
        rcases hin.loose with ⟨_, _, h⟩ | h
        · rw [h] at hlt; simp at hlt
        · exact h
      have hm := hin.ok.loose _ (Dk.getD_mem d.W k (0, ByteArray.empty) hlt)
      have hr2 := rowV_only hg HO.out (fun e => g3 e)
      have hh2 : HeadAt wr p gn gk cn ck (some ⟨g, 0, none⟩) cap d := rowV_only hin.head HO.out (fun e => hin.pk e.symm)
      have cl2 := head_loose hh2
      have c1 := head_kept hh2
      obtain ⟨ca, rd⟩ := loose_at hr2 (fun x hx => (hin.ok.loose x hx).2) k hlt
      have zK := Dk.crashK_ok F hin.ok.size hin.ok.loose k hk
      have hat : (d.W.getD k (0, ByteArray.empty)).1 < (Dk.crashK d.B d.W F k).length := by rw [Dk.crashK_len]; exact hm.1
      have r1 := blocks_range HR.out zK _ hat
      have t1 := blocks_there HR.out zK _ hat
      have s1 := Dk.blk_size zK _ hat
      have hf : ∃ f : Int, F.getD k 0 = f ∧ (k < F.length → ∃ b off, fa = some ⟨b, off, none⟩ ∧ wr.cell? ⟨b, off + k, none⟩ = some (.int .i64 f)) ∧ (¬ k < F.length → f = 0) := by
        refine ⟨_, rfl, fun hkF => ?_, fun hkF => by rw [List.getD_eq_getElem?_getD, List.getElem?_eq_none (by omega)]; rfl⟩
        obtain ⟨b, off, e1, e2⟩ := hF k hkF
        refine ⟨b, off, e1, ?_⟩
        rw [HO.out.cell (p := ⟨b, off + k, none⟩) (World.block_lt_of_cell? w _ e2) (fun e => hfa _ e1 (ne_nil hkF) (by rw [show b = gk from e]; exact hin.sk)), e2, List.getD_eq_getElem?_getD, List.getElem?_eq_getElem hkF]
        rfl
      obtain ⟨f, hfk, hfc, hf0⟩ := hf
      have hset : ∀ w', BlocksAt w' gk ck (Dk.crashK d.B d.W F k) → BlocksAt (w'.setCells gk ((d.W.getD k (0, ByteArray.empty)).1 * 512) (bv (Dk.falls f (Dk.blk (Dk.crashK d.B d.W F k) (d.W.getD k (0, ByteArray.empty)).1) (d.W.getD k (0, ByteArray.empty)).2))) gk ck (Dk.crashK d.B d.W F (k + 1)) := fun w' hw' => by
        rw [Dk.crashK, hfk]
        exact blocks_set hw' zK _ hat _ (Dk.falls_size _ _ _ s1 hm.2)
      have zf := Dk.falls_size f _ _ s1 hm.2
      have hWm : d.W.length ≤ maxLen := Nat.le_trans hcap hmax
      unfold maxLen at hWm
      have atB : (d.W.getD k (0, ByteArray.empty)).1 < d.B.length := hm.1
      have s2 := hm.2
      have hmost := hin.ok.most
      have HX := Lib.hid (And.intro hset (And.intro s1 (And.intro s2 (And.intro zf (And.intro rd (And.intro hh2 (And.intro hr2 (And.intro g3 hin.pk))))))))
      clear hset s1 s2 zf rd hh2 hr2 g1 g2 g3 hown hm hg zK hat hin hF hfa hfk hcap hmax
      have HX2 := Lib.hid t1
      have HX3 := Lib.hid r1
      clear t1 r1
      obtain ⟨CK2, hCK⟩ : ∃ A, Dk.crashK d.B d.W F (k + 1) = A := ⟨_, rfl⟩
      have HCK := Lib.hid hCK
      rw [hCK] at HX
      clear hCK
      generalize Dk.blk (Dk.crashK d.B d.W F k) (d.W.getD k (0, ByteArray.empty)).1 = X at *
      generalize Dk.crashK d.B d.W F k = CK at *
      generalize (d.W.getD k (0, ByteArray.empty)).1 = at_ at *
      generalize (d.W.getD k (0, ByteArray.empty)).2 = sd at *
      have HC : Hid ((∀ wx, Below wr.heap.size wr wx → wx.rangeAt gk (at_ * 512) (bv X)) ∧ (∀ wx, (wx.cell? ⟨p, 1, none⟩ = some (.slice (some ⟨gk, 0, none⟩) d.B.length ck) ∧ wx.cell? ⟨g, k * 513, none⟩ = some (.int .i64 (at_ : Int)) ∧ Hid (Below wr.heap.size wr wx)) → Calls Try.prog 47 #[.pointer (some ⟨g, k * 513, none⟩), .agg (bv X).toArray, .int .i64 f] wx fun e w' => e = .returned (.agg (bv (Dk.falls f X sd)).toArray) ∧ (w'.cell? ⟨p, 1, none⟩ = some (.slice (some ⟨gk, 0, none⟩) d.B.length ck) ∧ w'.cell? ⟨g, k * 513, none⟩ = some (.int .i64 (at_ : Int)) ∧ Hid (Below wr.heap.size wr w')))) := Lib.hid ⟨fun wx hb j v hv => by
          have e := HX3.out j v hv
          rw [hb.cell (p := ⟨gk, at_ * 512 + j, none⟩) (World.block_lt_of_cell? wr _ e)]; exact e, fun wx hSx => (falls_any wx g (k * 513) X sd f HX.out.2.1 HX.out.2.2.1 (fun j v hv => by
            have e := HX.out.2.2.2.2.1 j v hv
            rw [hSx.2.2.out.cell (p := ⟨g, k * 513 + 1 + j, none⟩) (World.block_lt_of_cell? wr _ e)]; exact e)).mono fun e w' hh => by
          have hb := hSx.2.2.out.trans (hh.2.mono hSx.2.2.out.size)
          exact ⟨hh.1, (hb.cell (p := ⟨p, 1, none⟩) (World.block_lt_of_cell? wr _ c1)).trans c1, (hb.cell (p := ⟨g, k * 513, none⟩) (World.block_lt_of_cell? wr _ ca)).trans ca, Lib.hid hb⟩⟩
      by_cases hkF : k < F.length
      · obtain ⟨b, off, rfl, hfcell⟩ := hfc hkF
        clear hfc hf0
        go_wp2_with fail
        clear hfcell
        refine wp_region_quiet_tail (C := fun w' => w'.cell? ⟨p, 1, none⟩ = some (.slice (some ⟨gk, 0, none⟩) d.B.length ck) ∧ w'.cell? ⟨g, k * 513, none⟩ = some (.int .i64 (at_ : Int)) ∧ Hid (Below wr.heap.size wr w')) 22 (by kernel_rfl) (by kernel_rfl) ⟨c1, ca, Lib.hid ((Below.refl _ wr).drew)⟩ ?_
        simp only [List.take_succ_cons, List.take_zero, List.drop_succ_cons, List.drop_zero]
        iterate 18
          refine wpQuiet_read ?_
          apply Exists.intro
          refine ⟨⟨by rfl, fun wx hSx => ?_⟩, ?_⟩
          · go_simp
            with_reducible rfl
          simp only [Act.put, List.setIfInBounds_toArray, List.set_cons_zero, List.set_cons_succ]
        refine wpQuiet_load_rows rfl _ _ rfl gk (at_ * 512) rfl (bv X).toArray (fun wx hSx => run_loadVar_mid wx gk (at_ * 512) _ (bv X) _ (HC.out.1 wx hSx.2.2.out) block_under rfl (block_size X HX.out.2.1)) ?_
        simp only [Act.put, List.setIfInBounds_toArray, List.set_cons_zero, List.set_cons_succ]
        refine wpQuiet_read ?_
        apply Exists.intro
        refine ⟨⟨by rfl, fun wx hSx => ?_⟩, ?_⟩
        · go_simp
          with_reducible rfl
        simp only [Act.put, List.setIfInBounds_toArray, List.set_cons_zero, List.set_cons_succ]
        refine wpQuiet_call rfl 47 #[.pointer (some ⟨g, k * 513, none⟩), .agg (bv X).toArray, .int .i64 f] (.agg (bv (Dk.falls f X sd)).toArray) (fun wx hSx => by go_simp) (fun wx hSx => HC.out.2 wx hSx) ?_
        simp only [Act.put, List.setIfInBounds_toArray, List.set_cons_zero, List.set_cons_succ]
        refine wpQuiet_read ?_
        apply Exists.intro
        refine ⟨⟨by rfl, fun wx hSx => ?_⟩, ?_⟩
        · go_simp
          with_reducible rfl
        simp only [Act.put, List.setIfInBounds_toArray, List.set_cons_zero, List.set_cons_succ]
        refine wpQuiet_nil ?_
        rintro w4 ⟨_, _, hb4⟩
        have HE : Hid (BlocksAt (w4.setCells gk (at_ * 512) (bv (Dk.falls f X sd)).toArray.toList) gk ck CK2 ∧ Only (fun x => x = gk) w (w4.setCells gk (at_ * 512) (bv (Dk.falls f X sd)).toArray.toList)) := Lib.hid ⟨HX.out.1 w4 (blocksAt_only HR.out (Only.of_none (F := fun _ => False) hb4.out) (fun h => h)), (HO.out.more (Only.of_none hb4.out)).setCells (fun _ => rfl) _ _⟩
        have t4 : w4.there gk (at_ * 512) (bv (Dk.falls f X sd)).toArray.size := by
          rw [List.size_toArray, bv_len, HX.out.2.2.2.1]
          intro j hj
          obtain ⟨u1, u2⟩ := HX2.out j hj
          obtain ⟨u, hu⟩ := Option.isSome_iff_exists.1 u1
          have hlt := World.block_lt_of_cell? wr _ hu
          exact ⟨by rw [hb4.out.cell hlt]; exact u1, by rw [hb4.out.frozen hlt]; exact u2⟩
        clear hb4
        go_wp2_with (refine wpList_store_mid rfl _ _ _ rfl gk (at_ * 512) (bv (Dk.falls f X sd)).toArray rfl rfl t4 (by rw [List.size_toArray]; exact block_size _ HX.out.2.2.2.1) (all_oneCell_toArray (bv_one _)) ?_)
        go_roundw
        case rel => exact ⟨k + 1, by omega, by go_num, Lib.hid (by rw [HCK.out]; exact HE.out.1), Lib.hid HE.out.2⟩
        case measure => simp [intOf]; omega
      · obtain rfl := hf0 hkF
        clear hfc hf0
        go_wp2_with fail
        refine wp_region_quiet_tail (C := fun w' => w'.cell? ⟨p, 1, none⟩ = some (.slice (some ⟨gk, 0, none⟩) d.B.length ck) ∧ w'.cell? ⟨g, k * 513, none⟩ = some (.int .i64 (at_ : Int)) ∧ Hid (Below wr.heap.size wr w')) 22 (by kernel_rfl) (by kernel_rfl) ⟨c1, ca, Lib.hid ((Below.refl _ wr).drew)⟩ ?_
        simp only [List.take_succ_cons, List.take_zero, List.drop_succ_cons, List.drop_zero]
        iterate 18
          refine wpQuiet_read ?_
          apply Exists.intro
          refine ⟨⟨by rfl, fun wx hSx => ?_⟩, ?_⟩
          · go_simp
            with_reducible rfl
          simp only [Act.put, List.setIfInBounds_toArray, List.set_cons_zero, List.set_cons_succ]
        refine wpQuiet_load_rows rfl _ _ rfl gk (at_ * 512) rfl (bv X).toArray (fun wx hSx => run_loadVar_mid wx gk (at_ * 512) _ (bv X) _ (HC.out.1 wx hSx.2.2.out) block_under rfl (block_size X HX.out.2.1)) ?_
        simp only [Act.put, List.setIfInBounds_toArray, List.set_cons_zero, List.set_cons_succ]
        refine wpQuiet_read ?_
        apply Exists.intro
        refine ⟨⟨by rfl, fun wx hSx => ?_⟩, ?_⟩
        · go_simp
          with_reducible rfl
        simp only [Act.put, List.setIfInBounds_toArray, List.set_cons_zero, List.set_cons_succ]
        refine wpQuiet_call rfl 47 #[.pointer (some ⟨g, k * 513, none⟩), .agg (bv X).toArray, .int .i64 0] (.agg (bv (Dk.falls 0 X sd)).toArray) (fun wx hSx => by go_simp) (fun wx hSx => HC.out.2 wx hSx) ?_
        simp only [Act.put, List.setIfInBounds_toArray, List.set_cons_zero, List.set_cons_succ]
        refine wpQuiet_read ?_
        apply Exists.intro
        refine ⟨⟨by rfl, fun wx hSx => ?_⟩, ?_⟩
        · go_simp
          with_reducible rfl
        simp only [Act.put, List.setIfInBounds_toArray, List.set_cons_zero, List.set_cons_succ]
        refine wpQuiet_nil ?_
        rintro w4 ⟨_, _, hb4⟩
        have HE : Hid (BlocksAt (w4.setCells gk (at_ * 512) (bv (Dk.falls 0 X sd)).toArray.toList) gk ck CK2 ∧ Only (fun x => x = gk) w (w4.setCells gk (at_ * 512) (bv (Dk.falls 0 X sd)).toArray.toList)) := Lib.hid ⟨HX.out.1 w4 (blocksAt_only HR.out (Only.of_none (F := fun _ => False) hb4.out) (fun h => h)), (HO.out.more (Only.of_none hb4.out)).setCells (fun _ => rfl) _ _⟩
        have t4 : w4.there gk (at_ * 512) (bv (Dk.falls 0 X sd)).toArray.size := by
          rw [List.size_toArray, bv_len, HX.out.2.2.2.1]
          intro j hj
          obtain ⟨u1, u2⟩ := HX2.out j hj
          obtain ⟨u, hu⟩ := Option.isSome_iff_exists.1 u1
          have hlt := World.block_lt_of_cell? wr _ hu
          exact ⟨by rw [hb4.out.cell hlt]; exact u1, by rw [hb4.out.frozen hlt]; exact u2⟩
        clear hb4
        go_wp2_with (refine wpList_store_mid rfl _ _ _ rfl gk (at_ * 512) (bv (Dk.falls 0 X sd)).toArray rfl rfl t4 (by rw [List.size_toArray]; exact block_size _ HX.out.2.2.2.1) (all_oneCell_toArray (bv_one _)) ?_)
        go_roundw
        case rel => exact ⟨k + 1, by omega, by go_num, Lib.hid (by rw [HCK.out]; exact HE.out.1), Lib.hid HE.out.2⟩
        case measure => simp [intOf]; omega
    · obtain rfl : k = d.W.length := by omega
      have hin := HH.out.1
      have hh2 : HeadAt wr p gn gk cn ck la cap d := rowV_only hin.head HO.out (fun e => hin.pk e.symm)
      have c0 := head_now hh2
      have c1 := head_kept hh2
      have hlo : ∀ a, la = some a → a.block ≠ p ∧ a.block ≠ gn ∧ a.block ≠ gk := by
        rintro a rfl
        rcases hin.loose with ⟨h1, _⟩ | ⟨g, r, h1, _, _, _, h5, h6, h7, _⟩
        · cases h1
        · cases h1; exact ⟨h5, h6, h7⟩
      have hs := settle_any (w := wr.drew) (d := d) gn cn gk ck (Dk.over d.B d.W) (Dk.crashK d.B d.W F d.W.length) hin.ok hh2 (looseAt_only hin.loose HO.out.drew (fun a ha => (hlo a ha).2.2)) (blocksAt_only hin.now HO.out.drew (fun e => hin.nk e.symm)) HR.out (Dk.over_ok hin.ok.size hin.ok.loose) (Dk.crashK_ok F hin.ok.size hin.ok.loose _ (Nat.le_refl _))
        (Dk.over_len _ _) (Dk.crashK_len _ _ _ _) hin.pn (fun e => hin.nk e.symm) hin.pk (fun a ha => (hlo a ha).2.1)
      rw [Dk.settle_crash] at hs
      have HS := Lib.hid hs
      clear hs hlo hin hh2
      go_wp2_with fail
      go_still_tail 9, (by kernel_rfl)
      change wpList _ _ _ _ _ wr.drew
      clear c0 c1
      go_wp2_with fail
      refine HS.out.mono ?_
      rintro e w2 ⟨rfl, hh2, hn2, ho2⟩
      have f3 := rowV_frozen hh2 3
      have f4 := rowV_frozen hh2 4
      have c3 := head_left hh2
      have c4 := head_gone hh2
      have hst := rowV_stored (rowV_stored hh2 4 (.bool false)) 3 (.int .i64 (-1))
      have hp : Only (fun k => k = p) w2 ((w2.setCell ⟨p, 4, none⟩ (.bool false)).setCell ⟨p, 3, none⟩ (.int .i64 (-1))) := ((Only.refl (fun k => k = p) w2).setCell (g := p) (i := 4) (fun _ => rfl) _).setCell (g := p) (i := 3) (fun _ => rfl) _
      have H2 := Lib.hid (And.intro hst (And.intro hn2 (And.intro ho2.of_drew hp)))
      clear hst hn2 ho2 hp hh2 HS
      go_wp2_with fail
      go_ret
      obtain ⟨hst, hn2, ho2, hp⟩ := H2.out
      have hin := HH.out.1
      have hall : Only S w w2 := (HO.out.mono (G := S) fun k _ e => e ▸ hin.sk).trans (ho2.mono (G := S) fun k _ e => by rcases e with e | e; exact e ▸ hin.sp; exact e ▸ hin.sn) fun _ _ h => h
      refine ⟨rfl, ⟨gn, gk, cn, ck, none, 0, ⟨Dk.crash_ok hin.ok F, ?_, ?_, ?_, .inl ⟨rfl, rfl, rfl⟩, hin.pn, hin.pk, hin.nk, .inl hin.sp, .inl hin.sn, .inl hin.sk⟩, .inl rfl⟩, hall.trans (hp.mono (G := S) fun k _ e => e ▸ hin.sp) fun _ _ h => h⟩
      · unfold HeadAt Dk.crash
        rw [Dk.crashK_len]
        exact hst
      · exact blocksAt_only hn2 hp (fun e => hin.pn e)
      · exact blocksAt_only (blocksAt_only HR.out ho2 (fun e => by rcases e with e | e; exact hin.pk e; exact hin.nk e)) hp (fun e => hin.pk e)
end Go.Proofs.Ytednmncapfclfaa

/-
  Layer 4: a loose write as a value, put behind the loose list; a text copied into a block.
-/
namespace Go.Proofs.Ytednmncapfclfaa
open Go.RowKit

theorem info_write : (Try.prog.info? 90).map (fun i => (i.zero, i.size, i.bytes)) = some (some (.agg (wv (0, Dk.zeros)).toArray), 513, 520) := by kernel_rfl
theorem wv_one (x : Nat × ByteArray) : ∀ v ∈ wv x, v.oneCell' = true := by
  intro v hv
  rcases List.mem_cons.1 hv with rfl | hv
  · rfl
  · exact bv_one _ v hv
theorem fold_arr (off : Nat) (X cs : Array Value) : X.zipIdx.foldl (fun cs (x : Value × Nat) => cs.setIfInBounds (off + x.2) x.1) cs = (X.toList.zipIdx 0).foldl (fun cs (x : Value × Nat) => cs.setIfInBounds (off + x.2) x.1) cs := by
  rw [← Array.foldl_toList, Array.toList_zipIdx]
theorem fill_step (places : Nat → Option (Nat × Nat)) (z : Array Value) (i : Nat) (v : Value) (rest : List (Nat × Value)) (off : Nat) (hp : places i = some (off, v.cells.size)) (hf : off + v.cells.size ≤ z.size) :
    Instr.fill places z ((i, v) :: rest) = Instr.fill places ((v.cells.toList.zipIdx 0).foldl (fun cs (x : Value × Nat) => cs.setIfInBounds (off + x.2) x.1) z) rest := by
  rw [← fold_arr]
  simp only [Instr.fill, hp]
  rw [if_neg (by simp; omega)]
theorem fill_two (z : Array Value) (hz : z.size = 513) (v : Value) (hv : v.cells = #[v]) (X : Array Value) (hX : X.size = 512) (places : Nat → Option (Nat × Nat)) (h0 : places 0 = some (0, 1)) (h1 : places 1 = some (1, 512)) :
    Instr.fill places z [(0, v), (1, .agg X)] = some (v :: X.toList).toArray := by
  have hc : (Value.agg X).cells = X := rfl
  rw [fill_step places z 0 v _ 0 (by rw [h0, hv]; rfl) (by rw [hv, hz]; simp), hv]
  obtain ⟨s1, k1⟩ := Great.foldl_set 0 [v] 0 z
  have e1 : (#[v] : Array Value).toList = [v] := rfl
  rw [e1]
  generalize ([v].zipIdx 0).foldl (fun cs (x : Value × Nat) => cs.setIfInBounds (0 + x.2) x.1) z = z1 at *
  rw [fill_step places z1 1 (.agg X) _ 1 (by rw [h1, hc, hX]) (by rw [hc, s1, hz, hX]; omega), hc]
  obtain ⟨s2, k2⟩ := Great.foldl_set 1 X.toList 0 z1
  show some _ = some _
  congr 1
  apply Array.ext_getElem?
  intro k
  have hlX : X.toList.length = 512 := by rw [Array.length_toList, hX]
  have eR : (v :: X.toList).toArray[k]? = (v :: X.toList)[k]? := List.getElem?_toArray ..
  rw [k2 k, k1 k, hlX, s1, hz, eR]
  by_cases hk0 : k = 0
  · subst hk0; simp
  · by_cases hk : k < 513
    · rw [if_pos (by omega)]
      obtain ⟨j, rfl⟩ : ∃ j, k = j + 1 := ⟨k - 1, by omega⟩
      rw [List.getElem?_cons_succ]; congr 1
    · rw [if_neg (by omega), if_neg (by simp; omega), Array.getElem?_eq_none (by omega), List.getElem?_eq_none (by rw [List.length_cons, hlX]; omega)]
theorem built_write (i : Nat) (b : ByteArray) (hb : b.size = 512) : Try.prog.built 90 [(0, .int .i64 (i : Int)), (1, .agg (bv b).toArray)] = some (wv (i, b)).toArray := by
  obtain ⟨iw, hi, hi2⟩ := Option.map_eq_some_iff.1 info_write
  simp only [Prod.mk.injEq] at hi2
  have p0 : (Try.prog.info? 3).map (·.size) = some 1 := by kernel_rfl
  have p1 : (Try.prog.info? 88).map (·.size) = some 512 := by kernel_rfl
  obtain ⟨i0, hi0, hs0⟩ := Option.map_eq_some_iff.1 p0
  obtain ⟨i1, hi1, hs1⟩ := Option.map_eq_some_iff.1 p1
  unfold Program.built
  rw [hi, Try.underlying90]
  simp only [hi2.1, List.mapM_cons, List.mapM_nil, hi0, hi1, hs0, hs1, Option.map_some, Option.bind_eq_bind, Option.bind_some, Option.pure_def, Value.cells]
  rw [fill_two _ (by rw [List.size_toArray, wv_len _ Dk.zeros_size]) _ rfl _ (by rw [List.size_toArray, bv_len, hb]) _ rfl rfl]
  rfl
theorem run_build_write (w : World) (i : Nat) (b : ByteArray) (hb : b.size = 512) : (Instr.build 90 #[(0, .int .i64 (i : Int)), (1, .agg (bv b).toArray)]).run Try.prog w = .ok (.agg (wv (i, b)).toArray) w :=
  run_build w _ _ _ (built_write i b hb)
theorem run_slice_write (w : World) (X : Array Value) (hX : X.size = 513) : (Instr.buildSlice 68 1 #[(0, .agg X)]).run Try.prog w = .ok (.slice (some ⟨w.heap.size, 0, none⟩) 1 1) (w.alloc (.cells X 90)) := by
  obtain ⟨iw, hi, hi2⟩ := Option.map_eq_some_iff.1 info_write
  simp only [Prod.mk.injEq] at hi2
  refine run_buildSlice w _ _ 1 _ X iw _ Try.underlying68 hi hi2.1 (by rw [hi2.2.1]; omega) (by rw [hi2.2.1]; omega) ?_
  have e := Great.fill_whole (s := iw.size) (by rw [hi2.2.1]; omega) [.agg X] ((Array.range (1 * iw.size)).map ((Value.agg (wv (0, Dk.zeros)).toArray).cells[· % (Value.agg (wv (0, Dk.zeros)).toArray).cells.size]!)) (by intro v hv; rw [List.mem_singleton] at hv; subst hv; rw [hi2.2.1]; exact hX) (by simp)
  simp only [List.zipIdx_cons, List.zipIdx_nil, List.map_cons, List.map_nil, List.flatMap_cons, List.flatMap_nil, List.append_nil, Value.cells, Array.toArray_toList] at e
  exact e
/-- a text copied into a block -/
theorem wpList_copy_text {P : Program} {w : World} {ops : Array Oper} {rest : List Oper} {o : Oper} {a : Act} {Q : Exit → Act → World → Prop} (hgd : o.guard = none) (d s : Operand) (dT sT : TypeId)
    (ho : o.op = .call { callee := .builtin .copy, args := #[d, s], argTypes := #[dT, sT] }) (elem : TypeId) (hu : P.underlying dT = some (.slice elem)) (hsz : (P.info? elem).map (·.size) = some 1)
    (g off dLen dCap : Nat) (hd : a.eval d = .slice (some ⟨g, off, none⟩) dLen dCap) (str : ByteArray) (hs : a.eval s = .string str) (hn : str.size = dLen) (ht : w.there g off dLen)
    (h : wpList P ops Q rest (a.put o.dst (goInt dLen)) (w.setCells g off (bv str))) : wpList P ops Q (o :: rest) a w := by
  refine wpList_plain hgd fun K hK => ?_
  have hst := run_storeCells_cells (P := P) g off (bv str) 0 w (fun j hj => by rw [bv_len, hn] at hj; simpa using (ht j hj).1) (fun j hj => by rw [bv_len, hn] at hj; simpa using (ht j hj).2) (bv_one str)
  obtain ⟨i, hi, hi2⟩ := Option.map_eq_some_iff.1 hsz
  have hf := firstCells_string (P := P) str w
  have hrun : (Builtin.copy_ #[dT, sT] o.type #[.slice (some ⟨g, off, none⟩) dLen dCap, .string str]).run P w = .ok (goInt dLen) (w.setCells g off (bv str)) := by
    rw [Nat.add_zero] at hst
    have e : (byteCells str) = bv str := rfl
    rw [e] at hf
    subst hn
    simp [Builtin.copy_, run_underlying hu, Builtin.lenOf, sizeOf, typeInfo, hi, hi2, hf, hst]
  unfold Oper.wp
  simp [execOp, ho, resolve, invoke, builtin, hd, hs, hrun, Result.andThen]
  exact hK _ _ h

theorem room_left (k n r c : Nat) (h : n * k + r = c * k) (h2 : (n + 1) * k ≤ c * k) : (n + 1) * k + (r - k) = c * k := by
  rw [Nat.add_mul, Nat.one_mul] at h2 ⊢
  generalize n * k = a at *
  generalize c * k = b at *
  omega
/-- one loose write more -/
theorem append_loose {w : World} {S : Nat → Prop} {p gn gk cap : Nat} {la : Option Addr} {W : List (Nat × ByteArray)} (h : LooseAt w S p gn gk la cap W) (hz : ∀ x ∈ W, x.2.size = 512) (x : Nat × ByteArray) (hx : x.2.size = 512)
    (N : Nat) (hN : RowV w N 90 (wv x)) (hW : W.length ≤ 1000000) (ty : TypeId) (hp : p < w.heap.size) (hgn : gn < w.heap.size) (hgk : gk < w.heap.size) :
    ∃ g' cap' r' w', (Builtin.append_ #[68, 68] ty #[.slice la W.length cap, .slice (some ⟨N, 0, none⟩) 1 1]).run Try.prog w = .ok (.slice (some ⟨g', 0, none⟩) (W.length + 1) cap') w' ∧
      RowV w' g' 90 ((W ++ [x]).flatMap wv ++ r') ∧ W.length + 1 ≤ cap' ∧ cap' ≤ maxLen ∧ g' ≠ p ∧ g' ≠ gn ∧ g' ≠ gk ∧ (S g' ∨ w.heap.size ≤ g') ∧ (W.length + 1) * 513 + r'.length = cap' * 513 ∧ Only (fun k => S k ∧ k ≠ p ∧ k ≠ gn ∧ k ≠ gk) w w' := by
  obtain ⟨iw, hi, hi2⟩ := Option.map_eq_some_iff.1 info_write
  simp only [Prod.mk.injEq] at hi2
  have hl : ∀ y ∈ W, (wv y).length = 513 := fun y hy => wv_len y (hz y hy)
  have hlen := flat_len wv 513 W hl
  have hxl := wv_len x hx
  have hnews : ∀ j u, (wv x)[j]? = some u → w.cell? ((⟨N, 0, none⟩ : Addr).add j) = some u := fun j u hj => by
    rw [Addr.add_mid, Nat.zero_add, rowV_cell hN]; exact hj
  have hsnoc : (W ++ [x]).flatMap wv = W.flatMap wv ++ wv x := by rw [List.flatMap_append]; simp
  have hcs : (Value.agg (wv (0, Dk.zeros)).toArray).cells.size = 513 := by show (wv (0, Dk.zeros)).toArray.size = 513; rw [List.size_toArray, wv_len _ Dk.zeros_size]
  have fin : ∀ (v' : Value) (w' : World), w'.ownsRow w.heap.size 90 513 v' (W.length + 1) (W.flatMap wv ++ wv x) → w.grownBy w' none →
      ∃ g' cap' r', v' = .slice (some ⟨g', 0, none⟩) (W.length + 1) cap' ∧ RowV w' g' 90 ((W ++ [x]).flatMap wv ++ r') ∧ W.length + 1 ≤ cap' ∧ cap' ≤ maxLen ∧ g' ≠ p ∧ g' ≠ gn ∧ g' ≠ gk ∧ (S g' ∨ w.heap.size ≤ g') ∧ (W.length + 1) * 513 + r'.length = cap' * 513 ∧ Only (fun k => S k ∧ k ≠ p ∧ k ≠ gn ∧ k ≠ gk) w w' := by
    intro v' w' ho hg
    rcases ho.2 with ⟨_, h0⟩ | ⟨g', cap', cur, rfl, hb, hh, h1, h2, h3, h4⟩
    · omega
    · refine ⟨g', cap', cur.toList.drop ((W.length + 1) * 513), rfl, ?_, h1, h2, by omega, by omega, by omega, .inr hb, ?_, (Only.refl _ w).grown hg (by intro k _ e; cases e)⟩
      · rw [hsnoc, ← h4, List.take_append_drop]
        exact hh
      · have hcl : cur.toList.length = cur.size := Array.length_toList
        rw [List.length_drop, hcl, h3]
        have := Nat.mul_le_mul_right 513 h1
        omega
  rcases h with ⟨rfl, rfl, rfl⟩ | ⟨g, r, rfl, hg, hcap, hmax, n1, n2, n3, hown⟩
  · obtain ⟨v', w', hr, ho, hgr, _⟩ := run_append_own_wide (P := Try.prog) w w.heap.size 68 ty 90 iw _ 513 520 Try.underlying68 hi hi2.1 hi2.2.1 hi2.2.2 hcs (by omega) _ 0 [] (World.ownsRow_nil w w.heap.size 90 513)
      ⟨N, 0, none⟩ 1 1 (wv x) (by rw [hxl]) hnews (wv_one x) (by unfold maxLen; omega) (by omega) (Nat.le_refl _)
    obtain ⟨g', cap', r', rfl, rest⟩ := fin v' w' (by simpa using ho) (by simpa [Value.ownBlock] using hgr)
    exact ⟨g', cap', r', w', hr, rest⟩
  · by_cases hroom : W.length < cap
    · obtain ⟨hS, hsz⟩ := hown hroom
      have hle := Nat.mul_le_mul_right 513 (show W.length + 1 ≤ cap from hroom)
      have hth := rowV_there hg (W.length * 513) 513 (by rw [List.length_append, hlen]; omega)
      have hr := run_append_room_cells (P := Try.prog) w 68 ty 90 iw Try.underlying68 hi g 0 W.length cap ⟨N, 0, none⟩ 1 1 (wv x) (by rw [hi2.2.1, hxl]) hnews (wv_one x) hroom
        (fun j hj => by rw [hi2.2.1, Nat.zero_add]; exact (hth j (by omega)).1) (fun j hj => by rw [hi2.2.1, Nat.zero_add]; exact (hth j (by omega)).2)
      rw [hi2.2.1, Nat.zero_add] at hr
      have hst := rowV_setCells (wv x) (W.length * 513) hg (by rw [hxl, List.length_append, hlen]; omega)
      refine ⟨g, cap, r.drop 513, _, hr, ?_, hroom, hmax, n1, n2, n3, .inl hS, ?_, (Only.refl _ w).setCells (fun _ => ⟨hS, n1, n2, n3⟩) _ _⟩
      · have e : (W.flatMap wv ++ r).take (W.length * 513) ++ wv x ++ (W.flatMap wv ++ r).drop (W.length * 513 + (wv x).length) = (W ++ [x]).flatMap wv ++ r.drop 513 := by
          rw [hsnoc, ← hlen, List.take_left', List.drop_append, hxl, List.drop_of_length_le (by omega), List.nil_append, show (W.flatMap wv).length + 513 - (W.flatMap wv).length = 513 by omega]
          rfl
        rw [← e]; exact hst
      · rw [List.length_drop]; exact room_left 513 _ _ _ hsz hle
    · have hcw : cap = W.length := by omega
      obtain ⟨v', w', hr, ho, hgr⟩ := run_append_arg_grows (P := Try.prog) w 68 ty 90 iw _ 513 520 Try.underlying68 hi hi2.1 hi2.2.1 hi2.2.2 hcs (by omega) ⟨g, 0, none⟩ W.length cap (W.flatMap wv) hlen
        (fun j u hj => by
          have hlt := (List.getElem?_eq_some_iff.1 hj).1
          rw [Addr.add_mid, Nat.zero_add, rowV_cell hg, List.getElem?_append_left hlt]; exact hj)
        ⟨N, 0, none⟩ 1 1 (wv x) (by rw [hxl]) hnews (by omega) (by unfold maxLen; omega) (by omega)
      obtain ⟨g', cap', r', rfl, rest⟩ := fin v' w' ho hgr
      exact ⟨g', cap', r', w', hr, rest⟩
end Go.Proofs.Ytednmncapfclfaa

/-
  Layer 4: what New does.
-/
namespace Go.Proofs.Ytednmncapfclfaa
open Go.RowKit

theorem bv_zeros : bv Dk.zeros = List.replicate 512 (.int .u8 0) := by
  unfold bv valB Dk.zeros
  rw [List.map_replicate]; rfl
theorem zeros_flat (n : Nat) : (List.replicate n Dk.zeros).flatMap bv = List.replicate (n * 512) (.int .u8 0) := by
  induction n with
  | zero => simp
  | succ n ih => rw [List.replicate_succ, List.flatMap_cons, ih, bv_zeros, List.replicate_append_replicate, Nat.add_mul, Nat.one_mul, Nat.add_comm]
theorem rep_at (n : Nat) (v : Value) (q : Nat) (h : q < (List.replicate n v).toArray.size) : (List.replicate n v).toArray[q]! = v := by
  rw [getElem!_pos (List.replicate n v).toArray q h]; simp
theorem zeros_at (q : Nat) (h : q < (bv Dk.zeros).toArray.size) : (bv Dk.zeros).toArray[q]! = .int .u8 0 := by
  rw [bv_zeros] at h ⊢
  exact rep_at 512 _ q h
theorem diskAt_drew {w : World} {S : Nat → Prop} {p : Nat} {d : Dk.D} (h : DiskAt w S p d) : DiskAt w.drew S p d := by
  obtain ⟨_, _, _, _, _, _, h⟩ := h
  exact ⟨_, _, _, _, _, _, diskIn_only h ((Only.refl (fun _ => False) w).drew) (fun h => h) (fun h => h) (fun h => h) (fun _ _ h => h)⟩
theorem made_zeros (n : Nat) : madeCells (bv Dk.zeros).toArray (n * 512) = ((List.replicate n Dk.zeros).flatMap bv).toArray := by
  rw [zeros_flat]
  have hs : (bv Dk.zeros).toArray.size = 512 := by rw [List.size_toArray, bv_len, Dk.zeros_size]
  unfold madeCells
  apply Array.ext_getElem?
  intro i
  have e2 : (List.replicate (n * 512) (Value.int .u8 0)).toArray[i]? = (List.replicate (n * 512) (Value.int .u8 0))[i]? := List.getElem?_toArray ..
  rw [Array.getElem?_map, e2, List.getElem?_replicate]
  by_cases h : i < n * 512
  · have hi : i % 512 < (bv Dk.zeros).toArray.size := by rw [hs]; omega
    rw [Array.getElem?_range, if_pos h, if_pos h, Option.map_some, hs, zeros_at _ hi]
  · rw [if_neg h, Array.getElem?_eq_none (by simp; omega), Option.map_none]
theorem run_make_blocks (w : World) (n : Nat) (h1 : 1 ≤ n) (h2 : n ≤ 4096) : (Instr.makeSlice 67 (.int .i64 (n : Int)) (.int .i64 (n : Int))).run Try.prog w = .ok (.slice (some ⟨w.heap.size, 0, none⟩) n n) (w.alloc (.cells ((List.replicate n Dk.zeros).flatMap bv).toArray 88)) := by
  obtain ⟨i, hi, hi2⟩ := Option.map_eq_some_iff.1 info_block
  obtain ⟨i', hi', hi2'⟩ := Option.map_eq_some_iff.1 block_zero
  obtain rfl : i = i' := Option.some.inj (hi.symm.trans hi')
  simp only [Prod.mk.injEq] at hi2 hi2'
  have hr := run_make (P := Try.prog) w 67 88 i _ Try.underlying67 hi hi2'.1 .i64 .i64 (n : Int) (n : Int) (by omega) (Int.le_refl _) (by rw [hi2.2.2]; omega) (by omega)
  rw [hr]
  have e : ((n : Int)).toNat = n := by omega
  rw [e, hi2.2.1]
  show Result.ok _ (w.alloc (.cells (madeCells (bv Dk.zeros).toArray (n * 512)) _)) = _
  rw [made_zeros]

theorem new_disk (w : World) (m a b : Nat) (Z : List ByteArray) (hok : Dk.Ok (Dk.new m)) (hlen : Z.length = m) (hdn : Dk.new m = ⟨Z, [], -1, false⟩) (hab : (a = w.heap.size ∧ b = w.heap.size + 1) ∨ (a = w.heap.size + 1 ∧ b = w.heap.size)) :
    DiskAtL (((w.alloc (.cells (Z.flatMap bv).toArray 88)).alloc (.cells (Z.flatMap bv).toArray 88)).alloc (.cells #[.slice (some ⟨a, 0, none⟩) m m, .slice (some ⟨b, 0, none⟩) m m, .slice none 0 0, .int .i64 (-1), .bool false] 70)) (fun k => w.heap.size ≤ k) (fun k => w.heap.size ≤ k) (w.heap.size + 2) (Dk.new m) := by
  have hm : m ≤ 4096 := by have := hok.most; rw [hdn] at this; rw [← hlen]; exact this
  have r1 := rowV_alloc (rowV_alloc (rowV_new w 88 (Z.flatMap bv)) (.cells (Z.flatMap bv).toArray 88)) (.cells #[.slice (some ⟨a, 0, none⟩) m m, .slice (some ⟨b, 0, none⟩) m m, .slice none 0 0, .int .i64 (-1), .bool false] 70)
  have r2 := rowV_alloc (rowV_new (w.alloc (.cells (Z.flatMap bv).toArray 88)) 88 (Z.flatMap bv)) (.cells #[.slice (some ⟨a, 0, none⟩) m m, .slice (some ⟨b, 0, none⟩) m m, .slice none 0 0, .int .i64 (-1), .bool false] 70)
  have r3 := rowV_new ((w.alloc (.cells (Z.flatMap bv).toArray 88)).alloc (.cells (Z.flatMap bv).toArray 88)) 70 [.slice (some ⟨a, 0, none⟩) m m, .slice (some ⟨b, 0, none⟩) m m, .slice none 0 0, .int .i64 (-1), .bool false]
  have e1 : (w.alloc (.cells (Z.flatMap bv).toArray 88)).heap.size = w.heap.size + 1 := by simp
  have e2 : ((w.alloc (.cells (Z.flatMap bv).toArray 88)).alloc (.cells (Z.flatMap bv).toArray 88)).heap.size = w.heap.size + 2 := by simp
  rw [e1] at r2
  rw [e2] at r3
  have hB : ∀ g, (g = w.heap.size ∨ g = w.heap.size + 1) → BlocksAt (((w.alloc (.cells (Z.flatMap bv).toArray 88)).alloc (.cells (Z.flatMap bv).toArray 88)).alloc (.cells #[.slice (some ⟨a, 0, none⟩) m m, .slice (some ⟨b, 0, none⟩) m m, .slice none 0 0, .int .i64 (-1), .bool false] 70)) g m Z := by
    rintro g (rfl | rfl)
    · exact ⟨[], by rw [List.append_nil]; exact r1, by omega, by unfold maxLen; omega⟩
    · exact ⟨[], by rw [List.append_nil]; exact r2, by omega, by unfold maxLen; omega⟩
  refine ⟨a, b, m, m, none, 0, ⟨hok, ?_, ?_, ?_, .inl ⟨rfl, rfl, by rw [hdn]⟩, by omega, by omega, by omega, by omega, by omega, by omega⟩, fun _ h => by cases h⟩
  · rw [hdn]
    unfold HeadAt
    simp only [hlen]
    exact r3
  · rw [hdn]; exact hB a (by omega)
  · rw [hdn]; exact hB b (by omega)
theorem diskAtL_drew {w : World} {S L : Nat → Prop} {p : Nat} {d : Dk.D} (h : DiskAtL w S L p d) : DiskAtL w.drew S L p d := by
  obtain ⟨_, _, _, _, _, _, h, hl⟩ := h
  have ho : Only (fun _ => False) w w.drew := (Only.refl _ w).drew
  exact ⟨_, _, _, _, _, _, diskIn_only h ho (fun h => h) (fun h => h) (fun h => h) (fun _ _ h => h), hl⟩
/-- what New answers -/
def NewPostL (n : Int) (w : World) (e : Ending) (w' : World) : Prop :=
  (¬ (1 ≤ n ∧ n ≤ 4096) ∧ e = .returned (.tuple #[.pointer none, .int .i64 2]) ∧ w' = w) ∨
  (1 ≤ n ∧ n ≤ 4096 ∧ ∃ p, e = .returned (.tuple #[.pointer (some ⟨p, 0, none⟩), .int .i64 0]) ∧ DiskAtL w' (fun k => w.heap.size ≤ k) (fun k => w.heap.size ≤ k) p (Dk.new n.toNat) ∧ Below w.heap.size w w')
set_option maxRecDepth 100000 in
set_option maxHeartbeats 800000 in
theorem newL_any (n : Int) (w : World) : Calls Try.prog 9 #[.int .i64 n] w fun e w' => NewPostL n w e w' := by
  by_cases h1 : n < 1
  · go_enter Try.func9, Try.ntmps9
    go_wp2_with fail
    go_ret2
    exact .inl ⟨by omega, rfl, rfl⟩
  · by_cases h2 : 4096 < n
    · go_enter Try.func9, Try.ntmps9
      go_wp2_with fail
      go_ret2
      exact .inl ⟨by omega, rfl, rfl⟩
    · obtain ⟨m, rfl⟩ : ∃ m : Nat, n = (m : Int) := ⟨n.toNat, by omega⟩
      have hmk := fun w0 => run_make_blocks w0 m (by omega) (by omega)
      have hok := Dk.new_ok m (by omega) (by omega)
      have hlen : (List.replicate m Dk.zeros).length = m := List.length_replicate
      have hdn : Dk.new m = ⟨List.replicate m Dk.zeros, [], -1, false⟩ := rfl
      generalize List.replicate m Dk.zeros = Z at *
      have HZ := Lib.hid (And.intro hok (And.intro hlen hdn))
      clear hok hlen hdn
      generalize hX : (Z.flatMap bv).toArray = X at *
      have HX := Lib.hid hX
      clear hX
      go_enter Try.func9, Try.ntmps9
      go_wp2_with fail
      go_region
      all_goals go_wp2_with fail
      all_goals go_ret2
      · refine .inr ⟨by omega, by omega, w.heap.size + 2, rfl, ?_, ?_⟩
        · have h := new_disk w m w.heap.size (w.heap.size + 1) Z HZ.out.1 HZ.out.2.1 HZ.out.2.2 (.inl ⟨rfl, rfl⟩)
          rw [HX.out] at h
          rw [show ((m : Int)).toNat = m from by omega]
          exact diskAtL_drew h
        · exact (((Below.refl _ w).alloc (Nat.le_refl _) _).alloc (by simp) _).alloc (by simp; omega) _ |>.drew
      · refine .inr ⟨by omega, by omega, w.heap.size + 2, rfl, ?_, ?_⟩
        · have h := new_disk w m (w.heap.size + 1) w.heap.size Z HZ.out.1 HZ.out.2.1 HZ.out.2.2 (.inr ⟨rfl, rfl⟩)
          rw [HX.out] at h
          rw [show ((m : Int)).toNat = m from by omega]
          exact diskAtL_drew h
        · exact (((Below.refl _ w).alloc (Nat.le_refl _) _).alloc (by simp) _).alloc (by simp; omega) _ |>.drew
def NewPost (n : Int) (w : World) (e : Ending) (w' : World) : Prop :=
  (¬ (1 ≤ n ∧ n ≤ 4096) ∧ e = .returned (.tuple #[.pointer none, .int .i64 2]) ∧ w' = w) ∨
  (1 ≤ n ∧ n ≤ 4096 ∧ ∃ p, e = .returned (.tuple #[.pointer (some ⟨p, 0, none⟩), .int .i64 0]) ∧ DiskAt w' (fun k => w.heap.size ≤ k) p (Dk.new n.toNat) ∧ Below w.heap.size w w')
theorem new_any (n : Int) (w : World) : Calls Try.prog 9 #[.int .i64 n] w fun e w' => NewPost n w e w' := by
  refine (newL_any n w).mono fun e w' h => ?_
  rcases h with h | ⟨h1, h2, p, h3, ⟨_, _, _, _, _, _, h4, _⟩, h5⟩
  · exact .inl h
  · exact .inr ⟨h1, h2, p, h3, ⟨_, _, _, _, _, _, h4⟩, h5⟩
end Go.Proofs.Ytednmncapfclfaa
