/-
  Texts of the layers, part 1: Base, RowV, Only, Rft, OctMath, OctMath2, OctMath3, CrcMath, SealMath, LabelMath, ValMath, LexMath, LexMath2.
-/
import Derived.WalkKit
import Derived.WalkSpells
import Derived.WalkLawsBesides
import Derived.Deep.Draws
import Derived.Deep.QuietTactic
import Derived.BigQuiet
import Derived.OpenShut
import Derived.Lib.Hide
import Derived.Below
import Derived.Deep.WholeRow
import Derived.Laws.CopyOwn
import Derived.RangeFuncNested
import Derived.RangeFuncBound
import Derived.RangeFuncCalls
import Derived.RangeFuncLeaves
import Derived.PlainAid
import Derived.Laws.BitsAllLaws
import Derived.Laws.BitsLemmas
import Derived.WideShapes
import Derived.Lib.ItoaNum
import Derived.Lib.Bytealg
/-
  Small words that every layer uses: ends of a walk, strings unlike, slices that read as strings, blocks above.
-/
namespace Go.Proofs.YtmkllibfblacfaaDoor
open Go.RowKit

theorem ret_int {k : IntKind} {a b : Int} (h : a = b) : Ending.returned (.int k a) = .returned (.int k b) := by rw [h]
theorem ret_str {a b : ByteArray} (h : a = b) : Ending.returned (.string a) = .returned (.string b) := by rw [h]
theorem str_ne (A : ByteArray) (h : 0 < A.size) : ¬ A.toList = [] ∧ (!A.toList.isEmpty) = true := by
  have h1 : ¬ A.toList = [] := by
    rw [ByteArray.toList_eq]; intro h2
    have := congrArg List.length h2
    have e : A.data.size = A.size := rfl
    rw [Array.length_toList, List.length_nil] at this; omega
  refine ⟨h1, ?_⟩
  cases hA : A.toList with
  | nil => exact absurd hA h1
  | cons a l => rfl
theorem str_neq {A B : ByteArray} (h : A ≠ B) : ¬ A.toList = B.toList := by
  rw [ByteArray.toList_eq, ByteArray.toList_eq]; exact fun h2 => h (Go.WideShapes.bytes_inj h2)
theorem str_beq {A B : ByteArray} (h : ¬ A.toList = B.toList) : (A.toList == B.toList) = false := by simpa using h
theorem below_two {w w1 w2 : World} (h1 : Below w.heap.size w w1) (h2 : Below w1.heap.size w1 w2) : Below w.heap.size w w2 := h1.trans (h2.mono h1.size)
/-- the slice at a reads as the strings l -/
def ReadsS (w : World) (a : Option Addr) (l : List ByteArray) : Prop := ∀ i (h : i < l.length), ∃ b off, a = some ⟨b, off, none⟩ ∧ w.cell? ⟨b, off + i, none⟩ = some (.string (l[i]))
theorem readsS_none (w : World) (a : Option Addr) : ReadsS w a [] := by intro i hi; simp at hi
theorem readsS_open {w : World} {a : Addr} {len cap : Nat} {ss : List ByteArray} (hl : len ≤ cap) (hm : cap ≤ maxLen) (hz : ss.length = cap)
    (hcell : ∀ i, i < ss.length → w.cell? (a.add i) = some (.string (ss.getD i ByteArray.empty))) (hws : ∀ s ∈ ss, s.size ≤ maxLen) :
    ∃ l : List ByteArray, l.length = len ∧ l.length ≤ maxLen ∧ (∀ x ∈ l, x.size ≤ maxLen) ∧ ReadsS w (some a) l := by
  refine ⟨ss.take len, by rw [List.length_take]; omega, by rw [List.length_take]; omega, fun x hx => hws x (List.mem_of_mem_take hx), ?_⟩
  intro i hi
  have hi2 : i < ss.length := by rw [List.length_take] at hi; omega
  obtain ⟨b, off, spot⟩ := a
  have hc := hcell i hi2
  have hs : spot = none := by
    have h0 := hcell 0 (by omega)
    simpa [Addr.add] using World.cell?_spot h0
  subst hs
  refine ⟨b, off, rfl, ?_⟩
  have e : (⟨b, off, none⟩ : Addr).add i = ⟨b, off + i, none⟩ := by unfold Addr.add; split <;> simp_all
  rw [e] at hc
  rw [hc, List.getElem_take]
  simp [List.getD, List.getElem?_eq_getElem hi2]
theorem readsS_below {w w' : World} {a : Option Addr} {l : List ByteArray} (h : ReadsS w a l) (hb : Below w.heap.size w w') : ReadsS w' a l := by
  intro i hi
  obtain ⟨b, off, h1, h2⟩ := h i hi
  exact ⟨b, off, h1, by rw [hb.cell (World.block_lt_of_cell? w _ h2)]; exact h2⟩
end Go.Proofs.YtmkllibfblacfaaDoor

/-
  Rows of cells that a call makes and writes (arrays, structs): what a block holds, as a list; words and bytes as cells; an array laid cell by cell.
-/
namespace Go.Proofs.YtmkllibfblacfaaDoor
open Go.RowKit

theorem run_index_arr {P : Program} (w : World) (t e : TypeId) (n : Nat) (cs : Array Value) (k : IntKind) (i : Nat) (v : Value) (hu : P.underlying t = some (.array n e)) (he : P.underlying e = some (.int .u32)) (hs : (P.info? e).map (·.size) = some 1) (hi : i < n) (hv : cs[i]? = some v) :
    (Instr.index t (.agg cs) (.int k (i : Int))).run P w = .ok v w := by
  obtain ⟨i0, hi0, hz⟩ := Option.map_eq_some_iff.1 hs
  have hi3 : 0 ≤ (i : Int) := by omega
  simp [Instr.index, run_underlying hu, asIntOf, hi3, go_sem, sizeOf, typeInfo, hi0, hz, part, isAgg, run_underlying he, hv]
  intro h; omega
/-- words as cells -/
def vals (l : List Nat) : List Value := l.map fun x : Nat => Value.int .u32 (x : Int)
theorem vals_len (l : List Nat) : (vals l).length = l.length := by simp [vals]
theorem vals_at (l : List Nat) (i : Nat) (h : i < l.length) : (vals l)[i]? = some (.int .u32 (l.getD i 0 : Int)) := by
  simp [vals, List.getElem?_eq_getElem h, List.getD]
/-- block g holds just the cells l (type T) -/
def RowV (w : World) (g T : Nat) (l : List Value) : Prop := w.heap[g]? = some (.cells l.toArray T)
theorem rowV_cell {w : World} {g T : Nat} {l : List Value} (h : RowV w g T l) (i : Nat) : w.cell? ⟨g, i, none⟩ = l[i]? := by
  rw [cell_of_row w g i l.toArray T (0, 0) h, List.getElem?_toArray]
theorem rowV_frozen {w : World} {g T : Nat} {l : List Value} (h : RowV w g T l) (i : Nat) : w.frozen? ⟨g, i, none⟩ = false := by
  have h : w.heap[g]? = some (.cells l.toArray T) := h
  simp [World.frozen?, h]
theorem rowV_lt {w : World} {g T : Nat} {l : List Value} (h : RowV w g T l) : g < w.heap.size := (Array.getElem?_eq_some_iff.1 h).1
theorem rowV_stored {w : World} {g T : Nat} {l : List Value} (h : RowV w g T l) (i : Nat) (v : Value) : RowV (w.setCell ⟨g, i, none⟩ v) g T (l.set i v) := by
  unfold RowV at h ⊢
  rw [setCell_eq_setRow w g i l.toArray T _ _ h, setRow_heap w g l.toArray _ T _ h]
  simp
theorem rowV_below {w w' : World} {g T B : Nat} {l : List Value} (h : RowV w g T l) (hb : Below B w w') (hg : g < B) : RowV w' g T l := (hb.block g hg).trans h
theorem rowV_new (w : World) (T : Nat) (l : List Value) : RowV (w.alloc (.cells l.toArray T)) w.heap.size T l := heap_alloc_new w _
theorem rowV_alloc {w : World} {g T : Nat} {l : List Value} (h : RowV w g T l) (o : Obj) : RowV (w.alloc o) g T l := by
  have := rowV_lt h
  exact (Below.heap_alloc w o g this).trans h
theorem rowV_far {w : World} {g T g' i : Nat} {l : List Value} (h : RowV w g T l) (hg : g ≠ g') (v : Value) : RowV (w.setCell ⟨g', i, none⟩ v) g T l := (Below.heap_setCell w ⟨g', i, none⟩ v g hg).trans h
theorem rowV_row {w : World} {g T : Nat} {l : List Value} (h : RowV w g T l) (l' : List Value) : RowV (w.setRow g l'.toArray) g T l' := setRow_heap w g l.toArray l'.toArray T _ h
theorem rowV_rowFar {w : World} {g T g' : Nat} {l : List Value} (h : RowV w g T l) (hg : g ≠ g') (c : Array Value) : RowV (w.setRow g' c) g T l := by
  unfold RowV at h ⊢
  rw [← h]
  simp only [World.setRow, Array.getElem?_modify]
  rw [if_neg (by omega)]
theorem vals_set (l : List Nat) (i x : Nat) : (vals l).set i (.int .u32 (x : Int)) = vals (l.set i x) := by simp [vals, List.map_set]
theorem vals_arr (l : List Nat) (i : Nat) (h : i < l.length) : (vals l).toArray[i]? = some (.int .u32 (l.getD i 0 : Int)) := by
  rw [List.getElem?_toArray]; exact vals_at l i h
theorem vals_size (L : List Nat) (n : Nat) (h : L.length = n) : (vals L).toArray.size = n := by rw [List.size_toArray, vals_len, h]
theorem vals_one (L : List Nat) : (vals L).toArray.all (·.oneCell') = true := by
  rw [Array.all_eq_true_iff_forall_mem]
  intro x hx
  rw [List.mem_toArray] at hx
  obtain ⟨y, _, rfl⟩ := List.mem_map.1 hx; rfl
theorem eight_one (a b c d e f g h : Int) : (#[.int .u32 a, .int .u32 b, .int .u32 c, .int .u32 d, .int .u32 e, .int .u32 f, .int .u32 g, .int .u32 h] : Array Value).all (·.oneCell') = true := by
  rw [Array.all_eq_true_iff_forall_mem]
  intro x hx
  simp at hx
  rcases hx with rfl | rfl | rfl | rfl | rfl | rfl | rfl | rfl <;> rfl
theorem setRow_far (w : World) (g i : Nat) (c : Array Value) (h : i ≠ g) : (w.setRow g c).heap[i]? = w.heap[i]? := by
  simp only [World.setRow, Array.getElem?_modify]
  rw [if_neg (by omega)]
/-- bytes as cells -/
def valB (l : List UInt8) : List Value := l.map fun b => Value.int .u8 (b.toNat : Int)
theorem getD_take (l : List Nat) (n i : Nat) (h : i < n) : (l.take n).getD i 0 = l.getD i 0 := by
  rw [List.getD_eq_getElem?_getD, List.getD_eq_getElem?_getD, List.getElem?_take, if_pos h]
/-- n cells of which the first k are laid -/
def lay (n : Nat) (L : List Nat) (k : Nat) : List Nat := L.take k ++ List.replicate (n - k) 0
theorem lay_len (n : Nat) (L : List Nat) (k : Nat) (hL : L.length = n) (hk : k ≤ n) : (lay n L k).length = n := by
  unfold lay; rw [List.length_append, List.length_take, List.length_replicate]; omega
theorem lay_end (n : Nat) (L : List Nat) (hL : L.length = n) : lay n L n = L := by unfold lay; rw [List.take_of_length_le (by omega)]; simp
theorem lay_low (n : Nat) (L : List Nat) (k i : Nat) (hL : L.length = n) (hk : k ≤ n) (hi : i < k) : (lay n L k).getD i 0 = L.getD i 0 := by
  unfold lay
  rw [List.getD_eq_getElem?_getD, List.getElem?_append_left (by rw [List.length_take]; omega), ← List.getD_eq_getElem?_getD, getD_take _ _ _ hi]
theorem lay_succ (n : Nat) (L : List Nat) (k : Nat) (hL : L.length = n) (hk : k < n) : (vals (lay n L k)).set k (.int .u32 (L.getD k 0 : Int)) = vals (lay n L (k + 1)) := by
  have hk2 : k < L.length := by omega
  have e : L[k] = L.getD k 0 := by rw [List.getD_eq_getElem?_getD, List.getElem?_eq_getElem hk2]; rfl
  rw [vals_set]
  congr 1
  unfold lay
  rw [List.set_append_right _ _ (by rw [List.length_take]; omega), List.length_take, show k - min k L.length = 0 by omega, List.take_succ_eq_append_getElem hk2, e, List.append_assoc,
    show n - k = (n - (k + 1)) + 1 by omega, List.replicate_succ, List.set_cons_zero]
  rfl
end Go.Proofs.YtmkllibfblacfaaDoor

/-
  What a call may have turned, said by a set of blocks ('Only F w w''): for calls that write into objects that were there before them. Objects whose blocks are apart go their own ways.
-/
namespace Go.Proofs.YtmkllibfblacfaaDoor
open Go.RowKit

/-- of the blocks that were there only those of F may have turned; the streams are as they were -/
structure Only (F : Nat → Prop) (w w' : World) : Prop where
  os : w'.os = w.os
  tape : w'.tape = w.tape
  output : w'.output = w.output
  size : w.heap.size ≤ w'.heap.size
  block : ∀ k, k < w.heap.size → ¬ F k → w'.heap[k]? = w.heap[k]?
namespace Only
theorem refl (F : Nat → Prop) (w : World) : Only F w w := ⟨rfl, rfl, rfl, Nat.le_refl _, fun _ _ _ => rfl⟩
theorem mono {F G : Nat → Prop} {w w' : World} (h : Only F w w') (hs : ∀ k, k < w.heap.size → F k → G k) : Only G w w' := ⟨h.os, h.tape, h.output, h.size, fun k hk hn => h.block k hk fun hf => hn (hs k hk hf)⟩
theorem trans {F G : Nat → Prop} {a b c : World} (h : Only F a b) (k : Only G b c) (hs : ∀ i, i < a.heap.size → G i → F i) : Only F a c :=
  ⟨k.os.trans h.os, k.tape.trans h.tape, k.output.trans h.output, Nat.le_trans h.size k.size, fun i hi hn => (k.block i (Nat.lt_of_lt_of_le hi h.size) fun hg => hn (hs i hi hg)).trans (h.block i hi hn)⟩
/-- the same set again -/
theorem more {F : Nat → Prop} {a b c : World} (h : Only F a b) (k : Only F b c) : Only F a c := h.trans k fun _ _ x => x
theorem of_below {B : Nat} {w w' : World} (h : Below B w w') : Only (fun k => B ≤ k) w w' := ⟨h.os, h.tape, h.output, h.size, fun k _ hn => h.block k (by omega)⟩
/-- nothing that was there has turned -/
theorem of_none {F : Nat → Prop} {w w' : World} (h : Below w.heap.size w w') : Only F w w' := (of_below h).mono fun k hk hf => by omega
theorem below {F : Nat → Prop} {B : Nat} {w w' : World} (h : Only F w w') (hF : ∀ k, k < w.heap.size → F k → B ≤ k) (hB : B ≤ w.heap.size) : Below B w w' :=
  ⟨h.os, h.tape, h.output, h.size, fun k hk => h.block k (by omega) fun hf => by have := hF k (by omega) hf; omega⟩
theorem drewN {F : Nat → Prop} {a w : World} (h : Only F a w) (n : Nat) : Only F a (w.drewN n) := ⟨h.os, h.tape, h.output, h.size, h.block⟩
theorem drew {F : Nat → Prop} {a w : World} (h : Only F a w) : Only F a w.drew := ⟨h.os, h.tape, h.output, h.size, h.block⟩
theorem alloc {F : Nat → Prop} {a w : World} (h : Only F a w) (o : Obj) : Only F a (w.alloc o) :=
  h.trans (of_none (F := F) ((Below.refl _ w).alloc (Nat.le_refl _) o)) fun _ _ x => x
theorem setCell {F : Nat → Prop} {a w : World} (h : Only F a w) {g i : Nat} (hg : g < a.heap.size → F g) (v : Value) : Only F a (w.setCell ⟨g, i, none⟩ v) :=
  h.trans (G := fun k => k = g) ⟨rfl, rfl, rfl, by simp [World.setCell], fun k _ hk => Below.heap_setCell _ _ _ _ hk⟩ fun k hk e => by subst e; exact hg hk
theorem setRow {F : Nat → Prop} {a w : World} (h : Only F a w) {g : Nat} (hg : g < a.heap.size → F g) (c : Array Value) : Only F a (w.setRow g c) :=
  h.trans (G := fun k => k = g) ⟨rfl, rfl, rfl, by simp [World.setRow], fun k _ hk => setRow_far w g k c hk⟩ fun k hk e => by subst e; exact hg hk
/-- behind an append or a make -/
theorem grown {F : Nat → Prop} {a w w' : World} {row : Option Nat} (h : Only F a w) (hg : w.grownBy w' row) (hr : ∀ k, k < a.heap.size → row = some k → F k) : Only F a w' :=
  h.trans (G := fun k => row = some k) ⟨hg.os, hg.tape, hg.output, hg.size, fun k hk hn => hg.block k hk fun e => hn e.symm⟩ hr
theorem cell {F : Nat → Prop} {w w' : World} (h : Only F w w') {p : Addr} (hp : p.block < w.heap.size) (hn : ¬ F p.block) : w'.cell? p = w.cell? p := World.cell?_of_block (w := w) (h.block p.block hp hn)
theorem frozen {F : Nat → Prop} {w w' : World} (h : Only F w w') {p : Addr} (hp : p.block < w.heap.size) (hn : ¬ F p.block) : w'.frozen? p = w.frozen? p := World.frozen?_of_block (w := w) (h.block p.block hp hn)
end Only
theorem rowV_only {F : Nat → Prop} {w w' : World} {g T : Nat} {l : List Value} (h : RowV w g T l) (ho : Only F w w') (hn : ¬ F g) : RowV w' g T l := (ho.block g (rowV_lt h) hn).trans h
/-- a row that the call owns stays, if its block is not of F -/
theorem ownsRow_only {F : Nat → Prop} {w w' : World} {B E size n : Nat} {v : Value} {xs : List Value} (h : w.ownsRow B E size v n xs) (ho : Only F w w') (hn : ∀ k, v.ownBlock = some k → ¬ F k) : w'.ownsRow B E size v n xs := by
  refine ⟨h.1, ?_⟩
  rcases h.2 with hv | ⟨g, cap, cur, rfl, hg, hh, r⟩
  · exact .inl hv
  · exact .inr ⟨g, cap, cur, rfl, hg, by rw [ho.block g (Array.getElem?_eq_some_iff.1 hh).1 (hn g rfl)]; exact hh, r⟩
theorem readsS_only {F : Nat → Prop} {w w' : World} {a : Option Addr} {l : List ByteArray} (h : ReadsS w a l) (ho : Only F w w') (hn : ∀ b, a = some b → ¬ F b.block) : ReadsS w' a l := by
  intro i hi
  obtain ⟨b, off, h1, h2⟩ := h i hi
  exact ⟨b, off, h1, (ho.cell (World.block_lt_of_cell? w _ h2) (show ¬ F b from hn _ h1)).trans h2⟩
end Go.Proofs.YtmkllibfblacfaaDoor

/-
  A range over a function that keeps state of its own in cells (of one type, in blocks that it made): the law for the loop, at the wide fence; a round goes on, or returns.
-/
namespace Go.Proofs.YtmkllibfblacfaaDoor
open Go.RowKit
/-- J stands through what an iterator does by itself: it makes blocks, and turns cells of type T, from block B on -/
def Surv (B T : Nat) (J : World → Prop) : Prop := ∀ A A' row, J A → A.grownBy A' row → (∀ r, row = some r → B ≤ r ∧ ∃ cs fz, A.heap[r]? = some (.cells cs T fz)) → J A'
/-- .. and through the loop's own book-keeping: what is no cells, from block B on -/
def SurvR (B T : Nat) (J : World → Prop) : Prop := ∀ A A' row, J A → A.grownBy A' row → (∀ r, row = some r → B ≤ r ∧ ∃ o : Obj, A.heap[r]? = some o ∧ (o.isCells = false ∨ ∃ cs fz, o = .cells cs T fz)) → J A'
theorem SurvR.surv {B B' T : Nat} {J : World → Prop} (h : SurvR B T J) (hB : B ≤ B') : Surv B' T J := fun A A' row hJ hg hr =>
  h A A' row hJ hg fun r e => by
    obtain ⟨h1, cs, fz, h2⟩ := hr r e
    exact ⟨by omega, _, h2, .inr ⟨cs, fz, rfl⟩⟩
theorem SurvR.mono {B B' T : Nat} {J : World → Prop} (h : SurvR B T J) (hB : B ≤ B') : SurvR B' T J := fun A A' row hJ hg hr =>
  h A A' row hJ hg fun r e => by
    obtain ⟨h1, h2⟩ := hr r e
    exact ⟨by omega, h2⟩
theorem SurvR.put {B T : Nat} {J : World → Prop} (h : SurvR B T J) {A : World} {l : Nat} {o o' : Obj} (hJ : J A) (hl : B ≤ l) (ho : A.heap[l]? = some o) (hc : o.isCells = false) : J (A.putObj l o') :=
  h A _ (some l) hJ (grownBy_putObj' A l o') fun r e => by cases e; exact ⟨hl, o, ho, .inl hc⟩
theorem SurvR.new {B T : Nat} {J : World → Prop} (h : SurvR B T J) {A : World} (hJ : J A) (o : Obj) : J (A.alloc o) := h A _ none hJ (World.grownBy_alloc A o none) fun r e => by cases e
/-- what hands out values, one by one, to whatever round that keeps Kp -/
def Hands {α : Type} (n : Nat) (P : Program) (g : Nat) (lb : Array Value) (encs : α → Array Value) (Kp : World → World → Prop) (S Sp : List α → Prop) (N T : Nat) (w : World) : Prop :=
  ∀ (l : Nat) (J Jx : List α → World → Prop) (W : World), Below w.heap.size w W → w.heap.size + 2 ≤ W.heap.size → (∀ s, SurvR W.heap.size T (J s)) → (∀ s, SurvR W.heap.size T (Jx s)) →
    (∀ pre x W1, J pre W1 → pre.length < N → YieldAt Fence.wide (n - 1) P l (encs x) W1 fun e W' => (e = .returned (.bool true) ∧ J (pre ++ [x]) W' ∧ Kp W1 W') ∨ (e = .returned (.bool false) ∧ Jx (pre ++ [x]) W' ∧ Kp W1 W')) →
    J [] W → CallsIn Fence.wide n P g (#[.func (.yield l) #[] #[]] ++ lb) W fun e W' => (∃ v, e = .returned v) ∧ ((∃ xs, S xs ∧ J xs W') ∨ (∃ pre, Sp pre ∧ Jx pre W'))
/-- the loop's two blocks lie as they lay -/
def Rec2 (B : Nat) (W W' : World) : Prop := W'.heap[B]? = W.heap[B]? ∧ W'.heap[B + 1]? = W.heap[B + 1]?
/-- how a round may end -/
def RndPost {α : Type} (B : Nat) (Kp : World → World → Prop) (I Ix : List α → World → Prop) (xs : List α) (W : World) : Exit → Act → World → Prop
  | .normal, _, W' => Rec2 B W W' ∧ Kp W W' ∧ I xs W'
  | .ret, _, W' => Rec2 B W W' ∧ Kp W W' ∧ Ix xs W'
  | _, _, _ => False
theorem putObj_only (W : World) (l : Nat) (o : Obj) : Only (fun k => k = l) W (W.putObj l o) := by
  have hg := grownBy_putObj' W l o
  exact ⟨hg.os, hg.tape, hg.output, hg.size, fun k hk hn => hg.block k hk fun e => hn (by cases e; rfl)⟩
/-- the loop's two blocks are no cells -/
def NC2 (B : Nat) (W : World) : Prop := (∃ o : Obj, W.heap[B]? = some o ∧ o.isCells = false) ∧ (∃ o : Obj, W.heap[B + 1]? = some o ∧ o.isCells = false)
theorem wpIn_handsR {α : Type} {P : Program} {n : Nat} {g : Operand} {ps : Array Tmp} {assign body : Code} {Q : Exit → Act → World → Prop} {a : Act} {w : World} {gf : Nat} {lb : Array Value} (hg : a.eval g = .func (.func gf) #[] lb) (eg : ∀ args w, (callFunc gf args).run P w = .ok (.enter gf args) w)
    {encs : α → Array Value} {Kp : World → World → Prop} {S Sp : List α → Prop} {N T : Nat} {w0 : World} (hs : Hands (n - 1) P gf lb encs Kp S Sp N T w0) (hb0 : Below w0.heap.size w0 w) (hps : ∀ x, (encs x).size = ps.size)
    (hKt : ∀ {A B C : World}, Kp A B → Kp B C → Kp A C) (hKb : ∀ (W : World) (o o' : Obj), W.heap[w.heap.size + 1]? = some o → o.isCells = false → Kp W (W.putObj (w.heap.size + 1) o'))
    (I Ix : List α → World → Prop) (hI : ∀ s, SurvR w.heap.size T (I s)) (hIx : ∀ s, SurvR w.heap.size T (Ix s)) (h0 : I [] w)
    (round : ∀ pre x W, I pre W → pre.length < N → w.heap.size + 2 ≤ W.heap.size → NC2 w.heap.size W → assign.wpIn (Fence.wide.inRound (w.heap.size + 1)) (n - 1 - 1) P
      (Exit.then (fun a1 W1 => Rec2 w.heap.size W W1 ∧ Kp W W1 ∧ ∀ W2, Only (fun k => k = w.heap.size + 1) W1 W2 → (∀ pre, I pre W1 → I pre W2) → NC2 w.heap.size W2 → body.wpIn (Fence.wide.inRound (w.heap.size + 1)) (n - 1 - 1) P (RndPost w.heap.size Kp I Ix (pre ++ [x]) W2) a1 W2) (fun _ _ _ => False))
      { tmps := (ps.zip (encs x)).foldl (fun t (p, v) => t.setIfInBounds p v) a.tmps, defers := [] } W)
    (hdone : ∀ (xs : List α) (W : World), S xs → I xs W → W.heap[w.heap.size]? = some (.deferred (some [])) → Q .normal { a with defers := { target := .collected w.heap.size, args := #[] } :: a.defers } W)
    (hstop : ∀ (pre : List α) (W : World), Sp pre → Ix pre W → W.heap[w.heap.size]? = some (.deferred (some [])) → Code.ret.wpIn Fence.wide n P Q { a with defers := { target := .collected w.heap.size, args := #[] } :: a.defers } W) :
    (Code.rangeFunc g ps assign body).wpIn Fence.wide n P Q a w := by
  generalize hB : w.heap.size = B at *
  refine wpIn_rangeFunc fun fn hfn => ?_
  let mk : LoopState → Option Code → Obj := fun st pe => .loop { state := st, pending := pe, fn := fn, tmps := a.tmps, params := ps, assign := assign, body := body, defers := B }
  obtain ⟨W1, hW1⟩ : ∃ W1, W1 = (w.alloc (.deferred (some []))).alloc (mk .ready none) := ⟨_, rfl⟩
  have e1 := World.alloc_heap_new (w.alloc (.deferred (some []))) (mk .ready none)
  have e0 := (Below.heap_alloc (w.alloc (.deferred (some []))) (mk .ready none) w.heap.size (by simp)).trans (World.alloc_heap_new w (.deferred (some [])))
  rw [World.size_alloc, hB, ← hW1] at e1
  rw [hB, ← hW1] at e0
  have hI1 : I [] W1 := by rw [hW1]; exact (hI []).new ((hI []).new h0 _) _
  have hsz : W1.heap.size = B + 2 := by rw [hW1, World.size_alloc, World.size_alloc, hB]
  have hb1 : Below w0.heap.size w0 W1 := by rw [hW1]; exact (hb0.alloc hb0.size _).alloc (by rw [World.size_alloc]; have := hb0.size; omega) _
  refine ⟨B + 1, [{ target := .collected B, args := #[] }], W1, { target := .fn (.func gf) lb, args := #[.func (.yield (B + 1)) #[] #[]] }, W1, gf, #[.func (.yield (B + 1)) #[] #[]] ++ lb, W1, ?_, ?_, fun f' _ => trivial, ?_, fun h => (by cases h), ?_⟩
  · have := run_enterLoop_outer (P := P) (w := w) fn a.tmps ps assign body
    rw [hB] at this
    rw [hW1]; exact this
  · simp only [resolve, hg]; simp [go_sem]
  · simp [invoke, go_sem, eg]
  · -- the record and the block for deferred calls stand through what the iterator does
    have hrec : ∀ {st pe} {A A' : World} {row : Option Nat}, A.grownBy A' row → (∀ r, row = some r → W1.heap.size ≤ r) → (A.heap[B + 1]? = some (mk st pe) ∧ A.heap[B]? = some (.deferred (some []))) → (A'.heap[B + 1]? = some (mk st pe) ∧ A'.heap[B]? = some (.deferred (some []))) := fun {st pe A A' row} hgr hr h =>
      ⟨(hgr.block _ (Array.getElem?_eq_some_iff.1 h.1).1 fun e => by have := hr _ e.symm; omega).trans h.1, (hgr.block _ (Array.getElem?_eq_some_iff.1 h.2).1 fun e => by have := hr _ e.symm; omega).trans h.2⟩
    have hend : ∀ {W3 : World} {st pe}, W3.heap[B + 1]? = some (mk st pe) → st ≠ .busy → (Instr.endLoop (B + 1)).run P W3 = .ok pe (W3.putObj (B + 1) (mk .exhausted pe)) := fun h hb => run_endLoop h hb
    refine (hs (B + 1) (fun pre W => I pre W ∧ W.heap[B + 1]? = some (mk .ready none) ∧ W.heap[B]? = some (.deferred (some []))) (fun pre W => Ix pre W ∧ W.heap[B + 1]? = some (mk .done (some .ret)) ∧ W.heap[B]? = some (.deferred (some []))) W1 hb1 (by have := hb0.size; omega)
      (fun s A A' row h hgr hr => ⟨(hI s).mono (show B ≤ W1.heap.size by omega) A A' row h.1 hgr hr, hrec hgr (fun r e => (hr r e).1) h.2⟩) (fun s A A' row h hgr hr => ⟨(hIx s).mono (show B ≤ W1.heap.size by omega) A A' row h.1 hgr hr, hrec hgr (fun r e => (hr r e).1) h.2⟩) ?_ ⟨hI1, e1, e0⟩).mono ?_
    · rintro pre x W ⟨hi, hl, hk⟩ hlen
      have hy := run_yield (P := P) (args := encs x) hl (hps x)
      have hlt : B + 1 < W.heap.size := (Array.getElem?_eq_some_iff.1 hl).1
      refine ⟨fn, _, assign, body, hy, roundIn_of_wpIn hfn (Code.wpIn_mono ?_ (round pre x W hi hlen (by omega) ⟨⟨_, hk, rfl⟩, ⟨_, hl, rfl⟩⟩))⟩
      intro e a1 Wa hq
      cases e with
      | normal =>
        obtain ⟨hr1, hk1, hbody⟩ := hq
        have hla : Wa.heap[B + 1]? = some (mk .ready none) := hr1.2.trans hl
        have hka : Wa.heap[B]? = some (.deferred (some [])) := hr1.1.trans hk
        have hlta : B + 1 < Wa.heap.size := (Array.getElem?_eq_some_iff.1 hla).1
        have hl2 : (Wa.putObj (B + 1) (mk .busy none)).heap[B + 1]? = some (mk .busy none) := World.putObj_heap_same hlta
        have hk2 : (Wa.putObj (B + 1) (mk .busy none)).heap[B]? = some (.deferred (some [])) := (World.putObj_heap_other (by omega)).trans hka
        refine ⟨_, run_beginRound hla rfl, Code.wpIn_mono ?_ (hbody _ (putObj_only Wa (B + 1) _) (fun p hp => (hI p).put hp (by omega) hla rfl) ⟨⟨_, hk2, rfl⟩, ⟨_, hl2, rfl⟩⟩)⟩
        intro e a3 W3 hp
        cases e with
        | normal =>
          obtain ⟨h1, h2, h3⟩ := hp
          have hl3 := h1.2.trans hl2
          have hk3 := h1.1.trans hk2
          exact ⟨_, _, run_endRound none hl3, .inl ⟨rfl, ⟨(hI _).put h3 (by omega) hl3 rfl, World.putObj_heap_same (Array.getElem?_eq_some_iff.1 hl3).1, (World.putObj_heap_other (by omega)).trans hk3⟩, hKt hk1 (hKt (hKt (hKb _ _ _ hla rfl) h2) (hKb _ _ _ hl3 rfl))⟩⟩
        | ret =>
          obtain ⟨h1, h0, h2⟩ := hp
          have hl3 := h1.2.trans hl2
          have hk3 := h1.1.trans hk2
          exact ⟨_, _, run_endRound (some .ret) hl3, .inr ⟨rfl, ⟨(hIx _).put h2 (by omega) hl3 rfl, World.putObj_heap_same (Array.getElem?_eq_some_iff.1 hl3).1, (World.putObj_heap_other (by omega)).trans hk3⟩, hKt hk1 (hKt (hKt (hKb _ _ _ hla rfl) h0) (hKb _ _ _ hl3 rfl))⟩⟩
        | _ => exact hp.elim
      | _ => exact hq.elim
    · rintro e W3 ⟨⟨v, rfl⟩, (⟨xs, hS, hi, hl, hk⟩ | ⟨pre, hSp, hi, hl, hk⟩)⟩
      · exact ⟨none, _, hend hl (by decide), hdone xs _ hS ((hI _).put hi (by omega) hl rfl) ((World.putObj_heap_other (by omega)).trans hk)⟩
      · exact ⟨some .ret, _, hend hl (by decide), hstop pre _ hSp ((hIx _).put hi (by omega) hl rfl) ((World.putObj_heap_other (by omega)).trans hk)⟩
theorem wpIn_hands {α : Type} {P : Program} {n : Nat} {g : Operand} {ps : Array Tmp} {assign body : Code} {Q : Exit → Act → World → Prop} {a : Act} {w : World} {gf : Nat} {lb : Array Value} (hg : a.eval g = .func (.func gf) #[] lb) (eg : ∀ args w, (callFunc gf args).run P w = .ok (.enter gf args) w)
    {encs : α → Array Value} {Kp : World → World → Prop} {S Sp : List α → Prop} {N T : Nat} {w0 : World} (hs : Hands (n - 1) P gf lb encs Kp S Sp N T w0) (hb0 : Below w0.heap.size w0 w) (hps : ∀ x, (encs x).size = ps.size)
    (hKt : ∀ {A B C : World}, Kp A B → Kp B C → Kp A C) (hKb : ∀ (W : World) (o o' : Obj), W.heap[w.heap.size + 1]? = some o → o.isCells = false → Kp W (W.putObj (w.heap.size + 1) o'))
    (I Ix : List α → World → Prop) (hI : ∀ s, SurvR w.heap.size T (I s)) (hIx : ∀ s, SurvR w.heap.size T (Ix s)) (h0 : I [] w)
    (round : ∀ pre x W, I pre W → pre.length < N → w.heap.size + 2 ≤ W.heap.size → assign.wpIn (Fence.wide.inRound (w.heap.size + 1)) (n - 1 - 1) P
      (Exit.then (fun a1 W1 => Rec2 w.heap.size W W1 ∧ Kp W W1 ∧ ∀ W2, Only (fun k => k = w.heap.size + 1) W1 W2 → (∀ pre, I pre W1 → I pre W2) → body.wpIn (Fence.wide.inRound (w.heap.size + 1)) (n - 1 - 1) P (RndPost w.heap.size Kp I Ix (pre ++ [x]) W2) a1 W2) (fun _ _ _ => False))
      { tmps := (ps.zip (encs x)).foldl (fun t (p, v) => t.setIfInBounds p v) a.tmps, defers := [] } W)
    (hdone : ∀ (xs : List α) (W : World), S xs → I xs W → W.heap[w.heap.size]? = some (.deferred (some [])) → Q .normal { a with defers := { target := .collected w.heap.size, args := #[] } :: a.defers } W)
    (hstop : ∀ (pre : List α) (W : World), Sp pre → Ix pre W → W.heap[w.heap.size]? = some (.deferred (some [])) → Code.ret.wpIn Fence.wide n P Q { a with defers := { target := .collected w.heap.size, args := #[] } :: a.defers } W) :
    (Code.rangeFunc g ps assign body).wpIn Fence.wide n P Q a w :=
  wpIn_handsR hg eg hs hb0 hps hKt hKb I Ix hI hIx h0 (fun pre x W h1 h2 h3 _ => Code.wpIn_mono (fun e a1 W1 h => by
    cases e with
    | normal => exact ⟨h.1, h.2.1, fun W2 h4 h5 _ => h.2.2 W2 h4 h5⟩
    | _ => exact h) (round pre x W h1 h2 h3)) hdone hstop
end Go.Proofs.YtmkllibfblacfaaDoor

/-
  The plain mathematics of layer 1 (octet): numbers as digits to the base 128, lists of bytes; nothing of any program.
-/
namespace Go.Proofs.YtmkllibfblacfaaDoor.Oct

/-- a code's bytes -/
def num (c : Nat) : List UInt8 :=
  if c < 128 then [UInt8.ofNat c] else UInt8.ofNat (128 + c % 128) :: num (c / 128)
termination_by c
decreasing_by omega

/-- a number's code -/
def codeN (n : Int) : Nat := if n < 0 then (-2 * n - 1).toNat else (2 * n).toNat
/-- a code's number -/
def decN (c : Nat) : Int := if c % 2 = 1 then -1 - ((c / 2 : Nat) : Int) else ((c / 2 : Nat) : Int)

/-- what is taken off the front, from the byte number i on: the error, the code, what stands behind -/
def take (i : Nat) : List UInt8 → Nat × Nat × List UInt8
  | [] => (3, 0, [])
  | b :: r =>
    if (i = 9 ∧ 1 < b.toNat) ∨ (0 < i ∧ b.toNat = 0) then (4, 0, [])
    else if b.toNat < 128 then (0, b.toNat, r)
    else if (take (i + 1) r).1 = 0 then (0, b.toNat - 128 + 128 * (take (i + 1) r).2.1, (take (i + 1) r).2.2) else ((take (i + 1) r).1, 0, [])

theorem dec_code (n : Int) : decN (codeN n) = n := by
  unfold decN codeN; split <;> split <;> omega
theorem code_dec (c : Nat) : codeN (decN c) = c := by
  unfold decN codeN; split <;> split <;> omega
theorem code_lt (n : Int) (h0 : -9223372036854775808 ≤ n) (h1 : n ≤ 9223372036854775807) : codeN n < 18446744073709551616 := by
  unfold codeN; split <;> omega

theorem num_small (c : Nat) (h : c < 128) : num c = [UInt8.ofNat c] := by rw [num, if_pos h]
theorem num_great (c : Nat) (h : 128 ≤ c) : num c = UInt8.ofNat (128 + c % 128) :: num (c / 128) := by rw [num, if_neg (by omega)]
theorem num_ne (c : Nat) : num c ≠ [] := by
  rw [num]; split <;> simp

theorem num_len : ∀ (k c : Nat), c < 128 ^ k → 0 < k → (num c).length ≤ k
  | 0, _, _, h => by omega
  | k + 1, c, hc, _ => by
    by_cases h : c < 128
    · rw [num_small c h]; simp
    · rw [num_great c (by omega)]
      have hk : 0 < k := by
        rcases Nat.eq_zero_or_pos k with rfl | h'
        · simp at hc; omega
        · exact h'
      have : c / 128 < 128 ^ k := by rw [Nat.pow_succ] at hc; omega
      have := num_len k (c / 128) this hk
      simp; omega
theorem num_len10 (c : Nat) (h : c < 18446744073709551616) : (num c).length ≤ 10 := num_len 10 c (by omega) (by omega)

theorem toNat_ofNat (c : Nat) (h : c < 256) : (UInt8.ofNat c).toNat = c := by simp; omega

/-- what was written is read, with whatever stands behind -/
theorem take_num : ∀ (j i c : Nat) (l : List UInt8), i + j = 10 → 0 < j → c * 2 ^ (7 * i) < 18446744073709551616 → (0 < i → 0 < c) → take i (num c ++ l) = (0, c, l)
  | 0, _, _, _, _, h, _, _ => by omega
  | j + 1, i, c, l, hij, _, hc, hi => by
    by_cases h : c < 128
    · rw [num_small c h]
      simp only [List.cons_append, List.nil_append, take, toNat_ofNat c (by omega)]
      rw [if_neg, if_pos h]
      rintro (⟨rfl, h1⟩ | ⟨h1, h2⟩)
      · omega
      · have := hi h1; omega
    · rw [num_great c (by omega)]
      simp only [List.cons_append, take, toNat_ofNat (128 + c % 128) (by omega)]
      have h9 : i ≠ 9 := by rintro rfl; omega
      have hc' : c / 128 * 2 ^ (7 * (i + 1)) < 18446744073709551616 := by
        have e : 2 ^ (7 * (i + 1)) = 128 * 2 ^ (7 * i) := by rw [show 7 * (i + 1) = 7 + 7 * i from by omega, Nat.pow_add]
        rw [e, ← Nat.mul_assoc]
        have : c / 128 * 128 * 2 ^ (7 * i) ≤ c * 2 ^ (7 * i) := Nat.mul_le_mul_right _ (by omega)
        omega
      have ih := take_num j (i + 1) (c / 128) l (by omega) (by omega) hc' (fun _ => by omega)
      rw [if_neg (by omega), if_neg (by omega), ih]
      simp; omega

/-- a code's bytes are read back, whatever stands behind -/
theorem take_back (c : Nat) (l : List UInt8) (h : c < 18446744073709551616) : take 0 (num c ++ l) = (0, c, l) :=
  take_num 10 0 c l rfl (by omega) (by omega) (by omega)

/-- what is read has just these bytes, and is no greater than can be -/
theorem take_only : ∀ (l : List UInt8) (i c : Nat) (r : List UInt8), i ≤ 9 → take i l = (0, c, r) →
    num c ++ r = l ∧ c * 2 ^ (7 * i) < 18446744073709551616 ∧ (0 < i → 0 < c)
  | [], i, c, r, _, h => by simp [take] at h
  | b :: t, i, c, r, hi, h => by
    have hb : b.toNat < 256 := b.toNat_lt
    have h2 : (2 : Nat) ^ (7 * i) ≤ 2 ^ 63 := Nat.pow_le_pow_right (by omega) (by omega)
    rw [take] at h
    split at h
    · simp at h
    · rename_i hn
      split at h
      · rename_i hs
        simp only [Prod.mk.injEq, true_and] at h
        obtain ⟨rfl, rfl⟩ := h
        refine ⟨by rw [num_small _ hs]; simp, ?_, fun h => by omega⟩
        by_cases h9 : i = 9
        · subst h9; omega
        · have h8 : (2 : Nat) ^ (7 * i) ≤ 2 ^ 56 := Nat.pow_le_pow_right (by omega) (by omega)
          have : b.toNat * 2 ^ (7 * i) ≤ 128 * 2 ^ 56 := Nat.mul_le_mul (by omega) h8
          omega
      · rename_i hs
        split at h
        · rename_i h0
          have h9 : i ≤ 8 := by omega
          obtain ⟨c', r', ht⟩ : ∃ c' r', take (i + 1) t = (0, c', r') := ⟨(take (i + 1) t).2.1, (take (i + 1) t).2.2, by rw [← h0]⟩
          rw [ht] at h
          simp only [Prod.mk.injEq, true_and] at h
          obtain ⟨hc, hr⟩ := h
          have ih := take_only t (i + 1) c' r' (by omega) ht
          have hp : 0 < c' := ih.2.2 (by omega)
          have e : 2 ^ (7 * (i + 1)) = 128 * 2 ^ (7 * i) := by rw [show 7 * (i + 1) = 7 + 7 * i from by omega, Nat.pow_add]
          refine ⟨?_, ?_, fun _ => by omega⟩
          · rw [num_great c (by omega), show c / 128 = c' from by omega, ← hr, List.cons_append, ih.1, show 128 + c % 128 = b.toNat from by omega]
            simp
          · have h1 := ih.2.1
            rw [e, ← Nat.mul_assoc] at h1
            -- c = d + 128 c', d < 128; (c' * 128) * P < 2 ^ 64, P divides 2 ^ 64
            obtain ⟨q, hq⟩ : ∃ q, 18446744073709551616 = q * 2 ^ (7 * i) := ⟨2 ^ (64 - 7 * i), by rw [← Nat.pow_add, show 64 - 7 * i + 7 * i = 64 from by omega]⟩
            rw [hq] at h1 ⊢
            have hlt := Nat.lt_of_mul_lt_mul_right h1
            have hq2 : 128 * (q / 128) = q := by
              have e2 : q = 2 ^ (64 - 7 * i) := by
                have : q * 2 ^ (7 * i) = 2 ^ (64 - 7 * i) * 2 ^ (7 * i) := by rw [← hq, ← Nat.pow_add, show 64 - 7 * i + 7 * i = 64 from by omega]
                exact Nat.eq_of_mul_eq_mul_right (Nat.two_pow_pos _) this
              have : q = 128 * 2 ^ (57 - 7 * i) := by rw [e2, show 64 - 7 * i = 7 + (57 - 7 * i) from by omega, Nat.pow_add]
              omega
            exact Nat.mul_lt_mul_of_pos_right (by omega) (Nat.two_pow_pos _)
        · rename_i h0
          simp only [Prod.mk.injEq] at h
          omega

theorem take_lt (l : List UInt8) (c : Nat) (r : List UInt8) (h : take 0 l = (0, c, r)) : c < 18446744073709551616 := by
  have := (take_only l 0 c r (by omega) h).2.1; omega

/-- an error has no number, and nothing behind -/
theorem take_err (l : List UInt8) (i : Nat) (h : (take i l).1 ≠ 0) : (take i l).2 = (0, []) := by
  cases l with
  | nil => rfl
  | cons b t => rw [take] at h ⊢; split; · rfl
                · split
                  · rename_i h1 h2; rw [if_neg h1, if_pos h2] at h; simp at h
                  · split
                    · rename_i h1 h2 h3; rw [if_neg h1, if_neg h2, if_pos h3] at h; simp at h
                    · rfl
theorem take_codes : ∀ (l : List UInt8) (i : Nat), (take i l).1 = 0 ∨ (take i l).1 = 3 ∨ (take i l).1 = 4
  | [], _ => by simp [take]
  | b :: t, i => by
    rw [take]; split
    · simp
    · split
      · simp
      · split
        · simp
        · exact take_codes t (i + 1)

/-! ### the loops: what is known when the bytes ahead of the place k are read -/
def lift (k acc : Nat) (t : Nat × Nat × List UInt8) : Nat × Nat × List UInt8 := if t.1 = 0 then (0, acc + 2 ^ (7 * k) * t.2.1, t.2.2) else (t.1, 0, [])
def Inv (l : List UInt8) (k acc : Nat) : Prop := acc < 2 ^ (7 * k) ∧ take 0 l = lift k acc (take k (l.drop k))

theorem inv_start (l : List UInt8) : Inv l 0 0 := by
  refine ⟨by simp, ?_⟩
  unfold lift
  split
  · rename_i h; simp; exact Prod.ext h rfl
  · rename_i h; have := take_err l 0 h; exact Prod.ext rfl this
theorem inv_end {l : List UInt8} {k acc : Nat} (h : Inv l k acc) (hk : k = l.length) : take 0 l = (3, 0, []) := by
  rw [h.2, hk, List.drop_length]; rfl
theorem drop_at (l : List UInt8) (k : Nat) (hk : k < l.length) : l.drop k = l[k] :: l.drop (k + 1) := by simp
theorem inv_form {l : List UInt8} {k acc : Nat} (h : Inv l k acc) (hk : k < l.length) (hb : (k = 9 ∧ 1 < l[k].toNat) ∨ (0 < k ∧ l[k].toNat = 0)) : take 0 l = (4, 0, []) := by
  rw [h.2, drop_at l k hk, take, if_pos hb]; rfl
theorem inv_last {l : List UInt8} {k acc : Nat} (h : Inv l k acc) (hk : k < l.length) (hb : ¬ ((k = 9 ∧ 1 < l[k].toNat) ∨ (0 < k ∧ l[k].toNat = 0))) (h2 : l[k].toNat < 128) :
    take 0 l = (0, acc + 2 ^ (7 * k) * l[k].toNat, l.drop (k + 1)) := by
  rw [h.2, drop_at l k hk, take, if_neg hb, if_pos h2]; rfl
theorem inv_more {l : List UInt8} {k acc : Nat} (h : Inv l k acc) (hk : k < l.length) (hb : k ≠ 9) (h2 : 128 ≤ l[k].toNat) :
    Inv l (k + 1) (acc + 2 ^ (7 * k) * (l[k].toNat - 128)) := by
  have e : 2 ^ (7 * (k + 1)) = 128 * 2 ^ (7 * k) := by rw [show 7 * (k + 1) = 7 + 7 * k from by omega, Nat.pow_add]
  have hlt := l[k].toNat_lt
  constructor
  · have h1 := h.1
    rw [e]
    have : 2 ^ (7 * k) * (l[k].toNat - 128) ≤ 2 ^ (7 * k) * 127 := Nat.mul_le_mul_left _ (by omega)
    omega
  · rw [h.2, drop_at l k hk, take, if_neg (by omega), if_neg (by omega)]
    unfold lift
    by_cases h0 : (take (k + 1) (l.drop (k + 1))).1 = 0
    · rw [if_pos h0, if_pos rfl, if_pos h0]
      simp only [Prod.mk.injEq, true_and, and_true]
      rw [e, Nat.mul_add, Nat.add_assoc, ← Nat.mul_assoc, Nat.mul_comm (2 ^ (7 * k)) 128]
    · rw [if_neg h0, if_neg h0, if_neg h0]

/-- or, where the lower part lies below: a sum -/
theorem or_sum (acc b k : Nat) (h : acc < 2 ^ (7 * k)) : acc ||| 2 ^ (7 * k) * b = acc + 2 ^ (7 * k) * b := by
  rw [Nat.or_comm, ← Nat.two_pow_add_eq_or_of_lt h, Nat.add_comm]

/-! ### writing: the digits ahead of the place k are p -/
def Wrote (c k : Nat) (p : List UInt8) : Prop := p.length = k ∧ num c = p ++ num (c / 2 ^ (k * 7)) ∧ (0 < k → 0 < c / 2 ^ (k * 7))
theorem wrote_start (c : Nat) : Wrote c 0 [] := ⟨rfl, by simp, fun h => by omega⟩
theorem div_step (c k : Nat) : c / 2 ^ ((k + 1) * 7) = c / 2 ^ (k * 7) / 128 := by
  rw [show (k + 1) * 7 = k * 7 + 7 from by omega, Nat.pow_add, Nat.div_div_eq_div_mul]
theorem wrote_more {c k : Nat} {p : List UInt8} (h : Wrote c k p) (hm : 128 ≤ c / 2 ^ (k * 7)) : Wrote c (k + 1) (p ++ [UInt8.ofNat (128 + c / 2 ^ (k * 7) % 128)]) := by
  refine ⟨by simp [h.1], ?_, fun _ => by rw [div_step]; omega⟩
  rw [h.2.1, num_great _ hm, div_step]; simp
theorem wrote_last {c k : Nat} {p : List UInt8} (h : Wrote c k p) (hm : c / 2 ^ (k * 7) < 128) : p ++ [UInt8.ofNat (c / 2 ^ (k * 7))] = num c := by
  rw [h.2.1, num_small _ hm]
theorem wrote_lt {c k : Nat} {p : List UInt8} (h : Wrote c k p) (hc : c < 18446744073709551616) (hk : k ≤ 10) : k ≤ 9 := by
  by_cases h9 : k = 10
  · subst h9
    have := h.2.2 (by omega)
    have : c / 2 ^ (10 * 7) = 0 := Nat.div_eq_of_lt (by omega)
    omega
  · omega

theorem wrote_lt' {c k : Nat} {p : List UInt8} (h : Wrote c k p) (hc : c < 18446744073709551616) : k ≤ 9 := by
  by_cases h9 : 10 ≤ k
  · have := h.2.2 (by omega)
    have h2 : 2 ^ (10 * 7) ≤ 2 ^ (k * 7) := Nat.pow_le_pow_right (by omega) (by omega)
    have : c / 2 ^ (k * 7) = 0 := Nat.div_eq_of_lt (by omega)
    omega
  · omega

/-! what the calls answer -/
def numB (n : Int) : ByteArray := ⟨(num (codeN n)).toArray⟩
def tN (s : ByteArray) : Int := if (take 0 s.data.toList).1 = 0 then decN (take 0 s.data.toList).2.1 else 0
def tR (s : ByteArray) : ByteArray := ⟨(take 0 s.data.toList).2.2.toArray⟩
def tE (s : ByteArray) : Int := (take 0 s.data.toList).1

theorem t_err {s : ByteArray} {e : Nat} (he : e ≠ 0) (h : take 0 s.data.toList = (e, 0, [])) : 0 = tN s ∧ (⟨#[]⟩ : ByteArray) = tR s ∧ (e : Int) = tE s := by
  unfold tN tR tE; rw [h]; exact ⟨by rw [if_neg he], rfl, rfl⟩
theorem t_ok {s : ByteArray} {c : Nat} {r : ByteArray} (h : take 0 s.data.toList = (0, c, r.data.toList)) : decN c = tN s ∧ r = tR s ∧ 0 = tE s := by
  unfold tN tR tE; rw [h]; exact ⟨rfl, rfl, rfl⟩

theorem extract_drop (s : ByteArray) (k : Nat) : (s.extract k s.size).data.toList = s.data.toList.drop k := by
  rw [ByteArray.data_extract, Array.toList_extract, List.extract_eq_take_drop]; exact List.take_of_length_le (by simp)
theorem t_last {s : ByteArray} {c k : Nat} (h : take 0 s.data.toList = (0, c, s.data.toList.drop k)) : decN c = tN s ∧ s.extract k s.size = tR s ∧ 0 = tE s :=
  t_ok (by rw [h, extract_drop])

theorem numB_len (n : Int) (h0 : -9223372036854775808 ≤ n) (h1 : n ≤ 9223372036854775807) : (numB n).size ≤ 10 := by
  have := num_len10 _ (code_lt n h0 h1)
  simpa [numB, ByteArray.size] using this

/-! ### numbers of a fixed length -/
/-- the byte at the place k (0 is the lowest) -/
def digit (n : Int) (k : Nat) : UInt8 := UInt8.ofNat ((n % 18446744073709551616).toNat / 2 ^ (k * 8) % 256)
/-- the lowest k bytes, the highest first -/
def fix (n : Int) : Nat → List UInt8
  | 0 => []
  | k + 1 => digit n k :: fix n k
def cnt (bytes : Int) : Nat := if bytes < 0 then 0 else if 8 < bytes then 8 else bytes.toNat
theorem fix_len (n : Int) (k : Nat) : (fix n k).length = k := by
  induction k with
  | zero => rfl
  | succ k ih => simp [fix, ih]
theorem cnt_le (b : Int) : cnt b ≤ 8 := by unfold cnt; split; omega; split <;> omega

theorem cnt_cases (b : Int) : ∃ m : Nat, m ≤ 8 ∧ Go.RowKit.Hid (cnt b = m) ∧ ((b < 0 ∧ m ≤ 0) ∨ (8 < b ∧ 8 ≤ m) ∨ b = m) := by
  refine ⟨cnt b, cnt_le b, rfl, ?_⟩
  unfold cnt; split
  · exact .inl ⟨by assumption, by omega⟩
  · split
    · exact .inr (.inl ⟨by assumption, by omega⟩)
    · exact .inr (.inr (by omega))
/-- what a row of m zeros holds when k of its bytes are laid, from the back -/
def laid (n : Int) (m k : Nat) : List UInt8 := List.replicate (m - k) 0 ++ fix n k
theorem laid_len (n : Int) (m k : Nat) (h : k ≤ m) : (laid n m k).length = m := by simp [laid, fix_len]; omega
theorem laid_all (n : Int) (m : Nat) : laid n m m = fix n m := by simp [laid]
theorem laid_none (n : Int) (m : Nat) : laid n m 0 = List.replicate m 0 := by simp [laid, fix]
theorem laid_step (n : Int) (m k : Nat) (h : k < m) : (laid n m k).set (m - 1 - k) (digit n k) = laid n m (k + 1) := by
  unfold laid
  have e : List.replicate (m - k) (0 : UInt8) = List.replicate (m - 1 - k) 0 ++ [0] := by
    rw [show m - k = (m - 1 - k) + 1 from by omega, List.replicate_succ']
  rw [e, List.append_assoc, List.set_append_right _ _ (by simp)]
  simp [fix, show m - (k + 1) = m - 1 - k from by omega]

/-! ### what TakeNum answers, in three cases -/
theorem t_cases (s : ByteArray) :
    (tN s = 0 ∧ tR s = ⟨#[]⟩ ∧ (tE s = 3 ∨ tE s = 4)) ∨
    (∃ (n : Int) (r : ByteArray), -9223372036854775808 ≤ n ∧ n ≤ 9223372036854775807 ∧ r.size ≤ s.size ∧ tN s = n ∧ tR s = r ∧ tE s = 0 ∧ numB n ++ r = s) := by
  by_cases h0 : (take 0 s.data.toList).1 = 0
  · right
    obtain ⟨c, r, hr⟩ : ∃ c r, take 0 s.data.toList = (0, c, r) := ⟨(take 0 s.data.toList).2.1, (take 0 s.data.toList).2.2, Prod.ext h0 rfl⟩
    have hlt := take_lt _ _ _ hr
    have ho := (take_only _ 0 c r (by omega) hr).1
    refine ⟨decN c, ⟨r.toArray⟩, ?_, ?_, ?_, ?_, ?_, ?_, ?_⟩
    · unfold decN; split <;> omega
    · unfold decN; split <;> omega
    · have := congrArg List.length ho
      simp only [List.length_append, Array.length_toList] at this
      have e : s.data.size = s.size := rfl
      show r.toArray.size ≤ s.size
      simp; omega
    · unfold tN; rw [hr]; rfl
    · unfold tR; rw [hr]
    · unfold tE; rw [hr]; rfl
    · unfold numB; rw [code_dec, ByteArray.mk_append_mk, ho]
  · left
    have he := take_err _ 0 h0
    refine ⟨by unfold tN; rw [if_neg h0], by unfold tR; rw [he], ?_⟩
    unfold tE
    rcases take_codes s.data.toList 0 with h | h | h
    · exact absurd h h0
    · rw [h]; left; rfl
    · rw [h]; right; rfl

/-- no number's bytes are the beginning of another one's -/
theorem first (n m : Int) (hn0 : -9223372036854775808 ≤ n) (hn1 : n ≤ 9223372036854775807) (hm0 : -9223372036854775808 ≤ m) (hm1 : m ≤ 9223372036854775807)
    (t : List UInt8) (h : num (codeN m) = num (codeN n) ++ t) : n = m := by
  have h1 := take_back (codeN m) [] (code_lt m hm0 hm1)
  have h2 := take_back (codeN n) t (code_lt n hn0 hn1)
  rw [List.append_nil, h] at h1
  rw [h1] at h2
  have : codeN m = codeN n := by simpa using congrArg (fun x => x.2.1) h2
  rw [← dec_code n, ← this, dec_code]
theorem first_ne (n m : Int) (hn0 : -9223372036854775808 ≤ n) (hn1 : n ≤ 9223372036854775807) (hm0 : -9223372036854775808 ≤ m) (hm1 : m ≤ 9223372036854775807)
    (hne : n ≠ m) (_hl : (numB n).size ≤ (numB m).size) : (numB m).extract 0 (numB n).size ≠ numB n := by
  intro h
  refine hne (first n m hn0 hn1 hm0 hm1 ((num (codeN m)).drop (num (codeN n)).length) ?_)
  have h2 := congrArg (fun b => b.data.toList) h
  simp only [ByteArray.data_extract, Array.toList_extract, List.extract_eq_take_drop, numB, List.drop_zero, Nat.sub_zero] at h2
  have e : (ByteArray.mk (num (codeN n)).toArray).size = (num (codeN n)).length := by simp [ByteArray.size]
  rw [e] at h2
  conv => lhs; rw [← List.take_append_drop (num (codeN n)).length (num (codeN m)), h2]
theorem numB_pos (n : Int) : 0 < (numB n).size := by
  have := num_ne (codeN n)
  have h : 0 < (num (codeN n)).length := List.length_pos_iff.2 this
  simpa [numB, ByteArray.size] using h

end Go.Proofs.YtmkllibfblacfaaDoor.Oct

/-
  Plain mathematics of layer 1, second part: numbers of a fixed length, read.
-/
namespace Go.Proofs.YtmkllibfblacfaaDoor.Oct

/-- the number of bytes, the highest first -/
def be (l : List UInt8) : Nat := l.foldl (fun c b => c * 256 + b.toNat) 0
theorem be_snoc (l : List UInt8) (b : UInt8) : be (l ++ [b]) = be l * 256 + b.toNat := by simp [be]
theorem be_from (l : List UInt8) : ∀ c : Nat, l.foldl (fun c b => c * 256 + b.toNat) c = c * 2 ^ (l.length * 8) + be l := by
  induction l with
  | nil => intro c; simp [be]
  | cons b l ih =>
    intro c
    unfold be
    rw [List.foldl_cons, List.foldl_cons, ih, ih (0 * 256 + b.toNat), List.length_cons, show (l.length + 1) * 8 = l.length * 8 + 8 from by omega, Nat.pow_add]
    simp only [Nat.zero_mul, Nat.zero_add]
    rw [Nat.add_mul, Nat.mul_assoc, Nat.mul_comm (2 ^ (l.length * 8)) (2 ^ 8), Nat.add_assoc]
theorem be_cons (b : UInt8) (l : List UInt8) : be (b :: l) = b.toNat * 2 ^ (l.length * 8) + be l := by
  have := be_from l (0 * 256 + b.toNat)
  unfold be at this ⊢
  rw [List.foldl_cons, this]; simp
theorem be_lt (l : List UInt8) : be l < 2 ^ (l.length * 8) := by
  induction l with
  | nil => simp [be]
  | cons b l ih =>
    rw [be_cons, List.length_cons, show (l.length + 1) * 8 = l.length * 8 + 8 from by omega, Nat.pow_add]
    have hb := b.toNat_lt
    have : b.toNat * 2 ^ (l.length * 8) ≤ 255 * 2 ^ (l.length * 8) := Nat.mul_le_mul_right _ (by omega)
    omega
theorem be_fix (n : Int) (k : Nat) : be (fix n k) = (n % 18446744073709551616).toNat % 2 ^ (k * 8) := by
  induction k with
  | zero => simp [fix, be]; omega
  | succ k ih =>
    rw [fix, be_cons, ih, fix_len, digit, toNat_ofNat _ (by omega), show (k + 1) * 8 = k * 8 + 8 from by omega, Nat.pow_add, Nat.mod_mul, Nat.mul_comm, Nat.add_comm]
/-- what Read answers -/
def rd (s : ByteArray) : Int := IntKind.i64.wrap (be (s.data.toList.take 8))
theorem rd_fix (n : Int) (h0 : -9223372036854775808 ≤ n) (h1 : n ≤ 9223372036854775807) : rd ⟨(fix n 8).toArray⟩ = n := by
  unfold rd
  have e : (ByteArray.mk (fix n 8).toArray).data.toList.take 8 = fix n 8 := by
    simp only
    exact List.take_of_length_le (by rw [fix_len]; omega)
  rw [e, be_fix, IntKind.wrap_i64]; omega

theorem ofInt_wrap (n : Int) : BitVec.ofInt 64 (IntKind.i64.wrap n) = BitVec.ofInt 64 n := by
  apply BitVec.eq_of_toNat_eq
  rw [BitVec.toNat_ofInt, BitVec.toNat_ofInt, IntKind.wrap_i64]
  have e : ((2 ^ 64 : Nat) : Int) = 18446744073709551616 := rfl
  rw [e]
  omega
/-- or, where the lower part lies below: a sum, as 64 bits go -/
theorem or_i64 (a b k : Nat) (ha : a < 2 ^ (k * 8)) (hb : b < 256) (hk : k ≤ 7) :
    bits .or .i64 (IntKind.i64.wrap (a : Int)) (IntKind.i64.wrap ((b : Int) * 2 ^ (k * 8))) = IntKind.i64.wrap ((b * 2 ^ (k * 8) + a : Nat) : Int) := by
  have hp : (2 : Nat) ^ (k * 8) ≤ 2 ^ 56 := Nat.pow_le_pow_right (by omega) (by omega)
  have hm : b * 2 ^ (k * 8) ≤ 255 * 2 ^ 56 := Nat.mul_le_mul (by omega) hp
  have e : ((b : Int) * 2 ^ (k * 8)) = ((b * 2 ^ (k * 8) : Nat) : Int) := by push_cast; rfl
  show IntKind.i64.wrap ((BitVec.ofInt 64 _ ||| BitVec.ofInt 64 _).toNat : Int) = _
  rw [ofInt_wrap, ofInt_wrap, e, BitVec.ofInt_natCast, BitVec.ofInt_natCast, BitVec.toNat_or, BitVec.toNat_ofNat, BitVec.toNat_ofNat, Nat.mod_eq_of_lt (by omega), Nat.mod_eq_of_lt (by omega)]
  have := Nat.two_pow_add_eq_or_of_lt ha b
  rw [Nat.or_comm, Nat.mul_comm b, this]

/-- the last k of the first m bytes -/
def low (s : ByteArray) (m k : Nat) : List UInt8 := (s.data.toList.take m).drop (m - k)
theorem low_none (s : ByteArray) (m : Nat) : low s m 0 = [] := by simp [low]
theorem low_all (s : ByteArray) (m : Nat) : low s m m = s.data.toList.take m := by simp [low]
theorem low_len (s : ByteArray) (m k : Nat) (hm : m ≤ s.size) (hk : k ≤ m) : (low s m k).length = k := by
  have e : s.data.size = s.size := rfl
  simp [low]; omega
theorem low_step (s : ByteArray) (m k : Nat) (hm : m ≤ s.size) (hk : k < m) : low s m (k + 1) = s[m - 1 - k] :: low s m k := by
  have e : s.data.toList.length = s.size := by simp
  unfold low
  have h1 : m - (k + 1) < (s.data.toList.take m).length := by rw [List.length_take]; omega
  have hg : (s.data.toList.take m)[m - (k + 1)] = s[m - 1 - k] := by
    rw [List.getElem_take]
    simp only [show m - (k + 1) = m - 1 - k from by omega]
    rfl
  rw [List.drop_eq_getElem_cons h1, hg, show m - (k + 1) + 1 = m - k from by omega]
theorem be_low (s : ByteArray) (m k : Nat) (hm : m ≤ s.size) (hk : k < m) (h8 : m ≤ 8) :
    bits .or .i64 (IntKind.i64.wrap (be (low s m k) : Int)) (IntKind.i64.wrap (((s[m - 1 - k]).toNat : Int) * 2 ^ (k * 8))) = IntKind.i64.wrap (be (low s m (k + 1)) : Int) := by
  have h := be_lt (low s m k)
  rw [low_len s m k hm (by omega)] at h
  rw [or_i64 _ _ _ h (UInt8.toNat_lt _) (by omega), low_step s m k hm hk, be_cons, low_len s m k hm (by omega)]
theorem rd_low (s : ByteArray) (m : Nat) (h : m = min s.size 8) : rd s = IntKind.i64.wrap (be (low s m m) : Int) := by
  rw [low_all, rd, h]
  congr 2
  rcases Nat.le_total s.size 8 with h8 | h8
  · have e : s.data.toList.length = s.size := by simp
    rw [Nat.min_eq_left h8, List.take_of_length_le (by omega), List.take_of_length_le (by omega)]
  · rw [Nat.min_eq_right h8]
/-- the first k bytes, as a number -/
theorem be_take (s : ByteArray) (k : Nat) (hk : k < s.size) : be (s.data.toList.take (k + 1)) = be (s.data.toList.take k) * 256 + s[k].toNat := by
  have h : k < s.data.toList.length := by simpa using hk
  rw [List.take_succ_eq_append_getElem h, be_snoc]; rfl
theorem be_take_lt (s : ByteArray) (k : Nat) (h8 : k ≤ 8) : be (s.data.toList.take k) < 18446744073709551616 := by
  have h := be_lt (s.data.toList.take k)
  have hl : (s.data.toList.take k).length ≤ k := List.length_take_le _ _
  have : (2 : Nat) ^ ((s.data.toList.take k).length * 8) ≤ 2 ^ 64 := Nat.pow_le_pow_right (by omega) (by omega)
  omega

theorem cnt_step (k : Nat) (b : Int) (h1 : (k : Int) < b) (h2 : k < 8) : k + 1 ≤ cnt b := by
  unfold cnt; split
  · omega
  · split <;> omega
theorem cnt_end (k : Nat) (b : Int) (h : ¬ ((k : Int) < b ∧ k < 8)) (hk : k ≤ 8) (h2 : k ≤ cnt b) : k = cnt b := by
  unfold cnt at h2 ⊢
  by_cases h0 : b < 0
  · rw [if_pos h0] at h2 ⊢; omega
  · rw [if_neg h0] at h2 ⊢
    by_cases h8 : 8 < b
    · rw [if_pos h8] at h2 ⊢; omega
    · rw [if_neg h8] at h2 ⊢; omega
theorem wrap_none : 0 = Go.RowKit.wrap64 ((be [] : Nat) : Int) := by
  have e : be [] = 0 := rfl
  rw [e]; unfold Go.RowKit.wrap64; omega

end Go.Proofs.YtmkllibfblacfaaDoor.Oct

/-
  Plain mathematics of layer 1, third part: texts and lists, taken.
-/
namespace Go.Proofs.YtmkllibfblacfaaDoor.Oct

/-- a length, or how many: what is taken -/
def cnt3 (s : ByteArray) (lim : Int) : Int × ByteArray × Int :=
  if tE s ≠ 0 then (0, ⟨#[]⟩, tE s) else if tN s < 0 then (0, ⟨#[]⟩, 4) else if lim < tN s then (0, ⟨#[]⟩, 5) else (tN s, tR s, 0)
/-- a text, taken -/
def txt (s : ByteArray) (most : Int) : ByteArray × ByteArray × Int :=
  if (cnt3 s most).2.2 ≠ 0 then (⟨#[]⟩, ⟨#[]⟩, (cnt3 s most).2.2) else
    if ((cnt3 s most).2.1.size : Int) < (cnt3 s most).1 then (⟨#[]⟩, ⟨#[]⟩, 3)
    else ((cnt3 s most).2.1.extract 0 (cnt3 s most).1.toNat, (cnt3 s most).2.1.extract (cnt3 s most).1.toNat (cnt3 s most).2.1.size, 0)
/-- so many texts, taken one behind the other -/
def lst (most : Int) : Nat → ByteArray → List ByteArray × ByteArray × Int
  | 0, s => ([], s, 0)
  | n + 1, s => if (txt s most).2.2 ≠ 0 then ([], ⟨#[]⟩, (txt s most).2.2) else
      if (lst most n (txt s most).2.1).2.2 ≠ 0 then ([], ⟨#[]⟩, (lst most n (txt s most).2.1).2.2)
      else ((txt s most).1 :: (lst most n (txt s most).2.1).1, (lst most n (txt s most).2.1).2.1, 0)
/-- a list, taken -/
def txts (s : ByteArray) (count most : Int) : List ByteArray × ByteArray × Int :=
  if (cnt3 s count).2.2 ≠ 0 then ([], ⟨#[]⟩, (cnt3 s count).2.2) else lst most (cnt3 s count).1.toNat (cnt3 s count).2.1

theorem cnt3_err {s : ByteArray} {lim : Int} (e : Int) (h : tE s = e) (he : e ≠ 0) : cnt3 s lim = (0, ⟨#[]⟩, e) := by
  unfold cnt3; rw [if_pos (by rw [h]; exact he), h]
theorem cnt3_neg {s : ByteArray} {lim n : Int} (h : tE s = 0) (hn : tN s = n) (h0 : n < 0) : cnt3 s lim = (0, ⟨#[]⟩, 4) := by
  unfold cnt3; rw [if_neg (by rw [h]; simp), hn, if_pos h0]
theorem cnt3_big {s : ByteArray} {lim n : Int} (h : tE s = 0) (hn : tN s = n) (h0 : ¬ n < 0) (h1 : lim < n) : cnt3 s lim = (0, ⟨#[]⟩, 5) := by
  unfold cnt3; rw [if_neg (by rw [h]; simp), hn, if_neg h0, if_pos h1]
theorem cnt3_ok {s r : ByteArray} {lim n : Int} (h : tE s = 0) (hn : tN s = n) (hr : tR s = r) (h0 : ¬ n < 0) (h1 : ¬ lim < n) : cnt3 s lim = (n, r, 0) := by
  unfold cnt3; rw [if_neg (by rw [h]; simp), hn, if_neg h0, if_neg h1, hr]

/-- what is taken as a length: an error, or a number in its bounds with less behind it than there was -/
theorem cnt3_cases (s : ByteArray) (lim : Int) :
    (∃ e : Int, e ≠ 0 ∧ cnt3 s lim = (0, ⟨#[]⟩, e)) ∨
    (∃ (n : Nat) (r : ByteArray), (n : Int) ≤ 9223372036854775807 ∧ (n : Int) ≤ lim ∧ r.size < s.size ∧ cnt3 s lim = ((n : Int), r, 0) ∧ numB n ++ r = s) := by
  rcases t_cases s with ⟨_, _, h | h⟩ | ⟨n, r, h1, h2, h3, e1, e2, e3, e4⟩
  · exact .inl ⟨3, by decide, cnt3_err 3 h (by decide)⟩
  · exact .inl ⟨4, by decide, cnt3_err 4 h (by decide)⟩
  · by_cases h0 : n < 0
    · exact .inl ⟨4, by decide, cnt3_neg e3 e1 h0⟩
    · by_cases hl : lim < n
      · exact .inl ⟨5, by decide, cnt3_big e3 e1 h0 hl⟩
      · obtain ⟨m, rfl⟩ := Int.eq_ofNat_of_zero_le (show 0 ≤ n by omega)
        refine .inr ⟨m, r, h2, by omega, ?_, cnt3_ok e3 e1 e2 h0 hl, e4⟩
        have hp := numB_pos (m : Int)
        have : (numB m).size + r.size = s.size := by rw [← e4, ByteArray.size_append]
        omega

theorem txt_err {s : ByteArray} {most e : Int} (he : e ≠ 0) (h : cnt3 s most = (0, ⟨#[]⟩, e)) : txt s most = (⟨#[]⟩, ⟨#[]⟩, e) := by
  unfold txt; rw [h]; exact if_pos he
theorem txt_short {s r : ByteArray} {most : Int} {n : Nat} (h : cnt3 s most = ((n : Int), r, 0)) (h1 : r.size < n) : txt s most = (⟨#[]⟩, ⟨#[]⟩, 3) := by
  unfold txt; rw [h]; simp only [ne_eq, not_true_eq_false, if_false]; exact if_pos (by omega)
theorem txt_ok {s r : ByteArray} {most : Int} {n : Nat} (h : cnt3 s most = ((n : Int), r, 0)) (h1 : ¬ r.size < n) : txt s most = (r.extract 0 n, r.extract n r.size, 0) := by
  unfold txt; rw [h]; simp only [ne_eq, not_true_eq_false, if_false, Int.toNat_natCast]; exact if_neg (by omega)
/-- what is taken as a text: an error, or a text with less behind it than there was -/
theorem txt_cases (s : ByteArray) (most : Int) :
    (∃ e : Int, e ≠ 0 ∧ txt s most = (⟨#[]⟩, ⟨#[]⟩, e)) ∨
    (∃ (a r : ByteArray), txt s most = (a, r, 0) ∧ r.size < s.size ∧ a.size < s.size) := by
  rcases cnt3_cases s most with ⟨e, he, h⟩ | ⟨n, r, _, _, h3, h, _⟩
  · exact .inl ⟨e, he, txt_err he h⟩
  · by_cases h1 : r.size < n
    · exact .inl ⟨3, by decide, txt_short h h1⟩
    · refine .inr ⟨_, _, txt_ok h h1, ?_, ?_⟩
      · rw [ByteArray.size_extract]; omega
      · rw [ByteArray.size_extract]; omega

/-- the texts so far, ahead of what is taken next -/
def glue (acc : List ByteArray) (t : List ByteArray × ByteArray × Int) : List ByteArray × ByteArray × Int :=
  if t.2.2 ≠ 0 then ([], ⟨#[]⟩, t.2.2) else (acc ++ t.1, t.2.1, 0)
theorem lst_form (most : Int) : ∀ (n : Nat) (s : ByteArray), lst most n s = glue [] (lst most n s)
  | 0, s => rfl
  | n + 1, s => by
    unfold glue lst
    split
    · simp
    · split
      · simp
      · simp
theorem glue_step (most : Int) (acc : List ByteArray) (n : Nat) (s : ByteArray) {a r : ByteArray} (h : txt s most = (a, r, 0)) :
    glue acc (lst most (n + 1) s) = glue (acc ++ [a]) (lst most n r) := by
  rw [lst, h]
  simp only [ne_eq, not_true_eq_false, if_false]
  obtain ⟨l, r', e⟩ := lst most n r
  by_cases he : e = 0
  · subst he; simp [glue]
  · simp [glue, he]
theorem glue_err (most : Int) (acc : List ByteArray) (n : Nat) (s : ByteArray) {e : Int} (he : e ≠ 0) (h : txt s most = (⟨#[]⟩, ⟨#[]⟩, e)) :
    glue acc (lst most (n + 1) s) = ([], ⟨#[]⟩, e) := by
  rw [lst, h]
  simp only [ne_eq, he, not_false_eq_true, if_true]
  unfold glue; exact if_pos he
theorem glue_end (most : Int) (acc : List ByteArray) (s : ByteArray) : glue acc (lst most 0 s) = (acc, s, 0) := by
  unfold glue lst; simp

/-! ### lists, written -/
def one (s : ByteArray) : List UInt8 := (numB s.size).data.toList ++ s.data.toList
def all : List ByteArray → List UInt8
  | [] => []
  | s :: l => one s ++ all l
def total : List ByteArray → Nat
  | [] => 0
  | s :: l => s.size + total l
theorem all_append (a b : List ByteArray) : all (a ++ b) = all a ++ all b := by
  induction a with
  | nil => rfl
  | cons s a ih => simp [all, ih]
theorem total_append (a b : List ByteArray) : total (a ++ b) = total a + total b := by
  induction a with
  | nil => simp [total]
  | cons s a ih => simp [total, ih]; omega
theorem all_take (l : List ByteArray) (k : Nat) (h : k < l.length) : all (l.take (k + 1)) = all (l.take k) ++ one l[k] := by
  rw [List.take_succ_eq_append_getElem h, all_append]; simp [all]
theorem total_take (l : List ByteArray) (k : Nat) (h : k < l.length) : total (l.take (k + 1)) = total (l.take k) + l[k].size := by
  rw [List.take_succ_eq_append_getElem h, total_append]; simp [total]
theorem total_take_le (l : List ByteArray) (k : Nat) : total (l.take k) ≤ total l := by
  have := total_append (l.take k) (l.drop k)
  rw [List.take_append_drop] at this; omega
theorem total_at (l : List ByteArray) (k : Nat) (h : k < l.length) : total (l.take k) + l[k].size ≤ total l := by
  rw [← total_take l k h]; exact total_take_le l _
/-- the bytes of a list -/
def txtsB (l : List ByteArray) : ByteArray := ⟨((numB l.length).data.toList ++ all l).toArray⟩

theorem list_len (s : ByteArray) : s.data.toList.length = s.size := by simp
theorem one_len (s : ByteArray) (h : s.size ≤ 9223372036854775807) : (one s).length ≤ 10 + s.size := by
  have := numB_len (s.size : Int) (by omega) (by omega)
  unfold one; rw [List.length_append, list_len, list_len]; omega
theorem all_len : ∀ (l : List ByteArray), total l ≤ 9223372036854775807 → (all l).length ≤ 10 * l.length + total l
  | [], _ => by simp [all]
  | s :: l, h => by
    have h1 := one_len s (by simp [total] at h; omega)
    have h2 := all_len l (by simp [total] at h; omega)
    simp [all, total]; omega

/-! ### what was written is taken -/
theorem tE_back (n : Int) (r : ByteArray) (h0 : -9223372036854775808 ≤ n) (h1 : n ≤ 9223372036854775807) : tN (numB n ++ r) = n ∧ tR (numB n ++ r) = r ∧ tE (numB n ++ r) = 0 := by
  have e : (numB n ++ r).data.toList = num (codeN n) ++ r.data.toList := by simp [numB, ByteArray.data_append]
  have h := take_back (codeN n) r.data.toList (code_lt n h0 h1)
  have := t_ok (s := numB n ++ r) (c := codeN n) (r := r) (by rw [e]; exact h)
  rw [dec_code] at this
  exact ⟨this.1.symm, this.2.1.symm, this.2.2.symm⟩
theorem cnt3_back (n : Nat) (r : ByteArray) (lim : Int) (h1 : (n : Int) ≤ 9223372036854775807) (h2 : (n : Int) ≤ lim) : cnt3 (numB n ++ r) lim = ((n : Int), r, 0) := by
  obtain ⟨a, b, c⟩ := tE_back (n : Int) r (by omega) h1
  exact cnt3_ok c a b (by omega) (by omega)
theorem mk_list (l : List UInt8) : (⟨l.toArray⟩ : ByteArray).data.toList = l := rfl
theorem txt_back (s r : ByteArray) (most : Int) (h1 : (s.size : Int) ≤ 9223372036854775807) (h2 : (s.size : Int) ≤ most) : txt (numB s.size ++ s ++ r) most = (s, r, 0) := by
  have hc := cnt3_back s.size (s ++ r) most h1 h2
  rw [← ByteArray.append_assoc] at hc
  rw [txt_ok hc (by rw [ByteArray.size_append]; omega)]
  have e1 : (s ++ r).extract 0 s.size = s := by
    apply Go.WideShapes.bytes_inj
    rw [ByteArray.data_extract, Array.toList_extract, List.extract_eq_take_drop, ByteArray.data_append]
    simp
  have e2 : (s ++ r).extract s.size (s ++ r).size = r := by
    apply Go.WideShapes.bytes_inj
    rw [extract_drop, ByteArray.data_append]
    simp
  rw [e1, e2]
theorem mk_append (a b : List UInt8) : (⟨(a ++ b).toArray⟩ : ByteArray) = ⟨a.toArray⟩ ++ ⟨b.toArray⟩ := by
  apply Go.WideShapes.bytes_inj; simp [ByteArray.data_append]
theorem mk_data (s : ByteArray) : (⟨s.data.toList.toArray⟩ : ByteArray) = s := rfl
theorem lst_back (most : Int) : ∀ (l : List ByteArray) (r : ByteArray), total l ≤ 9223372036854775807 → (∀ s ∈ l, (s.size : Int) ≤ most) → lst most l.length (⟨(all l).toArray⟩ ++ r) = (l, r, 0)
  | [], r, _, _ => by
    have e : (⟨(all []).toArray⟩ ++ r : ByteArray) = r := by apply Go.WideShapes.bytes_inj; simp [all, ByteArray.data_append]
    rw [e]; rfl
  | s :: l, r, ht, hm => by
    have e : (⟨(all (s :: l)).toArray⟩ ++ r : ByteArray) = numB s.size ++ s ++ (⟨(all l).toArray⟩ ++ r) := by
      apply Go.WideShapes.bytes_inj
      simp [all, one, ByteArray.data_append]
    have h1 := txt_back s (⟨(all l).toArray⟩ ++ r) most (by simp [total] at ht; omega) (hm s (by simp))
    have h2 := lst_back most l r (by simp [total] at ht; omega) (fun x hx => hm x (by simp [hx]))
    rw [List.length_cons, e, lst, h1, h2]; simp
theorem txts_back (l : List ByteArray) (r : ByteArray) (count most : Int) (hn : (l.length : Int) ≤ 9223372036854775807) (hc : (l.length : Int) ≤ count) (ht : total l ≤ 9223372036854775807) (hm : ∀ s ∈ l, (s.size : Int) ≤ most) :
    txts (txtsB l ++ r) count most = (l, r, 0) := by
  have e : txtsB l ++ r = numB l.length ++ (⟨(all l).toArray⟩ ++ r) := by
    apply Go.WideShapes.bytes_inj
    simp [txtsB, ByteArray.data_append]
  have h := cnt3_back l.length (⟨(all l).toArray⟩ ++ r) count hn hc
  unfold txts
  rw [e, h]
  simp only [ne_eq, not_true_eq_false, if_false, Int.toNat_natCast]
  exact lst_back most l r ht hm
theorem mem_le (l : List ByteArray) (s : ByteArray) (h : s ∈ l) : s.size ≤ total l := by
  induction l with
  | nil => simp at h
  | cons a l ih =>
    simp only [total]
    rcases List.mem_cons.1 h with rfl | h
    · omega
    · have := ih h; omega

end Go.Proofs.YtmkllibfblacfaaDoor.Oct

/-
  The plain mathematics of layer 2 (crc): sums bit by bit, as natural numbers; nothing of any program.
-/
namespace Go.Proofs.YtmkllibfblacfaaDoor.Crc
/-- a bit shifted out -/
def stp (c : Nat) : Nat := if c % 2 = 1 then (c / 2) ^^^ 2197175160 else c / 2
def stps : Nat → Nat → Nat
  | 0, c => c
  | k + 1, c => stp (stps k c)
def byt (c : Nat) (b : UInt8) : Nat := stps 8 (c ^^^ b.toNat)
def run (c : Nat) (l : List UInt8) : Nat := l.foldl byt c
def sum (l : List UInt8) : Nat := run 4294967295 l ^^^ 4294967295

theorem stp_lt (c : Nat) (h : c < 4294967296) : stp c < 4294967296 := by
  unfold stp; split
  · exact Nat.xor_lt_two_pow (n := 32) (by omega) (by omega)
  · omega
theorem stps_lt : ∀ (k c : Nat), c < 4294967296 → stps k c < 4294967296
  | 0, _, h => h
  | k + 1, c, h => stp_lt _ (stps_lt k c h)
theorem byt_lt (c : Nat) (b : UInt8) (h : c < 4294967296) : byt c b < 4294967296 :=
  stps_lt 8 _ (Nat.xor_lt_two_pow (n := 32) h (by have := b.toNat_lt; omega))
theorem run_lt : ∀ (l : List UInt8) (c : Nat), c < 4294967296 → run c l < 4294967296
  | [], _, h => h
  | b :: l, c, h => run_lt l (byt c b) (byt_lt c b h)
theorem sum_lt (l : List UInt8) : sum l < 4294967296 := Nat.xor_lt_two_pow (n := 32) (run_lt l _ (by omega)) (by omega)
theorem run_append (c : Nat) (l m : List UInt8) : run c (l ++ m) = run (run c l) m := by unfold run; rw [List.foldl_append]
theorem run_snoc (c : Nat) (l : List UInt8) (b : UInt8) : run c (l ++ [b]) = byt (run c l) b := by rw [run_append]; rfl

theorem stp_xor (a b : Nat) : stp (a ^^^ b) = stp a ^^^ stp b := by
  have h1 : (a ^^^ b) / 2 = (a / 2) ^^^ (b / 2) := Nat.xor_div_two
  have h2 : (a ^^^ b) % 2 = (a + b) % 2 := by
    have e : (a ^^^ b) % 2 = (a % 2) ^^^ (b % 2) := Nat.xor_mod_two_pow (n := 1)
    rw [e]
    rcases Nat.mod_two_eq_zero_or_one a with ha | ha <;> rcases Nat.mod_two_eq_zero_or_one b with hb | hb <;> rw [ha, hb, Nat.add_mod, ha, hb] <;> rfl
  unfold stp
  rw [h1, h2]
  by_cases ha : a % 2 = 1 <;> by_cases hb : b % 2 = 1
  · rw [if_neg (by omega), if_pos ha, if_pos hb]
    rw [Nat.xor_assoc, Nat.xor_comm (b / 2), ← Nat.xor_assoc 2197175160, Nat.xor_self, Nat.zero_xor]
  · rw [if_pos (by omega), if_pos ha, if_neg hb, Nat.xor_assoc, Nat.xor_assoc, Nat.xor_comm (b / 2)]
  · rw [if_pos (by omega), if_neg ha, if_pos hb, Nat.xor_assoc]
  · rw [if_neg (by omega), if_neg ha, if_neg hb]
theorem stps_xor : ∀ (k a b : Nat), stps k (a ^^^ b) = stps k a ^^^ stps k b
  | 0, _, _ => rfl
  | k + 1, a, b => by simp only [stps]; rw [stps_xor k a b, stp_xor]
theorem stp_two (y : Nat) : stp (2 * y) = y := by unfold stp; rw [if_neg (by omega)]; omega
theorem stps4_16 (y : Nat) : stps 4 (16 * y) = y := by
  simp only [stps]
  rw [show 16 * y = 2 * (8 * y) by omega, stp_two, show 8 * y = 2 * (4 * y) by omega, stp_two, show 4 * y = 2 * (2 * y) by omega, stp_two, stp_two]
theorem split16 (c : Nat) : c = 16 * (c / 16) ^^^ c % 16 := by
  apply Nat.eq_of_testBit_eq
  intro i
  rw [Nat.testBit_xor, show 16 * (c / 16) = 2 ^ 4 * (c / 2 ^ 4) from rfl, show c % 16 = c % 2 ^ 4 from rfl, Nat.testBit_two_pow_mul, Nat.testBit_mod_two_pow, Nat.testBit_div_two_pow]
  by_cases h : i < 4
  · simp [h, show ¬ 4 ≤ i by omega]
  · simp [h, show 4 ≤ i by omega, show i - 4 + 4 = i by omega]
/-- half a byte at once -/
theorem half (c : Nat) : stps 4 c = (c / 16) ^^^ stps 4 (c % 16) := by
  conv => lhs; rw [split16 c]
  rw [stps_xor, stps4_16]
theorem stps_add (j : Nat) : ∀ k c, stps (j + k) c = stps j (stps k c) := by
  intro k c
  induction j with
  | zero => simp [stps]
  | succ j ih => rw [show j + 1 + k = j + k + 1 by omega]; simp only [stps]; rw [ih]
theorem byt_halves (c : Nat) (b : UInt8) : byt c b = stps 4 (stps 4 (c ^^^ b.toNat)) := stps_add 4 4 _

theorem stp_high (c : Nat) (h : c < 4294967296) : (stp c).testBit 31 = decide (c % 2 = 1) := by
  unfold stp
  split
  · rename_i h1
    rw [Nat.testBit_xor, Nat.testBit_lt_two_pow (x := c / 2) (i := 31) (by omega)]
    simp [h1]; decide
  · rename_i h1
    rw [Nat.testBit_lt_two_pow (x := c / 2) (i := 31) (by omega)]; simp [h1]
theorem xor_inj {a b c : Nat} (h : a ^^^ c = b ^^^ c) : a = b := by
  have := congrArg (· ^^^ c) h
  simpa [Nat.xor_assoc, Nat.xor_self] using this
theorem stp_inj (a b : Nat) (ha : a < 4294967296) (hb : b < 4294967296) (h : stp a = stp b) : a = b := by
  have h1 := stp_high a ha
  have h2 := stp_high b hb
  rw [h, h2] at h1
  have h3 : (b % 2 = 1) ↔ (a % 2 = 1) := by simpa using h1
  unfold stp at h
  by_cases hp : a % 2 = 1
  · rw [if_pos hp, if_pos (h3.2 hp)] at h
    have := xor_inj h; omega
  · rw [if_neg hp, if_neg (fun x => hp (h3.1 x))] at h
    have : ¬ b % 2 = 1 := fun x => hp (h3.1 x)
    omega
theorem stps_inj : ∀ (k a b : Nat), a < 4294967296 → b < 4294967296 → stps k a = stps k b → a = b
  | 0, _, _, _, _, h => h
  | k + 1, a, b, ha, hb, h => stps_inj k a b ha hb (stp_inj _ _ (stps_lt k a ha) (stps_lt k b hb) h)
theorem byt_injl (c d : Nat) (b : UInt8) (hc : c < 4294967296) (hd : d < 4294967296) (h : byt c b = byt d b) : c = d :=
  xor_inj (stps_inj 8 _ _ (Nat.xor_lt_two_pow (n := 32) hc (by have := b.toNat_lt; omega)) (Nat.xor_lt_two_pow (n := 32) hd (by have := b.toNat_lt; omega)) h)
theorem byt_injr (c : Nat) (a b : UInt8) (hc : c < 4294967296) (h : byt c a = byt c b) : a = b := by
  have h1 := stps_inj 8 _ _ (Nat.xor_lt_two_pow (n := 32) hc (by have := a.toNat_lt; omega)) (Nat.xor_lt_two_pow (n := 32) hc (by have := b.toNat_lt; omega)) h
  rw [Nat.xor_comm c, Nat.xor_comm c] at h1
  exact UInt8.toNat_inj.1 (xor_inj h1)
theorem run_inj : ∀ (l : List UInt8) (c d : Nat), c < 4294967296 → d < 4294967296 → run c l = run d l → c = d
  | [], _, _, _, _, h => h
  | b :: l, c, d, hc, hd, h => byt_injl c d b hc hd (run_inj l _ _ (byt_lt c b hc) (byt_lt d b hd) h)
/-- one byte turned, and the sum is another -/
theorem sum_set (l : List UInt8) (i : Nat) (h : i < l.length) (b : UInt8) (hb : b ≠ l[i]) : sum (l.set i b) ≠ sum l := by
  intro he
  have h1 := xor_inj he
  have e1 : l = l.take i ++ l[i] :: l.drop (i + 1) := by simp
  have e2 : l.set i b = l.take i ++ b :: l.drop (i + 1) := by
    rw [List.set_eq_take_append_cons_drop, if_pos h]
  rw [e2] at h1
  conv at h1 => rhs; rw [e1]
  rw [run_append, run_append] at h1
  have hl := run_lt (l.take i) 4294967295 (by omega)
  have h2 := run_inj _ _ _ (byt_lt _ _ hl) (byt_lt _ _ hl) h1
  exact hb (byt_injr _ _ _ hl h2)

/-- three by xor -/
def xor3 : List UInt8 → List UInt8 → List UInt8 → List UInt8
  | a :: l, b :: m, c :: n => (a ^^^ b ^^^ c) :: xor3 l m n
  | _, _, _ => []
theorem byt_xor3 (c d e : Nat) (x y z : UInt8) : byt (c ^^^ d ^^^ e) (x ^^^ y ^^^ z) = byt c x ^^^ byt d y ^^^ byt e z := by
  unfold byt
  rw [UInt8.toNat_xor, UInt8.toNat_xor, ← stps_xor, ← stps_xor]
  congr 1
  ac_rfl
theorem run_xor3 : ∀ (l m n : List UInt8) (c d e : Nat), m.length = l.length → n.length = l.length → run (c ^^^ d ^^^ e) (xor3 l m n) = run c l ^^^ run d m ^^^ run e n
  | [], [], [], _, _, _, _, _ => rfl
  | x :: l, y :: m, z :: n, c, d, e, h1, h2 => by
    have := run_xor3 l m n (byt c x) (byt d y) (byt e z) (by simpa using h1) (by simpa using h2)
    rw [← byt_xor3] at this
    exact this
theorem sum_xor3 (l m n : List UInt8) (h1 : m.length = l.length) (h2 : n.length = l.length) : sum (xor3 l m n) = sum l ^^^ sum m ^^^ sum n := by
  unfold sum
  have := run_xor3 l m n 4294967295 4294967295 4294967295 h1 h2
  rw [Nat.xor_self, Nat.zero_xor] at this
  rw [this]
  have e : ∀ a b c d : Nat, a ^^^ d ^^^ (b ^^^ d) ^^^ (c ^^^ d) = a ^^^ b ^^^ c ^^^ d := by
    intro a b c d
    have : a ^^^ d ^^^ (b ^^^ d) ^^^ (c ^^^ d) = a ^^^ b ^^^ c ^^^ d ^^^ (d ^^^ d) := by ac_rfl
    rw [this, Nat.xor_self, Nat.xor_zero]
  rw [e]
theorem sum_check : sum [49, 50, 51, 52, 53, 54, 55, 56, 57] = 3808858755 := by decide +kernel

/-- a sum's four bytes, the highest first -/
def wr (n : Nat) : List UInt8 := [UInt8.ofNat (n / 16777216 % 256), UInt8.ofNat (n / 65536 % 256), UInt8.ofNat (n / 256 % 256), UInt8.ofNat (n % 256)]
def seal4 (l : List UInt8) : List UInt8 := l ++ wr (sum l)
def right (l : List UInt8) : Bool := decide (4 ≤ l.length) && (l.drop (l.length - 4) == wr (sum (l.take (l.length - 4))))
theorem wr_len (n : Nat) : (wr n).length = 4 := rfl
theorem seal_len (l : List UInt8) : (seal4 l).length = l.length + 4 := by unfold seal4; rw [List.length_append, wr_len]
theorem u8_inj (a b : Nat) (ha : a < 256) (hb : b < 256) (h : UInt8.ofNat a = UInt8.ofNat b) : a = b := by
  have := congrArg UInt8.toNat h
  simp at this; omega
theorem wr_inj (a b : Nat) (ha : a < 4294967296) (hb : b < 4294967296) (h : wr a = wr b) : a = b := by
  unfold wr at h
  simp only [List.cons.injEq, and_true] at h
  obtain ⟨h1, h2, h3, h4⟩ := h
  have h1 := u8_inj _ _ (by omega) (by omega) h1
  have h2 := u8_inj _ _ (by omega) (by omega) h2
  have h3 := u8_inj _ _ (by omega) (by omega) h3
  have h4 := u8_inj _ _ (by omega) (by omega) h4
  omega
theorem right_seal (l : List UInt8) : right (seal4 l) = true := by
  have h := seal_len l
  unfold right
  rw [h]
  have e : seal4 l = l ++ wr (sum l) := rfl
  rw [show l.length + 4 - 4 = l.length by omega, e, List.drop_left, List.take_left]
  simp
/-- a byte turned, and what was sealed is not right -/
theorem right_set (l : List UInt8) (i : Nat) (h : i < (seal4 l).length) (b : UInt8) (hb : b ≠ (seal4 l)[i]) : right ((seal4 l).set i b) = false := by
  have hl := seal_len l
  have e : seal4 l = l ++ wr (sum l) := rfl
  unfold right
  rw [List.length_set, hl, show l.length + 4 - 4 = l.length by omega]
  by_cases hi : i < l.length
  · have e2 : (seal4 l).set i b = l.set i b ++ wr (sum l) := by rw [e, List.set_append_left _ _ hi]
    have e3 : (seal4 l)[i] = l[i] := by simp only [e]; rw [List.getElem_append_left hi]
    rw [e3] at hb
    have hs := sum_set l i hi b hb
    have d1 : ((l.set i b) ++ wr (sum l)).drop l.length = wr (sum l) := List.drop_left' (by simp)
    have d2 : ((l.set i b) ++ wr (sum l)).take l.length = l.set i b := List.take_left' (by simp)
    rw [e2, d1, d2]
    have : ¬ wr (sum l) = wr (sum (l.set i b)) := fun h => hs (wr_inj _ _ (sum_lt _) (sum_lt _) h.symm)
    simp [this]
  · have e2 : (seal4 l).set i b = l ++ (wr (sum l)).set (i - l.length) b := by rw [e, List.set_append_right _ _ (by omega)]
    have e3 : (seal4 l)[i] = (wr (sum l))[i - l.length]'(by rw [wr_len]; omega) := by simp only [e]; rw [List.getElem_append_right (by omega)]
    rw [e2, List.drop_left, List.take_left]
    have : ¬ (wr (sum l)).set (i - l.length) b = wr (sum l) := by
      intro h
      rw [e3] at hb
      have h2 := congrArg (fun m : List UInt8 => m[i - l.length]?) h
      simp only [List.getElem?_set_self (show i - l.length < (wr (sum l)).length by rw [wr_len]; omega)] at h2
      rw [List.getElem?_eq_getElem (by rw [wr_len]; omega)] at h2
      exact hb (Option.some.inj h2)
    simp [this]
end Go.Proofs.YtmkllibfblacfaaDoor.Crc

/-
  The plain mathematics of layer 5 (seal): blocks as lists of bytes; nothing of any program.
-/
namespace Go.Proofs.YtmkllibfblacfaaDoor.Sl
open Oct (be fix rd)
/-- the text, and zeros behind it -/
def body (s : List UInt8) : List UInt8 := s ++ List.replicate (490 - s.length) 0
/-- what is sealed -/
def pre (n : Int) (s : List UInt8) : List UInt8 := fix n 8 ++ (fix s.length 2 ++ ((body s).take 246 ++ (fix n 8 ++ (body s).drop 246)))
def blk (n : Int) (s : List UInt8) : List UInt8 := Crc.seal4 (pre n s)
theorem body_len (s : List UInt8) (h : s.length ≤ 490) : (body s).length = 490 := by unfold body; rw [List.length_append, List.length_replicate]; omega
theorem body_take (s : List UInt8) : (body s).take s.length = s := by unfold body; exact List.take_left
/-- the document's front, and its back -/
theorem front_short (s : List UInt8) (h : s.length ≤ 246) : s ++ List.replicate (246 - s.length) 0 = (body s).take 246 := by
  unfold body
  rw [List.take_append, List.take_of_length_le h, List.take_replicate, show min (246 - s.length) (490 - s.length) = 246 - s.length by omega]
theorem back_short (s : List UInt8) (h : s.length ≤ 246) : List.replicate 244 0 = (body s).drop 246 := by
  unfold body
  rw [List.drop_append, List.drop_of_length_le h, List.drop_replicate, List.nil_append, show 490 - s.length - (246 - s.length) = 244 by omega]
theorem front_long (s : List UInt8) (h : 246 < s.length) : s.take 246 = (body s).take 246 := by
  unfold body
  rw [List.take_append, show 246 - s.length = 0 by omega, List.take_zero, List.append_nil]
theorem back_long (s : List UInt8) (h : 246 < s.length) : s.drop 246 ++ List.replicate (244 - (s.length - 246)) 0 = (body s).drop 246 := by
  unfold body
  rw [List.drop_append, show 246 - s.length = 0 by omega, List.drop_zero, show 490 - s.length = 244 - (s.length - 246) by omega]
theorem cut_at {a r : List UInt8} {k : Nat} (h : a.length = k) : (a ++ r).take k = a ∧ (a ++ r).drop k = r := by
  subst h; exact ⟨List.take_left, List.drop_left⟩
/-- a block's parts -/
structure Parts (l : List UInt8) (n : Int) (s : List UInt8) : Prop where
  len : l.length = 512
  num : l.take 8 = fix n 8
  size : (l.drop 8).take 2 = fix s.length 2
  front : (l.drop 10).take 246 = (body s).take 246
  again : (l.drop 256).take 8 = fix n 8
  back : (l.drop 264).take 244 = (body s).drop 246
theorem pre_len (n : Int) (s : List UInt8) (h : s.length ≤ 490) : (pre n s).length = 508 := by
  unfold pre
  simp only [List.length_append, Oct.fix_len, List.length_take, List.length_drop, body_len s h]
  omega
theorem blk_len (n : Int) (s : List UInt8) (h : s.length ≤ 490) : (blk n s).length = 512 := by unfold blk; rw [Crc.seal_len, pre_len n s h]
theorem blk_parts (n : Int) (s : List UInt8) (h : s.length ≤ 490) : Parts (blk n s) n s := by
  have e : blk n s = fix n 8 ++ (fix s.length 2 ++ ((body s).take 246 ++ (fix n 8 ++ ((body s).drop 246 ++ Crc.wr (Crc.sum (pre n s)))))) := by
    unfold blk Crc.seal4 pre; simp only [List.append_assoc]
  have l2 : ((body s).take 246).length = 246 := by rw [List.length_take, body_len s h]; omega
  have l3 : ((body s).drop 246).length = 244 := by rw [List.length_drop, body_len s h]
  have hl := blk_len n s h
  generalize Crc.wr (Crc.sum (pre n s)) = c at e
  generalize ht : (body s).take 246 = t at *
  generalize hd : (body s).drop 246 = d at *
  generalize blk n s = l at *
  obtain ⟨c1, c2⟩ := cut_at (r := fix s.length 2 ++ (t ++ (fix n 8 ++ (d ++ c)))) (Oct.fix_len n 8)
  obtain ⟨c3, c4⟩ := cut_at (r := t ++ (fix n 8 ++ (d ++ c))) (Oct.fix_len s.length 2)
  obtain ⟨c5, c6⟩ := cut_at (r := fix n 8 ++ (d ++ c)) l2
  obtain ⟨c7, c8⟩ := cut_at (r := d ++ c) (Oct.fix_len n 8)
  obtain ⟨c9, _⟩ := cut_at (r := c) l3
  have d8 : l.drop 8 = fix s.length 2 ++ (t ++ (fix n 8 ++ (d ++ c))) := by rw [e]; exact c2
  have d10 : l.drop 10 = t ++ (fix n 8 ++ (d ++ c)) := by rw [show 10 = 8 + 2 from rfl, ← List.drop_drop, d8]; exact c4
  have d256 : l.drop 256 = fix n 8 ++ (d ++ c) := by rw [show 256 = 10 + 246 from rfl, ← List.drop_drop, d10]; exact c6
  have d264 : l.drop 264 = d ++ c := by rw [show 264 = 256 + 8 from rfl, ← List.drop_drop, d256]; exact c8
  exact ⟨hl, by rw [e]; exact c1, by rw [d8]; exact c3, by rw [d10]; exact c5.trans ht.symm, by rw [d256]; exact c7, by rw [d264]; exact c9.trans hd.symm⟩
/-! ### as texts -/
theorem ext_list (b : ByteArray) (i j : Nat) : (b.extract i j).data.toList = (b.data.toList.drop i).take (j - i) := by
  rw [ByteArray.data_extract, Array.toList_extract, List.extract]
theorem rd_eq (b : ByteArray) (l : List UInt8) (h : b.data.toList = l) : rd b = IntKind.i64.wrap (be (l.take 8) : Int) := by unfold rd; rw [h]
def zeros : ByteArray := ⟨(List.replicate 512 0).toArray⟩
def one (b : ByteArray) : Int := rd (b.extract 0 8)
def two (b : ByteArray) : Int := rd (b.extract 256 264)
def len (b : ByteArray) : Int := rd (b.extract 8 10)
def all (b : ByteArray) : ByteArray := b.extract 10 256 ++ b.extract 264 508
def putE (n : Int) (s : ByteArray) : Int := if n < 1 ∨ 4611686018427387904 < n then 2 else if 490 < s.size then 5 else 0
def putB (n : Int) (s : ByteArray) : ByteArray := if putE n s = 0 then ⟨(blk n s.data.toList).toArray⟩ else ByteArray.empty
def halves (b : ByteArray) : Int × Int := if b.size = 512 then (one b, two b) else (0, 0)
def take (b : ByteArray) : Int × ByteArray × Int :=
  if b.size ≠ 512 then (0, ByteArray.empty, 4) else if b = zeros then (0, ByteArray.empty, 6) else if one b ≠ two b then (0, ByteArray.empty, 10) else if 490 < len b then (0, ByteArray.empty, 9)
  else if putE (one b) ((all b).extract 0 (len b).toNat) = 0 ∧ putB (one b) ((all b).extract 0 (len b).toNat) = b then (one b, (all b).extract 0 (len b).toNat, 0) else (0, ByteArray.empty, 9)
theorem ba_ext {a b : ByteArray} (h : a.data.toList = b.data.toList) : a = b := by
  cases a; cases b; congr; exact Array.toList_inj.1 h
theorem size_list (b : ByteArray) : b.size = b.data.toList.length := by simp
theorem putE_ok {n : Int} {s : ByteArray} : putE n s = 0 ↔ (1 ≤ n ∧ n ≤ 4611686018427387904 ∧ s.size ≤ 490) := by
  unfold putE
  split
  · constructor <;> intro h <;> omega
  · split
    · constructor <;> intro h <;> omega
    · constructor <;> intro h <;> omega
theorem putB_ok {n : Int} {s : ByteArray} (h : putE n s = 0) : putB n s = ⟨(blk n s.data.toList).toArray⟩ := by unfold putB; rw [if_pos h]
theorem putB_err {n : Int} {s : ByteArray} (h : putE n s ≠ 0) : putB n s = ByteArray.empty := by unfold putB; rw [if_neg h]
/-- what reads as a number of eight bytes -/
theorem rd_of (b : ByteArray) (n : Int) (h0 : -9223372036854775808 ≤ n) (h1 : n ≤ 9223372036854775807) (h : b.data.toList = fix n 8) : rd b = n := by
  have := Oct.rd_fix n h0 h1
  rwa [show (⟨(fix n 8).toArray⟩ : ByteArray) = b from ba_ext h.symm] at this
theorem rd_two (b : ByteArray) (k : Nat) (hk : k < 65536) (h : b.data.toList = fix k 2) : rd b = (k : Int) := by
  rw [rd_eq b _ h, List.take_of_length_le (by rw [Oct.fix_len]; omega), Oct.be_fix, IntKind.wrap_i64]
  omega
theorem put_parts {n : Int} {s : ByteArray} (h : putE n s = 0) : Parts (putB n s).data.toList n s.data.toList := by
  rw [putB_ok h]
  exact blk_parts n _ (by rw [← size_list]; exact (putE_ok.1 h).2.2)
theorem put_size {n : Int} {s : ByteArray} (h : putE n s = 0) : (putB n s).size = 512 := by rw [size_list]; exact (put_parts h).len
theorem put_one {n : Int} {s : ByteArray} (h : putE n s = 0) : one (putB n s) = n := by
  obtain ⟨h1, h2, _⟩ := putE_ok.1 h
  exact rd_of _ n (by omega) (by omega) (by rw [ext_list, List.drop_zero]; exact (put_parts h).num)
theorem put_two {n : Int} {s : ByteArray} (h : putE n s = 0) : two (putB n s) = n := by
  obtain ⟨h1, h2, _⟩ := putE_ok.1 h
  exact rd_of _ n (by omega) (by omega) (by rw [ext_list]; exact (put_parts h).again)
theorem put_len {n : Int} {s : ByteArray} (h : putE n s = 0) : len (putB n s) = (s.size : Int) := by
  obtain ⟨_, _, h3⟩ := putE_ok.1 h
  exact rd_two _ _ (by omega) (by rw [ext_list, size_list]; exact (put_parts h).size)
theorem put_all {n : Int} {s : ByteArray} (h : putE n s = 0) : (all (putB n s)).extract 0 s.size = s := by
  apply ba_ext
  have e : (all (putB n s)).data.toList = body s.data.toList := by
    unfold all
    rw [ByteArray.data_append, Array.toList_append, ext_list, ext_list, show 256 - 10 = 246 from rfl, show 508 - 264 = 244 from rfl, (put_parts h).front, (put_parts h).back, List.take_append_drop]
  rw [ext_list, List.drop_zero, e, Nat.sub_zero, size_list]
  exact body_take _
/-- a block that begins with a number is not all zeros -/
theorem one_zeros {b : ByteArray} (h : b = zeros) : one b = 0 ∧ two b = 0 := by subst h; exact ⟨by decide +kernel, by decide +kernel⟩
theorem take_put {n : Int} {s : ByteArray} (h : putE n s = 0) : take (putB n s) = (n, s, 0) ∧ halves (putB n s) = (n, n) := by
  obtain ⟨h1, h2, h3⟩ := putE_ok.1 h
  have hz : putB n s ≠ zeros := fun e => by have := (one_zeros e).1; rw [put_one h] at this; omega
  constructor
  · unfold take
    rw [if_neg (by rw [put_size h]; simp), if_neg hz, put_one h, put_two h, put_len h, if_neg (by simp), if_neg (by omega), Int.toNat_natCast, put_all h, if_pos ⟨h, rfl⟩]
  · unfold halves
    rw [if_pos (put_size h), put_one h, put_two h]
theorem take_ok {b : ByteArray} (h : (take b).2.2 = 0) : putE (take b).1 (take b).2.1 = 0 ∧ putB (take b).1 (take b).2.1 = b := by
  unfold take at h ⊢
  split at h
  · simp at h
  · split at h
    · simp at h
    · split at h
      · simp at h
      · split at h
        · simp at h
        · split at h
          · rename_i h1 h2 h3 h4 h5
            rw [if_neg h1, if_neg h2, if_neg h3, if_neg h4, if_pos h5]; exact h5
          · simp at h
theorem take_err {b : ByteArray} (h : (take b).2.2 ≠ 0) : (take b).1 = 0 ∧ (take b).2.1 = ByteArray.empty := by
  unfold take at h ⊢
  split at h
  · rename_i h1; rw [if_pos h1]; exact ⟨rfl, rfl⟩
  · rename_i h1; rw [if_neg h1]
    split at h
    · rename_i h2; rw [if_pos h2]; exact ⟨rfl, rfl⟩
    · rename_i h2; rw [if_neg h2]
      split at h
      · rename_i h3; rw [if_pos h3]; exact ⟨rfl, rfl⟩
      · rename_i h3; rw [if_neg h3]
        split at h
        · rename_i h4; rw [if_pos h4]; exact ⟨rfl, rfl⟩
        · rename_i h4; rw [if_neg h4]
          split at h
          · simp at h
          · rename_i h5; rw [if_neg h5]; exact ⟨rfl, rfl⟩
/-! ### torn ones -/
/-- the front of one and the back of another -/
def mix (a b : ByteArray) : ByteArray := a.extract 0 256 ++ b.extract 256 512
theorem mix_size {a b : ByteArray} (ha : a.size = 512) (hb : b.size = 512) : (mix a b).size = 512 := by
  unfold mix; rw [ByteArray.size_append, ByteArray.size_extract, ByteArray.size_extract]; omega
theorem mix_list (a b : ByteArray) : (mix a b).data.toList = a.data.toList.take 256 ++ (b.data.toList.drop 256).take 256 := by
  unfold mix; rw [ByteArray.data_append, Array.toList_append, ext_list, ext_list, List.drop_zero]
theorem rd_list {a b : ByteArray} (h : a.data.toList = b.data.toList) : rd a = rd b := by rw [ba_ext h]
theorem ext_first (b : ByteArray) (k : Nat) : (b.extract 0 k).data.toList = b.data.toList.take k := by rw [ext_list, List.drop_zero, Nat.sub_zero]
theorem mix_one {a b : ByteArray} (ha : a.size = 512) : one (mix a b) = one a := by
  have hl : 8 ≤ (a.data.toList.take 256).length := by rw [List.length_take, ← size_list]; omega
  refine rd_list ?_
  rw [ext_first, ext_first, mix_list]
  generalize (b.data.toList.drop 256).take 256 = r
  rw [List.take_append_of_le_length hl, List.take_take, show min 8 256 = 8 from rfl]
theorem mix_two {a b : ByteArray} (ha : a.size = 512) : two (mix a b) = two b := by
  have hl : (a.data.toList.take 256).length = 256 := by rw [List.length_take, ← size_list]; omega
  refine rd_list ?_
  rw [ext_list, ext_list, mix_list]
  generalize a.data.toList.take 256 = r at hl
  rw [(cut_at hl).2, List.take_take, show min (264 - 256) 256 = 264 - 256 from rfl]
theorem take_torn {b : ByteArray} (hs : b.size = 512) (h : one b ≠ two b) : take b = (0, ByteArray.empty, 10) := by
  have hz : b ≠ zeros := fun e => h (by rw [(one_zeros e).1, (one_zeros e).2])
  unfold take
  rw [if_neg (by simp [hs]), if_neg hz, if_pos h]
theorem zeros_size : zeros.size = 512 := by rw [size_list]; exact List.length_replicate
/-- SealTorn's whole claim -/
theorem torn {n m : Int} {s t : ByteArray} (h1 : putE n s = 0) (h2 : putE m t = 0) (hn : n ≠ m) :
    take (mix (putB n s) (putB m t)) = (0, ByteArray.empty, 10) ∧ take (mix (putB n s) zeros) = (0, ByteArray.empty, 10) ∧ take (mix zeros (putB m t)) = (0, ByteArray.empty, 10) ∧ halves (mix (putB n s) (putB m t)) = (n, m) := by
  have a1 := put_size h1
  have a2 := put_size h2
  have z := zeros_size
  obtain ⟨p1, _, _⟩ := putE_ok.1 h1
  obtain ⟨p2, _, _⟩ := putE_ok.1 h2
  have z1 := one_zeros (b := zeros) rfl
  refine ⟨take_torn (mix_size a1 a2) ?_, take_torn (mix_size a1 z) ?_, take_torn (mix_size z a2) ?_, ?_⟩
  · rw [mix_one a1, mix_two a1, put_one h1, put_two h2]; exact hn
  · rw [mix_one a1, mix_two a1, put_one h1, z1.2]; omega
  · rw [mix_one z, mix_two z, put_two h2, z1.1]; omega
  · unfold halves
    rw [if_pos (mix_size a1 a2), mix_one a1, mix_two a1, put_one h1, put_two h2]
/-! ### the document's example -/
def ab : ByteArray := ⟨#[97, 98]⟩
theorem ab_ok : putE 7 ab = 0 := by decide +kernel
theorem ab_cut : (putB 7 ab).extract 7 12 = ⟨#[7, 0, 2, 97, 98]⟩ := by
  apply ba_ext
  rw [ext_list, putB_ok ab_ok]
  decide +kernel
theorem ab_at : (putB 7 ab).data.toList[263]? = some 7 := by
  rw [putB_ok ab_ok]
  decide +kernel
theorem ab_take : take (putB 7 ab) = (7, ab, 0) := (take_put ab_ok).1
end Go.Proofs.YtmkllibfblacfaaDoor.Sl

/-
  The plain mathematics of layer 6 (label): a label's bytes, and what bytes are parsed as; nothing of any program.
-/
namespace Go.Proofs.YtmkllibfblacfaaDoor.Lb
open Oct (numB tN tR tE txt)
structure Label where
  turn : Int
  tail : Int
  head : Int
  note : ByteArray
def no : Label := ⟨0, 0, 0, ⟨#[]⟩⟩
def right (l : Label) : Prop := 1 ≤ l.turn ∧ l.turn ≤ 4611686018427387904 ∧ 0 ≤ l.tail ∧ l.tail ≤ l.head ∧ l.head ≤ 1125899906842624 ∧ l.note.size ≤ 400
instance (l : Label) : Decidable (right l) := by unfold right; infer_instance
def text (l : Label) : ByteArray := numB l.tail ++ numB l.head ++ (numB l.note.size ++ l.note)
def bytesE (l : Label) : Int := if right l then 0 else 2
def bytes (l : Label) : ByteArray := if right l then text l else ⟨#[]⟩
/-- the label that the bytes tell, if they tell one -/
def told (turn : Int) (s : ByteArray) : Label := ⟨turn, tN s, tN (tR s), (txt (tR (tR s)) 400).1⟩
def parse (turn : Int) (s : ByteArray) : Label × Int :=
  if tE s ≠ 0 ∨ tE (tR s) ≠ 0 ∨ (txt (tR (tR s)) 400).2.2 ≠ 0 ∨ (txt (tR (tR s)) 400).2.1 ≠ ⟨#[]⟩ ∨ ¬ right (told turn s) then (no, 4) else (told turn s, 0)
/-- what is taken as a text has just those bytes -/
theorem txt_only {s a r : ByteArray} {most : Int} (h : txt s most = (a, r, 0)) : numB a.size ++ a ++ r = s := by
  rcases Oct.cnt3_cases s most with ⟨e, he, h1⟩ | ⟨n, r', _, _, _, h1, h2⟩
  · rw [Oct.txt_err he h1] at h
    exact absurd (congrArg (fun x => x.2.2) h) he
  · by_cases h3 : r'.size < n
    · rw [Oct.txt_short h1 h3] at h
      have h4 : (3 : Int) = 0 := congrArg (fun x => x.2.2) h
      exact absurd h4 (by decide)
    · rw [Oct.txt_ok h1 h3] at h
      obtain ⟨rfl, rfl⟩ : r'.extract 0 n = a ∧ r'.extract n r'.size = r := ⟨congrArg (fun x => x.1) h, congrArg (fun x => x.2.1) h⟩
      have hn : (r'.extract 0 n).size = n := by rw [ByteArray.size_extract]; omega
      rw [hn, ByteArray.append_assoc, ← h2]
      congr 1
      apply Sl.ba_ext
      rw [ByteArray.data_append, Array.toList_append, Oct.extract_drop, Sl.ext_first, List.take_append_drop]
theorem num_only {s : ByteArray} (h : tE s = 0) : numB (tN s) ++ tR s = s := by
  rcases Oct.t_cases s with ⟨_, _, h1 | h1⟩ | ⟨n, r, _, _, _, e1, e2, _, e4⟩
  · rw [h] at h1; exact absurd h1 (by decide)
  · rw [h] at h1; exact absurd h1 (by decide)
  · rw [e1, e2]; exact e4
theorem empty_right (a : ByteArray) : a ++ (⟨#[]⟩ : ByteArray) = a := by
  apply Sl.ba_ext; rw [ByteArray.data_append, Array.toList_append]; exact List.append_nil _
theorem parse_text {l : Label} (h : right l) : parse l.turn (text l) = (l, 0) := by
  obtain ⟨h1, h2, h3, h4, h5, h6⟩ := h
  obtain ⟨a1, a2, a3⟩ := Oct.tE_back l.tail (numB l.head ++ (numB l.note.size ++ l.note)) (by omega) (by omega)
  obtain ⟨b1, b2, b3⟩ := Oct.tE_back l.head (numB l.note.size ++ l.note) (by omega) (by omega)
  have c := Oct.txt_back l.note ⟨#[]⟩ 400 (by omega) (by omega)
  rw [empty_right] at c
  have e : text l = numB l.tail ++ (numB l.head ++ (numB l.note.size ++ l.note)) := by unfold text; rw [ByteArray.append_assoc]
  have ht : told l.turn (text l) = l := by unfold told; rw [e, a1, a2, b1, b2, c]
  unfold parse
  rw [ht, e, a3, a2, b3, b2, c]
  rw [if_neg]
  rintro (h | h | h | h | h)
  · exact h rfl
  · exact h rfl
  · exact h rfl
  · exact h rfl
  · exact h ⟨h1, h2, h3, h4, h5, h6⟩
theorem parse_ok {t : Int} {s : ByteArray} (h : (parse t s).2 = 0) : right (parse t s).1 ∧ (parse t s).1.turn = t ∧ text (parse t s).1 = s := by
  unfold parse at h ⊢
  split at h
  · exact absurd h (by decide)
  · rename_i hc
    rw [if_neg hc]
    have e1 : tE s = 0 := Classical.byContradiction fun x => hc (.inl x)
    have e2 : tE (tR s) = 0 := Classical.byContradiction fun x => hc (.inr (.inl x))
    have e3 : (txt (tR (tR s)) 400).2.2 = 0 := Classical.byContradiction fun x => hc (.inr (.inr (.inl x)))
    have e4 : (txt (tR (tR s)) 400).2.1 = ⟨#[]⟩ := Classical.byContradiction fun x => hc (.inr (.inr (.inr (.inl x))))
    have e5 : right (told t s) := Classical.byContradiction fun x => hc (.inr (.inr (.inr (.inr x))))
    refine ⟨e5, rfl, ?_⟩
    have n1 := num_only e1
    have n2 := num_only e2
    have n3 := txt_only (s := tR (tR s)) (most := 400) (a := (txt (tR (tR s)) 400).1) (r := ⟨#[]⟩) (by rw [← e4, ← e3])
    rw [empty_right] at n3
    show numB (tN s) ++ numB (tN (tR s)) ++ (numB ((txt (tR (tR s)) 400).1.size : Nat) ++ (txt (tR (tR s)) 400).1) = s
    rw [n3, ByteArray.append_assoc, n2, n1]
theorem parse_err {t : Int} {s : ByteArray} (h : (parse t s).2 ≠ 0) : (parse t s).1 = no := by
  unfold parse at h ⊢
  split
  · rfl
  · rename_i hc; rw [if_neg hc] at h; exact absurd rfl h
theorem bytes_ok {l : Label} (h : bytesE l = 0) : right l ∧ bytes l = text l := by
  unfold bytesE at h
  split at h
  · rename_i hr; exact ⟨hr, by unfold bytes; rw [if_pos hr]⟩
  · exact absurd h (by decide)
end Go.Proofs.YtmkllibfblacfaaDoor.Lb

/-
  The plain mathematics of layer 12 (value): right values, their texts, bytes and order, and what bytes begin with; nothing of any program.
-/
namespace Go.Proofs.YtmkllibfblacfaaDoor.Vl
open Oct (numB tN tR tE txt)
structure V where
  kind : Int
  n : Int
  s : ByteArray
abbrev mt : ByteArray := ⟨#[]⟩
def no : V := ⟨0, 0, mt⟩
/-- may s be a text? -/
def plain (s : ByteArray) : Prop := s.size ≤ 40 ∧ ∀ b ∈ s.data.toList, 32 ≤ b.toNat ∧ b.toNat ≤ 126
instance (s : ByteArray) : Decidable (plain s) := by unfold plain; infer_instance
def right (v : V) : Prop := (v.kind = 0 ∧ v.n = 0 ∧ v.s = mt) ∨ (v.kind = 1 ∧ v.s = mt) ∨ (v.kind = 2 ∧ v.n = 0 ∧ plain v.s) ∨ (v.kind = 3 ∧ (v.n = 0 ∨ v.n = 1) ∧ v.s = mt)
instance (v : V) : Decidable (right v) := by unfold right; infer_instance
theorem v_ext {a b : V} (h1 : a.kind = b.kind) (h2 : a.n = b.n) (h3 : a.s = b.s) : a = b := by
  cases a; cases b; simp only at h1 h2 h3; subst h1 h2 h3; rfl
theorem right_kind {v : V} (h : right v) : 0 ≤ v.kind ∧ v.kind ≤ 3 := by
  rcases h with h | h | h | h <;> omega
theorem right_size {v : V} (h : right v) : v.s.size ≤ 40 := by
  rcases h with h | h | h | h
  · rw [h.2.2]; decide
  · rw [h.2]; decide
  · exact h.2.2.1
  · rw [h.2.2]; decide
theorem right_n {v : V} (h : right v) (hn : v.kind ≠ 1) : v.n = 0 ∨ v.n = 1 := by
  rcases h with h | h | h | h
  · exact .inl h.2.1
  · exact absurd h.1 hn
  · exact .inl h.2.1
  · exact h.2.1
theorem right_no : right no := .inl ⟨rfl, rfl, rfl⟩

/-! the bytes -/
def tail (v : V) : ByteArray := if v.kind = 1 ∨ v.kind = 3 then numB v.n else if v.kind = 2 then numB v.s.size ++ v.s else mt
def bytes (v : V) : ByteArray := numB v.kind ++ tail v

/-- a value's bytes off the front -/
def take (s : ByteArray) : V × ByteArray × Int :=
  if tE s ≠ 0 then (no, mt, tE s)
  else if tN s = 1 ∨ tN s = 3 then
    if tE (tR s) ≠ 0 then (no, mt, tE (tR s)) else if right ⟨tN s, tN (tR s), mt⟩ then (⟨tN s, tN (tR s), mt⟩, tR (tR s), 0) else (no, mt, 4)
  else if tN s = 2 then
    if (txt (tR s) 40).2.2 ≠ 0 then (no, mt, (txt (tR s) 40).2.2) else if right ⟨2, 0, (txt (tR s) 40).1⟩ then (⟨2, 0, (txt (tR s) 40).1⟩, (txt (tR s) 40).2.1, 0) else (no, mt, 4)
  else if tN s = 0 then (no, tR s, 0) else (no, mt, 4)

theorem append_mt (a : ByteArray) : a ++ mt = a := Lb.empty_right a
theorem mt_append (a : ByteArray) : mt ++ a = a := by
  apply Sl.ba_ext; rw [ByteArray.data_append, Array.toList_append]; rfl
theorem take_bytes {v : V} (h : right v) (h0 : -9223372036854775808 ≤ v.n) (h1 : v.n ≤ 9223372036854775807) (r : ByteArray) : take (bytes v ++ r) = (v, r, 0) := by
  obtain ⟨k0, k3⟩ := right_kind h
  obtain ⟨a1, a2, a3⟩ := Oct.tE_back v.kind (tail v ++ r) (by omega) (by omega)
  have e : bytes v ++ r = numB v.kind ++ (tail v ++ r) := by unfold bytes; rw [ByteArray.append_assoc]
  have hh := h
  unfold take
  rw [e, a1, a2, a3, if_neg (by simp)]
  obtain ⟨k, n, s⟩ := v
  simp only at *
  rcases h with h | h | h | h
  · obtain ⟨rfl, rfl, rfl⟩ := h
    rw [if_neg (by decide), if_neg (by decide), if_pos rfl]
    have : tail ⟨0, 0, mt⟩ = mt := by decide
    rw [this, mt_append]; rfl
  · obtain ⟨rfl, rfl⟩ := h
    obtain ⟨b1, b2, b3⟩ := Oct.tE_back n r h0 h1
    have : tail ⟨1, n, mt⟩ = numB n := rfl
    rw [if_pos (.inl rfl), this, b1, b2, b3, if_neg (by simp), if_pos hh]
  · obtain ⟨rfl, rfl, hp⟩ := h
    have : tail ⟨2, 0, s⟩ = numB s.size ++ s := rfl
    have hp1 : s.size ≤ 40 := hp.1
    have c := Oct.txt_back s r 40 (by omega) (by omega)
    rw [if_neg (by decide), if_pos rfl, this, c, if_neg (by simp), if_pos hh]
  · obtain ⟨rfl, hn, rfl⟩ := h
    obtain ⟨b1, b2, b3⟩ := Oct.tE_back n r h0 h1
    have : tail ⟨3, n, mt⟩ = numB n := rfl
    rw [if_pos (.inr rfl), this, b1, b2, b3, if_neg (by simp), if_pos hh]
/-- what was taken: right, and it has just these bytes; or there is nothing of it -/
theorem take_ok (s : ByteArray) : ((take s).2.2 = 0 ∧ right (take s).1 ∧ bytes (take s).1 ++ (take s).2.1 = s) ∨ ((take s).2.2 ≠ 0 ∧ (take s).1 = no ∧ (take s).2.1 = mt) := by
  unfold take
  by_cases h1 : tE s = 0
  · rw [if_neg (by simpa using h1)]
    have n1 := Lb.num_only h1
    by_cases h2 : tN s = 1 ∨ tN s = 3
    · rw [if_pos h2]
      by_cases h3 : tE (tR s) = 0
      · rw [if_neg (by simpa using h3)]
        have n2 := Lb.num_only h3
        by_cases h4 : right ⟨tN s, tN (tR s), mt⟩
        · rw [if_pos h4]
          refine .inl ⟨rfl, h4, ?_⟩
          unfold bytes tail
          show numB (tN s) ++ (if tN s = 1 ∨ tN s = 3 then numB (tN (tR s)) else _) ++ tR (tR s) = s
          rw [if_pos h2, ByteArray.append_assoc, n2, n1]
        · rw [if_neg h4]; exact .inr ⟨by decide, rfl, rfl⟩
      · rw [if_pos h3]; exact .inr ⟨h3, rfl, rfl⟩
    · rw [if_neg h2]
      by_cases h3 : tN s = 2
      · rw [if_pos h3]
        by_cases h4 : (txt (tR s) 40).2.2 = 0
        · rw [if_neg (by simpa using h4)]
          by_cases h5 : right ⟨2, 0, (txt (tR s) 40).1⟩
          · rw [if_pos h5]
            refine .inl ⟨rfl, h5, ?_⟩
            have n3 := Lb.txt_only (s := tR s) (most := 40) (a := (txt (tR s) 40).1) (r := (txt (tR s) 40).2.1) (by rw [← h4])
            show numB 2 ++ (numB ((txt (tR s) 40).1.size : Nat) ++ (txt (tR s) 40).1) ++ (txt (tR s) 40).2.1 = s
            rw [ByteArray.append_assoc, n3, ← h3, n1]
          · rw [if_neg h5]; exact .inr ⟨by decide, rfl, rfl⟩
        · rw [if_pos h4]; exact .inr ⟨h4, rfl, rfl⟩
      · rw [if_neg h3]
        by_cases h4 : tN s = 0
        · rw [if_pos h4]
          refine .inl ⟨rfl, right_no, ?_⟩
          show numB 0 ++ mt ++ tR s = s
          rw [append_mt, ← h4, n1]
        · rw [if_neg h4]; exact .inr ⟨by decide, rfl, rfl⟩
  · rw [if_pos h1]; exact .inr ⟨h1, rfl, rfl⟩

/-! rows -/
def rows : Nat → ByteArray → List V × ByteArray × Int
  | 0, r => ([], r, 0)
  | n + 1, r => if (take r).2.2 ≠ 0 then ([], mt, (take r).2.2) else if (rows n (take r).2.1).2.2 ≠ 0 then ([], mt, (rows n (take r).2.1).2.2) else ((take r).1 :: (rows n (take r).2.1).1, (rows n (take r).2.1).2.1, 0)
def takeRow (s : ByteArray) (most : Int) : List V × ByteArray × Int :=
  if tE s ≠ 0 then ([], mt, tE s) else if tN s < 0 then ([], mt, 4) else if most < tN s then ([], mt, 5) else rows (tN s).toNat (tR s)
def allB (l : List V) : ByteArray := l.foldr (fun v b => bytes v ++ b) mt
def row (l : List V) : ByteArray := numB l.length ++ allB l
/-- the loop: l stands in front of what comes -/
def glue (acc : List V) (t : List V × ByteArray × Int) : List V × ByteArray × Int := if t.2.2 = 0 then (acc ++ t.1, t.2.1, 0) else ([], mt, t.2.2)
theorem rows_ok {n : Nat} {r : ByteArray} (h : (take r).2.2 = 0) (h2 : (rows n (take r).2.1).2.2 = 0) : rows (n + 1) r = ((take r).1 :: (rows n (take r).2.1).1, (rows n (take r).2.1).2.1, 0) := by
  show (if (take r).2.2 ≠ 0 then _ else if (rows n (take r).2.1).2.2 ≠ 0 then _ else _) = _
  rw [if_neg (by simpa using h), if_neg (by simpa using h2)]
theorem rows_bad {n : Nat} {r : ByteArray} (h : (take r).2.2 = 0) (h2 : (rows n (take r).2.1).2.2 ≠ 0) : rows (n + 1) r = ([], mt, (rows n (take r).2.1).2.2) := by
  show (if (take r).2.2 ≠ 0 then _ else if (rows n (take r).2.1).2.2 ≠ 0 then _ else _) = _
  rw [if_neg (by simpa using h), if_pos h2]
theorem rows_err {n : Nat} {r : ByteArray} (h : (take r).2.2 ≠ 0) : rows (n + 1) r = ([], mt, (take r).2.2) := by
  show (if (take r).2.2 ≠ 0 then _ else _) = _
  rw [if_pos h]
theorem rows_form (n : Nat) (r : ByteArray) : rows n r = glue [] (rows n r) := by
  unfold glue
  split
  · rename_i h; exact Prod.ext rfl (Prod.ext rfl h)
  · rename_i h
    cases n with
    | zero => exact absurd rfl h
    | succ n =>
      by_cases h1 : (take r).2.2 = 0
      · by_cases h2 : (rows n (take r).2.1).2.2 = 0
        · rw [rows_ok h1 h2] at h; exact absurd rfl h
        · rw [rows_bad h1 h2]
      · rw [rows_err h1]
theorem glue_step (acc : List V) (n : Nat) (r : ByteArray) (h : (take r).2.2 = 0) : glue acc (rows (n + 1) r) = glue (acc ++ [(take r).1]) (rows n (take r).2.1) := by
  unfold glue
  by_cases h2 : (rows n (take r).2.1).2.2 = 0
  · rw [rows_ok h h2, if_pos rfl, if_pos h2, List.append_assoc, List.singleton_append]
  · rw [rows_bad h h2, if_neg h2, if_neg h2]
theorem glue_err (acc : List V) (n : Nat) (r : ByteArray) (h : (take r).2.2 ≠ 0) : glue acc (rows (n + 1) r) = ([], mt, (take r).2.2) := by
  unfold glue
  rw [rows_err h]
  exact if_neg h
theorem glue_end (acc : List V) (r : ByteArray) : glue acc (rows 0 r) = (acc, r, 0) := by
  unfold glue rows; simp
/-- a value takes bytes -/
theorem take_less {r : ByteArray} (h : (take r).2.2 = 0) : (take r).2.1.size < r.size := by
  rcases take_ok r with ⟨_, _, h2⟩ | ⟨h1, _⟩
  · have := congrArg ByteArray.size h2
    rw [ByteArray.size_append] at this
    unfold bytes at this
    rw [ByteArray.size_append] at this
    have := Oct.numB_pos (take r).1.kind
    omega
  · exact absurd h h1
theorem rows_back : ∀ (l : List V) (r : ByteArray), (∀ v ∈ l, right v ∧ -9223372036854775808 ≤ v.n ∧ v.n ≤ 9223372036854775807) → rows l.length (allB l ++ r) = (l, r, 0)
  | [], r, _ => by show rows 0 (mt ++ r) = _; rw [mt_append]; rfl
  | v :: l, r, h => by
    obtain ⟨h1, h2, h3⟩ := h v (by simp)
    have ih := rows_back l r fun x hx => h x (by simp [hx])
    show rows (l.length + 1) (bytes v ++ allB l ++ r) = _
    rw [ByteArray.append_assoc, rows, take_bytes h1 h2 h3, ih]
    simp
theorem takeRow_back (l : List V) (r : ByteArray) (h : ∀ v ∈ l, right v ∧ -9223372036854775808 ≤ v.n ∧ v.n ≤ 9223372036854775807) (hl : l.length ≤ 9223372036854775807) : takeRow (row l ++ r) l.length = (l, r, 0) := by
  obtain ⟨a1, a2, a3⟩ := Oct.tE_back l.length (allB l ++ r) (by omega) (by omega)
  unfold takeRow row
  rw [ByteArray.append_assoc, a1, a2, a3, if_neg (by simp), if_neg (by omega), if_neg (by omega), Int.toNat_natCast]
  exact rows_back l r h

/-! the order -/
def cmpI (a b : Int) : Int := if a < b then -1 else if b < a then 1 else 0
def cmp (a b : V) : Int := if a.kind ≠ b.kind then cmpI a.kind b.kind else if a.n ≠ b.n then cmpI a.n b.n else Lib.compareBytes a.s.data.toList b.s.data.toList
theorem cmpI_flip (a b : Int) : cmpI b a = - cmpI a b := by unfold cmpI; split <;> split <;> omega
theorem cmpI_cases (a b : Int) : (a < b ∧ cmpI a b = -1) ∨ (a = b ∧ cmpI a b = 0) ∨ (b < a ∧ cmpI a b = 1) := by
  unfold cmpI
  by_cases h1 : a < b
  · exact .inl ⟨h1, if_pos h1⟩
  · by_cases h2 : b < a
    · exact .inr (.inr ⟨h2, by rw [if_neg h1, if_pos h2]⟩)
    · exact .inr (.inl ⟨by omega, by rw [if_neg h1, if_neg h2]⟩)
theorem cb_flip : ∀ a b : List UInt8, Lib.compareBytes b a = - Lib.compareBytes a b
  | [], [] => rfl
  | [], _ :: _ => rfl
  | _ :: _, [] => rfl
  | x :: a, y :: b => by
    have ih := cb_flip a b
    show (if y < x then (-1 : Int) else if x < y then 1 else Lib.compareBytes b a) = -(if x < y then (-1 : Int) else if y < x then 1 else Lib.compareBytes a b)
    by_cases h1 : x < y
    · have h2 : ¬ y < x := fun h => by have := UInt8.lt_iff_toNat_lt.1 h; have := UInt8.lt_iff_toNat_lt.1 h1; omega
      rw [if_neg h2, if_pos h1, if_pos h1]; rfl
    · by_cases h2 : y < x
      · rw [if_pos h2, if_neg h1, if_pos h2]
      · rw [if_neg h2, if_neg h1, if_neg h1, if_neg h2, ih]
theorem cb_range : ∀ a b : List UInt8, Lib.compareBytes a b = -1 ∨ Lib.compareBytes a b = 0 ∨ Lib.compareBytes a b = 1
  | [], [] => .inr (.inl rfl)
  | [], _ :: _ => .inl rfl
  | _ :: _, [] => .inr (.inr rfl)
  | x :: a, y :: b => by
    have ih := cb_range a b
    show (if x < y then (-1 : Int) else if y < x then 1 else Lib.compareBytes a b) = _ ∨ (if x < y then (-1 : Int) else if y < x then 1 else Lib.compareBytes a b) = _ ∨ (if x < y then (-1 : Int) else if y < x then 1 else Lib.compareBytes a b) = _
    by_cases h1 : x < y
    · rw [if_pos h1]; exact .inl rfl
    · by_cases h2 : y < x
      · rw [if_neg h1, if_pos h2]; exact .inr (.inr rfl)
      · rw [if_neg h1, if_neg h2]; exact ih
theorem cb_zero : ∀ a b : List UInt8, Lib.compareBytes a b = 0 → a = b
  | [], [], _ => rfl
  | [], _ :: _, h => by simp [Lib.compareBytes] at h
  | _ :: _, [], h => by simp [Lib.compareBytes] at h
  | x :: a, y :: b, h => by
    have h : (if x < y then (-1 : Int) else if y < x then 1 else Lib.compareBytes a b) = 0 := h
    by_cases h1 : x < y
    · rw [if_pos h1] at h; omega
    · by_cases h2 : y < x
      · rw [if_neg h1, if_pos h2] at h; omega
      · rw [if_neg h1, if_neg h2] at h
        have e : x = y := UInt8.toNat_inj.1 (by have a1 := mt_lt h1; have a2 := mt_lt h2; omega)
        rw [e, cb_zero a b h]
where mt_lt {x y : UInt8} (h : ¬ x < y) : y.toNat ≤ x.toNat := Nat.le_of_not_lt fun hh => h (UInt8.lt_iff_toNat_lt.2 hh)
theorem cb_self : ∀ a : List UInt8, Lib.compareBytes a a = 0
  | [] => rfl
  | x :: a => by
    show (if x < x then (-1 : Int) else if x < x then 1 else Lib.compareBytes a a) = 0
    have h : ¬ x < x := fun h => Nat.lt_irrefl _ (UInt8.lt_iff_toNat_lt.1 h)
    rw [if_neg h, if_neg h]; exact cb_self a
/-- at most, and at most, is at most; with equality just where both are equal -/
theorem cb_trans : ∀ a b c : List UInt8, Lib.compareBytes a b ≤ 0 → Lib.compareBytes b c ≤ 0 → Lib.compareBytes a c < 0 ∨ (Lib.compareBytes a b = 0 ∧ Lib.compareBytes b c = 0 ∧ Lib.compareBytes a c = 0)
  | [], [], [], _, _ => .inr ⟨rfl, rfl, rfl⟩
  | [], [], _ :: _, _, _ => .inl (by simp [Lib.compareBytes])
  | [], _ :: _, [], _, h => by simp [Lib.compareBytes] at h
  | [], _ :: _, _ :: _, _, _ => .inl (by simp [Lib.compareBytes])
  | _ :: _, [], _, h, _ => by simp [Lib.compareBytes] at h
  | _ :: _, _ :: _, [], _, h => by simp [Lib.compareBytes] at h
  | x :: a, y :: b, z :: c, h1, h2 => by
    have ih := cb_trans a b c
    have h1 : (if x < y then (-1 : Int) else if y < x then 1 else Lib.compareBytes a b) ≤ 0 := h1
    have h2 : (if y < z then (-1 : Int) else if z < y then 1 else Lib.compareBytes b c) ≤ 0 := h2
    show (if x < z then (-1 : Int) else if z < x then 1 else Lib.compareBytes a c) < 0 ∨ (if x < y then (-1 : Int) else if y < x then 1 else Lib.compareBytes a b) = 0 ∧ (if y < z then (-1 : Int) else if z < y then 1 else Lib.compareBytes b c) = 0 ∧ (if x < z then (-1 : Int) else if z < x then 1 else Lib.compareBytes a c) = 0
    simp only [UInt8.lt_iff_toNat_lt] at *
    by_cases p1 : x.toNat < y.toNat
    · have : x.toNat < z.toNat := by
        by_cases p2 : y.toNat < z.toNat
        · omega
        · by_cases p3 : z.toNat < y.toNat
          · rw [if_neg p2, if_pos p3] at h2; omega
          · omega
      rw [if_pos this]; exact .inl (by decide)
    · by_cases p3 : y.toNat < x.toNat
      · rw [if_neg p1, if_pos p3] at h1; omega
      · rw [if_neg p1, if_neg p3] at h1
        have e : x.toNat = y.toNat := by omega
        rw [e] at *
        by_cases p2 : y.toNat < z.toNat
        · rw [if_pos p2]; exact .inl (by decide)
        · by_cases p4 : z.toNat < y.toNat
          · rw [if_neg p2, if_pos p4] at h2; omega
          · rw [if_neg p2, if_neg p4] at h2
            rw [if_neg p2, if_neg p4, if_neg (Nat.lt_irrefl _), if_neg (Nat.lt_irrefl _), if_neg p2, if_neg p4]
            exact ih h1 h2
theorem cmp_k {a b : V} (h : a.kind ≠ b.kind) : cmp a b = cmpI a.kind b.kind := if_pos h
theorem cmp_n {a b : V} (h : a.kind = b.kind) (h2 : a.n ≠ b.n) : cmp a b = cmpI a.n b.n := by unfold cmp; rw [if_neg (fun x => x h), if_pos h2]
theorem cmp_s {a b : V} (h : a.kind = b.kind) (h2 : a.n = b.n) : cmp a b = Lib.compareBytes a.s.data.toList b.s.data.toList := by unfold cmp; rw [if_neg (fun x => x h), if_neg (fun x => x h2)]
theorem cmp_flip (a b : V) : cmp b a = - cmp a b := by
  by_cases h1 : a.kind = b.kind
  · by_cases h2 : a.n = b.n
    · rw [cmp_s h1 h2, cmp_s h1.symm h2.symm, cb_flip]
    · rw [cmp_n h1 h2, cmp_n h1.symm (fun e => h2 e.symm), cmpI_flip]
  · rw [cmp_k h1, cmp_k (fun e => h1 e.symm), cmpI_flip]
theorem cmp_range (a b : V) : -1 ≤ cmp a b ∧ cmp a b ≤ 1 := by
  unfold cmp
  split
  · rcases cmpI_cases a.kind b.kind with h | h | h <;> omega
  · split
    · rcases cmpI_cases a.n b.n with h | h | h <;> omega
    · rcases cb_range a.s.data.toList b.s.data.toList with h | h | h <;> omega
theorem cmp_zero (a b : V) : cmp a b = 0 ↔ a = b := by
  constructor
  · intro h
    unfold cmp at h
    split at h
    · rename_i h1; rcases cmpI_cases a.kind b.kind with h2 | h2 | h2
      · omega
      · exact absurd h2.1 h1
      · omega
    · rename_i h1
      split at h
      · rename_i h2; rcases cmpI_cases a.n b.n with h3 | h3 | h3
        · omega
        · exact absurd h3.1 h2
        · omega
      · rename_i h2
        exact v_ext (Classical.not_not.1 h1) (Classical.not_not.1 h2) (Sl.ba_ext (cb_zero _ _ h))
  · rintro rfl
    unfold cmp; rw [if_neg (by simp), if_neg (by simp), cb_self]
theorem cmp_trans (a b c : V) : cmp a b > 0 ∨ cmp b c > 0 ∨ cmp a c < 0 ∨ (cmp a b = 0 ∧ cmp b c = 0 ∧ cmp a c = 0) := by
  by_cases k1 : a.kind = b.kind
  · by_cases k2 : b.kind = c.kind
    · have k3 : a.kind = c.kind := k1.trans k2
      by_cases n1 : a.n = b.n
      · rw [cmp_s k1 n1]
        by_cases n2 : b.n = c.n
        · rw [cmp_s k2 n2, cmp_s k3 (n1.trans n2)]
          by_cases h1 : Lib.compareBytes a.s.data.toList b.s.data.toList ≤ 0
          · by_cases h2 : Lib.compareBytes b.s.data.toList c.s.data.toList ≤ 0
            · rcases cb_trans _ _ _ h1 h2 with h | h
              · exact .inr (.inr (.inl h))
              · exact .inr (.inr (.inr h))
            · exact .inr (.inl (by omega))
          · exact .inl (by omega)
        · rw [cmp_n k2 n2, cmp_n k3 (by rw [n1]; exact n2), n1]
          rcases cmpI_cases b.n c.n with h | h | h <;> omega
      · rw [cmp_n k1 n1]
        by_cases n2 : b.n = c.n
        · rw [cmp_n k3 (by rw [← n2]; exact n1), ← n2]
          rcases cmpI_cases a.n b.n with h | h | h <;> omega
        · rw [cmp_n k2 n2]
          by_cases n3 : a.n = c.n
          · rcases cmpI_cases a.n b.n with h | h | h <;> rcases cmpI_cases b.n c.n with h' | h' | h' <;> omega
          · rw [cmp_n k3 n3]
            rcases cmpI_cases a.n b.n with h | h | h <;> rcases cmpI_cases b.n c.n with h' | h' | h' <;> rcases cmpI_cases a.n c.n with h'' | h'' | h'' <;> omega
    · rw [cmp_k k2, cmp_k (a := a) (b := c) (by rw [k1]; exact k2), k1]
      rcases cmpI_cases b.kind c.kind with h | h | h <;> omega
  · rw [cmp_k k1]
    by_cases k2 : b.kind = c.kind
    · rw [cmp_k (a := a) (b := c) (by rw [← k2]; exact k1), ← k2]
      rcases cmpI_cases a.kind b.kind with h | h | h <;> omega
    · rw [cmp_k k2]
      by_cases k3 : a.kind = c.kind
      · rcases cmpI_cases a.kind b.kind with h | h | h <;> rcases cmpI_cases b.kind c.kind with h' | h' | h' <;> omega
      · rw [cmp_k k3]
        rcases cmpI_cases a.kind b.kind with h | h | h <;> rcases cmpI_cases b.kind c.kind with h' | h' | h' <;> rcases cmpI_cases a.kind c.kind with h'' | h'' | h'' <;> omega

/-! the text -/
def esc : List UInt8 → List UInt8
  | [] => []
  | b :: l => if b = 34 ∨ b = 92 then 92 :: b :: esc l else b :: esc l
def quoteL (l : List UInt8) : List UInt8 := 34 :: (esc l ++ [34])
def nullL : List UInt8 := [110, 117, 108, 108]
def boolL (n : Int) : List UInt8 := if n = 1 then [116, 114, 117, 101] else [102, 97, 108, 115, 101]
def textL (v : V) : List UInt8 := if v.kind = 1 then Lib.itoa v.n else if v.kind = 2 then quoteL v.s.data.toList else if v.kind = 3 then boolL v.n else nullL
def text (v : V) : ByteArray := ⟨(textL v).toArray⟩
theorem esc_append (a b : List UInt8) : esc (a ++ b) = esc a ++ esc b := by
  induction a with
  | nil => rfl
  | cons x a ih => rw [List.cons_append, esc, esc]; split <;> rw [ih] <;> rfl
theorem esc_len (l : List UInt8) : (esc l).length ≤ 2 * l.length := by
  induction l with
  | nil => simp [esc]
  | cons x l ih => rw [esc]; split <;> simp <;> omega
theorem esc_inj : ∀ a b : List UInt8, esc a = esc b → a = b
  | [], [], _ => rfl
  | [], y :: b, h => by rw [esc, esc] at h; split at h <;> cases h
  | x :: a, [], h => by rw [esc, esc] at h; split at h <;> cases h
  | x :: a, y :: b, h => by
    rw [esc, esc] at h
    by_cases h1 : x = 34 ∨ x = 92
    · by_cases h2 : y = 34 ∨ y = 92
      · rw [if_pos h1, if_pos h2] at h
        injection h with _ h; injection h with h3 h4
        rw [h3, esc_inj a b h4]
      · rw [if_pos h1, if_neg h2] at h
        injection h with h3 _; exact absurd (.inr h3.symm) h2
    · by_cases h2 : y = 34 ∨ y = 92
      · rw [if_neg h1, if_pos h2] at h
        injection h with h3 _; exact absurd (.inr h3) h1
      · rw [if_neg h1, if_neg h2] at h
        injection h with h3 h4
        rw [h3, esc_inj a b h4]
/-- what a numeral says -/
def val : List UInt8 → Nat → Nat
  | [], c => c
  | b :: l, c => val l (c * 10 + (b.toNat - 48))
theorem val_append : ∀ (a b : List UInt8) (c : Nat), val (a ++ b) c = val b (val a c)
  | [], _, _ => rfl
  | _ :: a, b, _ => val_append a b _
theorem val_dec (u : Nat) : val (Lib.decDigits u) 0 = u := by
  induction u using Nat.strongRecOn with
  | _ u ih =>
    rw [Lib.decDigits]
    by_cases h : u < 10
    · rw [dif_pos h]; show 0 * 10 + ((UInt8.ofNat (48 + u)).toNat - 48) = u
      rw [Oct.toNat_ofNat _ (by omega)]; omega
    · rw [dif_neg h, val_append, ih (u / 10) (by omega)]
      show u / 10 * 10 + ((UInt8.ofNat (48 + u % 10)).toNat - 48) = u
      rw [Oct.toNat_ofNat _ (by omega)]; omega
theorem dec_bytes (u : Nat) : ∀ b ∈ Lib.decDigits u, 48 ≤ b.toNat ∧ b.toNat ≤ 57 := by
  induction u using Nat.strongRecOn with
  | _ u ih =>
    rw [Lib.decDigits]
    by_cases h : u < 10
    · rw [dif_pos h]; intro b hb; simp only [List.mem_singleton] at hb; subst hb; rw [Oct.toNat_ofNat _ (by omega)]; omega
    · rw [dif_neg h]; intro b hb
      rcases List.mem_append.1 hb with hb | hb
      · exact ih (u / 10) (by omega) b hb
      · simp only [List.mem_singleton] at hb; subst hb; rw [Oct.toNat_ofNat _ (by omega)]; omega
theorem dec_ne (u : Nat) : Lib.decDigits u ≠ [] := by
  rw [Lib.decDigits]; split <;> simp
theorem itoa_inj (n m : Int) (h : Lib.itoa n = Lib.itoa m) : n = m := by
  unfold Lib.itoa at h
  have key : ∀ (a b : Nat), 45 :: Lib.decDigits a = Lib.decDigits b → False := by
    intro a b hh
    have := dec_bytes b 45 (by rw [← hh]; simp)
    revert this; decide
  by_cases h1 : n < 0
  · by_cases h2 : m < 0
    · rw [if_pos h1, if_pos h2] at h
      injection h with _ h
      have := congrArg (fun l => val l 0) h
      simp only [val_dec] at this; omega
    · rw [if_pos h1, if_neg h2] at h; exact (key _ _ h).elim
  · by_cases h2 : m < 0
    · rw [if_neg h1, if_pos h2] at h; exact (key _ _ h.symm).elim
    · rw [if_neg h1, if_neg h2] at h
      have := congrArg (fun l => val l 0) h
      simp only [val_dec] at this; omega
theorem itoa_first (n : Int) : ∃ b l, Lib.itoa n = b :: l ∧ (b = 45 ∨ (48 ≤ b.toNat ∧ b.toNat ≤ 57)) := by
  unfold Lib.itoa
  split
  · exact ⟨45, _, rfl, .inl rfl⟩
  · cases hd : Lib.decDigits n.toNat with
    | nil => exact absurd hd (dec_ne _)
    | cons b l => exact ⟨b, l, rfl, .inr (dec_bytes n.toNat b (by rw [hd]; simp))⟩
/-- unlike right values have unlike texts -/
theorem quote_inj (a b : List UInt8) (h : quoteL a = quoteL b) : a = b := by
  unfold quoteL at h
  injection h with _ h
  exact esc_inj a b (List.append_cancel_right h)
theorem bool_inj (n m : Int) (hn : n = 0 ∨ n = 1) (hm : m = 0 ∨ m = 1) (h : boolL n = boolL m) : n = m := by
  rcases hn with rfl | rfl <;> rcases hm with rfl | rfl <;> first | rfl | (revert h; decide)
/-- the text's first byte -/
def head (v : V) : UInt8 := (textL v).headD 0
theorem head_at {v : V} (h : right v) : (v.kind = 0 ∧ head v = 110) ∨ (v.kind = 1 ∧ (head v = 45 ∨ (48 ≤ (head v).toNat ∧ (head v).toNat ≤ 57))) ∨ (v.kind = 2 ∧ head v = 34) ∨ (v.kind = 3 ∧ (head v = 102 ∨ head v = 116)) := by
  obtain ⟨k, n, s⟩ := v
  rcases h with h | h | h | h
  · obtain ⟨rfl, -⟩ := h; exact .inl ⟨rfl, rfl⟩
  · obtain ⟨rfl, -⟩ := h
    obtain ⟨b, l, e, hb⟩ := itoa_first n
    have hh : head ⟨1, n, s⟩ = b := by show (Lib.itoa n).headD 0 = b; rw [e]; rfl
    rw [hh]; exact .inr (.inl ⟨rfl, hb⟩)
  · obtain ⟨rfl, -⟩ := h; exact .inr (.inr (.inl ⟨rfl, rfl⟩))
  · obtain ⟨rfl, hn, -⟩ := h
    refine .inr (.inr (.inr ⟨rfl, ?_⟩))
    rcases hn with hn | hn
    · have hn : n = 0 := hn
      subst hn; exact .inl rfl
    · have hn : n = 1 := hn
      subst hn; exact .inr rfl
theorem text_inj {a b : V} (ha : right a) (hb : right b) (h : text a = text b) : a = b := by
  have hl : textL a = textL b := congrArg (fun s : ByteArray => s.data.toList) h
  have hh : head a = head b := by unfold head; rw [hl]
  have hk : a.kind = b.kind := by
    have c1 := head_at ha; have c2 := head_at hb
    rw [hh] at c1
    rcases c1 with ⟨k1, e1⟩ | ⟨k1, e1⟩ | ⟨k1, e1⟩ | ⟨k1, e1⟩ <;> rcases c2 with ⟨k2, e2⟩ | ⟨k2, e2⟩ | ⟨k2, e2⟩ | ⟨k2, e2⟩
    case inl.inl => omega
    case inr.inl.inr.inl => omega
    case inr.inr.inl.inr.inr.inl => omega
    case inr.inr.inr.inr.inr.inr => omega
    all_goals exfalso
    all_goals simp only [← UInt8.toNat_inj] at e1 e2
    all_goals simp at e1 e2
    all_goals omega
  obtain ⟨k, n, s⟩ := a
  obtain ⟨k', n', s'⟩ := b
  have hk : k = k' := hk
  subst hk
  rcases ha with ha | ha | ha | ha
  · obtain ⟨h1, h2, h3⟩ := ha
    simp only at h1 h2 h3
    subst h1 h2 h3
    rcases hb with hb | hb | hb | hb
    · exact v_ext rfl hb.2.1.symm hb.2.2.symm
    all_goals exact absurd hb.1 (by simp)
  · obtain ⟨h1, h2⟩ := ha
    simp only at h1 h2
    subst h1 h2
    rcases hb with hb | hb | hb | hb
    · exact absurd hb.1 (by simp)
    · exact v_ext rfl (itoa_inj _ _ hl) hb.2.symm
    all_goals exact absurd hb.1 (by simp)
  · obtain ⟨h1, h2, _⟩ := ha
    simp only at h1 h2
    subst h1 h2
    rcases hb with hb | hb | hb | hb
    · exact absurd hb.1 (by simp)
    · exact absurd hb.1 (by simp)
    · exact v_ext rfl hb.2.1.symm (Sl.ba_ext (quote_inj _ _ hl))
    · exact absurd hb.1 (by simp)
  · obtain ⟨h1, h2, h3⟩ := ha
    simp only at h1 h2 h3
    subst h1 h3
    rcases hb with hb | hb | hb | hb
    · exact absurd hb.1 (by simp)
    · exact absurd hb.1 (by simp)
    · exact absurd hb.1 (by simp)
    · exact v_ext rfl (bool_inj _ _ h2 hb.2.1 hl) hb.2.2.symm
end Go.Proofs.YtmkllibfblacfaaDoor.Vl

/-
  The plain mathematics of layer 13 (lex): tokens, their texts, and the tokens of a text; nothing of any program.
-/
namespace Go.Proofs.YtmkllibfblacfaaDoor.Lx
open Vl (val esc quoteL plain)
structure T where
  kind : Int
  s : ByteArray
  n : Int
  spot : Int
def no : T := ⟨0, Vl.mt, 0, 0⟩
abbrev mk (l : List UInt8) : ByteArray := ⟨l.toArray⟩
def letter (c : UInt8) : Bool := (decide (97 ≤ c.toNat) && decide (c.toNat ≤ 122)) || (decide (65 ≤ c.toNat) && decide (c.toNat ≤ 90)) || decide (c.toNat = 95)
def digit (c : UInt8) : Bool := decide (48 ≤ c.toNat) && decide (c.toNat ≤ 57)
/-- how many bytes of a name a text goes on with (b: something of it stands ahead) -/
def word (b : Bool) : List UInt8 → Nat
  | [] => 0
  | c :: r => if letter c || (b && digit c) then word true r + 1 else 0
def marks : List (List UInt8) := [[46, 46], [33, 61], [60, 61], [62, 61], [40], [41], [91], [93], [44], [43], [45], [42], [47], [61], [60], [62]]
def right (t : T) : Prop :=
  (t.kind = 1 ∧ t.n = 0 ∧ t.s ≠ Vl.mt ∧ word false t.s.data.toList = t.s.size ∧ t.s.size ≤ 16) ∨ (t.kind = 2 ∧ 0 ≤ t.n ∧ t.s = Vl.mt) ∨ (t.kind = 3 ∧ t.n = 0 ∧ plain t.s) ∨ (t.kind = 4 ∧ t.s.data.toList ∈ marks ∧ t.n = 0)
instance (t : T) : Decidable (right t) := by unfold right; infer_instance
def textL (t : T) : List UInt8 := if t.kind = 2 then Lib.itoa t.n else if t.kind = 3 then quoteL t.s.data.toList else t.s.data.toList
/-! the first token of a text: its token, its bytes, its error -/
def nameT (l : List UInt8) : T × Nat × Int := if 16 < word false l then (no, 0, 5) else (⟨1, mk (l.take (word false l)), 0, 0⟩, word false l, 0)
def digs (l : List UInt8) : List UInt8 := l.takeWhile digit
def maxI : Nat := 9223372036854775807
def numT (l : List UInt8) : T × Nat × Int :=
  if 1 < (digs l).length ∧ l.head? = some 48 then (no, 0, 11) else if maxI < val (digs l) 0 then (no, 0, 15) else (⟨2, Vl.mt, (val (digs l) 0 : Nat), 0⟩, (digs l).length, 0)
/-- the text behind a quote: what it says, what stands behind its end -/
def txt : List UInt8 → List UInt8 → Option (List UInt8 × List UInt8)
  | [], _ => none
  | c :: r, acc =>
    if c = 34 then some (acc, r)
    else if c = 92 then match r with
      | [] => none
      | d :: r' => if d = 34 ∨ d = 92 then txt r' (acc ++ [d]) else none
    else if c.toNat < 32 ∨ 126 < c.toNat then none else txt r (acc ++ [c])
def txtT (l : List UInt8) : T × Nat × Int :=
  match txt l.tail [] with
  | none => (no, 0, 11)
  | some (t, r) => if 40 < t.length then (no, 0, 5) else (⟨3, mk t, 0, 0⟩, l.length - r.length, 0)
def markT (l : List UInt8) : T × Nat × Int :=
  match marks.find? (fun m => m.isPrefixOf l) with
  | some m => (⟨4, mk m, 0, 0⟩, m.length, 0)
  | none => (no, 0, 11)
def one (l : List UInt8) : T × Nat × Int :=
  match l with
  | [] => (no, 0, 11)
  | c :: _ => if letter c then nameT l else if digit c then numT l else if c = 34 then txtT l else markT l
/-! names -/
theorem word_le (b : Bool) : ∀ l : List UInt8, word b l ≤ l.length
  | [] => Nat.le_refl _
  | c :: r => by
    have ih := word_le true r
    unfold word; split
    · rw [List.length_cons]; omega
    · exact Nat.zero_le _
/-- a word, and behind it nothing, or what is of no name -/
theorem word_app (b : Bool) : ∀ (l r : List UInt8), word b l = l.length → (r = [] ∨ ∃ c q, r = c :: q ∧ letter c = false ∧ digit c = false) → word b (l ++ r) = l.length
  | [], r, _, h => by
    rcases h with rfl | ⟨c, q, rfl, h1, h2⟩
    · rfl
    · show word b (c :: q) = 0; unfold word; rw [h1, h2]; simp
  | x :: l, r, hw, h => by
    unfold word at hw
    by_cases hx : (letter x || (b && digit x)) = true
    · rw [if_pos hx] at hw
      show word b (x :: (l ++ r)) = _
      unfold word
      rw [if_pos hx, word_app true l r (by rw [List.length_cons] at hw; omega) h, List.length_cons]
    · rw [if_neg hx] at hw; exact absurd hw (by simp)
/-- the word that is taken is a word -/
theorem word_take (b : Bool) : ∀ l : List UInt8, word b (l.take (word b l)) = word b l
  | [] => rfl
  | c :: r => by
    have ih := word_take true r
    by_cases hx : (letter c || (b && digit c)) = true
    · have e : word b (c :: r) = word true r + 1 := by rw [word, if_pos hx]
      rw [e, List.take_succ_cons, word, if_pos hx, ih]
    · have e : word b (c :: r) = 0 := by rw [word, if_neg hx]
      rw [e]; rfl
/-! numbers -/
theorem takeWhile_app {p : UInt8 → Bool} : ∀ (l r : List UInt8), (∀ b ∈ l, p b = true) → (r = [] ∨ ∃ c q, r = c :: q ∧ p c = false) → (l ++ r).takeWhile p = l
  | [], r, _, h => by
    rcases h with rfl | ⟨c, q, rfl, h1⟩
    · rfl
    · show (c :: q).takeWhile p = []; rw [List.takeWhile_cons, h1]; simp
  | x :: l, r, hp, h => by
    rw [List.cons_append, List.takeWhile_cons, hp x (by simp), takeWhile_app l r (fun b hb => hp b (by simp [hb])) h]; simp
theorem digit_iff (c : UInt8) : digit c = true ↔ 48 ≤ c.toNat ∧ c.toNat ≤ 57 := by unfold digit; simp
theorem dec_digits (u : Nat) : ∀ b ∈ Lib.decDigits u, digit b = true := fun b hb => (digit_iff b).2 (Vl.dec_bytes u b hb)
/-- a numeral of more than one digit does not begin with 0 -/
theorem dec_head (u : Nat) (h : 0 < u) : (Lib.decDigits u).head? ≠ some 48 := by
  induction u using Nat.strongRecOn with
  | _ u ih =>
    rw [Lib.decDigits]
    by_cases h1 : u < 10
    · rw [dif_pos h1]
      intro e
      simp only [List.head?_cons, Option.some.injEq] at e
      have := congrArg UInt8.toNat e
      rw [Oct.toNat_ofNat _ (by omega)] at this
      simp at this; omega
    · rw [dif_neg h1]
      have ih := ih (u / 10) (by omega) (by omega)
      cases hd : Lib.decDigits (u / 10) with
      | nil => exact absurd hd (Vl.dec_ne _)
      | cons b l => rw [hd] at ih; simpa using ih
theorem dec_len (u : Nat) (h : 1 < (Lib.decDigits u).length) : 0 < u := by
  rcases Nat.eq_zero_or_pos u with rfl | h1
  · rw [Lib.decDigits, dif_pos (by omega)] at h; simp at h
  · exact h1
/-- digits with no 0 ahead are the numeral of what they say -/
theorem dec_val : ∀ (k : Nat) (d : List UInt8), d.length = k → d ≠ [] → (∀ b ∈ d, digit b = true) → (d.length = 1 ∨ d.head? ≠ some 48) → Lib.decDigits (val d 0) = d := by
  intro k
  induction k with
  | zero => intro d hk hne; exact absurd (List.eq_nil_of_length_eq_zero hk) hne
  | succ k ih =>
    intro d hk hne hp hz
    obtain ⟨e, c, rfl⟩ : ∃ e c, d = e ++ [c] := ⟨d.dropLast, d.getLast hne, (List.dropLast_concat_getLast hne).symm⟩
    have hc := (digit_iff c).1 (hp c (by simp))
    have hv : val (e ++ [c]) 0 = val e 0 * 10 + (c.toNat - 48) := by rw [Vl.val_append]; rfl
    rw [hv]
    by_cases he : e = []
    · subst he
      show Lib.decDigits (0 * 10 + (c.toNat - 48)) = [c]
      rw [Lib.decDigits, dif_pos (by omega), show 48 + (0 * 10 + (c.toNat - 48)) = c.toNat by omega]
      congr 1
      exact UInt8.toNat_inj.1 (Oct.toNat_ofNat _ (by omega))
    · have hl : e.length = k := by simpa using hk
      have hz2 : e.head? ≠ some 48 := by
        rcases hz with hz | hz
        · exact absurd (List.eq_nil_of_length_eq_zero (by simpa using hz)) he
        · cases e with
          | nil => exact absurd rfl he
          | cons b e => simpa using hz
      have ih := ih e hl he (fun b hb => hp b (by simp [hb])) (.inr hz2)
      have hpos : 0 < val e 0 := by
        rcases Nat.eq_zero_or_pos (val e 0) with h0 | h0
        · exfalso
          rw [h0, Lib.decDigits, dif_pos (by omega)] at ih
          rw [← ih] at hz2; exact hz2 rfl
        · exact h0
      rw [Lib.decDigits, dif_neg (by omega), show (val e 0 * 10 + (c.toNat - 48)) / 10 = val e 0 by omega, show (val e 0 * 10 + (c.toNat - 48)) % 10 = c.toNat - 48 by omega, ih, show 48 + (c.toNat - 48) = c.toNat by omega]
      congr 2
      exact UInt8.toNat_inj.1 (Oct.toNat_ofNat _ (by omega))
/-! texts -/
theorem txt_end (r acc : List UInt8) : txt (34 :: r) acc = some (acc, r) := by rw [txt.eq_def]; simp
theorem txt_slash (d : UInt8) (r acc : List UInt8) : txt (92 :: d :: r) acc = if d = 34 ∨ d = 92 then txt r (acc ++ [d]) else none := by rw [txt.eq_def]; simp
theorem txt_slash0 (acc : List UInt8) : txt [92] acc = none := by rw [txt.eq_def]; simp
theorem txt_plain {c : UInt8} (r acc : List UInt8) (h1 : ¬ c = 34) (h2 : ¬ c = 92) : txt (c :: r) acc = if c.toNat < 32 ∨ 126 < c.toNat then none else txt r (acc ++ [c]) := by rw [txt.eq_def]; simp [h1, h2]
theorem txt_esc : ∀ (l r acc : List UInt8), (∀ b ∈ l, 32 ≤ b.toNat ∧ b.toNat ≤ 126) → txt (esc l ++ 34 :: r) acc = some (acc ++ l, r)
  | [], r, acc, _ => by show txt (34 :: r) acc = _; rw [txt_end, List.append_nil]
  | c :: l, r, acc, h => by
    have hc := h c (by simp)
    have ih := fun a => txt_esc l r a fun b hb => h b (by simp [hb])
    rw [esc]
    by_cases hq : c = 34 ∨ c = 92
    · rw [if_pos hq]
      show txt (92 :: c :: (esc l ++ 34 :: r)) acc = _
      rw [txt_slash, if_pos hq, ih, List.append_assoc]; rfl
    · rw [if_neg hq]
      show txt (c :: (esc l ++ 34 :: r)) acc = _
      rw [txt_plain _ _ (fun e => hq (.inl e)) (fun e => hq (.inr e)), if_neg (by omega), ih, List.append_assoc]; rfl
/-- what a text says, and its bytes -/
theorem txt_ok : ∀ (k : Nat) (l acc t r : List UInt8), l.length ≤ k → txt l acc = some (t, r) → ∃ u, t = acc ++ u ∧ l = esc u ++ 34 :: r ∧ ∀ b ∈ u, 32 ≤ b.toNat ∧ b.toNat ≤ 126 := by
  intro k
  induction k with
  | zero =>
    intro l acc t r hk h
    have : l = [] := List.eq_nil_of_length_eq_zero (by omega)
    subst this; cases h
  | succ k ih =>
    intro l acc t r hk h
    cases l with
    | nil => cases h
    | cons c q =>
      by_cases h1 : c = 34
      · subst h1
        rw [txt_end] at h
        simp only [Option.some.injEq, Prod.mk.injEq] at h
        obtain ⟨rfl, rfl⟩ := h
        exact ⟨[], by simp, rfl, by simp⟩
      · by_cases h2 : c = 92
        · subst h2
          cases q with
          | nil => rw [txt_slash0] at h; cases h
          | cons d q =>
            rw [txt_slash] at h
            by_cases h3 : d = 34 ∨ d = 92
            · rw [if_pos h3] at h
              obtain ⟨u, e1, e2, e3⟩ := ih q _ t r (by simp only [List.length_cons] at hk; omega) h
              refine ⟨d :: u, by rw [e1, List.append_assoc]; rfl, ?_, ?_⟩
              · rw [esc, if_pos h3, e2]; rfl
              · intro b hb
                rcases List.mem_cons.1 hb with rfl | hb
                · rcases h3 with rfl | rfl <;> decide
                · exact e3 b hb
            · rw [if_neg h3] at h; cases h
        · rw [txt_plain _ _ h1 h2] at h
          by_cases h3 : c.toNat < 32 ∨ 126 < c.toNat
          · rw [if_pos h3] at h; cases h
          · rw [if_neg h3] at h
            obtain ⟨u, e1, e2, e3⟩ := ih q _ t r (by simp only [List.length_cons] at hk; omega) h
            refine ⟨c :: u, by rw [e1, List.append_assoc]; rfl, ?_, ?_⟩
            · rw [esc, if_neg (fun x => x.elim h1 h2), e2]; rfl
            · intro b hb
              rcases List.mem_cons.1 hb with rfl | hb
              · omega
              · exact e3 b hb
end Go.Proofs.YtmkllibfblacfaaDoor.Lx

/-
  The plain mathematics of layer 13 (lex), further: the first token of a text, and all; nothing of any program.
-/
namespace Go.Proofs.YtmkllibfblacfaaDoor.Lx
open Vl (val esc quoteL plain)
/-- a token, wherever it begins -/
def strip (t : T) : T := ⟨t.kind, t.s, t.n, 0⟩
/-- nothing, or a blank -/
def Ends (r : List UInt8) : Prop := r = [] ∨ ∃ q, r = 32 :: q
theorem t_ext {a b : T} (h1 : a.kind = b.kind) (h2 : a.s = b.s) (h3 : a.n = b.n) (h4 : a.spot = b.spot) : a = b := by
  cases a; cases b; simp only at h1 h2 h3 h4; subst h1 h2 h3 h4; rfl
theorem mk_list (l : List UInt8) : (mk l).data.toList = l := rfl
theorem list_mk (s : ByteArray) : mk s.data.toList = s := by apply Sl.ba_ext; rfl
theorem letter_digit {c : UInt8} (h : digit c = true) : letter c = false := by
  rw [digit_iff] at h
  unfold letter
  simp; omega
theorem letter_34 : letter 34 = false := by decide
theorem digit_34 : digit 34 = false := by decide
theorem letter_32 : letter 32 = false := by decide
theorem digit_32 : digit 32 = false := by decide
theorem ends_word {r : List UInt8} (h : Ends r) : r = [] ∨ ∃ c q, r = c :: q ∧ letter c = false ∧ digit c = false := by
  rcases h with h | ⟨q, h⟩
  · exact .inl h
  · exact .inr ⟨32, q, h, letter_32, digit_32⟩
theorem ends_digit {r : List UInt8} (h : Ends r) : r = [] ∨ ∃ c q, r = c :: q ∧ digit c = false := by
  rcases h with h | ⟨q, h⟩
  · exact .inl h
  · exact .inr ⟨32, q, h, digit_32⟩
theorem itoa_nat (u : Nat) : Lib.itoa (u : Int) = Lib.decDigits u := by unfold Lib.itoa; rw [if_neg (by omega), Int.toNat_natCast]
/-- a mark, and nothing or a blank behind it -/
theorem mark_app (m : List UInt8) (hm : m ∈ marks) (r : List UInt8) (hr : Ends r) : marks.find? (fun x => x.isPrefixOf (m ++ r)) = some m := by
  have hm2 := hm
  simp only [marks, List.mem_cons, List.not_mem_nil, or_false] at hm2
  rcases hr with rfl | ⟨q, rfl⟩
  · rcases hm2 with rfl | rfl | rfl | rfl | rfl | rfl | rfl | rfl | rfl | rfl | rfl | rfl | rfl | rfl | rfl | rfl <;> decide
  · rcases hm2 with rfl | rfl | rfl | rfl | rfl | rfl | rfl | rfl | rfl | rfl | rfl | rfl | rfl | rfl | rfl | rfl <;> simp [marks, List.isPrefixOf]
theorem mark_first (m : List UInt8) (hm : m ∈ marks) : ∃ c q, m = c :: q ∧ letter c = false ∧ digit c = false ∧ c ≠ 34 ∧ c ≠ 32 := by
  simp only [marks, List.mem_cons, List.not_mem_nil, or_false] at hm
  rcases hm with rfl | rfl | rfl | rfl | rfl | rfl | rfl | rfl | rfl | rfl | rfl | rfl | rfl | rfl | rfl | rfl <;> exact ⟨_, _, rfl, by decide, by decide, by decide, by decide⟩
/-- a right token's text does not begin with a blank, and is not empty -/
theorem text_first {t : T} (h : right t) : ∃ c q, textL t = c :: q ∧ c ≠ 32 := by
  obtain ⟨k, s, n, a⟩ := t
  rcases h with ⟨hk, hn, hs, hw, _⟩ | ⟨hk, hn, hs⟩ | ⟨hk, hn, hs⟩ | ⟨hk, hm, hn⟩
  · simp only at hk hs hw
    subst hk
    show ∃ c q, s.data.toList = c :: q ∧ _
    cases hl : s.data.toList with
    | nil => exact absurd (Sl.ba_ext hl) hs
    | cons c q =>
      refine ⟨c, q, rfl, ?_⟩
      rintro rfl
      rw [hl] at hw
      have h0 : word false (32 :: q) = 0 := by unfold word; rw [letter_32]; simp
      rw [h0] at hw
      exact hs (by apply Sl.ba_ext; exact List.eq_nil_of_length_eq_zero (by rw [Array.length_toList]; exact hw.symm))
  · simp only at hk hn
    subst hk
    obtain ⟨b, l, e, hb⟩ := Vl.itoa_first n
    refine ⟨b, l, e, ?_⟩
    rintro rfl
    rcases hb with hb | hb
    · revert hb; decide
    · revert hb; decide
  · simp only at hk; subst hk
    exact ⟨34, esc s.data.toList ++ [34], rfl, by decide⟩
  · simp only at hk hm; subst hk
    obtain ⟨c, q, e, _, _, _, h⟩ := mark_first _ hm
    exact ⟨c, q, e, h⟩
theorem one_cons (c : UInt8) (r : List UInt8) : one (c :: r) = if letter c then nameT (c :: r) else if digit c then numT (c :: r) else if c = 34 then txtT (c :: r) else markT (c :: r) := rfl
set_option maxRecDepth 4000 in
/-- a right token's text, and nothing or a blank behind it -/
theorem one_text {t : T} (h : right t) (hn : t.n ≤ maxI) (r : List UInt8) (hr : Ends r) : one (textL t ++ r) = (strip t, (textL t).length, 0) := by
  obtain ⟨c, q, hc, h32⟩ := text_first h
  obtain ⟨k, s, n, a⟩ := t
  have hh := h
  rcases h with ⟨hk, hn0, hs, hw, h16⟩ | ⟨hk, hn0, hs⟩ | ⟨hk, hn0, hs⟩ | ⟨hk, hm, hn0⟩
  · simp only at hk hs hw hn0 h16
    subst hk hn0
    have hT : textL ⟨1, s, 0, a⟩ = s.data.toList := rfl
    rw [hT] at hc ⊢
    have hlen : s.data.toList.length = s.size := by rw [Array.length_toList]; rfl
    have hwa := word_app false s.data.toList r (by rw [hw, hlen]) (ends_word hr)
    have hcl : letter c = true := by
      have h1 := hw
      rw [hc] at h1
      unfold word at h1
      by_cases hl : (letter c || (false && digit c)) = true
      · simpa using hl
      · rw [if_neg hl] at h1
        exfalso
        exact hs (by apply Sl.ba_ext; exact List.eq_nil_of_length_eq_zero (by rw [hlen]; exact h1.symm))
    rw [hc, List.cons_append]
    rw [one_cons, if_pos hcl, ← List.cons_append, ← hc]
    unfold nameT
    rw [hwa, hlen, if_neg (by omega)]
    refine Prod.ext ?_ rfl
    exact t_ext rfl (by show mk _ = s; rw [← hlen, List.take_left, list_mk]) rfl rfl
  · simp only at hk hn0 hs hn
    subst hk hs
    obtain ⟨u, rfl⟩ : ∃ u : Nat, n = (u : Int) := ⟨n.toNat, by omega⟩
    have hT : textL ⟨2, Vl.mt, (u : Int), a⟩ = Lib.decDigits u := itoa_nat u
    rw [hT] at hc ⊢
    have hds : digs (Lib.decDigits u ++ r) = Lib.decDigits u := takeWhile_app _ _ (dec_digits u) (ends_digit hr)
    have hcd : digit c = true := dec_digits u c (by rw [hc]; simp)
    rw [hc, List.cons_append]
    rw [one_cons, if_neg (by rw [letter_digit hcd]; simp), if_pos hcd, ← List.cons_append, ← hc]
    unfold numT
    rw [hds, Vl.val_dec, if_neg, if_neg (by omega)]
    · refine Prod.ext ?_ rfl
      exact t_ext rfl rfl rfl rfl
    · rintro ⟨h1, h2⟩
      have h3 := dec_head u (dec_len u h1)
      rw [hc] at h3 h2
      simp only [List.cons_append, List.head?_cons] at h2 h3
      exact h3 h2
  · simp only at hk hn0 hs
    subst hk hn0
    have hT : textL ⟨3, s, 0, a⟩ = 34 :: (esc s.data.toList ++ [34]) := rfl
    rw [hT]
    have hx : (34 :: (esc s.data.toList ++ [34])) ++ r = 34 :: (esc s.data.toList ++ 34 :: r) := by simp
    rw [hx]
    rw [one_cons, if_neg (by rw [letter_34]; simp), if_neg (by rw [digit_34]; simp), if_pos rfl]
    unfold txtT
    rw [List.tail_cons, txt_esc _ _ _ hs.2]
    simp only [List.nil_append]
    have hlen : s.data.toList.length = s.size := by rw [Array.length_toList]; rfl
    rw [if_neg (by rw [hlen]; have := hs.1; omega)]
    refine Prod.ext (t_ext rfl (list_mk s) rfl rfl) (Prod.ext ?_ rfl)
    simp; omega
  · simp only at hk hn0 hm
    subst hk hn0
    have hT : textL ⟨4, s, 0, a⟩ = s.data.toList := rfl
    rw [hT] at hc ⊢
    obtain ⟨c', q', hc', h1, h2, h3, _⟩ := mark_first _ hm
    rw [hc] at hc'
    injection hc' with e1 e2
    subst e1 e2
    rw [hc, List.cons_append]
    rw [one_cons, if_neg (by rw [h1]; simp), if_neg (by rw [h2]; simp), if_neg h3, ← List.cons_append, ← hc]
    unfold markT
    rw [mark_app _ hm r hr]
    refine Prod.ext (t_ext rfl (list_mk s) rfl rfl) rfl
theorem zero_maxI : (0 : Int) ≤ (maxI : Int) := by decide
theorem takeWhile_all {p : UInt8 → Bool} : ∀ l : List UInt8, ∀ b ∈ l.takeWhile p, p b = true
  | [], b, h => by cases h
  | x :: l, b, h => by
    rw [List.takeWhile_cons] at h
    by_cases hx : p x = true
    · rw [if_pos hx] at h
      rcases List.mem_cons.1 h with rfl | h
      · exact hx
      · exact takeWhile_all l b h
    · rw [if_neg hx] at h; cases h
theorem takeWhile_take {p : UInt8 → Bool} : ∀ l : List UInt8, l.take (l.takeWhile p).length = l.takeWhile p
  | [] => rfl
  | x :: l => by
    rw [List.takeWhile_cons]
    by_cases hx : p x = true
    · rw [if_pos hx, List.length_cons, List.take_succ_cons, takeWhile_take l]
    · rw [if_neg hx]; rfl
theorem takeWhile_le {p : UInt8 → Bool} (l : List UInt8) : (l.takeWhile p).length ≤ l.length := by
  have := congrArg List.length (takeWhile_take (p := p) l)
  rw [List.length_take] at this; omega
/-- the token with which a text begins is right, and its text is what was taken -/
theorem one_ok {l : List UInt8} (h : (one l).2.2 = 0) : right (one l).1 ∧ textL (one l).1 = l.take (one l).2.1 ∧ 0 < (one l).2.1 ∧ (one l).2.1 ≤ l.length ∧ (one l).1.spot = 0 ∧ (one l).1.n ≤ maxI := by
  cases l with
  | nil => exact absurd h (by decide)
  | cons c r =>
    rw [one_cons] at h ⊢
    by_cases h1 : letter c = true
    · rw [if_pos h1] at h ⊢
      unfold nameT at h ⊢
      by_cases h2 : 16 < word false (c :: r)
      · rw [if_pos h2] at h; exact absurd h (by decide)
      · rw [if_neg h2] at h ⊢
        have hle := word_le false (c :: r)
        have hpos : 0 < word false (c :: r) := by rw [word, h1]; simp
        have hsz : (mk ((c :: r).take (word false (c :: r)))).size = word false (c :: r) := by
          show ((c :: r).take (word false (c :: r))).toArray.size = _
          rw [List.size_toArray, List.length_take]; omega
        refine ⟨.inl ⟨rfl, rfl, ?_, ?_, ?_⟩, rfl, hpos, hle, rfl, zero_maxI⟩
        · intro e
          have e2 : (mk ((c :: r).take (word false (c :: r)))).size = 0 := by rw [show mk ((c :: r).take (word false (c :: r))) = Vl.mt from e]; rfl
          omega
        · show word false ((c :: r).take (word false (c :: r))) = _
          rw [word_take]; exact hsz.symm
        · show (mk ((c :: r).take (word false (c :: r)))).size ≤ 16
          omega
    · rw [if_neg h1] at h ⊢
      by_cases h2 : digit c = true
      · rw [if_pos h2] at h ⊢
        unfold numT at h ⊢
        by_cases h3 : 1 < (digs (c :: r)).length ∧ (c :: r).head? = some 48
        · rw [if_pos h3] at h; exact absurd h (by decide)
        · rw [if_neg h3] at h ⊢
          by_cases h4 : maxI < val (digs (c :: r)) 0
          · rw [if_pos h4] at h; exact absurd h (by decide)
          · rw [if_neg h4] at h ⊢
            have hd : digs (c :: r) = c :: r.takeWhile digit := by unfold digs; rw [List.takeWhile_cons, if_pos h2]
            have hle : (digs (c :: r)).length ≤ (c :: r).length := takeWhile_le _
            refine ⟨.inr (.inl ⟨rfl, by show (0 : Int) ≤ ((val (digs (c :: r)) 0 : Nat) : Int); omega, rfl⟩), ?_, by show 0 < (digs (c :: r)).length; rw [hd]; simp, hle, rfl, by show ((val (digs (c :: r)) 0 : Nat) : Int) ≤ (maxI : Int); omega⟩
            show Lib.itoa ((val (digs (c :: r)) 0 : Nat) : Int) = (c :: r).take (digs (c :: r)).length
            rw [itoa_nat, show (c :: r).take (digs (c :: r)).length = digs (c :: r) from takeWhile_take _]
            refine dec_val _ _ rfl (by rw [hd]; simp) (takeWhile_all _) ?_
            by_cases h5 : (digs (c :: r)).length = 1
            · exact .inl h5
            · right
              intro e
              apply h3
              have h6 : 0 < (digs (c :: r)).length := by rw [hd]; simp
              refine ⟨by omega, ?_⟩
              rw [hd] at e
              simpa using e
      · rw [if_neg h2] at h ⊢
        by_cases h3 : c = 34
        · rw [if_pos h3] at h ⊢
          subst h3
          unfold txtT at h ⊢
          rw [List.tail_cons] at h ⊢
          cases hx : txt r [] with
          | none => rw [hx] at h; exact absurd (show (11 : Int) = 0 from h) (by decide)
          | some p =>
            obtain ⟨t, q⟩ := p
            rw [hx] at h
            simp only at h ⊢
            by_cases h4 : 40 < t.length
            · rw [if_pos h4] at h; exact absurd h (by decide)
            · rw [if_neg h4] at h ⊢
              obtain ⟨u, e1, e2, e3⟩ := txt_ok _ r [] t q (Nat.le_refl _) hx
              rw [List.nil_append] at e1
              subst e1
              have hl : (34 :: r).length - q.length = (quoteL t).length := by
                unfold quoteL; rw [e2]; simp; omega
              refine ⟨.inr (.inr (.inl ⟨rfl, rfl, ?_, e3⟩)), ?_, ?_, ?_, by first | rfl | trivial, zero_maxI⟩
              · show t.toArray.size ≤ 40; rw [List.size_toArray]; omega
              · show quoteL t = (34 :: r).take ((34 :: r).length - q.length)
                rw [hl]
                have e4 : (34 : UInt8) :: r = quoteL t ++ q := by unfold quoteL; rw [e2]; simp
                rw [e4, List.take_left]
              · show 0 < (34 :: r).length - q.length
                rw [hl]; unfold quoteL; simp
              · exact Nat.sub_le _ _
        · rw [if_neg h3] at h ⊢
          unfold markT at h ⊢
          cases hx : marks.find? (fun m => m.isPrefixOf (c :: r)) with
          | none => rw [hx] at h; exact absurd (show (11 : Int) = 0 from h) (by decide)
          | some m =>
            rw [hx] at h
            simp only at h ⊢
            have hm := List.mem_of_find?_eq_some hx
            have hp : m.isPrefixOf (c :: r) = true := List.find?_some (p := fun m : List UInt8 => m.isPrefixOf (c :: r)) hx
            obtain ⟨q, hq⟩ := List.isPrefixOf_iff_prefix.1 hp
            obtain ⟨c', q', hm1, _⟩ := mark_first _ hm
            refine ⟨.inr (.inr (.inr ⟨rfl, hm, rfl⟩)), ?_, ?_, ?_, by first | rfl | trivial, zero_maxI⟩
            · show m = (c :: r).take m.length
              rw [← hq, List.take_left]
            · show 0 < m.length; rw [hm1]; simp
            · show m.length ≤ (c :: r).length; rw [← hq]; simp
end Go.Proofs.YtmkllibfblacfaaDoor.Lx
