/-
  Texts of the layers, part 1: Base, RowV, Only, Rft, OctMath, OctMath2, OctMath3, CrcMath, SealMath, LabelMath, ValMath, LexMath, LexMath2, LexMath3, Bits, OctOwn, OctLeaf, OctTake, OctTxt, LexBox, LexRef, LexName, SynMath, SynRead, SynLex, SynBack, SynParse, SynMach, SynName, SynBox, LexAto, LexProg, LexNum, Atoi, LexProg2, LexTxt, BldF, Pfx, LexProg3, QTail, NodQuiet, HTail.
-/
import Derived.WalkKit
import Derived.WalkSpells
import Derived.WalkLawsBesides
import Derived.Deep.Draws
import Derived.Deep.QuietTactic
import Derived.BigQuiet
import Derived.OpenShut
import Derived.Lib.Hide
import Derived.Below
import Derived.Deep.WholeRow
import Derived.Laws.CopyOwn
import Derived.RangeFuncNested
import Derived.RangeFuncBound
import Derived.RangeFuncCalls
import Derived.RangeFuncLeaves
import Derived.PlainAid
import Derived.Laws.BitsAllLaws
import Derived.Laws.BitsLemmas
import Derived.WideShapes
import Derived.Lib.ItoaNum
import Derived.Lib.Bytealg
import Derived.IntWalk
import Derived.Laws.BytesArg
import Derived.Test.YtmkllibfblacfaaGreatDoorProg
import Derived.Laws.DeepNot64
import Derived.Laws.ResultCell
import Derived.Deep.Cut
import Derived.Lib.AtoiAllCases
import Derived.Shelf.Abstract
import Derived.Shelf.Strconv.AtoiAll
import Derived.Shelf.Strings.BuilderRune
import Derived.Shelf.Strings.Prefix
import Derived.Shelf.Strings.BuilderF
import Derived.StillTail
import Derived.Deep.Quiet
import Derived.OrdersHeld
import Derived.Laws.Tables
/-
  Small words that every layer uses: ends of a walk, strings unlike, slices that read as strings, blocks above.
-/
namespace Go.Proofs.YtmkllibfblacfaaGreatDoor
open Go.RowKit

theorem ret_int {k : IntKind} {a b : Int} (h : a = b) : Ending.returned (.int k a) = .returned (.int k b) := by rw [h]
/-- the slice at a reads as the strings l -/
def ReadsS (w : World) (a : Option Addr) (l : List ByteArray) : Prop := ∀ i (h : i < l.length), ∃ b off, a = some ⟨b, off, none⟩ ∧ w.cell? ⟨b, off + i, none⟩ = some (.string (l[i]))
end Go.Proofs.YtmkllibfblacfaaGreatDoor

/-
  Rows of cells that a call makes and writes (arrays, structs): what a block holds, as a list; words and bytes as cells; an array laid cell by cell.
-/
namespace Go.Proofs.YtmkllibfblacfaaGreatDoor
open Go.RowKit

/-- block g holds just the cells l (type T) -/
def RowV (w : World) (g T : Nat) (l : List Value) : Prop := w.heap[g]? = some (.cells l.toArray T)
theorem rowV_cell {w : World} {g T : Nat} {l : List Value} (h : RowV w g T l) (i : Nat) : w.cell? ⟨g, i, none⟩ = l[i]? := by
  rw [cell_of_row w g i l.toArray T (0, 0) h, List.getElem?_toArray]
theorem rowV_frozen {w : World} {g T : Nat} {l : List Value} (h : RowV w g T l) (i : Nat) : w.frozen? ⟨g, i, none⟩ = false := by
  have h : w.heap[g]? = some (.cells l.toArray T) := h
  simp [World.frozen?, h]
theorem rowV_lt {w : World} {g T : Nat} {l : List Value} (h : RowV w g T l) : g < w.heap.size := (Array.getElem?_eq_some_iff.1 h).1
theorem rowV_stored {w : World} {g T : Nat} {l : List Value} (h : RowV w g T l) (i : Nat) (v : Value) : RowV (w.setCell ⟨g, i, none⟩ v) g T (l.set i v) := by
  unfold RowV at h ⊢
  rw [setCell_eq_setRow w g i l.toArray T _ _ h, setRow_heap w g l.toArray _ T _ h]
  simp
theorem rowV_below {w w' : World} {g T B : Nat} {l : List Value} (h : RowV w g T l) (hb : Below B w w') (hg : g < B) : RowV w' g T l := (hb.block g hg).trans h
theorem rowV_new (w : World) (T : Nat) (l : List Value) : RowV (w.alloc (.cells l.toArray T)) w.heap.size T l := heap_alloc_new w _
theorem rowV_alloc {w : World} {g T : Nat} {l : List Value} (h : RowV w g T l) (o : Obj) : RowV (w.alloc o) g T l := by
  have := rowV_lt h
  exact (Below.heap_alloc w o g this).trans h
theorem rowV_far {w : World} {g T g' i : Nat} {l : List Value} (h : RowV w g T l) (hg : g ≠ g') (v : Value) : RowV (w.setCell ⟨g', i, none⟩ v) g T l := (Below.heap_setCell w ⟨g', i, none⟩ v g hg).trans h
theorem rowV_row {w : World} {g T : Nat} {l : List Value} (h : RowV w g T l) (l' : List Value) : RowV (w.setRow g l'.toArray) g T l' := setRow_heap w g l.toArray l'.toArray T _ h
theorem setRow_far (w : World) (g i : Nat) (c : Array Value) (h : i ≠ g) : (w.setRow g c).heap[i]? = w.heap[i]? := by
  simp only [World.setRow, Array.getElem?_modify]
  rw [if_neg (by omega)]
end Go.Proofs.YtmkllibfblacfaaGreatDoor

/-
  What a call may have turned, said by a set of blocks ('Only F w w''): for calls that write into objects that were there before them. Objects whose blocks are apart go their own ways.
-/
namespace Go.Proofs.YtmkllibfblacfaaGreatDoor
open Go.RowKit

/-- of the blocks that were there only those of F may have turned; the streams are as they were -/
structure Only (F : Nat → Prop) (w w' : World) : Prop where
  os : w'.os = w.os
  tape : w'.tape = w.tape
  output : w'.output = w.output
  size : w.heap.size ≤ w'.heap.size
  block : ∀ k, k < w.heap.size → ¬ F k → w'.heap[k]? = w.heap[k]?
namespace Only
theorem refl (F : Nat → Prop) (w : World) : Only F w w := ⟨rfl, rfl, rfl, Nat.le_refl _, fun _ _ _ => rfl⟩
theorem mono {F G : Nat → Prop} {w w' : World} (h : Only F w w') (hs : ∀ k, k < w.heap.size → F k → G k) : Only G w w' := ⟨h.os, h.tape, h.output, h.size, fun k hk hn => h.block k hk fun hf => hn (hs k hk hf)⟩
theorem trans {F G : Nat → Prop} {a b c : World} (h : Only F a b) (k : Only G b c) (hs : ∀ i, i < a.heap.size → G i → F i) : Only F a c :=
  ⟨k.os.trans h.os, k.tape.trans h.tape, k.output.trans h.output, Nat.le_trans h.size k.size, fun i hi hn => (k.block i (Nat.lt_of_lt_of_le hi h.size) fun hg => hn (hs i hi hg)).trans (h.block i hi hn)⟩
/-- the same set again -/
theorem more {F : Nat → Prop} {a b c : World} (h : Only F a b) (k : Only F b c) : Only F a c := h.trans k fun _ _ x => x
theorem of_below {B : Nat} {w w' : World} (h : Below B w w') : Only (fun k => B ≤ k) w w' := ⟨h.os, h.tape, h.output, h.size, fun k _ hn => h.block k (by omega)⟩
/-- nothing that was there has turned -/
theorem of_none {F : Nat → Prop} {w w' : World} (h : Below w.heap.size w w') : Only F w w' := (of_below h).mono fun k hk hf => by omega
theorem below {F : Nat → Prop} {B : Nat} {w w' : World} (h : Only F w w') (hF : ∀ k, k < w.heap.size → F k → B ≤ k) (hB : B ≤ w.heap.size) : Below B w w' :=
  ⟨h.os, h.tape, h.output, h.size, fun k hk => h.block k (by omega) fun hf => by have := hF k (by omega) hf; omega⟩
theorem drewN {F : Nat → Prop} {a w : World} (h : Only F a w) (n : Nat) : Only F a (w.drewN n) := ⟨h.os, h.tape, h.output, h.size, h.block⟩
theorem drew {F : Nat → Prop} {a w : World} (h : Only F a w) : Only F a w.drew := ⟨h.os, h.tape, h.output, h.size, h.block⟩
theorem alloc {F : Nat → Prop} {a w : World} (h : Only F a w) (o : Obj) : Only F a (w.alloc o) :=
  h.trans (of_none (F := F) ((Below.refl _ w).alloc (Nat.le_refl _) o)) fun _ _ x => x
theorem setCell {F : Nat → Prop} {a w : World} (h : Only F a w) {g i : Nat} (hg : g < a.heap.size → F g) (v : Value) : Only F a (w.setCell ⟨g, i, none⟩ v) :=
  h.trans (G := fun k => k = g) ⟨rfl, rfl, rfl, by simp [World.setCell], fun k _ hk => Below.heap_setCell _ _ _ _ hk⟩ fun k hk e => by subst e; exact hg hk
theorem setRow {F : Nat → Prop} {a w : World} (h : Only F a w) {g : Nat} (hg : g < a.heap.size → F g) (c : Array Value) : Only F a (w.setRow g c) :=
  h.trans (G := fun k => k = g) ⟨rfl, rfl, rfl, by simp [World.setRow], fun k _ hk => setRow_far w g k c hk⟩ fun k hk e => by subst e; exact hg hk
/-- behind an append or a make -/
theorem grown {F : Nat → Prop} {a w w' : World} {row : Option Nat} (h : Only F a w) (hg : w.grownBy w' row) (hr : ∀ k, k < a.heap.size → row = some k → F k) : Only F a w' :=
  h.trans (G := fun k => row = some k) ⟨hg.os, hg.tape, hg.output, hg.size, fun k hk hn => hg.block k hk fun e => hn e.symm⟩ hr
theorem cell {F : Nat → Prop} {w w' : World} (h : Only F w w') {p : Addr} (hp : p.block < w.heap.size) (hn : ¬ F p.block) : w'.cell? p = w.cell? p := World.cell?_of_block (w := w) (h.block p.block hp hn)
theorem frozen {F : Nat → Prop} {w w' : World} (h : Only F w w') {p : Addr} (hp : p.block < w.heap.size) (hn : ¬ F p.block) : w'.frozen? p = w.frozen? p := World.frozen?_of_block (w := w) (h.block p.block hp hn)
end Only
theorem rowV_only {F : Nat → Prop} {w w' : World} {g T : Nat} {l : List Value} (h : RowV w g T l) (ho : Only F w w') (hn : ¬ F g) : RowV w' g T l := (ho.block g (rowV_lt h) hn).trans h
/-- a row that the call owns stays, if its block is not of F -/
theorem ownsRow_only {F : Nat → Prop} {w w' : World} {B E size n : Nat} {v : Value} {xs : List Value} (h : w.ownsRow B E size v n xs) (ho : Only F w w') (hn : ∀ k, v.ownBlock = some k → ¬ F k) : w'.ownsRow B E size v n xs := by
  refine ⟨h.1, ?_⟩
  rcases h.2 with hv | ⟨g, cap, cur, rfl, hg, hh, r⟩
  · exact .inl hv
  · exact .inr ⟨g, cap, cur, rfl, hg, by rw [ho.block g (Array.getElem?_eq_some_iff.1 hh).1 (hn g rfl)]; exact hh, r⟩
end Go.Proofs.YtmkllibfblacfaaGreatDoor

/-
  A range over a function that keeps state of its own in cells (of one type, in blocks that it made): the law for the loop, at the wide fence; a round goes on, or returns.
-/
namespace Go.Proofs.YtmkllibfblacfaaGreatDoor
open Go.RowKit
/-- J stands through what an iterator does by itself: it makes blocks, and turns cells of type T, from block B on -/
def Surv (B T : Nat) (J : World → Prop) : Prop := ∀ A A' row, J A → A.grownBy A' row → (∀ r, row = some r → B ≤ r ∧ ∃ cs fz, A.heap[r]? = some (.cells cs T fz)) → J A'
/-- .. and through the loop's own book-keeping: what is no cells, from block B on -/
def SurvR (B T : Nat) (J : World → Prop) : Prop := ∀ A A' row, J A → A.grownBy A' row → (∀ r, row = some r → B ≤ r ∧ ∃ o : Obj, A.heap[r]? = some o ∧ (o.isCells = false ∨ ∃ cs fz, o = .cells cs T fz)) → J A'
theorem SurvR.surv {B B' T : Nat} {J : World → Prop} (h : SurvR B T J) (hB : B ≤ B') : Surv B' T J := fun A A' row hJ hg hr =>
  h A A' row hJ hg fun r e => by
    obtain ⟨h1, cs, fz, h2⟩ := hr r e
    exact ⟨by omega, _, h2, .inr ⟨cs, fz, rfl⟩⟩
theorem SurvR.mono {B B' T : Nat} {J : World → Prop} (h : SurvR B T J) (hB : B ≤ B') : SurvR B' T J := fun A A' row hJ hg hr =>
  h A A' row hJ hg fun r e => by
    obtain ⟨h1, h2⟩ := hr r e
    exact ⟨by omega, h2⟩
theorem SurvR.put {B T : Nat} {J : World → Prop} (h : SurvR B T J) {A : World} {l : Nat} {o o' : Obj} (hJ : J A) (hl : B ≤ l) (ho : A.heap[l]? = some o) (hc : o.isCells = false) : J (A.putObj l o') :=
  h A _ (some l) hJ (grownBy_putObj' A l o') fun r e => by cases e; exact ⟨hl, o, ho, .inl hc⟩
theorem SurvR.new {B T : Nat} {J : World → Prop} (h : SurvR B T J) {A : World} (hJ : J A) (o : Obj) : J (A.alloc o) := h A _ none hJ (World.grownBy_alloc A o none) fun r e => by cases e
/-- what hands out values, one by one, to whatever round that keeps Kp -/
def Hands {α : Type} (n : Nat) (P : Program) (g : Nat) (lb : Array Value) (encs : α → Array Value) (Kp : World → World → Prop) (S Sp : List α → Prop) (N T : Nat) (w : World) : Prop :=
  ∀ (l : Nat) (J Jx : List α → World → Prop) (W : World), Below w.heap.size w W → w.heap.size + 2 ≤ W.heap.size → (∀ s, SurvR W.heap.size T (J s)) → (∀ s, SurvR W.heap.size T (Jx s)) →
    (∀ pre x W1, J pre W1 → pre.length < N → YieldAt Fence.wide (n - 1) P l (encs x) W1 fun e W' => (e = .returned (.bool true) ∧ J (pre ++ [x]) W' ∧ Kp W1 W') ∨ (e = .returned (.bool false) ∧ Jx (pre ++ [x]) W' ∧ Kp W1 W')) →
    J [] W → CallsIn Fence.wide n P g (#[.func (.yield l) #[] #[]] ++ lb) W fun e W' => (∃ v, e = .returned v) ∧ ((∃ xs, S xs ∧ J xs W') ∨ (∃ pre, Sp pre ∧ Jx pre W'))
/-- the loop's two blocks lie as they lay -/
def Rec2 (B : Nat) (W W' : World) : Prop := W'.heap[B]? = W.heap[B]? ∧ W'.heap[B + 1]? = W.heap[B + 1]?
/-- how a round may end -/
def RndPost {α : Type} (B : Nat) (Kp : World → World → Prop) (I Ix : List α → World → Prop) (xs : List α) (W : World) : Exit → Act → World → Prop
  | .normal, _, W' => Rec2 B W W' ∧ Kp W W' ∧ I xs W'
  | .ret, _, W' => Rec2 B W W' ∧ Kp W W' ∧ Ix xs W'
  | _, _, _ => False
theorem putObj_only (W : World) (l : Nat) (o : Obj) : Only (fun k => k = l) W (W.putObj l o) := by
  have hg := grownBy_putObj' W l o
  exact ⟨hg.os, hg.tape, hg.output, hg.size, fun k hk hn => hg.block k hk fun e => hn (by cases e; rfl)⟩
/-- the loop's two blocks are no cells -/
def NC2 (B : Nat) (W : World) : Prop := (∃ o : Obj, W.heap[B]? = some o ∧ o.isCells = false) ∧ (∃ o : Obj, W.heap[B + 1]? = some o ∧ o.isCells = false)
theorem wpIn_handsR {α : Type} {P : Program} {n : Nat} {g : Operand} {ps : Array Tmp} {assign body : Code} {Q : Exit → Act → World → Prop} {a : Act} {w : World} {gf : Nat} {lb : Array Value} (hg : a.eval g = .func (.func gf) #[] lb) (eg : ∀ args w, (callFunc gf args).run P w = .ok (.enter gf args) w)
    {encs : α → Array Value} {Kp : World → World → Prop} {S Sp : List α → Prop} {N T : Nat} {w0 : World} (hs : Hands (n - 1) P gf lb encs Kp S Sp N T w0) (hb0 : Below w0.heap.size w0 w) (hps : ∀ x, (encs x).size = ps.size)
    (hKt : ∀ {A B C : World}, Kp A B → Kp B C → Kp A C) (hKb : ∀ (W : World) (o o' : Obj), W.heap[w.heap.size + 1]? = some o → o.isCells = false → Kp W (W.putObj (w.heap.size + 1) o'))
    (I Ix : List α → World → Prop) (hI : ∀ s, SurvR w.heap.size T (I s)) (hIx : ∀ s, SurvR w.heap.size T (Ix s)) (h0 : I [] w)
    (round : ∀ pre x W, I pre W → pre.length < N → w.heap.size + 2 ≤ W.heap.size → NC2 w.heap.size W → assign.wpIn (Fence.wide.inRound (w.heap.size + 1)) (n - 1 - 1) P
      (Exit.then (fun a1 W1 => Rec2 w.heap.size W W1 ∧ Kp W W1 ∧ ∀ W2, Only (fun k => k = w.heap.size + 1) W1 W2 → (∀ pre, I pre W1 → I pre W2) → NC2 w.heap.size W2 → body.wpIn (Fence.wide.inRound (w.heap.size + 1)) (n - 1 - 1) P (RndPost w.heap.size Kp I Ix (pre ++ [x]) W2) a1 W2) (fun _ _ _ => False))
      { tmps := (ps.zip (encs x)).foldl (fun t (p, v) => t.setIfInBounds p v) a.tmps, defers := [] } W)
    (hdone : ∀ (xs : List α) (W : World), S xs → I xs W → W.heap[w.heap.size]? = some (.deferred (some [])) → Q .normal { a with defers := { target := .collected w.heap.size, args := #[] } :: a.defers } W)
    (hstop : ∀ (pre : List α) (W : World), Sp pre → Ix pre W → W.heap[w.heap.size]? = some (.deferred (some [])) → Code.ret.wpIn Fence.wide n P Q { a with defers := { target := .collected w.heap.size, args := #[] } :: a.defers } W) :
    (Code.rangeFunc g ps assign body).wpIn Fence.wide n P Q a w := by
  generalize hB : w.heap.size = B at *
  refine wpIn_rangeFunc fun fn hfn => ?_
  let mk : LoopState → Option Code → Obj := fun st pe => .loop { state := st, pending := pe, fn := fn, tmps := a.tmps, params := ps, assign := assign, body := body, defers := B }
  obtain ⟨W1, hW1⟩ : ∃ W1, W1 = (w.alloc (.deferred (some []))).alloc (mk .ready none) := ⟨_, rfl⟩
  have e1 := World.alloc_heap_new (w.alloc (.deferred (some []))) (mk .ready none)
  have e0 := (Below.heap_alloc (w.alloc (.deferred (some []))) (mk .ready none) w.heap.size (by simp)).trans (World.alloc_heap_new w (.deferred (some [])))
  rw [World.size_alloc, hB, ← hW1] at e1
  rw [hB, ← hW1] at e0
  have hI1 : I [] W1 := by rw [hW1]; exact (hI []).new ((hI []).new h0 _) _
  have hsz : W1.heap.size = B + 2 := by rw [hW1, World.size_alloc, World.size_alloc, hB]
  have hb1 : Below w0.heap.size w0 W1 := by rw [hW1]; exact (hb0.alloc hb0.size _).alloc (by rw [World.size_alloc]; have := hb0.size; omega) _
  refine ⟨B + 1, [{ target := .collected B, args := #[] }], W1, { target := .fn (.func gf) lb, args := #[.func (.yield (B + 1)) #[] #[]] }, W1, gf, #[.func (.yield (B + 1)) #[] #[]] ++ lb, W1, ?_, ?_, fun f' _ => trivial, ?_, fun h => (by cases h), ?_⟩
  · have := run_enterLoop_outer (P := P) (w := w) fn a.tmps ps assign body
    rw [hB] at this
    rw [hW1]; exact this
  · simp only [resolve, hg]; simp [go_sem]
  · simp [invoke, go_sem, eg]
  · -- the record and the block for deferred calls stand through what the iterator does
    have hrec : ∀ {st pe} {A A' : World} {row : Option Nat}, A.grownBy A' row → (∀ r, row = some r → W1.heap.size ≤ r) → (A.heap[B + 1]? = some (mk st pe) ∧ A.heap[B]? = some (.deferred (some []))) → (A'.heap[B + 1]? = some (mk st pe) ∧ A'.heap[B]? = some (.deferred (some []))) := fun {st pe A A' row} hgr hr h =>
      ⟨(hgr.block _ (Array.getElem?_eq_some_iff.1 h.1).1 fun e => by have := hr _ e.symm; omega).trans h.1, (hgr.block _ (Array.getElem?_eq_some_iff.1 h.2).1 fun e => by have := hr _ e.symm; omega).trans h.2⟩
    have hend : ∀ {W3 : World} {st pe}, W3.heap[B + 1]? = some (mk st pe) → st ≠ .busy → (Instr.endLoop (B + 1)).run P W3 = .ok pe (W3.putObj (B + 1) (mk .exhausted pe)) := fun h hb => run_endLoop h hb
    refine (hs (B + 1) (fun pre W => I pre W ∧ W.heap[B + 1]? = some (mk .ready none) ∧ W.heap[B]? = some (.deferred (some []))) (fun pre W => Ix pre W ∧ W.heap[B + 1]? = some (mk .done (some .ret)) ∧ W.heap[B]? = some (.deferred (some []))) W1 hb1 (by have := hb0.size; omega)
      (fun s A A' row h hgr hr => ⟨(hI s).mono (show B ≤ W1.heap.size by omega) A A' row h.1 hgr hr, hrec hgr (fun r e => (hr r e).1) h.2⟩) (fun s A A' row h hgr hr => ⟨(hIx s).mono (show B ≤ W1.heap.size by omega) A A' row h.1 hgr hr, hrec hgr (fun r e => (hr r e).1) h.2⟩) ?_ ⟨hI1, e1, e0⟩).mono ?_
    · rintro pre x W ⟨hi, hl, hk⟩ hlen
      have hy := run_yield (P := P) (args := encs x) hl (hps x)
      have hlt : B + 1 < W.heap.size := (Array.getElem?_eq_some_iff.1 hl).1
      refine ⟨fn, _, assign, body, hy, roundIn_of_wpIn hfn (Code.wpIn_mono ?_ (round pre x W hi hlen (by omega) ⟨⟨_, hk, rfl⟩, ⟨_, hl, rfl⟩⟩))⟩
      intro e a1 Wa hq
      cases e with
      | normal =>
        obtain ⟨hr1, hk1, hbody⟩ := hq
        have hla : Wa.heap[B + 1]? = some (mk .ready none) := hr1.2.trans hl
        have hka : Wa.heap[B]? = some (.deferred (some [])) := hr1.1.trans hk
        have hlta : B + 1 < Wa.heap.size := (Array.getElem?_eq_some_iff.1 hla).1
        have hl2 : (Wa.putObj (B + 1) (mk .busy none)).heap[B + 1]? = some (mk .busy none) := World.putObj_heap_same hlta
        have hk2 : (Wa.putObj (B + 1) (mk .busy none)).heap[B]? = some (.deferred (some [])) := (World.putObj_heap_other (by omega)).trans hka
        refine ⟨_, run_beginRound hla rfl, Code.wpIn_mono ?_ (hbody _ (putObj_only Wa (B + 1) _) (fun p hp => (hI p).put hp (by omega) hla rfl) ⟨⟨_, hk2, rfl⟩, ⟨_, hl2, rfl⟩⟩)⟩
        intro e a3 W3 hp
        cases e with
        | normal =>
          obtain ⟨h1, h2, h3⟩ := hp
          have hl3 := h1.2.trans hl2
          have hk3 := h1.1.trans hk2
          exact ⟨_, _, run_endRound none hl3, .inl ⟨rfl, ⟨(hI _).put h3 (by omega) hl3 rfl, World.putObj_heap_same (Array.getElem?_eq_some_iff.1 hl3).1, (World.putObj_heap_other (by omega)).trans hk3⟩, hKt hk1 (hKt (hKt (hKb _ _ _ hla rfl) h2) (hKb _ _ _ hl3 rfl))⟩⟩
        | ret =>
          obtain ⟨h1, h0, h2⟩ := hp
          have hl3 := h1.2.trans hl2
          have hk3 := h1.1.trans hk2
          exact ⟨_, _, run_endRound (some .ret) hl3, .inr ⟨rfl, ⟨(hIx _).put h2 (by omega) hl3 rfl, World.putObj_heap_same (Array.getElem?_eq_some_iff.1 hl3).1, (World.putObj_heap_other (by omega)).trans hk3⟩, hKt hk1 (hKt (hKt (hKb _ _ _ hla rfl) h0) (hKb _ _ _ hl3 rfl))⟩⟩
        | _ => exact hp.elim
      | _ => exact hq.elim
    · rintro e W3 ⟨⟨v, rfl⟩, (⟨xs, hS, hi, hl, hk⟩ | ⟨pre, hSp, hi, hl, hk⟩)⟩
      · exact ⟨none, _, hend hl (by decide), hdone xs _ hS ((hI _).put hi (by omega) hl rfl) ((World.putObj_heap_other (by omega)).trans hk)⟩
      · exact ⟨some .ret, _, hend hl (by decide), hstop pre _ hSp ((hIx _).put hi (by omega) hl rfl) ((World.putObj_heap_other (by omega)).trans hk)⟩
theorem wpIn_hands {α : Type} {P : Program} {n : Nat} {g : Operand} {ps : Array Tmp} {assign body : Code} {Q : Exit → Act → World → Prop} {a : Act} {w : World} {gf : Nat} {lb : Array Value} (hg : a.eval g = .func (.func gf) #[] lb) (eg : ∀ args w, (callFunc gf args).run P w = .ok (.enter gf args) w)
    {encs : α → Array Value} {Kp : World → World → Prop} {S Sp : List α → Prop} {N T : Nat} {w0 : World} (hs : Hands (n - 1) P gf lb encs Kp S Sp N T w0) (hb0 : Below w0.heap.size w0 w) (hps : ∀ x, (encs x).size = ps.size)
    (hKt : ∀ {A B C : World}, Kp A B → Kp B C → Kp A C) (hKb : ∀ (W : World) (o o' : Obj), W.heap[w.heap.size + 1]? = some o → o.isCells = false → Kp W (W.putObj (w.heap.size + 1) o'))
    (I Ix : List α → World → Prop) (hI : ∀ s, SurvR w.heap.size T (I s)) (hIx : ∀ s, SurvR w.heap.size T (Ix s)) (h0 : I [] w)
    (round : ∀ pre x W, I pre W → pre.length < N → w.heap.size + 2 ≤ W.heap.size → assign.wpIn (Fence.wide.inRound (w.heap.size + 1)) (n - 1 - 1) P
      (Exit.then (fun a1 W1 => Rec2 w.heap.size W W1 ∧ Kp W W1 ∧ ∀ W2, Only (fun k => k = w.heap.size + 1) W1 W2 → (∀ pre, I pre W1 → I pre W2) → body.wpIn (Fence.wide.inRound (w.heap.size + 1)) (n - 1 - 1) P (RndPost w.heap.size Kp I Ix (pre ++ [x]) W2) a1 W2) (fun _ _ _ => False))
      { tmps := (ps.zip (encs x)).foldl (fun t (p, v) => t.setIfInBounds p v) a.tmps, defers := [] } W)
    (hdone : ∀ (xs : List α) (W : World), S xs → I xs W → W.heap[w.heap.size]? = some (.deferred (some [])) → Q .normal { a with defers := { target := .collected w.heap.size, args := #[] } :: a.defers } W)
    (hstop : ∀ (pre : List α) (W : World), Sp pre → Ix pre W → W.heap[w.heap.size]? = some (.deferred (some [])) → Code.ret.wpIn Fence.wide n P Q { a with defers := { target := .collected w.heap.size, args := #[] } :: a.defers } W) :
    (Code.rangeFunc g ps assign body).wpIn Fence.wide n P Q a w :=
  wpIn_handsR hg eg hs hb0 hps hKt hKb I Ix hI hIx h0 (fun pre x W h1 h2 h3 _ => Code.wpIn_mono (fun e a1 W1 h => by
    cases e with
    | normal => exact ⟨h.1, h.2.1, fun W2 h4 h5 _ => h.2.2 W2 h4 h5⟩
    | _ => exact h) (round pre x W h1 h2 h3)) hdone hstop
end Go.Proofs.YtmkllibfblacfaaGreatDoor

/-
  The plain mathematics of layer 1 (octet): numbers as digits to the base 128, lists of bytes; nothing of any program.
-/
namespace Go.Proofs.YtmkllibfblacfaaGreatDoor.Oct

/-- a code's bytes -/
def num (c : Nat) : List UInt8 :=
  if c < 128 then [UInt8.ofNat c] else UInt8.ofNat (128 + c % 128) :: num (c / 128)
termination_by c
decreasing_by omega

/-- a number's code -/
def codeN (n : Int) : Nat := if n < 0 then (-2 * n - 1).toNat else (2 * n).toNat
/-- a code's number -/
def decN (c : Nat) : Int := if c % 2 = 1 then -1 - ((c / 2 : Nat) : Int) else ((c / 2 : Nat) : Int)

/-- what is taken off the front, from the byte number i on: the error, the code, what stands behind -/
def take (i : Nat) : List UInt8 → Nat × Nat × List UInt8
  | [] => (3, 0, [])
  | b :: r =>
    if (i = 9 ∧ 1 < b.toNat) ∨ (0 < i ∧ b.toNat = 0) then (4, 0, [])
    else if b.toNat < 128 then (0, b.toNat, r)
    else if (take (i + 1) r).1 = 0 then (0, b.toNat - 128 + 128 * (take (i + 1) r).2.1, (take (i + 1) r).2.2) else ((take (i + 1) r).1, 0, [])

theorem dec_code (n : Int) : decN (codeN n) = n := by
  unfold decN codeN; split <;> split <;> omega
theorem code_lt (n : Int) (h0 : -9223372036854775808 ≤ n) (h1 : n ≤ 9223372036854775807) : codeN n < 18446744073709551616 := by
  unfold codeN; split <;> omega

theorem num_small (c : Nat) (h : c < 128) : num c = [UInt8.ofNat c] := by rw [num, if_pos h]
theorem num_great (c : Nat) (h : 128 ≤ c) : num c = UInt8.ofNat (128 + c % 128) :: num (c / 128) := by rw [num, if_neg (by omega)]
theorem toNat_ofNat (c : Nat) (h : c < 256) : (UInt8.ofNat c).toNat = c := by simp; omega

/-- what was written is read, with whatever stands behind -/
theorem take_num : ∀ (j i c : Nat) (l : List UInt8), i + j = 10 → 0 < j → c * 2 ^ (7 * i) < 18446744073709551616 → (0 < i → 0 < c) → take i (num c ++ l) = (0, c, l)
  | 0, _, _, _, _, h, _, _ => by omega
  | j + 1, i, c, l, hij, _, hc, hi => by
    by_cases h : c < 128
    · rw [num_small c h]
      simp only [List.cons_append, List.nil_append, take, toNat_ofNat c (by omega)]
      rw [if_neg, if_pos h]
      rintro (⟨rfl, h1⟩ | ⟨h1, h2⟩)
      · omega
      · have := hi h1; omega
    · rw [num_great c (by omega)]
      simp only [List.cons_append, take, toNat_ofNat (128 + c % 128) (by omega)]
      have h9 : i ≠ 9 := by rintro rfl; omega
      have hc' : c / 128 * 2 ^ (7 * (i + 1)) < 18446744073709551616 := by
        have e : 2 ^ (7 * (i + 1)) = 128 * 2 ^ (7 * i) := by rw [show 7 * (i + 1) = 7 + 7 * i from by omega, Nat.pow_add]
        rw [e, ← Nat.mul_assoc]
        have : c / 128 * 128 * 2 ^ (7 * i) ≤ c * 2 ^ (7 * i) := Nat.mul_le_mul_right _ (by omega)
        omega
      have ih := take_num j (i + 1) (c / 128) l (by omega) (by omega) hc' (fun _ => by omega)
      rw [if_neg (by omega), if_neg (by omega), ih]
      simp; omega

/-- a code's bytes are read back, whatever stands behind -/
theorem take_back (c : Nat) (l : List UInt8) (h : c < 18446744073709551616) : take 0 (num c ++ l) = (0, c, l) :=
  take_num 10 0 c l rfl (by omega) (by omega) (by omega)

/-! ### the loops: what is known when the bytes ahead of the place k are read -/
theorem drop_at (l : List UInt8) (k : Nat) (hk : k < l.length) : l.drop k = l[k] :: l.drop (k + 1) := by simp
/-! ### writing: the digits ahead of the place k are p -/
/-! what the calls answer -/
def numB (n : Int) : ByteArray := ⟨(num (codeN n)).toArray⟩
def tN (s : ByteArray) : Int := if (take 0 s.data.toList).1 = 0 then decN (take 0 s.data.toList).2.1 else 0
def tR (s : ByteArray) : ByteArray := ⟨(take 0 s.data.toList).2.2.toArray⟩
def tE (s : ByteArray) : Int := (take 0 s.data.toList).1

/-! ### numbers of a fixed length -/
/-- the byte at the place k (0 is the lowest) -/
def digit (n : Int) (k : Nat) : UInt8 := UInt8.ofNat ((n % 18446744073709551616).toNat / 2 ^ (k * 8) % 256)
/-- the lowest k bytes, the highest first -/
def fix (n : Int) : Nat → List UInt8
  | 0 => []
  | k + 1 => digit n k :: fix n k
def cnt (bytes : Int) : Nat := if bytes < 0 then 0 else if 8 < bytes then 8 else bytes.toNat
/-- what a row of m zeros holds when k of its bytes are laid, from the back -/
def laid (n : Int) (m k : Nat) : List UInt8 := List.replicate (m - k) 0 ++ fix n k
/-! ### what TakeNum answers, in three cases -/
/-- no number's bytes are the beginning of another one's -/
theorem first (n m : Int) (hn0 : -9223372036854775808 ≤ n) (hn1 : n ≤ 9223372036854775807) (hm0 : -9223372036854775808 ≤ m) (hm1 : m ≤ 9223372036854775807)
    (t : List UInt8) (h : num (codeN m) = num (codeN n) ++ t) : n = m := by
  have h1 := take_back (codeN m) [] (code_lt m hm0 hm1)
  have h2 := take_back (codeN n) t (code_lt n hn0 hn1)
  rw [List.append_nil, h] at h1
  rw [h1] at h2
  have : codeN m = codeN n := by simpa using congrArg (fun x => x.2.1) h2
  rw [← dec_code n, ← this, dec_code]
end Go.Proofs.YtmkllibfblacfaaGreatDoor.Oct

/-
  Plain mathematics of layer 1, second part: numbers of a fixed length, read.
-/
namespace Go.Proofs.YtmkllibfblacfaaGreatDoor.Oct

/-- the number of bytes, the highest first -/
def be (l : List UInt8) : Nat := l.foldl (fun c b => c * 256 + b.toNat) 0
/-- what Read answers -/
def rd (s : ByteArray) : Int := IntKind.i64.wrap (be (s.data.toList.take 8))
theorem cnt_end (k : Nat) (b : Int) (h : ¬ ((k : Int) < b ∧ k < 8)) (hk : k ≤ 8) (h2 : k ≤ cnt b) : k = cnt b := by
  unfold cnt at h2 ⊢
  by_cases h0 : b < 0
  · rw [if_pos h0] at h2 ⊢; omega
  · rw [if_neg h0] at h2 ⊢
    by_cases h8 : 8 < b
    · rw [if_pos h8] at h2 ⊢; omega
    · rw [if_neg h8] at h2 ⊢; omega
end Go.Proofs.YtmkllibfblacfaaGreatDoor.Oct

/-
  Plain mathematics of layer 1, third part: texts and lists, taken.
-/
namespace Go.Proofs.YtmkllibfblacfaaGreatDoor.Oct

/-- a length, or how many: what is taken -/
def cnt3 (s : ByteArray) (lim : Int) : Int × ByteArray × Int :=
  if tE s ≠ 0 then (0, ⟨#[]⟩, tE s) else if tN s < 0 then (0, ⟨#[]⟩, 4) else if lim < tN s then (0, ⟨#[]⟩, 5) else (tN s, tR s, 0)
/-- a text, taken -/
def txt (s : ByteArray) (most : Int) : ByteArray × ByteArray × Int :=
  if (cnt3 s most).2.2 ≠ 0 then (⟨#[]⟩, ⟨#[]⟩, (cnt3 s most).2.2) else
    if ((cnt3 s most).2.1.size : Int) < (cnt3 s most).1 then (⟨#[]⟩, ⟨#[]⟩, 3)
    else ((cnt3 s most).2.1.extract 0 (cnt3 s most).1.toNat, (cnt3 s most).2.1.extract (cnt3 s most).1.toNat (cnt3 s most).2.1.size, 0)
/-! ### lists, written -/
def one (s : ByteArray) : List UInt8 := (numB s.size).data.toList ++ s.data.toList
def all : List ByteArray → List UInt8
  | [] => []
  | s :: l => one s ++ all l
theorem all_append (a b : List ByteArray) : all (a ++ b) = all a ++ all b := by
  induction a with
  | nil => rfl
  | cons s a ih => simp [all, ih]
/-! ### what was written is taken -/
end Go.Proofs.YtmkllibfblacfaaGreatDoor.Oct

/-
  The plain mathematics of layer 2 (crc): sums bit by bit, as natural numbers; nothing of any program.
-/
namespace Go.Proofs.YtmkllibfblacfaaGreatDoor.Crc
/-- a bit shifted out -/
def stp (c : Nat) : Nat := if c % 2 = 1 then (c / 2) ^^^ 2197175160 else c / 2
def stps : Nat → Nat → Nat
  | 0, c => c
  | k + 1, c => stp (stps k c)
def byt (c : Nat) (b : UInt8) : Nat := stps 8 (c ^^^ b.toNat)
def run (c : Nat) (l : List UInt8) : Nat := l.foldl byt c
def sum (l : List UInt8) : Nat := run 4294967295 l ^^^ 4294967295

/-- a sum's four bytes, the highest first -/
def wr (n : Nat) : List UInt8 := [UInt8.ofNat (n / 16777216 % 256), UInt8.ofNat (n / 65536 % 256), UInt8.ofNat (n / 256 % 256), UInt8.ofNat (n % 256)]
def seal4 (l : List UInt8) : List UInt8 := l ++ wr (sum l)
def right (l : List UInt8) : Bool := decide (4 ≤ l.length) && (l.drop (l.length - 4) == wr (sum (l.take (l.length - 4))))
end Go.Proofs.YtmkllibfblacfaaGreatDoor.Crc

/-
  The plain mathematics of layer 5 (seal): blocks as lists of bytes; nothing of any program.
-/
namespace Go.Proofs.YtmkllibfblacfaaGreatDoor.Sl
open Oct (be fix rd)
/-- the text, and zeros behind it -/
def body (s : List UInt8) : List UInt8 := s ++ List.replicate (490 - s.length) 0
/-- what is sealed -/
def pre (n : Int) (s : List UInt8) : List UInt8 := fix n 8 ++ (fix s.length 2 ++ ((body s).take 246 ++ (fix n 8 ++ (body s).drop 246)))
def blk (n : Int) (s : List UInt8) : List UInt8 := Crc.seal4 (pre n s)
/-- a block's parts -/
structure Parts (l : List UInt8) (n : Int) (s : List UInt8) : Prop where
  len : l.length = 512
  num : l.take 8 = fix n 8
  size : (l.drop 8).take 2 = fix s.length 2
  front : (l.drop 10).take 246 = (body s).take 246
  again : (l.drop 256).take 8 = fix n 8
  back : (l.drop 264).take 244 = (body s).drop 246
/-! ### as texts -/
theorem ext_list (b : ByteArray) (i j : Nat) : (b.extract i j).data.toList = (b.data.toList.drop i).take (j - i) := by
  rw [ByteArray.data_extract, Array.toList_extract, List.extract]
def zeros : ByteArray := ⟨(List.replicate 512 0).toArray⟩
def one (b : ByteArray) : Int := rd (b.extract 0 8)
def two (b : ByteArray) : Int := rd (b.extract 256 264)
def len (b : ByteArray) : Int := rd (b.extract 8 10)
def all (b : ByteArray) : ByteArray := b.extract 10 256 ++ b.extract 264 508
def putE (n : Int) (s : ByteArray) : Int := if n < 1 ∨ 4611686018427387904 < n then 2 else if 490 < s.size then 5 else 0
def putB (n : Int) (s : ByteArray) : ByteArray := if putE n s = 0 then ⟨(blk n s.data.toList).toArray⟩ else ByteArray.empty
def take (b : ByteArray) : Int × ByteArray × Int :=
  if b.size ≠ 512 then (0, ByteArray.empty, 4) else if b = zeros then (0, ByteArray.empty, 6) else if one b ≠ two b then (0, ByteArray.empty, 10) else if 490 < len b then (0, ByteArray.empty, 9)
  else if putE (one b) ((all b).extract 0 (len b).toNat) = 0 ∧ putB (one b) ((all b).extract 0 (len b).toNat) = b then (one b, (all b).extract 0 (len b).toNat, 0) else (0, ByteArray.empty, 9)
theorem ba_ext {a b : ByteArray} (h : a.data.toList = b.data.toList) : a = b := by
  cases a; cases b; congr; exact Array.toList_inj.1 h
/-! ### torn ones -/
theorem ext_first (b : ByteArray) (k : Nat) : (b.extract 0 k).data.toList = b.data.toList.take k := by rw [ext_list, List.drop_zero, Nat.sub_zero]
/-! ### the document's example -/
end Go.Proofs.YtmkllibfblacfaaGreatDoor.Sl

/-
  The plain mathematics of layer 6 (label): a label's bytes, and what bytes are parsed as; nothing of any program.
-/
namespace Go.Proofs.YtmkllibfblacfaaGreatDoor.Lb
open Oct (numB tN tR tE txt)
structure Label where
  turn : Int
  tail : Int
  head : Int
  note : ByteArray
def no : Label := ⟨0, 0, 0, ⟨#[]⟩⟩
def right (l : Label) : Prop := 1 ≤ l.turn ∧ l.turn ≤ 4611686018427387904 ∧ 0 ≤ l.tail ∧ l.tail ≤ l.head ∧ l.head ≤ 1125899906842624 ∧ l.note.size ≤ 400
instance (l : Label) : Decidable (right l) := by unfold right; infer_instance
def text (l : Label) : ByteArray := numB l.tail ++ numB l.head ++ (numB l.note.size ++ l.note)
def bytes (l : Label) : ByteArray := if right l then text l else ⟨#[]⟩
/-- the label that the bytes tell, if they tell one -/
def told (turn : Int) (s : ByteArray) : Label := ⟨turn, tN s, tN (tR s), (txt (tR (tR s)) 400).1⟩
end Go.Proofs.YtmkllibfblacfaaGreatDoor.Lb

/-
  The plain mathematics of layer 12 (value): right values, their texts, bytes and order, and what bytes begin with; nothing of any program.
-/
namespace Go.Proofs.YtmkllibfblacfaaGreatDoor.Vl
open Oct (numB tN tR tE txt)
structure V where
  kind : Int
  n : Int
  s : ByteArray
abbrev mt : ByteArray := ⟨#[]⟩
def no : V := ⟨0, 0, mt⟩
/-- may s be a text? -/
def plain (s : ByteArray) : Prop := s.size ≤ 40 ∧ ∀ b ∈ s.data.toList, 32 ≤ b.toNat ∧ b.toNat ≤ 126
instance (s : ByteArray) : Decidable (plain s) := by unfold plain; infer_instance
def right (v : V) : Prop := (v.kind = 0 ∧ v.n = 0 ∧ v.s = mt) ∨ (v.kind = 1 ∧ v.s = mt) ∨ (v.kind = 2 ∧ v.n = 0 ∧ plain v.s) ∨ (v.kind = 3 ∧ (v.n = 0 ∨ v.n = 1) ∧ v.s = mt)
instance (v : V) : Decidable (right v) := by unfold right; infer_instance
theorem v_ext {a b : V} (h1 : a.kind = b.kind) (h2 : a.n = b.n) (h3 : a.s = b.s) : a = b := by
  cases a; cases b; simp only at h1 h2 h3; subst h1 h2 h3; rfl
theorem right_size {v : V} (h : right v) : v.s.size ≤ 40 := by
  rcases h with h | h | h | h
  · rw [h.2.2]; decide
  · rw [h.2]; decide
  · exact h.2.2.1
  · rw [h.2.2]; decide
/-! the bytes -/
def tail (v : V) : ByteArray := if v.kind = 1 ∨ v.kind = 3 then numB v.n else if v.kind = 2 then numB v.s.size ++ v.s else mt
def bytes (v : V) : ByteArray := numB v.kind ++ tail v

/-- a value's bytes off the front -/
def take (s : ByteArray) : V × ByteArray × Int :=
  if tE s ≠ 0 then (no, mt, tE s)
  else if tN s = 1 ∨ tN s = 3 then
    if tE (tR s) ≠ 0 then (no, mt, tE (tR s)) else if right ⟨tN s, tN (tR s), mt⟩ then (⟨tN s, tN (tR s), mt⟩, tR (tR s), 0) else (no, mt, 4)
  else if tN s = 2 then
    if (txt (tR s) 40).2.2 ≠ 0 then (no, mt, (txt (tR s) 40).2.2) else if right ⟨2, 0, (txt (tR s) 40).1⟩ then (⟨2, 0, (txt (tR s) 40).1⟩, (txt (tR s) 40).2.1, 0) else (no, mt, 4)
  else if tN s = 0 then (no, tR s, 0) else (no, mt, 4)

/-! rows -/
def allB (l : List V) : ByteArray := l.foldr (fun v b => bytes v ++ b) mt
def row (l : List V) : ByteArray := numB l.length ++ allB l
/-! the order -/
def cmpI (a b : Int) : Int := if a < b then -1 else if b < a then 1 else 0
def cmp (a b : V) : Int := if a.kind ≠ b.kind then cmpI a.kind b.kind else if a.n ≠ b.n then cmpI a.n b.n else Lib.compareBytes a.s.data.toList b.s.data.toList
theorem cmpI_cases (a b : Int) : (a < b ∧ cmpI a b = -1) ∨ (a = b ∧ cmpI a b = 0) ∨ (b < a ∧ cmpI a b = 1) := by
  unfold cmpI
  by_cases h1 : a < b
  · exact .inl ⟨h1, if_pos h1⟩
  · by_cases h2 : b < a
    · exact .inr (.inr ⟨h2, by rw [if_neg h1, if_pos h2]⟩)
    · exact .inr (.inl ⟨by omega, by rw [if_neg h1, if_neg h2]⟩)
theorem cb_zero : ∀ a b : List UInt8, Lib.compareBytes a b = 0 → a = b
  | [], [], _ => rfl
  | [], _ :: _, h => by simp [Lib.compareBytes] at h
  | _ :: _, [], h => by simp [Lib.compareBytes] at h
  | x :: a, y :: b, h => by
    have h : (if x < y then (-1 : Int) else if y < x then 1 else Lib.compareBytes a b) = 0 := h
    by_cases h1 : x < y
    · rw [if_pos h1] at h; omega
    · by_cases h2 : y < x
      · rw [if_neg h1, if_pos h2] at h; omega
      · rw [if_neg h1, if_neg h2] at h
        have e : x = y := UInt8.toNat_inj.1 (by have a1 := mt_lt h1; have a2 := mt_lt h2; omega)
        rw [e, cb_zero a b h]
where mt_lt {x y : UInt8} (h : ¬ x < y) : y.toNat ≤ x.toNat := Nat.le_of_not_lt fun hh => h (UInt8.lt_iff_toNat_lt.2 hh)
theorem cb_self : ∀ a : List UInt8, Lib.compareBytes a a = 0
  | [] => rfl
  | x :: a => by
    show (if x < x then (-1 : Int) else if x < x then 1 else Lib.compareBytes a a) = 0
    have h : ¬ x < x := fun h => Nat.lt_irrefl _ (UInt8.lt_iff_toNat_lt.1 h)
    rw [if_neg h, if_neg h]; exact cb_self a
theorem cmp_k {a b : V} (h : a.kind ≠ b.kind) : cmp a b = cmpI a.kind b.kind := if_pos h
theorem cmp_n {a b : V} (h : a.kind = b.kind) (h2 : a.n ≠ b.n) : cmp a b = cmpI a.n b.n := by unfold cmp; rw [if_neg (fun x => x h), if_pos h2]
theorem cmp_s {a b : V} (h : a.kind = b.kind) (h2 : a.n = b.n) : cmp a b = Lib.compareBytes a.s.data.toList b.s.data.toList := by unfold cmp; rw [if_neg (fun x => x h), if_neg (fun x => x h2)]
theorem cmp_zero (a b : V) : cmp a b = 0 ↔ a = b := by
  constructor
  · intro h
    unfold cmp at h
    split at h
    · rename_i h1; rcases cmpI_cases a.kind b.kind with h2 | h2 | h2
      · omega
      · exact absurd h2.1 h1
      · omega
    · rename_i h1
      split at h
      · rename_i h2; rcases cmpI_cases a.n b.n with h3 | h3 | h3
        · omega
        · exact absurd h3.1 h2
        · omega
      · rename_i h2
        exact v_ext (Classical.not_not.1 h1) (Classical.not_not.1 h2) (Sl.ba_ext (cb_zero _ _ h))
  · rintro rfl
    unfold cmp; rw [if_neg (by simp), if_neg (by simp), cb_self]
/-! the text -/
def esc : List UInt8 → List UInt8
  | [] => []
  | b :: l => if b = 34 ∨ b = 92 then 92 :: b :: esc l else b :: esc l
def quoteL (l : List UInt8) : List UInt8 := 34 :: (esc l ++ [34])
def nullL : List UInt8 := [110, 117, 108, 108]
def boolL (n : Int) : List UInt8 := if n = 1 then [116, 114, 117, 101] else [102, 97, 108, 115, 101]
def textL (v : V) : List UInt8 := if v.kind = 1 then Lib.itoa v.n else if v.kind = 2 then quoteL v.s.data.toList else if v.kind = 3 then boolL v.n else nullL
def text (v : V) : ByteArray := ⟨(textL v).toArray⟩
/-- what a numeral says -/
def val : List UInt8 → Nat → Nat
  | [], c => c
  | b :: l, c => val l (c * 10 + (b.toNat - 48))
/-- the text's first byte -/
def head (v : V) : UInt8 := (textL v).headD 0
end Go.Proofs.YtmkllibfblacfaaGreatDoor.Vl

/-
  The plain mathematics of layer 13 (lex): tokens, their texts, and the tokens of a text; nothing of any program.
-/
namespace Go.Proofs.YtmkllibfblacfaaGreatDoor.Lx
open Vl (val esc quoteL plain)
structure T where
  kind : Int
  s : ByteArray
  n : Int
  spot : Int
def no : T := ⟨0, Vl.mt, 0, 0⟩
abbrev mk (l : List UInt8) : ByteArray := ⟨l.toArray⟩
def letter (c : UInt8) : Bool := (decide (97 ≤ c.toNat) && decide (c.toNat ≤ 122)) || (decide (65 ≤ c.toNat) && decide (c.toNat ≤ 90)) || decide (c.toNat = 95)
def digit (c : UInt8) : Bool := decide (48 ≤ c.toNat) && decide (c.toNat ≤ 57)
/-- how many bytes of a name a text goes on with (b: something of it stands ahead) -/
def word (b : Bool) : List UInt8 → Nat
  | [] => 0
  | c :: r => if letter c || (b && digit c) then word true r + 1 else 0
def marks : List (List UInt8) := [[46, 46], [33, 61], [60, 61], [62, 61], [40], [41], [91], [93], [44], [43], [45], [42], [47], [61], [60], [62]]
def right (t : T) : Prop :=
  (t.kind = 1 ∧ t.n = 0 ∧ t.s ≠ Vl.mt ∧ word false t.s.data.toList = t.s.size ∧ t.s.size ≤ 16) ∨ (t.kind = 2 ∧ 0 ≤ t.n ∧ t.s = Vl.mt) ∨ (t.kind = 3 ∧ t.n = 0 ∧ plain t.s) ∨ (t.kind = 4 ∧ t.s.data.toList ∈ marks ∧ t.n = 0)
instance (t : T) : Decidable (right t) := by unfold right; infer_instance
def textL (t : T) : List UInt8 := if t.kind = 2 then Lib.itoa t.n else if t.kind = 3 then quoteL t.s.data.toList else t.s.data.toList
/-! the first token of a text: its token, its bytes, its error -/
def nameT (l : List UInt8) : T × Nat × Int := if 16 < word false l then (no, 0, 5) else (⟨1, mk (l.take (word false l)), 0, 0⟩, word false l, 0)
def digs (l : List UInt8) : List UInt8 := l.takeWhile digit
def maxI : Nat := 9223372036854775807
def numT (l : List UInt8) : T × Nat × Int :=
  if 1 < (digs l).length ∧ l.head? = some 48 then (no, 0, 11) else if maxI < val (digs l) 0 then (no, 0, 15) else (⟨2, Vl.mt, (val (digs l) 0 : Nat), 0⟩, (digs l).length, 0)
/-- the text behind a quote: what it says, what stands behind its end -/
def txt : List UInt8 → List UInt8 → Option (List UInt8 × List UInt8)
  | [], _ => none
  | c :: r, acc =>
    if c = 34 then some (acc, r)
    else if c = 92 then match r with
      | [] => none
      | d :: r' => if d = 34 ∨ d = 92 then txt r' (acc ++ [d]) else none
    else if c.toNat < 32 ∨ 126 < c.toNat then none else txt r (acc ++ [c])
def txtT (l : List UInt8) : T × Nat × Int :=
  match txt l.tail [] with
  | none => (no, 0, 11)
  | some (t, r) => if 40 < t.length then (no, 0, 5) else (⟨3, mk t, 0, 0⟩, l.length - r.length, 0)
def markT (l : List UInt8) : T × Nat × Int :=
  match marks.find? (fun m => m.isPrefixOf l) with
  | some m => (⟨4, mk m, 0, 0⟩, m.length, 0)
  | none => (no, 0, 11)
def one (l : List UInt8) : T × Nat × Int :=
  match l with
  | [] => (no, 0, 11)
  | c :: _ => if letter c then nameT l else if digit c then numT l else if c = 34 then txtT l else markT l
/-! names -/
theorem word_le (b : Bool) : ∀ l : List UInt8, word b l ≤ l.length
  | [] => Nat.le_refl _
  | c :: r => by
    have ih := word_le true r
    unfold word; split
    · rw [List.length_cons]; omega
    · exact Nat.zero_le _
/-! numbers -/
theorem digit_iff (c : UInt8) : digit c = true ↔ 48 ≤ c.toNat ∧ c.toNat ≤ 57 := by unfold digit; simp
/-! texts -/
theorem txt_end (r acc : List UInt8) : txt (34 :: r) acc = some (acc, r) := by rw [txt.eq_def]; simp
theorem txt_slash (d : UInt8) (r acc : List UInt8) : txt (92 :: d :: r) acc = if d = 34 ∨ d = 92 then txt r (acc ++ [d]) else none := by rw [txt.eq_def]; simp
theorem txt_slash0 (acc : List UInt8) : txt [92] acc = none := by rw [txt.eq_def]; simp
theorem txt_plain {c : UInt8} (r acc : List UInt8) (h1 : ¬ c = 34) (h2 : ¬ c = 92) : txt (c :: r) acc = if c.toNat < 32 ∨ 126 < c.toNat then none else txt r (acc ++ [c]) := by rw [txt.eq_def]; simp [h1, h2]
end Go.Proofs.YtmkllibfblacfaaGreatDoor.Lx

/-
  The plain mathematics of layer 13 (lex), further: the first token of a text, and all; nothing of any program.
-/
namespace Go.Proofs.YtmkllibfblacfaaGreatDoor.Lx
open Vl (val esc quoteL plain)
/-- a token, wherever it begins -/
def strip (t : T) : T := ⟨t.kind, t.s, t.n, 0⟩
theorem one_cons (c : UInt8) (r : List UInt8) : one (c :: r) = if letter c then nameT (c :: r) else if digit c then numT (c :: r) else if c = 34 then txtT (c :: r) else markT (c :: r) := rfl
theorem takeWhile_all {p : UInt8 → Bool} : ∀ l : List UInt8, ∀ b ∈ l.takeWhile p, p b = true
  | [], b, h => by cases h
  | x :: l, b, h => by
    rw [List.takeWhile_cons] at h
    by_cases hx : p x = true
    · rw [if_pos hx] at h
      rcases List.mem_cons.1 h with rfl | h
      · exact hx
      · exact takeWhile_all l b h
    · rw [if_neg hx] at h; cases h
theorem takeWhile_take {p : UInt8 → Bool} : ∀ l : List UInt8, l.take (l.takeWhile p).length = l.takeWhile p
  | [] => rfl
  | x :: l => by
    rw [List.takeWhile_cons]
    by_cases hx : p x = true
    · rw [if_pos hx, List.length_cons, List.take_succ_cons, takeWhile_take l]
    · rw [if_neg hx]; rfl
theorem takeWhile_le {p : UInt8 → Bool} (l : List UInt8) : (l.takeWhile p).length ≤ l.length := by
  have := congrArg List.length (takeWhile_take (p := p) l)
  rw [List.length_take] at this; omega
end Go.Proofs.YtmkllibfblacfaaGreatDoor.Lx

/-
  The plain mathematics of layer 13 (lex): all tokens of a text; what was joined is read again; nothing of any program.
-/
namespace Go.Proofs.YtmkllibfblacfaaGreatDoor.Lx
open Vl (val esc quoteL plain)
def put (t : T) (at_ : Nat) : T := ⟨t.kind, t.s, t.n, at_⟩
/-! what was joined is read -/
/-! the tokens of a text lie in it -/
/-- the tokens m stand in s, one behind the other, from e on, and blanks alone stand between -/
def Laid (s : List UInt8) : Nat → List T → Prop
  | e, [] => ∀ k, e ≤ k → k < s.length → s[k]? = some 32
  | e, t :: m => ∃ a : Nat, t.spot = (a : Int) ∧ e ≤ a ∧ a + (textL t).length ≤ s.length ∧ (∀ k, e ≤ k → k < a → s[k]? = some 32) ∧ (s.drop a).take (textL t).length = textL t ∧ right t ∧ t.n ≤ maxI ∧ Laid s (a + (textL t).length) m
end Go.Proofs.YtmkllibfblacfaaGreatDoor.Lx

/-
  Words of 32 bits as natural numbers: or, and, xor, not, shifts; a byte of a number; a rest of a division; a bool's end.
-/
namespace Go.Proofs.YtmkllibfblacfaaGreatDoor
open Go.RowKit

theorem ret_bool {a b : Bool} (h : a = b) : Ending.returned (.bool a) = .returned (.bool b) := by rw [h]
end Go.Proofs.YtmkllibfblacfaaGreatDoor

/-
  Slices of bytes that a call makes itself: what they hold, as lists; how they become strings.
-/
namespace Go.Proofs.YtmkllibfblacfaaGreatDoor
open Go.RowKit

end Go.Proofs.YtmkllibfblacfaaGreatDoor

/-
  The leaves of layer 1: what a digit, its worth, a code and its number answer.
-/
namespace Go.Proofs.YtmkllibfblacfaaGreatDoor
open Go.RowKit


end Go.Proofs.YtmkllibfblacfaaGreatDoor

/-
  Layer 1: what TakeNum answers (the program's and the document's).
-/
namespace Go.Proofs.YtmkllibfblacfaaGreatDoor
open Go.RowKit

end Go.Proofs.YtmkllibfblacfaaGreatDoor

/-
  Layer 1: what TakeText answers (the program's and the document's).
-/
namespace Go.Proofs.YtmkllibfblacfaaGreatDoor
open Go.RowKit

end Go.Proofs.YtmkllibfblacfaaGreatDoor

/-
  Layer 13: a token in a cell of its own, and as a result.
-/
namespace Go.Proofs.YtmkllibfblacfaaGreatDoor
open Go.RowKit
abbrev tokC (t : Lx.T) : Array Value := #[.int .i64 t.kind, .string t.s, .int .i64 t.n, .int .i64 t.spot]
abbrev tokV (t : Lx.T) : Value := .agg (tokC t)
theorem info_tok : (Tryz.prog.info? 78).map (·.size) = some 4 := by kernel_rfl
theorem results_cell_two13 {fn : Func} {p u x : Tmp} {ty : TypeId} (h : fn.results = #[.cell p ty, .tmp u, .tmp x]) (tmps : Array Value) (P : Program) (w : World) :
    (results fn tmps).run P w =
      ((asAddr (tmps.getD p undef)).run P w).andThen fun a w₁ => ((loadVar ty a).run P w₁).andThen fun v w₂ => .ok (.tuple #[v, tmps.getD u undef, tmps.getD x undef]) w₂ := by
  simp only [results, h]
  simp [Sem.run_bind, Result.andThen]
set_option maxRecDepth 100000 in
theorem results_tok {fn : Func} {p u x : Tmp} (h : fn.results = #[.cell p 78, .tmp u, .tmp x]) (tmps : Array Value) (w : World) (g : Nat) (v : Lx.T)
    (hp : tmps.getD p undef = .pointer (some ⟨g, 0, none⟩)) (hg : RowV w g 78 (tokC v).toList) :
    (results fn tmps).run Tryz.prog w = .ok (.tuple #[tokV v, tmps.getD u undef, tmps.getD x undef]) w := by
  have hl := run_loadVar_row (P := Tryz.prog) w g 78 78 (tokC v) (0, 0) _ hg Tryz.underlying78 rfl info_tok
  rw [results_cell_two13 h, hp]
  simp only [asAddr, Sem.run_pure, Result.andThen]
  rw [hl]
/-- a token stored into its box -/
theorem tok_put {w : World} {N : Nat} {v : Lx.T} (hr : RowV w N 78 (tokC v).toList) (k : Int) (s : ByteArray) (n a : Int) :
    RowV ((((w.setCell ⟨N, 0, none⟩ (.int .i64 k)).setCell ⟨N, 1, none⟩ (.string s)).setCell ⟨N, 2, none⟩ (.int .i64 n)).setCell ⟨N, 3, none⟩ (.int .i64 a)) N 78 (tokC ⟨k, s, n, a⟩).toList ∧
    ∀ B, B ≤ N → Below B w ((((w.setCell ⟨N, 0, none⟩ (.int .i64 k)).setCell ⟨N, 1, none⟩ (.string s)).setCell ⟨N, 2, none⟩ (.int .i64 n)).setCell ⟨N, 3, none⟩ (.int .i64 a)) :=
  ⟨rowV_stored (rowV_stored (rowV_stored (rowV_stored hr 0 (.int .i64 k)) 1 (.string s)) 2 (.int .i64 n)) 3 (.int .i64 a),
    fun B hB => ((((Below.refl B w).setCell (p := ⟨N, 0, none⟩) hB _).setCell (p := ⟨N, 1, none⟩) hB _).setCell (p := ⟨N, 2, none⟩) hB _).setCell (p := ⟨N, 3, none⟩) hB _⟩
/-- a token's cells, at its box -/
theorem tok_cells {w : World} {g : Nat} {v : Lx.T} (h : RowV w g 78 (tokC v).toList) :
    w.cell? ⟨g, 0, none⟩ = some (.int .i64 v.kind) ∧ w.cell? ⟨g, 1, none⟩ = some (.string v.s) ∧ w.cell? ⟨g, 2, none⟩ = some (.int .i64 v.n) ∧ w.cell? ⟨g, 3, none⟩ = some (.int .i64 v.spot) ∧
    w.frozen? ⟨g, 0, none⟩ = false ∧ w.frozen? ⟨g, 1, none⟩ = false ∧ w.frozen? ⟨g, 2, none⟩ = false ∧ w.frozen? ⟨g, 3, none⟩ = false :=
  ⟨rowV_cell h 0, rowV_cell h 1, rowV_cell h 2, rowV_cell h 3, rowV_frozen h 0, rowV_frozen h 1, rowV_frozen h 2, rowV_frozen h 3⟩
theorem tok_new (v : Lx.T) (w : World) : RowV (w.alloc (.cells (tokC v) 78)) w.heap.size 78 (tokC v).toList ∧ Below w.heap.size w (w.alloc (.cells (tokC v) 78)) ∧ (w.alloc (.cells (tokC v) 78)).heap.size = w.heap.size + 1 :=
  ⟨rowV_new w _ [_, _, _, _], (Below.refl w.heap.size w).alloc (Nat.le_refl _) _, World.size_alloc _ _⟩
end Go.Proofs.YtmkllibfblacfaaGreatDoor

/-
  Layer 13: the document's first token of a text: letters, digits, names, numbers.
-/
namespace Go.Proofs.YtmkllibfblacfaaGreatDoor
open Go.RowKit
theorem letter_yes {c : UInt8} (h : (97 ≤ c.toNat ∧ c.toNat ≤ 122) ∨ (65 ≤ c.toNat ∧ c.toNat ≤ 90) ∨ c.toNat = 95) : Lx.letter c = true := by
  unfold Lx.letter; simp; omega
theorem letter_no {c : UInt8} (h : ¬ ((97 ≤ c.toNat ∧ c.toNat ≤ 122) ∨ (65 ≤ c.toNat ∧ c.toNat ≤ 90) ∨ c.toNat = 95)) : Lx.letter c = false := by
  unfold Lx.letter; simp; omega
/-! words -/
/-! names -/
theorem take_list (s : ByteArray) (k : Nat) : s.extract 0 k = Lx.mk (s.data.toList.take k) := by
  apply Sl.ba_ext; rw [Sl.ext_first]
end Go.Proofs.YtmkllibfblacfaaGreatDoor

/-
  Layer 13: reserved words, and names, as the document says.
-/
namespace Go.Proofs.YtmkllibfblacfaaGreatDoor
open Go.RowKit
namespace Lx
def words : List (List UInt8) := [[97, 110, 100], [111, 114], [110, 111, 116], [105, 102], [116, 104, 101, 110], [101, 108, 115, 101], [116, 114, 117, 101], [102, 97, 108, 115, 101], [110, 117, 108, 108]]
def reserved (l : List UInt8) : Bool := decide (l ∈ words)
def nameB (s : ByteArray) : Bool := !(decide (s = Vl.mt)) && decide (word false s.data.toList = s.size) && decide (s.size ≤ 16) && !reserved s.data.toList
end Lx
theorem mt_iff13 (s : ByteArray) : s.toList = [] ↔ s = Vl.mt := by
  rw [ByteArray.toList_eq]
  constructor
  · intro h; apply Sl.ba_ext; rw [h]
  · rintro rfl; rfl
end Go.Proofs.YtmkllibfblacfaaGreatDoor

/-
  The plain mathematics of layer 14 (syntax): expressions, what they are written as, and how tokens are read; nothing of any program.
-/
namespace Go.Proofs.YtmkllibfblacfaaGreatDoor.Sx
open Lx (T)
inductive X where
  | mk (op : Int) (v : Vl.V) (s : ByteArray) (l : List X)
def X.op : X → Int | .mk o _ _ _ => o
def X.v : X → Vl.V | .mk _ v _ _ => v
def X.s : X → ByteArray | .mk _ _ s _ => s
def X.l : X → List X | .mk _ _ _ l => l
def no : X := .mk 0 Vl.no Vl.mt []
/-- the level of an op -/
def lvl (op : Int) : Nat :=
  if op = 15 then 1 else if op = 14 then 2 else if 8 ≤ op ∧ op ≤ 13 then 3 else if op = 4 ∨ op = 5 then 4 else if op = 6 ∨ op = 7 then 5 else if op = 3 then 6 else if op = 1 ∨ op = 2 then 7 else 0
/-- what an op of two is written as -/
def sign (op : Int) : List UInt8 :=
  if op = 4 then [43] else if op = 5 then [45] else if op = 6 then [42] else if op = 7 then [47] else if op = 8 then [61] else if op = 9 then [33, 61] else if op = 10 then [60] else if op = 11 then [60, 61] else if op = 12 then [62] else if op = 13 then [62, 61] else if op = 14 then [97, 110, 100] else if op = 15 then [111, 114] else []
def count (op : Int) : Int := if op = 1 ∨ op = 2 then 0 else if op = 3 then 1 else if op = 16 then 3 else if 4 ≤ op ∧ op ≤ 15 then 2 else -1
instance : DecidableEq Vl.V := fun a b => by
  by_cases h1 : a.kind = b.kind
  · by_cases h2 : a.n = b.n
    · by_cases h3 : a.s = b.s
      · exact .isTrue (Vl.v_ext h1 h2 h3)
      · exact .isFalse fun e => h3 (by rw [e])
    · exact .isFalse fun e => h2 (by rw [e])
  · exact .isFalse fun e => h1 (by rw [e])
mutual
def right : X → Bool
  | .mk op v s l => decide ((l.length : Int) = count op) && (if op = 1 then decide (s = Vl.mt) && decide (Vl.right v) && (decide (v.kind ≠ 1) || decide (0 ≤ v.n)) else if op = 2 then decide (v = Vl.no) && Lx.nameB s else rightL l && (decide (v = Vl.no) && decide (s = Vl.mt)))
def rightL : List X → Bool
  | [] => true
  | x :: r => right x && rightL r
end
mutual
def deep : X → Nat
  | .mk _ _ _ l => deepL l + 1
def deepL : List X → Nat
  | [] => 0
  | x :: r => max (deep x) (deepL r)
end
mutual
def size : X → Nat
  | .mk _ _ _ l => 1 + sizeL l
def sizeL : List X → Nat
  | [] => 0
  | x :: r => size x + sizeL r
end
/-! writing: pieces -/
inductive P where
  | tok (t : T)
  | gap
abbrev word (l : List UInt8) : T := ⟨1, Lx.mk l, 0, 0⟩
abbrev mark (l : List UInt8) : T := ⟨4, Lx.mk l, 0, 0⟩
/-- the token of a value -/
def valT (v : Vl.V) : T := if v.kind = 1 then ⟨2, Vl.mt, v.n, 0⟩ else if v.kind = 2 then ⟨3, v.s, 0, 0⟩ else if v.kind = 3 then (if v.n = 1 then word [116, 114, 117, 101] else word [102, 97, 108, 115, 101]) else word [110, 117, 108, 108]
/-- the token of an op of two -/
def opT (op : Int) : T := if op = 14 ∨ op = 15 then word (sign op) else mark (sign op)
def left (op : Int) : Nat := if lvl op = 3 then 4 else lvl op
def parP (lev : Nat) (c : Nat × List P) : List P := if c.1 < lev then .tok (mark [40]) :: (c.2 ++ [.tok (mark [41])]) else c.2
def kid (cs : List (Nat × List P)) (i : Nat) : Nat × List P := cs.getD i (0, [])
def asm (op : Int) (v : Vl.V) (s : ByteArray) (cs : List (Nat × List P)) : List P :=
  if op = 1 then [.tok (valT v)] else if op = 2 then [.tok ⟨1, s, 0, 0⟩]
  else if op = 3 then .tok (mark [45]) :: parP 6 (kid cs 0)
  else if op = 16 then [.tok (word [105, 102]), .gap] ++ (parP 0 (kid cs 0) ++ ([.gap, .tok (word [116, 104, 101, 110]), .gap] ++ (parP 0 (kid cs 1) ++ ([.gap, .tok (word [101, 108, 115, 101]), .gap] ++ parP 0 (kid cs 2)))))
  else parP (left op) (kid cs 0) ++ ([.gap, .tok (opT op), .gap] ++ parP (lvl op + 1) (kid cs 1))
mutual
def ps : X → List P
  | .mk op v s l => asm op v s (psL l)
def psL : List X → List (Nat × List P)
  | [] => []
  | x :: r => (lvl x.op, ps x) :: psL r
end
/-- an expression at a level, in pieces -/
def wr (x : X) (lev : Nat) : List P := parP lev (lvl x.op, ps x)
def toks : List P → List T
  | [] => []
  | .tok t :: r => t :: toks r
  | .gap :: r => toks r
/-- an expression's tokens at a level -/
def tk (x : X) (lev : Nat) : List T := toks (wr x lev)
/-! reading -/
def isT (t : Option T) (kind : Int) (s : List UInt8) : Bool := match t with
  | some t => decide (t.kind = kind) && decide (t.s = Lx.mk s)
  | none => false
/-- what one token is by itself -/
def leaf (t : T) : Option X :=
  if t.kind = 2 then some (.mk 1 ⟨1, t.n, Vl.mt⟩ Vl.mt [])
  else if t.kind = 3 then some (.mk 1 ⟨2, 0, t.s⟩ Vl.mt [])
  else if t.kind = 1 then
    if t.s = Lx.mk [110, 117, 108, 108] then some (.mk 1 Vl.no Vl.mt [])
    else if t.s = Lx.mk [116, 114, 117, 101] then some (.mk 1 ⟨3, 1, Vl.mt⟩ Vl.mt [])
    else if t.s = Lx.mk [102, 97, 108, 115, 101] then some (.mk 1 ⟨3, 0, Vl.mt⟩ Vl.mt [])
    else if Lx.nameB t.s then some (.mk 2 Vl.no t.s []) else none
  else none
def ops : List Int := [4, 5, 6, 7, 8, 9, 10, 11, 12, 13, 14, 15]
def kindOf (op : Int) : Int := if op = 14 ∨ op = 15 then 1 else 4
def isOp (t : Option T) (lev : Nat) (op : Int) : Bool := decide (lvl op = lev) && isT t (kindOf op) (sign op)
/-- the op of two of a level that stands here -/
def opAt (t : Option T) (lev : Nat) : Option Int := ops.find? (isOp t lev)
abbrev bin (op : Int) (a b : X) : X := .mk op Vl.no Vl.mt [a, b]
mutual
/-- an expression of a level, from place p on; none: the first place that does not go on -/
def rd (g : Nat → Option T) : Nat → Nat → Nat → Option X × Nat
  | 0, _, p => (none, p)
  | f + 1, lev, p =>
    if lev = 7 then
      match g p with
      | none => (none, p)
      | some t => match leaf t with
        | some x => (some x, p + 1)
        | none => if isT (g p) 4 [40] then
            match rd g f 0 (p + 1) with
            | (none, q) => (none, q)
            | (some x, q) => if isT (g q) 4 [41] then (some x, q + 1) else (none, q)
          else (none, p)
    else if lev = 0 ∧ isT (g p) 1 [105, 102] then
      match rd g f 0 (p + 1) with
      | (none, q) => (none, q)
      | (some a, q) => if isT (g q) 1 [116, 104, 101, 110] then
          match rd g f 0 (q + 1) with
          | (none, q) => (none, q)
          | (some b, q) => if isT (g q) 1 [101, 108, 115, 101] then
              match rd g f 0 (q + 1) with
              | (none, q) => (none, q)
              | (some c, q) => (some (.mk 16 Vl.no Vl.mt [a, b, c]), q)
            else (none, q)
        else (none, q)
    else if lev = 6 ∧ isT (g p) 4 [45] then
      match rd g f 6 (p + 1) with
      | (none, q) => (none, q)
      | (some a, q) => (some (.mk 3 Vl.no Vl.mt [a]), q)
    else if lev = 0 ∨ lev = 6 then rd g f (lev + 1) p
    else match rd g f (lev + 1) p with
      | (none, q) => (none, q)
      | (some x, q) => go g f lev x q
def go (g : Nat → Option T) : Nat → Nat → X → Nat → Option X × Nat
  | 0, _, _, p => (none, p)
  | f + 1, lev, x, p => match opAt (g p) lev with
    | none => (some x, p)
    | some op => match rd g f (lev + 1) (p + 1) with
      | (none, q) => (none, q)
      | (some y, q) => if lev = 3 then (some (bin op x y), q) else go g f lev (bin op x y) q
end
end Go.Proofs.YtmkllibfblacfaaGreatDoor.Sx

/-
  Layer 14, plain mathematics: the tokens that an expression is written as are read as it.
-/
namespace Go.Proofs.YtmkllibfblacfaaGreatDoor.Sx
open Lx (T)
/-! small -/
theorem rightL_all : ∀ l : List X, rightL l = true ↔ ∀ x ∈ l, right x = true
  | [] => by simp [rightL]
  | x :: r => by rw [rightL, Bool.and_eq_true, rightL_all r]; simp
/-- the five forms -/
inductive Form : X → Prop
  | val (v : Vl.V) (h : Vl.right v) (hn : v.kind ≠ 1 ∨ 0 ≤ v.n) : Form (.mk 1 v Vl.mt [])
  | name (s : ByteArray) (h : Lx.nameB s = true) : Form (.mk 2 Vl.no s [])
  | neg (a : X) (h : right a = true) : Form (.mk 3 Vl.no Vl.mt [a])
  | bin (op : Int) (a b : X) (h4 : 4 ≤ op) (h15 : op ≤ 15) (ha : right a = true) (hb : right b = true) : Form (bin op a b)
  | cond (a b c : X) (ha : right a = true) (hb : right b = true) (hc : right c = true) : Form (.mk 16 Vl.no Vl.mt [a, b, c])
theorem len1 {l : List X} (h : l.length = 1) : ∃ a, l = [a] := by
  match l, h with
  | [a], _ => exact ⟨a, rfl⟩
theorem len2 {l : List X} (h : l.length = 2) : ∃ a b, l = [a, b] := by
  match l, h with
  | [a, b], _ => exact ⟨a, b, rfl⟩
theorem len3 {l : List X} (h : l.length = 3) : ∃ a b c, l = [a, b, c] := by
  match l, h with
  | [a, b, c], _ => exact ⟨a, b, c, rfl⟩
theorem form_of {x : X} (h : right x = true) : Form x := by
  obtain ⟨op, v, s, l⟩ := x
  rw [right, Bool.and_eq_true, decide_eq_true_eq] at h
  obtain ⟨hl, h⟩ := h
  by_cases h1 : op = 1
  · subst h1
    rw [if_pos rfl] at h
    simp only [Bool.and_eq_true, Bool.or_eq_true, decide_eq_true_eq] at h
    obtain ⟨⟨rfl, h2⟩, h3⟩ := h
    have hl : (l.length : Int) = 0 := hl
    obtain rfl : l = [] := List.eq_nil_of_length_eq_zero (by omega)
    exact .val v h2 h3
  · rw [if_neg h1] at h
    by_cases h2 : op = 2
    · subst h2
      rw [if_pos rfl] at h
      simp only [Bool.and_eq_true, decide_eq_true_eq] at h
      obtain ⟨rfl, h3⟩ := h
      have hl : (l.length : Int) = 0 := hl
      obtain rfl : l = [] := List.eq_nil_of_length_eq_zero (by omega)
      exact .name s h3
    · rw [if_neg h2] at h
      simp only [Bool.and_eq_true, decide_eq_true_eq] at h
      obtain ⟨h3, rfl, rfl⟩ := h
      rw [rightL_all] at h3
      unfold count at hl
      rw [if_neg (by omega)] at hl
      by_cases h4 : op = 3
      · subst h4
        rw [if_pos rfl] at hl
        obtain ⟨a, rfl⟩ := len1 (l := l) (by omega)
        exact .neg a (h3 a (by simp))
      · rw [if_neg h4] at hl
        by_cases h5 : op = 16
        · subst h5
          rw [if_pos rfl] at hl
          obtain ⟨a, b, c, rfl⟩ := len3 (l := l) (by omega)
          exact .cond a b c (h3 a (by simp)) (h3 b (by simp)) (h3 c (by simp))
        · rw [if_neg h5] at hl
          by_cases h6 : 4 ≤ op ∧ op ≤ 15
          · rw [if_pos h6] at hl
            obtain ⟨a, b, rfl⟩ := len2 (l := l) (by omega)
            exact .bin op a b h6.1 h6.2 (h3 a (by simp)) (h3 b (by simp))
          · rw [if_neg h6] at hl
            omega
/-! the tokens of each form -/
/-! levels -/
/-! tokens in their places -/
/-! the first token -/
/-! reading each form -/
section
variable {g : Nat → Option T} {n : Nat}
end
end Go.Proofs.YtmkllibfblacfaaGreatDoor.Sx

/-
  Layer 14, plain mathematics: what an expression is written as has the tokens that it is made of.
-/
namespace Go.Proofs.YtmkllibfblacfaaGreatDoor
namespace Lx
open Vl (val esc quoteL plain)
end Lx
namespace Sx
open Lx (T textL strip one)
/-! what is written is fine -/
mutual
/-- no number in it is beyond the greatest -/
def fit : X → Bool
  | .mk _ v _ l => decide (v.n ≤ 9223372036854775807) && fitL l
def fitL : List X → Bool
  | [] => true
  | x :: r => fit x && fitL r
end
end Sx
end Go.Proofs.YtmkllibfblacfaaGreatDoor

/-
  Layer 14, plain mathematics: what is parsed is right; what was written is parsed as it was; places.
-/
namespace Go.Proofs.YtmkllibfblacfaaGreatDoor
namespace Sx
open Lx (T textL strip one)
/-! what is read is right -/
section
variable {g : Nat → Option T} {n : Nat}
end
end Sx
end Go.Proofs.YtmkllibfblacfaaGreatDoor

/-
  Layer 14, plain mathematics: parsing and writing as wholes; fuel is of no matter.
-/
namespace Go.Proofs.YtmkllibfblacfaaGreatDoor
namespace Sx
open Lx (T textL strip one)
section
variable {g : Nat → Option T} {n : Nat}
end
/-! parsing -/
/-- a list of tokens, each where it stands, and without its place in the text -/
def toksOf (L : List T) : Nat → Option T := fun p => (L[p]?).map strip
/-! writing -/
end Sx
end Go.Proofs.YtmkllibfblacfaaGreatDoor

/-
  Layer 14, plain mathematics: reading with a list of what waits, place by place, tells what the reading by levels tells.
-/
namespace Go.Proofs.YtmkllibfblacfaaGreatDoor
namespace Sx
open Lx (T textL strip one)
/-- an op that waits for a part, with those that it has (0: what stands in brackets), and the level at which it is read itself -/
structure B where
  op : Int
  parts : List X
  lev : Nat
/-- what must stand behind the part for which it waits -/
def askW (b : B) : Option (Int × List UInt8) :=
  if b.op = 0 then some (4, [41]) else if b.op = 16 ∧ b.parts.length = 0 then some (1, [116, 104, 101, 110]) else if b.op = 16 ∧ b.parts.length = 1 then some (1, [101, 108, 115, 101]) else none
/-- the op of two that stands here -/
def opOf (t : Option T) : Option Int := ops.find? fun op => isT t (kindOf op) (sign op)
def leafO (t : Option T) : Option X := t.bind leaf
/-- no op goes on here -/
def NoOp (g : Nat → Option T) (p lev h : Nat) : Prop := ∀ op, opOf (g p) = some op → ¬ (lev ≤ lvl op ∧ left op ≤ h)
abbrev Res := Option X × Nat
mutual
/-- a part is to be read -/
inductive Pt (g : Nat → Option T) : Nat → Nat → Nat → List B → Res → Prop
  | opens {n p lev W R} : isT (g p) 4 [40] = true → Pt g n (p + 1) 0 (W ++ [⟨0, [], lev⟩]) R → Pt g (n + 1) p lev W R
  | neg {n p lev W R} : isT (g p) 4 [45] = true → lev ≤ 6 → Pt g n (p + 1) 6 (W ++ [⟨3, [], lev⟩]) R → Pt g (n + 1) p lev W R
  | cond {n p W R} : isT (g p) 1 [105, 102] = true → Pt g n (p + 1) 0 (W ++ [⟨16, [], 0⟩]) R → Pt g (n + 1) p 0 W R
  | fails {n p lev W} : isT (g p) 4 [40] = false → (isT (g p) 4 [45] = false ∨ 6 < lev) → (isT (g p) 1 [105, 102] = false ∨ 0 < lev) → leafO (g p) = none → Pt g n p lev W (none, p)
  | leaf {n p lev W R x} : isT (g p) 4 [40] = false → (isT (g p) 4 [45] = false ∨ 6 < lev) → (isT (g p) 1 [105, 102] = false ∨ 0 < lev) → leafO (g p) = some x → Bh g n (p + 1) lev W x 7 R → Pt g (n + 1) p lev W R
/-- a part was read -/
inductive Bh (g : Nat → Option T) : Nat → Nat → Nat → List B → X → Nat → Res → Prop
  | two {n p lev W x h R op} : opOf (g p) = some op → lev ≤ lvl op → left op ≤ h → Pt g n (p + 1) (lvl op + 1) (W ++ [⟨op, [x], lev⟩]) R → Bh g (n + 1) p lev W x h R
  | stop {n p lev x h} : NoOp g p lev h → Bh g n p lev [] x h (some x, p)
  | miss {n p lev V b x h k s} : NoOp g p lev h → askW b = some (k, s) → isT (g p) k s = false → Bh g n p lev (V ++ [b]) x h (none, p)
  | shut {n p lev V b x h R k s} : NoOp g p lev h → askW b = some (k, s) → isT (g p) k s = true → Hd g n (p + 1) lev V b x R → Bh g (n + 1) p lev (V ++ [b]) x h R
  | over {n p lev V b x h R} : NoOp g p lev h → askW b = none → Hd g n p lev V b x R → Bh g (n + 1) p lev (V ++ [b]) x h R
/-- a part is handed to what waits for it -/
inductive Hd (g : Nat → Option T) : Nat → Nat → Nat → List B → B → X → Res → Prop
  | bra {n p lev V b x R} : b.op = 0 → Bh g n p b.lev V x 7 R → Hd g n p lev V b x R
  | more {n p lev V b x R} : b.op ≠ 0 → ((b.parts.length : Int) + 1 < count b.op) → Pt g n p lev (V ++ [⟨b.op, b.parts ++ [x], b.lev⟩]) R → Hd g n p lev V b x R
  | whole {n p lev V b x R} : b.op ≠ 0 → ¬ ((b.parts.length : Int) + 1 < count b.op) → Bh g n p b.lev V (.mk b.op Vl.no Vl.mt (b.parts ++ [x])) (lvl b.op) R → Hd g n p lev V b x R
end
/-! tokens that are right -/
section
variable {g : Nat → Option T} {n : Nat}
end
end Sx
end Go.Proofs.YtmkllibfblacfaaGreatDoor

/-
  Layer 14, plain mathematics: an expression's names: each once, and in the order of its tokens.
-/
namespace Go.Proofs.YtmkllibfblacfaaGreatDoor
namespace Sx
open Lx (T textL strip one)
/-- the texts of the tokens that are names or words -/
def words (l : List T) : List ByteArray := (l.filter fun t => decide (t.kind = 1)).map (·.s)
end Sx
end Go.Proofs.YtmkllibfblacfaaGreatDoor

/-
  Layer 14: an expression in memory.
-/
namespace Go.Proofs.YtmkllibfblacfaaGreatDoor
open Go.RowKit
open Sx (X)
/-- an expression's cells, with where its list lies -/
abbrev xC (x : X) (a : Option Addr) (c : Nat) : Array Value := #[.int .i64 x.op, .int .i64 x.v.kind, .int .i64 x.v.n, .string x.v.s, .string x.s, .slice a x.l.length c]
abbrev xV (x : X) (a : Option Addr) (c : Nat) : Value := .agg (xC x a c)
theorem info_expr : (Tryz.prog.info? 43).map (·.size) = some 6 := by kernel_rfl
/-- the six cells at a place -/
def Cells6 (w : World) (b o : Nat) (x : X) (a : Option Addr) (c : Nat) : Prop :=
  w.cell? ⟨b, o, none⟩ = some (.int .i64 x.op) ∧ w.cell? ⟨b, o + 1, none⟩ = some (.int .i64 x.v.kind) ∧ w.cell? ⟨b, o + 2, none⟩ = some (.int .i64 x.v.n) ∧ w.cell? ⟨b, o + 3, none⟩ = some (.string x.v.s) ∧ w.cell? ⟨b, o + 4, none⟩ = some (.string x.s) ∧ w.cell? ⟨b, o + 5, none⟩ = some (.slice a x.l.length c)
theorem cells6_only {F : Nat → Prop} {w w' : World} {b o : Nat} {x : X} {a : Option Addr} {c : Nat} (h : Cells6 w b o x a c) (ho : Only F w w') (hn : ¬ F b) : Cells6 w' b o x a c := by
  have hl := fun {p : Addr} {v : Value} (hc : w.cell? p = some v) => World.block_lt_of_cell? w p hc
  obtain ⟨h1, h2, h3, h4, h5, h6⟩ := h
  exact ⟨(ho.cell (hl h1) hn).trans h1, (ho.cell (hl h2) hn).trans h2, (ho.cell (hl h3) hn).trans h3, (ho.cell (hl h4) hn).trans h4, (ho.cell (hl h5) hn).trans h5, (ho.cell (hl h6) hn).trans h6⟩
mutual
/-- what stands below an expression whose list lies at ad: in blocks of S -/
def XAt (w : World) (S : Nat → Prop) : X → Option Addr → Prop
  | .mk _ _ _ l, ad => l = [] ∨ ∃ b o, ad = some ⟨b, o, none⟩ ∧ S b ∧ LAt w S l b o
def LAt (w : World) (S : Nat → Prop) : List X → Nat → Nat → Prop
  | [], _, _ => True
  | x :: r, b, o => (∃ a c, Cells6 w b o x a c ∧ XAt w S x a) ∧ LAt w S r b (o + 6)
end
mutual
theorem xat_only {F : Nat → Prop} {w w' : World} {S : Nat → Prop} (ho : Only F w w') (hn : ∀ j, S j → ¬ F j) : ∀ (x : X) (ad : Option Addr), XAt w S x ad → XAt w' S x ad
  | .mk _ _ _ l, ad, h => by
    rw [XAt] at h ⊢
    rcases h with h | ⟨b, o, h1, h2, h3⟩
    · exact .inl h
    · exact .inr ⟨b, o, h1, h2, lat_only ho hn l b o h2 h3⟩
theorem lat_only {F : Nat → Prop} {w w' : World} {S : Nat → Prop} (ho : Only F w w') (hn : ∀ j, S j → ¬ F j) : ∀ (l : List X) (b o : Nat), S b → LAt w S l b o → LAt w' S l b o
  | [], _, _, _, _ => by rw [LAt]; trivial
  | x :: r, b, o, hb, h => by
    rw [LAt] at h ⊢
    obtain ⟨⟨a, c, h1, h2⟩, h3⟩ := h
    exact ⟨⟨a, c, cells6_only h1 ho (hn b hb), xat_only ho hn x a h2⟩, lat_only ho hn r b (o + 6) hb h3⟩
end
mutual
theorem xat_mono {w : World} {S S' : Nat → Prop} (hs : ∀ j, S j → S' j) : ∀ (x : X) (ad : Option Addr), XAt w S x ad → XAt w S' x ad
  | .mk _ _ _ l, ad, h => by
    rw [XAt] at h ⊢
    rcases h with h | ⟨b, o, h1, h2, h3⟩
    · exact .inl h
    · exact .inr ⟨b, o, h1, hs b h2, lat_mono hs l b o h3⟩
theorem lat_mono {w : World} {S S' : Nat → Prop} (hs : ∀ j, S j → S' j) : ∀ (l : List X) (b o : Nat), LAt w S l b o → LAt w S' l b o
  | [], _, _, _ => by rw [LAt]; trivial
  | x :: r, b, o, h => by
    rw [LAt] at h ⊢
    obtain ⟨⟨a, c, h1, h2⟩, h3⟩ := h
    exact ⟨⟨a, c, h1, xat_mono hs x a h2⟩, lat_mono hs r b (o + 6) h3⟩
end
theorem xat_below {w w' : World} {S : Nat → Prop} {x : X} {ad : Option Addr} (h : XAt w S x ad) (hb : Below w.heap.size w w') : XAt w' S x ad :=
  xat_only (Only.of_none (F := fun _ => False) hb) (fun _ _ h => h) x ad h
theorem lat_at {w : World} {S : Nat → Prop} : ∀ (l : List X) (b o : Nat), LAt w S l b o → ∀ i (h : i < l.length), ∃ a c, Cells6 w b (o + i * 6) l[i] a c ∧ XAt w S l[i] a
  | [], _, _, _, i, h => absurd h (Nat.not_lt_zero _)
  | x :: r, b, o, hl, i, h => by
    rw [LAt] at hl
    match i, h with
    | 0, _ => simpa using hl.1
    | i + 1, h =>
      have hi : i < r.length := by simpa using h
      obtain ⟨a, c, h1, h2⟩ := lat_at r b (o + 6) hl.2 i hi
      refine ⟨a, c, ?_, h2⟩
      rw [show o + (i + 1) * 6 = o + 6 + i * 6 by omega]
      exact h1
/-- the i-th below an expression -/
theorem xat_at {w : World} {S : Nat → Prop} {x : X} {ad : Option Addr} (h : XAt w S x ad) (i : Nat) (hi : i < x.l.length) : ∃ b o a c, ad = some ⟨b, o, none⟩ ∧ Cells6 w b (o + i * 6) x.l[i] a c ∧ XAt w S x.l[i] a := by
  obtain ⟨op, v, s, l⟩ := x
  rw [XAt] at h
  rcases h with h | ⟨b, o, h1, _, h3⟩
  · subst h; exact absurd hi (Nat.not_lt_zero _)
  · obtain ⟨a, c, h4, h5⟩ := lat_at l b o h3 i hi
    exact ⟨b, o, a, c, h1, h4, h5⟩
/-- in a new box -/
theorem x_new (x : X) (a : Option Addr) (c : Nat) (w : World) : RowV (w.alloc (.cells (xC x a c) 43)) w.heap.size 43 (xC x a c).toList ∧ Below w.heap.size w (w.alloc (.cells (xC x a c) 43)) ∧ (w.alloc (.cells (xC x a c) 43)).heap.size = w.heap.size + 1 :=
  ⟨rowV_new w _ [_, _, _, _, _, _], (Below.refl w.heap.size w).alloc (Nat.le_refl _) _, World.size_alloc _ _⟩
theorem x_cells {w : World} {g : Nat} {x : X} {a : Option Addr} {c : Nat} (h : RowV w g 43 (xC x a c).toList) : Cells6 w g 0 x a c :=
  ⟨rowV_cell h 0, rowV_cell h 1, rowV_cell h 2, rowV_cell h 3, rowV_cell h 4, rowV_cell h 5⟩
/-- the box, whatever was made since -/
theorem x_box {x : X} {a : Option Addr} {c : Nat} {w w1 : World} (hb : Below (w.alloc (.cells (xC x a c) 43)).heap.size (w.alloc (.cells (xC x a c) 43)) w1) : RowV w1 w.heap.size 43 (xC x a c).toList ∧ Below w.heap.size w w1 := by
  obtain ⟨r, b, s⟩ := x_new x a c w
  exact ⟨rowV_below r hb (by rw [s]; omega), b.trans (hb.mono (by rw [s]; omega))⟩
/-- the i-th of a list is less deep -/
theorem Sx.deepL_at : ∀ (l : List X) (i : Nat) (h : i < l.length), Sx.deep l[i] ≤ Sx.deepL l
  | [], i, h => absurd h (Nat.not_lt_zero _)
  | x :: r, 0, _ => by rw [Sx.deepL]; exact Nat.le_max_left _ _
  | x :: r, i + 1, h => by
    have := Sx.deepL_at r i (by simpa using h)
    rw [Sx.deepL, List.getElem_cons_succ]; omega
theorem Sx.deep_at {x : X} {i : Nat} (h : i < x.l.length) : Sx.deep x.l[i] < Sx.deep x := by
  obtain ⟨op, v, s, l⟩ := x
  have := Sx.deepL_at l i h
  rw [Sx.deep]
  show Sx.deep l[i] < _
  omega
theorem Sx.deep_pos (x : X) : 1 ≤ Sx.deep x := by
  obtain ⟨_, _, _, _⟩ := x
  rw [Sx.deep]; omega
mutual
/-- numbers are ints, texts and lists are not too long -/
def Sx.okX : X → Prop
  | .mk _ v s l => (-9223372036854775808 ≤ v.n ∧ v.n ≤ 9223372036854775807) ∧ v.s.size ≤ maxLen ∧ s.size ≤ maxLen ∧ l.length ≤ maxLen ∧ Sx.okL l
def Sx.okL : List X → Prop
  | [] => True
  | x :: r => Sx.okX x ∧ Sx.okL r
end
theorem Sx.okX_is {x : X} (h : Sx.okX x) : (-9223372036854775808 ≤ x.v.n ∧ x.v.n ≤ 9223372036854775807) ∧ x.v.s.size ≤ maxLen ∧ x.s.size ≤ maxLen ∧ x.l.length ≤ maxLen := by
  obtain ⟨op, v, s, l⟩ := x
  rw [Sx.okX] at h
  exact ⟨h.1, h.2.1, h.2.2.1, h.2.2.2.1⟩
end Go.Proofs.YtmkllibfblacfaaGreatDoor

/-
  Layer 13, plain mathematics: what strconv.Atoi makes of digits; names and digits as runs of bytes.
-/
namespace Go.Proofs.YtmkllibfblacfaaGreatDoor.Lx
open Vl (val)
theorem val_ge : ∀ (l : List UInt8) (a : Nat), a ≤ val l a
  | [], a => Nat.le_refl _
  | b :: l, a => Nat.le_trans (by omega) (val_ge l (a * 10 + (b.toNat - 48)))
theorem pu10 : ∀ (l : List UInt8) (a : Nat), (∀ b ∈ l, digit b = true) → a < 18446744073709551616 → Lib.parseUint10 a l = if 18446744073709551616 ≤ val l a then .range else .ok (val l a)
  | [], a, _, ha => by
    show Lib.NumEnd.ok a = _
    rw [if_neg (by show ¬ 18446744073709551616 ≤ a; omega)]; rfl
  | c :: r, a, h, ha => by
    have hc := (digit_iff c).1 (h c (by simp))
    have hg := val_ge r (a * 10 + (c.toNat - 48))
    have ev : val (c :: r) a = val r (a * 10 + (c.toNat - 48)) := rfl
    rw [Lib.parseUint10, if_pos hc, ev]
    by_cases h1 : 1844674407370955162 ≤ a
    · rw [if_pos h1, if_pos (by omega)]
    · rw [if_neg h1]
      by_cases h2 : 18446744073709551616 ≤ a * 10 + (c.toNat - 48)
      · rw [if_pos h2, if_pos (by omega)]
      · rw [if_neg h2, pu10 r _ (fun b hb => h b (by simp [hb])) (by omega)]
theorem atoi_digits (l : List UInt8) (hne : l ≠ []) (h : ∀ b ∈ l, digit b = true) : Lib.atoiAll l = if maxI < val l 0 then .range else .ok (val l 0 : Nat) := by
  cases l with
  | nil => exact absurd rfl hne
  | cons c r =>
    have hc := (digit_iff c).1 (h c (by simp))
    have e43 : ¬ c.toNat = 43 := by omega
    have e45 : ¬ c.toNat = 45 := by omega
    have e : Lib.parseMag (c :: r) = if 18446744073709551616 ≤ val (c :: r) 0 then .range else .ok (val (c :: r) 0) := by
      unfold Lib.parseMag; rw [if_neg (by simp), pu10 _ 0 h (by omega)]
    unfold Lib.atoiAll
    simp only [e43, e45, or_self, if_false, not_false_eq_true, true_and, false_and, e]
    unfold maxI
    by_cases h1 : 18446744073709551616 ≤ val (c :: r) 0
    · rw [if_pos h1, if_pos (by omega)]
    · rw [if_neg h1]
      by_cases h2 : 9223372036854775808 ≤ val (c :: r) 0
      · simp only [h2, if_true]; rw [if_pos (by omega)]
      · simp only [h2, if_false]; rw [if_neg (by omega)]
/-- a byte that a name may have -/
def inName (c : UInt8) : Bool := letter c || digit c
theorem word_true : ∀ l : List UInt8, word true l = (l.takeWhile inName).length
  | [] => rfl
  | c :: r => by
    have ih := word_true r
    rw [word, List.takeWhile_cons]
    by_cases h : (letter c || digit c) = true
    · rw [if_pos (by simpa using h), if_pos (show inName c = true from h), List.length_cons, ih]
    · rw [if_neg (by simpa using h), if_neg (show ¬ inName c = true from h)]; rfl
theorem word_run {c : UInt8} {r : List UInt8} (h : letter c = true) : word false (c :: r) = ((c :: r).takeWhile inName).length := by
  rw [word, if_pos (by rw [h]; rfl), List.takeWhile_cons, if_pos (show inName c = true by unfold inName; rw [h]; rfl), List.length_cons, word_true]
end Go.Proofs.YtmkllibfblacfaaGreatDoor.Lx

/-
  Layer 13, the program's: letters, digits, runs of bytes, names.
-/
namespace Go.Proofs.YtmkllibfblacfaaGreatDoor
open Go.RowKit
set_option maxRecDepth 100000 in
theorem digit13_any (c : UInt8) (w : World) : Calls Tryz.prog 82 #[.int .u8 (c.toNat : Int)] w fun e w' => e = .returned (.bool (Lx.digit c)) ∧ w' = w := by
  have hc := c.toNat_lt
  by_cases h1 : (c.toNat : Int) ≥ 48
  · go_enter Tryz.func82, Tryz.ntmps82
    go_wp2_with fail
    go_ret
    exact ⟨ret_bool (by unfold Lx.digit; rw [decide_eq_true (show 48 ≤ c.toNat by omega), Bool.true_and]; exact decide_eq_decide.2 (by omega)), rfl⟩
  · go_enter Tryz.func82, Tryz.ntmps82
    go_wp2_with fail
    go_ret
    exact ⟨ret_bool (by unfold Lx.digit; rw [decide_eq_false (show ¬ 48 ≤ c.toNat by omega), Bool.false_and]), rfl⟩
set_option maxRecDepth 100000 in
set_option maxHeartbeats 1600000 in
theorem letter13_any (c : UInt8) (w : World) : Calls Tryz.prog 80 #[.int .u8 (c.toNat : Int)] w fun e w' => e = .returned (.bool (Lx.letter c)) ∧ w' = w := by
  have hc := c.toNat_lt
  by_cases h0 : c.toNat = 95
  · rw [letter_yes (.inr (.inr h0))]
    have t0 : ((c.toNat : Int) == 95) = true := by rw [h0]; rfl
    clear h0
    go_enter Tryz.func80, Tryz.ntmps80
    go_wp2_with fail
    go_ret
    exact ⟨rfl, rfl⟩
  · have t0 : ((c.toNat : Int) == 95) = false := by simp; omega
    by_cases h1 : 97 ≤ c.toNat ∧ c.toNat ≤ 122
    · rw [letter_yes (.inl h1)]
      have g1 : decide (97 ≤ (c.toNat : Int)) = true := decide_eq_true (by omega)
      have g2 : decide ((c.toNat : Int) ≤ 122) = true := decide_eq_true (by omega)
      clear h1 h0
      go_enter Tryz.func80, Tryz.ntmps80
      go_wp2_with fail
      go_ret
      exact ⟨rfl, rfl⟩
    · have g1 : decide (97 ≤ (c.toNat : Int)) = false ∨ (decide (97 ≤ (c.toNat : Int)) = true ∧ decide ((c.toNat : Int) ≤ 122) = false) := by
        by_cases h : 97 ≤ c.toNat
        · exact .inr ⟨decide_eq_true (by omega), decide_eq_false (by omega)⟩
        · exact .inl (decide_eq_false (by omega))
      by_cases h2 : 65 ≤ c.toNat ∧ c.toNat ≤ 90
      · rw [letter_yes (.inr (.inl h2))]
        have g2 : decide (65 ≤ (c.toNat : Int)) = true := decide_eq_true (by omega)
        have g3 : decide ((c.toNat : Int) ≤ 90) = true := decide_eq_true (by omega)
        clear h1 h2 h0
        rcases g1 with g1 | ⟨g1, g1'⟩
        all_goals go_enter Tryz.func80, Tryz.ntmps80
        all_goals go_wp2_with fail
        all_goals go_ret
        all_goals exact ⟨rfl, rfl⟩
      · have g2 : decide (65 ≤ (c.toNat : Int)) = false ∨ (decide (65 ≤ (c.toNat : Int)) = true ∧ decide ((c.toNat : Int) ≤ 90) = false) := by
          by_cases h : 65 ≤ c.toNat
          · exact .inr ⟨decide_eq_true (by omega), decide_eq_false (by omega)⟩
          · exact .inl (decide_eq_false (by omega))
        rw [letter_no (c := c) (by omega)]
        clear h1 h2 h0
        rcases g1 with g1 | ⟨g1, g1'⟩ <;> rcases g2 with g2 | ⟨g2, g2'⟩
        all_goals go_enter Tryz.func80, Tryz.ntmps80
        all_goals go_wp2_with fail
        all_goals go_ret
        all_goals exact ⟨rfl, rfl⟩
set_option maxRecDepth 100000 in
theorem inName13_any (c : UInt8) (w : World) : Calls Tryz.prog 116 #[.int .u8 (c.toNat : Int)] w fun e w' => e = .returned (.bool (Lx.inName c)) ∧ w' = w := by
  have cL := fun w => letter13_any c w
  have cD := fun w => digit13_any c w
  unfold Lx.inName
  cases hL : Lx.letter c with
  | true =>
    rw [hL] at cL
    have H := Lib.hid cL
    clear cL cD hL
    go_enter Tryz.func116, Tryz.ntmps116
    go_wp2_with (go_at_call 80; refine (H.out _).mono ?_; rintro e w1 ⟨rfl, rfl⟩)
    go_ret
    exact ⟨rfl, rfl⟩
  | false =>
    rw [hL] at cL
    generalize Lx.digit c = D at *
    have H := Lib.hid (And.intro cL cD)
    clear cL cD hL
    go_enter Tryz.func116, Tryz.ntmps116
    go_wp2_with (first | (go_at_call 80; refine (H.out.1 _).mono ?_; rintro e w1 ⟨rfl, rfl⟩) | (go_at_call 82; refine (H.out.2 _).mono ?_; rintro e w1 ⟨rfl, rfl⟩))
    go_ret
    exact ⟨rfl, rfl⟩
/-! runs -/
def RunTo (p : UInt8 → Bool) (s : ByteArray) (k : Nat) : Prop := (s.data.toList.takeWhile p).length = k + ((s.data.toList.drop k).takeWhile p).length
theorem runTo_start (p : UInt8 → Bool) (s : ByteArray) : RunTo p s 0 := by unfold RunTo; simp
theorem runTo_all {p : UInt8 → Bool} {s : ByteArray} {k : Nat} (h : RunTo p s k) (hk : k = s.size) : (s.data.toList.takeWhile p).length = k := by
  unfold RunTo at h
  rw [h, List.drop_eq_nil_of_le (by rw [Array.length_toList]; show s.size ≤ k; omega)]; rfl
theorem runTo_end {p : UInt8 → Bool} {s : ByteArray} {k : Nat} (h : RunTo p s k) (hk : k < s.size) (hc : p s[k] = false) : (s.data.toList.takeWhile p).length = k := by
  have hl : k < s.data.toList.length := by simpa using hk
  unfold RunTo at h
  rw [h, Oct.drop_at _ _ hl, show s.data.toList[k] = s[k] from rfl, List.takeWhile_cons, hc]; rfl
theorem runTo_next {p : UInt8 → Bool} {s : ByteArray} {k : Nat} (h : RunTo p s k) (hk : k < s.size) (hc : p s[k] = true) : RunTo p s (k + 1) := by
  have hl : k < s.data.toList.length := by simpa using hk
  unfold RunTo at h ⊢
  rw [h, Oct.drop_at _ _ hl, show s.data.toList[k] = s[k] from rfl, List.takeWhile_cons, hc]
  simp only [if_true, List.length_cons]; omega
set_option maxRecDepth 100000 in
set_option maxHeartbeats 1600000 in
theorem run13_any (F : Nat) (p : UInt8 → Bool) (hF : ∀ args w, (callFunc F args).run Tryz.prog w = .ok (.enter F args) w)
    (hp : ∀ (c : UInt8) (w : World), Calls Tryz.prog F #[.int .u8 (c.toNat : Int)] w fun e w' => e = .returned (.bool (p c)) ∧ w' = w) (s : ByteArray) (w : World) (hs : s.size ≤ maxLen) :
    Calls Tryz.prog 115 #[.string s, .func (.func F) #[] #[]] w fun e w' => e = .returned (.int .i64 ((s.data.toList.takeWhile p).length : Nat)) ∧ w' = w := by
  unfold maxLen at hs
  go_enter Tryz.func115, Tryz.ntmps115
  go_wp2
  go_loop [5] (fun i => ∃ k : Nat, i = .int .i64 (k : Int) ∧ k ≤ s.size ∧ Hid (RunTo p s k)) (fun i => s.size - (intOf i).toNat)
  case atStart => exact ⟨0, rfl, Nat.zero_le _, Lib.hid (runTo_start p s)⟩
  case round =>
    obtain ⟨k, rfl, hle, HW⟩ := hrel
    by_cases hlt : k < s.size
    · have cP := fun w => hp s[k] w
      cases hL : p s[k] with
      | true =>
        rw [hL] at cP
        have HN := Lib.hid (runTo_next HW.out hlt hL)
        have HC := Lib.hid cP
        clear cP hL hp
        go_wp2_with (go_at_fn F; refine (HC.out _).mono ?_; rintro e w1 ⟨rfl, rfl⟩)
        go_round
        case rel => exact ⟨k + 1, by go_num, by omega, HN⟩
        case measure => simp [intOf]; omega
      | false =>
        rw [hL] at cP
        have HE := Lib.hid (runTo_end HW.out hlt hL)
        have HC := Lib.hid cP
        clear cP hL hp
        go_wp2_with (go_at_fn F; refine (HC.out _).mono ?_; rintro e w1 ⟨rfl, rfl⟩)
        go_ret
        exact ⟨ret_int (by rw [HE.out]), rfl⟩
    · have HE := Lib.hid (runTo_all HW.out (by omega))
      clear hp
      go_wp2_with fail
      go_ret
      exact ⟨ret_int (by rw [HE.out]), rfl⟩
theorem enter_inName (args : Array Value) (w : World) : (callFunc 116 args).run Tryz.prog w = .ok (.enter 116 args) w := by kernel_rfl
theorem enter_digit (args : Array Value) (w : World) : (callFunc 82 args).run Tryz.prog w = .ok (.enter 82 args) w := by kernel_rfl
theorem run13_name (s : ByteArray) (w : World) (hs : s.size ≤ maxLen) :
    Calls Tryz.prog 115 #[.string s, .func (.func 116) #[] #[]] w fun e w' => e = .returned (.int .i64 ((s.data.toList.takeWhile Lx.inName).length : Nat)) ∧ w' = w :=
  run13_any _ _ enter_inName inName13_any s w hs
theorem run13_digit (s : ByteArray) (w : World) (hs : s.size ≤ maxLen) :
    Calls Tryz.prog 115 #[.string s, .func (.func 82) #[] #[]] w fun e w' => e = .returned (.int .i64 ((Lx.digs s.data.toList).length : Nat)) ∧ w' = w :=
  run13_any _ _ enter_digit digit13_any s w hs
/-! names -/
theorem nameT_run {s : ByteArray} (h0 : 0 < s.size) (hL : Lx.letter s[0] = true) : Lx.word false s.data.toList = (s.data.toList.takeWhile Lx.inName).length := by
  have hl : 0 < s.data.toList.length := by simpa using h0
  have e := Oct.drop_at s.data.toList 0 hl
  rw [List.drop_zero] at e
  rw [e]
  exact Lx.word_run hL
set_option maxRecDepth 100000 in
set_option maxHeartbeats 1600000 in
theorem name13_any (s : ByteArray) (w : World) (hs : s.size ≤ maxLen) (h0 : 0 < s.size) (hL : Lx.letter s[0] = true) :
    Calls Tryz.prog 81 #[.string s] w fun e w' => e = .returned (.tuple #[tokV (Lx.nameT s.data.toList).1, .int .i64 ((Lx.nameT s.data.toList).2.1 : Nat), .int .i64 (Lx.nameT s.data.toList).2.2]) ∧ Below w.heap.size w w' := by
  have cW := fun w => run13_name s w hs
  rw [← nameT_run h0 hL] at cW
  have hle := Lx.word_le false s.data.toList
  rw [Array.length_toList] at hle
  have hle2 : Lx.word false s.data.toList ≤ s.size := hle
  have hx := take_list s (Lx.word false s.data.toList)
  unfold Lx.nameT
  by_cases h16 : 16 < Lx.word false s.data.toList
  · rw [if_pos h16]
    simp only
    obtain ⟨r0, b0, s0⟩ := tok_new Lx.no w
    generalize Lx.word false s.data.toList = k at *
    obtain ⟨a0, a1, a2, a3, g0, g1, g2, g3⟩ := tok_cells r0
    have H := Lib.hid (And.intro cW (And.intro r0 (And.intro b0 s0)))
    clear cW r0 b0 s0 hx hle hL
    go_enter Tryz.func81, Tryz.ntmps81
    go_wp2_with (go_at_call 115; refine (H.out.1 _).mono ?_; rintro e w1 ⟨rfl, rfl⟩)
    exact bodyPost_ret (v := .tuple #[tokV Lx.no, .int .i64 0, .int .i64 5]) (results_tok (p := 2) (u := 3) (x := 4) rfl _ _ w.heap.size Lx.no rfl H.out.2.1) rfl ⟨rfl, H.out.2.2.1⟩
  · rw [if_neg h16]
    simp only
    rw [← hx]
    generalize Lx.word false s.data.toList = k at *
    obtain ⟨X, hX⟩ : ∃ X, X = s.extract 0 k := ⟨_, rfl⟩
    obtain ⟨r0, b0, s0⟩ := tok_new ⟨1, X, 0, 0⟩ w
    rw [← hX]
    have H := Lib.hid (And.intro cW (And.intro r0 (And.intro b0 s0)))
    have HX := Lib.hid hX
    clear cW r0 b0 s0 hx hle hX hL
    go_enter Tryz.func81, Tryz.ntmps81
    go_wp2_with (go_at_call 115; refine (H.out.1 _).mono ?_; rintro e w1 ⟨rfl, rfl⟩)
    rw [← HX.out]
    exact bodyPost_ret (v := .tuple #[tokV ⟨1, X, 0, 0⟩, .int .i64 (k : Int), .int .i64 0]) (results_tok (p := 2) (u := 3) (x := 4) rfl _ _ w.heap.size ⟨1, X, 0, 0⟩ rfl H.out.2.1) rfl ⟨rfl, H.out.2.2.1⟩
end Go.Proofs.YtmkllibfblacfaaGreatDoor

/-
  Layer 13: the document's first token of a text: numbers.
-/
namespace Go.Proofs.YtmkllibfblacfaaGreatDoor
open Go.RowKit
/-- k digits are told: v is what they say, or it is too much -/
structure NumTo (s : ByteArray) (k : Nat) (v : Nat) (over : Bool) : Prop where
  all : Lx.digs s.data.toList = s.data.toList.take k ++ Lx.digs (s.data.toList.drop k)
  le : k ≤ s.size
  most : v ≤ Lx.maxI
  is : over = decide (Lx.maxI < Vl.val (s.data.toList.take k) 0)
  eq : over = false → v = Vl.val (s.data.toList.take k) 0
theorem digs_cons_yes {c : UInt8} (r : List UInt8) (h : Lx.digit c = true) : Lx.digs (c :: r) = c :: Lx.digs r := by unfold Lx.digs; rw [List.takeWhile_cons, if_pos h]
theorem drop_next (s : ByteArray) (k : Nat) (hk : k < s.size) : s.data.toList.drop k = s[k] :: s.data.toList.drop (k + 1) := by
  have hl : k < s.data.toList.length := by simpa using hk
  exact Oct.drop_at _ _ hl
theorem head_at0 (s : ByteArray) (h : 0 < s.size) : s.data.toList.head? = some s[0] := by
  have := drop_next s 0 h
  rw [List.drop_zero] at this
  rw [this]; rfl
end Go.Proofs.YtmkllibfblacfaaGreatDoor

/-
  strconv.Atoi: the library's contract at this program's own numbers: what spells an int, and what spells a number that no int holds.
-/
namespace Go.Proofs
open Go.Shelf
def Tryz.ato_ren : Go.Shelf.Ren := ⟨fun | 129 => 205 | 171 => 175 | 172 => 117 | 205 => 181 | 243 => 188 | 244 => 146 | 245 => 147 | 246 => 197 | 247 => 165 | 279 => 166 | 280 => 167 | 281 => 168 | 282 => 169 | 283 => 199 | 284 => 200 | 285 => 201 | 286 => 202 | 287 => 179 | 316 => 180 | 317 => 204 | 318 => 206 | 319 => 207 | 320 => 208 | 321 => 191 | 322 => 192 | 337 => 209 | 338 => 210 | n => n, fun | 0 => 0 | 2 => 2 | 3 => 3 | 4 => 4 | 5 => 5 | 9 => 9 | 20 => 20 | 21 => 21 | 37 => 134 | 46 => 232 | 51 => 257 | 53 => 229 | 75 => 139 | 76 => 140 | 80 => 142 | 85 => 217 | 127 => 160 | 143 => 241 | 145 => 243 | 167 => 216 | 168 => 219 | 171 => 252 | 173 => 255 | 175 => 230 | 210 => 234 | 212 => 260 | 213 => 261 | 232 => 264 | 233 => 265 | n => n, fun | 15 => 3 | 16 => 4 | 17 => 5 | 18 => 6 | 19 => 7 | n => n⟩
theorem Tryz.ato172 : Go.Proofs.LaysC.n172 Tryz.prog Tryz.ato_ren := {
  mixed := by kernel_rfl
  f129 := Tryz.func205.trans (congrArg some (by kernel_rfl))
  f171 := Tryz.func175.trans (congrArg some (by kernel_rfl))
  f172 := Tryz.func117.trans (congrArg some (by kernel_rfl))
  f205 := Tryz.func181.trans (congrArg some (by kernel_rfl))
  f243 := Tryz.func188.trans (congrArg some (by kernel_rfl))
  f244 := Tryz.func146.trans (congrArg some (by kernel_rfl))
  f245 := Tryz.func147.trans (congrArg some (by kernel_rfl))
  f246 := Tryz.func197.trans (congrArg some (by kernel_rfl))
  f247 := Tryz.func165.trans (congrArg some (by kernel_rfl))
  f279 := Tryz.func166.trans (congrArg some (by kernel_rfl))
  f280 := Tryz.func167.trans (congrArg some (by kernel_rfl))
  f281 := Tryz.func168.trans (congrArg some (by kernel_rfl))
  f282 := Tryz.func169.trans (congrArg some (by kernel_rfl))
  f283 := Tryz.func199.trans (congrArg some (by kernel_rfl))
  f284 := Tryz.func200.trans (congrArg some (by kernel_rfl))
  f285 := Tryz.func201.trans (congrArg some (by kernel_rfl))
  f286 := Tryz.func202.trans (congrArg some (by kernel_rfl))
  f287 := Tryz.func179.trans (congrArg some (by kernel_rfl))
  f316 := Tryz.func180.trans (congrArg some (by kernel_rfl))
  f317 := Tryz.func204.trans (congrArg some (by kernel_rfl))
  f318 := Tryz.func206.trans (congrArg some (by kernel_rfl))
  f319 := Tryz.func207.trans (congrArg some (by kernel_rfl))
  f320 := Tryz.func208.trans (congrArg some (by kernel_rfl))
  f321 := Tryz.func191.trans (congrArg some (by kernel_rfl))
  f322 := Tryz.func192.trans (congrArg some (by kernel_rfl))
  f337 := Tryz.func209.trans (congrArg some (by kernel_rfl))
  f338 := Tryz.func210.trans (congrArg some (by kernel_rfl))
  t0 := Tryz.underlying0
  a0 := Tryz.isAgg0
  z0 := Tryz.sizeOf0
  v0 := Tryz.zeroValue0
  t2 := Tryz.underlying2
  a2 := Tryz.isAgg2
  z2 := Tryz.sizeOf2
  v2 := Tryz.zeroValue2
  t3 := Tryz.underlying3
  a3 := Tryz.isAgg3
  z3 := Tryz.sizeOf3
  v3 := Tryz.zeroValue3
  t4 := Tryz.underlying4
  a4 := Tryz.isAgg4
  z4 := Tryz.sizeOf4
  v4 := Tryz.zeroValue4
  t5 := Tryz.underlying5
  a5 := Tryz.isAgg5
  z5 := Tryz.sizeOf5
  v5 := Tryz.zeroValue5
  t9 := Tryz.underlying9
  a9 := Tryz.isAgg9
  z9 := Tryz.sizeOf9
  v9 := Tryz.zeroValue9
  t20 := Tryz.underlying20
  a20 := Tryz.isAgg20
  z20 := Tryz.sizeOf20
  v20 := Tryz.zeroValue20
  t21 := Tryz.underlying21
  a21 := Tryz.isAgg21
  z21 := Tryz.sizeOf21
  v21 := Tryz.zeroValue21
  t37 := Tryz.underlying134
  a37 := Tryz.isAgg134
  z37 := Tryz.sizeOf134
  v37 := Tryz.zeroValue134
  t46 := Tryz.underlying232
  a46 := Tryz.isAgg232
  z46 := Tryz.sizeOf232
  v46 := Tryz.zeroValue232
  t51 := Tryz.underlying257
  a51 := Tryz.isAgg257
  z51 := Tryz.sizeOf257
  v51 := Tryz.zeroValue257
  t53 := Tryz.underlying229
  a53 := Tryz.isAgg229
  z53 := Tryz.sizeOf229
  v53 := Tryz.zeroValue229
  t75 := Tryz.underlying139
  a75 := Tryz.isAgg139
  z75 := Tryz.sizeOf139
  v75 := Tryz.zeroValue139
  t76 := Tryz.underlying140
  a76 := Tryz.isAgg140
  z76 := Tryz.sizeOf140
  v76 := Tryz.zeroValue140
  t85 := Tryz.underlying217
  a85 := Tryz.isAgg217
  z85 := Tryz.sizeOf217
  v85 := Tryz.zeroValue217
  t127 := Tryz.underlying160
  a127 := Tryz.isAgg160
  z127 := Tryz.sizeOf160
  v127 := Tryz.zeroValue160
  t143 := Tryz.underlying241
  a143 := Tryz.isAgg241
  z143 := Tryz.sizeOf241
  v143 := Tryz.zeroValue241
  t145 := Tryz.underlying243
  a145 := Tryz.isAgg243
  z145 := Tryz.sizeOf243
  v145 := Tryz.zeroValue243
  t167 := Tryz.underlying216
  a167 := Tryz.isAgg216
  z167 := Tryz.sizeOf216
  v167 := Tryz.zeroValue216
  t168 := Tryz.underlying219
  a168 := Tryz.isAgg219
  z168 := Tryz.sizeOf219
  v168 := Tryz.zeroValue219
  t171 := Tryz.underlying252
  a171 := Tryz.isAgg252
  z171 := Tryz.sizeOf252
  v171 := Tryz.zeroValue252
  t173 := Tryz.underlying255
  a173 := Tryz.isAgg255
  z173 := Tryz.sizeOf255
  v173 := Tryz.zeroValue255
  t175 := Tryz.underlying230
  a175 := Tryz.isAgg230
  z175 := Tryz.sizeOf230
  v175 := Tryz.zeroValue230
  t210 := Tryz.underlying234
  a210 := Tryz.isAgg234
  z210 := Tryz.sizeOf234
  v210 := Tryz.zeroValue234
  t212 := Tryz.underlying260
  a212 := Tryz.isAgg260
  z212 := Tryz.sizeOf260
  v212 := Tryz.zeroValue260
  t213 := Tryz.underlying261
  a213 := Tryz.isAgg261
  z213 := Tryz.sizeOf261
  t232 := Tryz.underlying264
  a232 := Tryz.isAgg264
  z232 := Tryz.sizeOf264
  v232 := Tryz.zeroValue264
  t233 := Tryz.underlying265
  a233 := Tryz.isAgg265
  z233 := Tryz.sizeOf265
  v233 := Tryz.zeroValue265
  g15 := by kernel_rfl
  g16 := by kernel_rfl
  g17 := by kernel_rfl
  g18 := by kernel_rfl
  g19 := by kernel_rfl
  t80 := Tryz.underlying142
  a80 := Tryz.isAgg142
  z80 := Tryz.sizeOf142
  v80 := Tryz.zeroValue142
  i0 := by kernel_rfl
  i2 := by kernel_rfl
  i3 := by kernel_rfl
  i4 := by kernel_rfl
  i5 := by kernel_rfl
  i9 := by kernel_rfl
  i20 := by kernel_rfl
  i21 := by kernel_rfl
  i37 := by kernel_rfl
  i46 := by kernel_rfl
  i51 := by kernel_rfl
  i53 := by kernel_rfl
  i75 := by kernel_rfl
  i76 := by kernel_rfl
  i80 := by kernel_rfl
  i85 := by kernel_rfl
  i127 := by kernel_rfl
  i143 := by kernel_rfl
  i145 := by kernel_rfl
  i167 := by kernel_rfl
  i168 := by kernel_rfl
  i171 := by kernel_rfl
  i173 := by kernel_rfl
  i175 := by kernel_rfl
  i210 := by kernel_rfl
  i212 := by kernel_rfl
  i232 := by kernel_rfl
  i233 := by kernel_rfl
  m15 := by kernel_rfl
  m16 := by kernel_rfl
  m17 := by kernel_rfl
  m18 := by kernel_rfl
  m19 := by kernel_rfl
  c0 := by kernel_rfl
  c2 := by kernel_rfl
  c3 := by kernel_rfl
  c4 := by kernel_rfl
  c5 := by kernel_rfl
  c9 := by kernel_rfl
  c20 := by kernel_rfl
  c21 := by kernel_rfl
  c37 := by kernel_rfl
  c46 := by kernel_rfl
  c51 := by kernel_rfl
  c53 := by kernel_rfl
  c75 := by kernel_rfl
  c76 := by kernel_rfl
  c80 := by kernel_rfl
  c85 := by kernel_rfl
  c127 := by kernel_rfl
  c143 := by kernel_rfl
  c145 := by kernel_rfl
  c167 := by kernel_rfl
  c168 := by kernel_rfl
  c171 := by kernel_rfl
  c173 := by kernel_rfl
  c175 := by kernel_rfl
  c210 := by kernel_rfl
  c212 := by kernel_rfl
  c213 := by kernel_rfl
  c232 := by kernel_rfl
  c233 := by kernel_rfl }
namespace YtmkllibfblacfaaGreatDoor
open Go.RowKit
/-- the variable strconv.ErrRange holds an error -/
def ErrR (w : World) : Prop := ∃ te pe, w.cell? ⟨4, 0, none⟩ = some (.iface te pe)
theorem errR_below {w w' : World} (h : ErrR w) (hb : Below w.heap.size w w') : ErrR w' := by
  obtain ⟨te, pe, h⟩ := h
  exact ⟨te, pe, (hb.cell (p := ⟨4, 0, none⟩) (World.block_lt_of_cell? _ _ h)).trans h⟩
theorem atoi_ok (s : ByteArray) (hs : s.size ≤ 281474976710656) (v : Int) (h : Lib.atoiAll s.data.toList = .ok v) (w : World) :
    Calls Tryz.prog 117 #[.string s] w fun e w' => e = .returned (.tuple #[.int .i64 v, .nilIface]) ∧ Below w.heap.size w w' :=
  (Any.strconv_Atoi_ok Tryz.ato172 s (by omega) v h w).mono fun e w' ⟨he, hw⟩ => ⟨he, by
    rcases hw with rfl | ⟨t, rfl⟩
    · exact Below.refl _ _
    · exact Lib.bytesWorld_below _ _ _⟩
theorem atoi_range (s : ByteArray) (hs : s.size ≤ 281474976710656) (h : Lib.atoiAll s.data.toList = .range) (w : World) (hE : ErrR w) :
    Calls Tryz.prog 117 #[.string s] w fun e w' => ∃ N, e = .returned (.tuple #[.int .i64 (Lib.atoiSat s.data.toList), .iface 219 (.pointer (some ⟨N, 0, none⟩))]) ∧ Below w.heap.size w w' := by
  obtain ⟨te, pe, hv⟩ := hE
  exact (Any.strconv_Atoi_range Tryz.ato172 s hs h (.iface te pe) w hv (.inr ⟨te, pe, rfl⟩)).mono fun e w' ⟨N, he, _, _, hb⟩ => ⟨N, he, hb⟩
end YtmkllibfblacfaaGreatDoor
end Go.Proofs

/-
  Layer 13, the program's: numbers.
-/
namespace Go.Proofs.YtmkllibfblacfaaGreatDoor
open Go.RowKit
theorem digs_take (l : List UInt8) : l.take (Lx.digs l).length = Lx.digs l := Lx.takeWhile_take l
theorem digs_all (l : List UInt8) : ∀ b ∈ Lx.digs l, Lx.digit b = true := Lx.takeWhile_all l
theorem digs_cons {s : ByteArray} (h0 : 0 < s.size) (hD : Lx.digit s[0] = true) : Lx.digs s.data.toList ≠ [] := by
  have hl : 0 < s.data.toList.length := by simpa using h0
  have e := Oct.drop_at s.data.toList 0 hl
  rw [List.drop_zero] at e
  rw [e, digs_cons_yes _ (show Lx.digit s.data.toList[0] = true from hD)]
  simp
set_option maxRecDepth 100000 in
set_option maxHeartbeats 1600000 in
theorem number13_any (s : ByteArray) (w : World) (hs : s.size ≤ 1000000) (h0 : 0 < s.size) (hD : Lx.digit s[0] = true) (hE : ErrR w) :
    Calls Tryz.prog 83 #[.string s] w fun e w' => e = .returned (.tuple #[tokV (Lx.numT s.data.toList).1, .int .i64 ((Lx.numT s.data.toList).2.1 : Nat), .int .i64 (Lx.numT s.data.toList).2.2]) ∧ Below w.heap.size w w' := by
  have cR := fun w => run13_digit s w (by unfold maxLen; omega)
  have hle := Lx.takeWhile_le (p := Lx.digit) s.data.toList
  rw [Array.length_toList] at hle
  have hle2 : (Lx.digs s.data.toList).length ≤ s.size := hle
  have hx := take_list s (Lx.digs s.data.toList).length
  rw [digs_take] at hx
  have hne := digs_cons h0 hD
  have hpos : 0 < (Lx.digs s.data.toList).length := List.length_pos_iff.2 hne
  have hat := Lx.atoi_digits _ hne (digs_all _)
  have hsat : Lib.atoiSat (Lx.digs s.data.toList) = 9223372036854775807 := by
    cases hd : Lx.digs s.data.toList with
    | nil => exact absurd hd hne
    | cons c r =>
      have := (Lx.digit_iff c).1 (digs_all s.data.toList c (by rw [hd]; simp))
      exact Lib.atoiSat_other c r (by omega)
  have hh : s.data.toList.head? = some s[0] := head_at0 s h0
  have hN : Lx.numT s.data.toList = if 1 < (Lx.digs s.data.toList).length ∧ s.data.toList.head? = some 48 then (Lx.no, 0, 11) else if Lx.maxI < Vl.val (Lx.digs s.data.toList) 0 then (Lx.no, 0, 15) else (⟨2, Vl.mt, (Vl.val (Lx.digs s.data.toList) 0 : Nat), 0⟩, (Lx.digs s.data.toList).length, 0) := rfl
  rw [hh] at hN
  obtain ⟨r0, b0, s0⟩ := tok_new Lx.no w
  have aO := fun v (h : Lib.atoiAll (Lx.digs s.data.toList) = .ok v) wx => atoi_ok (Lx.mk (Lx.digs s.data.toList)) (by rw [← hx, ByteArray.size_extract]; omega) v h wx
  have aR := fun (h : Lib.atoiAll (Lx.digs s.data.toList) = .range) wx hw => atoi_range (Lx.mk (Lx.digs s.data.toList)) (by rw [← hx, ByteArray.size_extract]; omega) h wx hw
  rw [← hx] at aO aR
  have hsat2 : Lib.atoiSat (s.extract 0 (Lx.digs s.data.toList).length).data.toList = 9223372036854775807 := by rw [hx]; exact hsat
  rw [hsat2] at aR
  obtain ⟨V, hV⟩ : ∃ V, V = Vl.val (Lx.digs s.data.toList) 0 := ⟨_, rfl⟩
  rw [← hV] at hat hN
  by_cases hz : 1 < (Lx.digs s.data.toList).length ∧ s[0] = 48
  · rw [if_pos ⟨hz.1, by rw [hz.2]⟩] at hN
    have t1 : ((s[0].toNat : Int) == 48) = true := by rw [hz.2]; rfl
    have t2 : decide (((Lx.digs s.data.toList).length : Int) > 1) = true := decide_eq_true (by omega)
    have hz1 : 1 < (Lx.digs s.data.toList).length := hz.1
    generalize (Lx.digs s.data.toList).length = k at *
    have H := Lib.hid (And.intro cR (And.intro hN (And.intro r0 (And.intro b0 s0))))
    clear cR hN r0 b0 s0 hat hsat hsat2 hh aO aR hx hne hle hle2 hD hz hE hV
    go_enter Tryz.func83, Tryz.ntmps83
    go_wp2_with (go_at_call 115; refine (H.out.1 _).mono ?_; rintro e w1 ⟨rfl, rfl⟩)
    rw [H.out.2.1]
    exact bodyPost_ret (v := .tuple #[tokV Lx.no, .int .i64 0, .int .i64 11]) (results_tok (p := 2) (u := 3) (x := 4) rfl _ _ w.heap.size Lx.no rfl H.out.2.2.1) rfl ⟨rfl, H.out.2.2.2.1⟩
  · rw [if_neg (by rintro ⟨a, b⟩; exact hz ⟨a, by injection b⟩)] at hN
    have hE1 := errR_below hE b0
    have hT : decide (((Lx.digs s.data.toList).length : Int) > 1) = false ∨ (decide (((Lx.digs s.data.toList).length : Int) > 1) = true ∧ ((s[0].toNat : Int) == 48) = false) := by
      by_cases h1 : 1 < (Lx.digs s.data.toList).length
      · refine .inr ⟨decide_eq_true (by omega), ?_⟩
        have : ¬ s[0].toNat = 48 := fun e => hz ⟨h1, UInt8.toNat_inj.1 e⟩
        simp; omega
      · exact .inl (decide_eq_false (by omega))
    by_cases hv : Lx.maxI < V
    · rw [if_pos hv] at hat hN
      have aR := fun wx hw => aR hat wx hw
      generalize (Lx.digs s.data.toList).length = k at *
      have H := Lib.hid (And.intro cR (And.intro hN (And.intro r0 (And.intro b0 s0))))
      have HA := Lib.hid (And.intro aR hE1)
      clear cR hN r0 b0 s0 hat hsat hsat2 hh aO aR hx hne hle hD hz hE hE1 hV hv
      rcases hT with hT | ⟨hT, hT'⟩
      · go_enter Tryz.func83, Tryz.ntmps83
        go_wp2_with (first | (go_at_call 115; refine (H.out.1 _).mono ?_; rintro e w1 ⟨rfl, rfl⟩))
        refine (HA.out.1 _ HA.out.2).mono ?_
        rintro e w2 ⟨N, rfl, hb2⟩
        have ra := rowV_below H.out.2.2.1 hb2 (by rw [World.size_alloc]; omega)
        have hb := H.out.2.2.2.1.trans (hb2.mono (by rw [World.size_alloc]; omega))
        obtain ⟨a0, a1, a2, a3, g0, g1, g2, g3⟩ := tok_cells ra
        have L := Lib.hid (And.intro ra hb)
        clear ra hb hb2
        go_wp2_with fail
        rw [H.out.2.1]
        exact bodyPost_ret (v := .tuple #[tokV ⟨0, Vl.mt, 0, 0⟩, .int .i64 0, .int .i64 15]) (results_tok (p := 2) (u := 3) (x := 4) rfl _ _ w.heap.size ⟨0, Vl.mt, 0, 0⟩ rfl (tok_put (v := Lx.no) L.out.1 0 Vl.mt 0 0).1) rfl ⟨rfl, L.out.2.trans ((tok_put (v := Lx.no) L.out.1 0 Vl.mt 0 0).2 _ (Nat.le_refl _))⟩
      · go_enter Tryz.func83, Tryz.ntmps83
        go_wp2_with (first | (go_at_call 115; refine (H.out.1 _).mono ?_; rintro e w1 ⟨rfl, rfl⟩))
        refine (HA.out.1 _ HA.out.2).mono ?_
        rintro e w2 ⟨N, rfl, hb2⟩
        have ra := rowV_below H.out.2.2.1 hb2 (by rw [World.size_alloc]; omega)
        have hb := H.out.2.2.2.1.trans (hb2.mono (by rw [World.size_alloc]; omega))
        obtain ⟨a0, a1, a2, a3, g0, g1, g2, g3⟩ := tok_cells ra
        have L := Lib.hid (And.intro ra hb)
        clear ra hb hb2
        go_wp2_with fail
        rw [H.out.2.1]
        exact bodyPost_ret (v := .tuple #[tokV ⟨0, Vl.mt, 0, 0⟩, .int .i64 0, .int .i64 15]) (results_tok (p := 2) (u := 3) (x := 4) rfl _ _ w.heap.size ⟨0, Vl.mt, 0, 0⟩ rfl (tok_put (v := Lx.no) L.out.1 0 Vl.mt 0 0).1) rfl ⟨rfl, L.out.2.trans ((tok_put (v := Lx.no) L.out.1 0 Vl.mt 0 0).2 _ (Nat.le_refl _))⟩
    · rw [if_neg hv] at hat hN
      have aO := fun wx => aO _ hat wx
      generalize (Lx.digs s.data.toList).length = k at *
      have H := Lib.hid (And.intro cR (And.intro hN (And.intro r0 (And.intro b0 s0))))
      have HA := Lib.hid aO
      have hvm : V ≤ 9223372036854775807 := by unfold Lx.maxI at hv; omega
      clear cR hN r0 b0 s0 hat hsat hsat2 hh aO aR hx hne hle hD hz hE hE1 hV hv
      rcases hT with hT | ⟨hT, hT'⟩
      · go_enter Tryz.func83, Tryz.ntmps83
        go_wp2_with (first | (go_at_call 115; refine (H.out.1 _).mono ?_; rintro e w1 ⟨rfl, rfl⟩))
        refine (HA.out _).mono ?_
        rintro e w2 ⟨rfl, hb2⟩
        have ra := rowV_below H.out.2.2.1 hb2 (by rw [World.size_alloc]; omega)
        have hb := H.out.2.2.2.1.trans (hb2.mono (by rw [World.size_alloc]; omega))
        obtain ⟨a0, a1, a2, a3, g0, g1, g2, g3⟩ := tok_cells ra
        have L := Lib.hid (And.intro ra hb)
        clear ra hb hb2
        go_wp2_with fail
        rw [H.out.2.1]
        exact bodyPost_ret (v := .tuple #[tokV ⟨2, Vl.mt, (V : Int), 0⟩, .int .i64 (k : Int), .int .i64 0]) (results_tok (p := 2) (u := 3) (x := 4) rfl _ _ w.heap.size ⟨2, Vl.mt, (V : Int), 0⟩ rfl (tok_put (v := Lx.no) L.out.1 2 Vl.mt (V : Int) 0).1) rfl ⟨rfl, L.out.2.trans ((tok_put (v := Lx.no) L.out.1 2 Vl.mt (V : Int) 0).2 _ (Nat.le_refl _))⟩
      · go_enter Tryz.func83, Tryz.ntmps83
        go_wp2_with (first | (go_at_call 115; refine (H.out.1 _).mono ?_; rintro e w1 ⟨rfl, rfl⟩))
        refine (HA.out _).mono ?_
        rintro e w2 ⟨rfl, hb2⟩
        have ra := rowV_below H.out.2.2.1 hb2 (by rw [World.size_alloc]; omega)
        have hb := H.out.2.2.2.1.trans (hb2.mono (by rw [World.size_alloc]; omega))
        obtain ⟨a0, a1, a2, a3, g0, g1, g2, g3⟩ := tok_cells ra
        have L := Lib.hid (And.intro ra hb)
        clear ra hb hb2
        go_wp2_with fail
        rw [H.out.2.1]
        exact bodyPost_ret (v := .tuple #[tokV ⟨2, Vl.mt, (V : Int), 0⟩, .int .i64 (k : Int), .int .i64 0]) (results_tok (p := 2) (u := 3) (x := 4) rfl _ _ w.heap.size ⟨2, Vl.mt, (V : Int), 0⟩ rfl (tok_put (v := Lx.no) L.out.1 2 Vl.mt (V : Int) 0).1) rfl ⟨rfl, L.out.2.trans ((tok_put (v := Lx.no) L.out.1 2 Vl.mt (V : Int) 0).2 _ (Nat.le_refl _))⟩
end Go.Proofs.YtmkllibfblacfaaGreatDoor

/-
  Layer 13: the document's first token of a text: texts.
-/
namespace Go.Proofs.YtmkllibfblacfaaGreatDoor
open Go.RowKit
/-- what is told ahead of place i -/
structure TxtTo (s : ByteArray) (i : Nat) (acc : List UInt8) : Prop where
  eq : Lx.txt s.data.toList.tail [] = Lx.txt (s.data.toList.drop i) acc
  one : 1 ≤ i
  len : acc.length ≤ i
theorem txtTo_start (s : ByteArray) : TxtTo s 1 [] := ⟨by rw [List.drop_one], Nat.le_refl _, Nat.zero_le _⟩
theorem txtTo_quote {s : ByteArray} {i : Nat} {acc : List UInt8} (h : TxtTo s i acc) (hi : i < s.size) (hc : s[i] = 34) : Lx.txtT s.data.toList = if 40 < acc.length then (Lx.no, 0, 5) else (⟨3, Lx.mk acc, 0, 0⟩, i + 1, 0) := by
  have e : Lx.txt s.data.toList.tail [] = some (acc, s.data.toList.drop (i + 1)) := by rw [h.eq, drop_next s i hi, hc, Lx.txt_end]
  have hl : s.data.toList.length = s.size := by rw [Array.length_toList]; rfl
  unfold Lx.txtT
  rw [e]
  simp only [List.length_drop, hl]
  rw [show s.size - (s.size - (i + 1)) = i + 1 by omega]
theorem txt_none {s : ByteArray} (h : Lx.txt s.data.toList.tail [] = none) : Lx.txtT s.data.toList = (Lx.no, 0, 11) := by unfold Lx.txtT; rw [h]
theorem txtTo_end {s : ByteArray} {i : Nat} {acc : List UInt8} (h : TxtTo s i acc) (hi : ¬ i < s.size) : Lx.txtT s.data.toList = (Lx.no, 0, 11) := by
  refine txt_none ?_
  rw [h.eq, List.drop_eq_nil_of_le (by rw [Array.length_toList]; show s.size ≤ i; omega)]; rfl
theorem txtTo_slash0 {s : ByteArray} {i : Nat} {acc : List UInt8} (h : TxtTo s i acc) (hi : i < s.size) (hc : s[i] = 92) (he : i + 1 = s.size) : Lx.txtT s.data.toList = (Lx.no, 0, 11) := by
  refine txt_none ?_
  rw [h.eq, drop_next s i hi, hc, List.drop_eq_nil_of_le (by rw [Array.length_toList]; show s.size ≤ i + 1; omega), Lx.txt_slash0]
theorem txtTo_slash_bad {s : ByteArray} {i : Nat} {acc : List UInt8} (h : TxtTo s i acc) (hi : i < s.size) (hc : s[i] = 92) (he : i + 1 < s.size) (hd : ¬ (s[i + 1] = 34 ∨ s[i + 1] = 92)) : Lx.txtT s.data.toList = (Lx.no, 0, 11) := by
  refine txt_none ?_
  rw [h.eq, drop_next s i hi, hc, drop_next s (i + 1) he, Lx.txt_slash, if_neg hd]
theorem txtTo_slash {s : ByteArray} {i : Nat} {acc : List UInt8} (h : TxtTo s i acc) (hi : i < s.size) (hc : s[i] = 92) (he : i + 1 < s.size) (hd : s[i + 1] = 34 ∨ s[i + 1] = 92) : TxtTo s (i + 1 + 1) (acc ++ [s[i + 1]]) := by
  refine ⟨?_, by omega, by rw [List.length_append]; have := h.len; show _ + 1 ≤ _; omega⟩
  rw [h.eq, drop_next s i hi, hc, drop_next s (i + 1) he, Lx.txt_slash, if_pos hd]
theorem txtTo_bad {s : ByteArray} {i : Nat} {acc : List UInt8} (h : TxtTo s i acc) (hi : i < s.size) (h1 : ¬ s[i] = 34) (h2 : ¬ s[i] = 92) (hb : s[i].toNat < 32 ∨ 126 < s[i].toNat) : Lx.txtT s.data.toList = (Lx.no, 0, 11) := by
  refine txt_none ?_
  rw [h.eq, drop_next s i hi, Lx.txt_plain _ _ h1 h2, if_pos hb]
theorem txtTo_plain {s : ByteArray} {i : Nat} {acc : List UInt8} (h : TxtTo s i acc) (hi : i < s.size) (h1 : ¬ s[i] = 34) (h2 : ¬ s[i] = 92) (hb : ¬ (s[i].toNat < 32 ∨ 126 < s[i].toNat)) : TxtTo s (i + 1) (acc ++ [s[i]]) := by
  refine ⟨?_, by omega, by rw [List.length_append]; have := h.len; show _ + 1 ≤ _; omega⟩
  rw [h.eq, drop_next s i hi, Lx.txt_plain _ _ h1 h2, if_neg hb]
theorem mk_size (acc : List UInt8) : (Lx.mk acc).size = acc.length := by show acc.toArray.size = _; rw [List.size_toArray]
end Go.Proofs.YtmkllibfblacfaaGreatDoor

/-
  strings.Builder: WriteByte and WriteRune (of ASCII) too, over a builder that String() may have read: the library's contracts at this program's own numbers.
-/
namespace Go.Proofs
open Go.Shelf
def Tryz.blf_renB : Go.Shelf.Ren := ⟨fun | 167 => 119 | 169 => 76 | 240 => 105 | 276 => 139 | n => n, fun | 0 => 0 | 3 => 3 | 4 => 4 | 5 => 5 | 9 => 9 | 20 => 20 | 37 => 134 | 70 => 133 | 72 => 136 | 75 => 139 | 80 => 142 | 127 => 160 | 164 => 194 | n => n, fun | n => n⟩
theorem Tryz.blf167 : Go.Proofs.Lays.n167 Tryz.prog Tryz.blf_renB := {
  mixed := by kernel_rfl
  f167 := Tryz.func119.trans (congrArg some (by kernel_rfl))
  f240 := Tryz.func105.trans (congrArg some (by kernel_rfl))
  f276 := Tryz.func139.trans (congrArg some (by kernel_rfl))
  t0 := Tryz.underlying0
  a0 := Tryz.isAgg0
  z0 := Tryz.sizeOf0
  v0 := Tryz.zeroValue0
  t4 := Tryz.underlying4
  a4 := Tryz.isAgg4
  z4 := Tryz.sizeOf4
  v4 := Tryz.zeroValue4
  t5 := Tryz.underlying5
  a5 := Tryz.isAgg5
  z5 := Tryz.sizeOf5
  v5 := Tryz.zeroValue5
  t9 := Tryz.underlying9
  a9 := Tryz.isAgg9
  z9 := Tryz.sizeOf9
  v9 := Tryz.zeroValue9
  t20 := Tryz.underlying20
  a20 := Tryz.isAgg20
  z20 := Tryz.sizeOf20
  v20 := Tryz.zeroValue20
  t37 := Tryz.underlying134
  a37 := Tryz.isAgg134
  z37 := Tryz.sizeOf134
  v37 := Tryz.zeroValue134
  t70 := Tryz.underlying133
  a70 := Tryz.isAgg133
  z70 := Tryz.sizeOf133
  v70 := Tryz.zeroValue133
  t72 := Tryz.underlying136
  a72 := Tryz.isAgg136
  z72 := Tryz.sizeOf136
  v72 := Tryz.zeroValue136
  t75 := Tryz.underlying139
  a75 := Tryz.isAgg139
  z75 := Tryz.sizeOf139
  v75 := Tryz.zeroValue139
  t164 := Tryz.underlying194
  a164 := Tryz.isAgg194
  z164 := Tryz.sizeOf194
  v164 := Tryz.zeroValue194 }
theorem Tryz.blf169 : Go.Proofs.Lays.n169 Tryz.prog Tryz.blf_renB := {
  mixed := by kernel_rfl
  f169 := Tryz.func76.trans (congrArg some (by kernel_rfl))
  t0 := Tryz.underlying0
  a0 := Tryz.isAgg0
  z0 := Tryz.sizeOf0
  v0 := Tryz.zeroValue0
  t3 := Tryz.underlying3
  a3 := Tryz.isAgg3
  z3 := Tryz.sizeOf3
  v3 := Tryz.zeroValue3
  t9 := Tryz.underlying9
  a9 := Tryz.isAgg9
  z9 := Tryz.sizeOf9
  v9 := Tryz.zeroValue9
  t37 := Tryz.underlying134
  a37 := Tryz.isAgg134
  z37 := Tryz.sizeOf134
  v37 := Tryz.zeroValue134
  t70 := Tryz.underlying133
  a70 := Tryz.isAgg133
  z70 := Tryz.sizeOf133
  v70 := Tryz.zeroValue133
  t72 := Tryz.underlying136
  a72 := Tryz.isAgg136
  z72 := Tryz.sizeOf136
  v72 := Tryz.zeroValue136
  t127 := Tryz.underlying160
  a127 := Tryz.isAgg160
  z127 := Tryz.sizeOf160
  v127 := Tryz.zeroValue160 }
theorem Tryz.blfExtraB : Builder.Extra Tryz.prog Tryz.blf_renB := {
  sizeBuilder := by kernel_rfl
  liesBuilder := by kernel_rfl
  t5 := Tryz.underlying5
  a5 := Tryz.isAgg5
  z5 := Tryz.sizeOf5
  v5 := Tryz.zeroValue5
  infoByte := by kernel_rfl
  cellsByte := by kernel_rfl
  sizeByte := by kernel_rfl
  neB5 := by decide }
namespace YtmkllibfblacfaaGreatDoor
open Go.RowKit
/-- a builder that holds the bytes l -/
def BldF (w : World) (B b : Nat) (l : List UInt8) : Prop := Lib.IsBuilderF 136 5 B b (Lib.byteCells l) w
/-- what a call to a builder leaves: its own blocks, and those of bytes above it, alone -/
abbrev KeptF (b : Nat) (w w' : World) : Prop := Lib.OthersKept 5 (some b) w w'
theorem bldf_byte (B b : Nat) (l : List UInt8) (c : UInt8) (w : World) (h : BldF w B b l) (hlen : l.length + 1 ≤ 140737488355328) (hBw : B ≤ w.heap.size) :
    Calls Tryz.prog 119 #[.pointer (some ⟨b, 0, none⟩), .int .u8 (c.toNat : Int)] w fun e w' => e = .returned .nilIface ∧ BldF w' B b (l ++ [c]) ∧ Below B w w' ∧ KeptF b w w' :=
  (Any.Builder_WriteByte_k Tryz.blf167 Tryz.blfExtraB B b (Lib.byteCells l) (c.toNat : Int) w h (by rw [Lib.byteCells_length]; exact hlen) hBw).mono fun _ _ ⟨h1, h2, h3, h4⟩ =>
    ⟨h1, .inr (by rw [Lib.byteCells_append]; exact h2), h3, h4⟩
theorem bldf_string (B b : Nat) (l : List UInt8) (w : World) (h : BldF w B b l) (hBw : B ≤ w.heap.size) :
    Calls Tryz.prog 76 #[.pointer (some ⟨b, 0, none⟩)] w fun e w' => e = .returned (.string ⟨l.toArray⟩) ∧ Below B w w' :=
  (Any.Builder_String_any_k Tryz.blf169 Tryz.blfExtraB B b l w h hBw).mono fun _ _ ⟨h1, _, h3, _⟩ => ⟨h1, h3⟩
theorem bldf_fresh (w : World) : BldF (w.alloc (.cells #[.pointer none, .slice none 0 0] 136)) w.heap.size w.heap.size [] := Lib.IsBuilderF.of (Lib.fresh_isBuilder _ _ w)
end YtmkllibfblacfaaGreatDoor
end Go.Proofs

/-
  strings.HasPrefix and (*strings.Builder).Len: the library's contracts at this program's own numbers.
-/
namespace Go.Proofs
open Go.Shelf
def Tryz.bln_ren : Go.Shelf.Ren := ⟨fun | 99 => 123 | 170 => 118 | 206 => 148 | n => n, fun | 0 => 0 | 3 => 3 | 4 => 4 | 5 => 5 | 9 => 9 | 37 => 134 | 70 => 133 | 72 => 136 | n => n, fun | n => n⟩
theorem Tryz.bln170 : Go.Proofs.Lays.n170 Tryz.prog Tryz.bln_ren := {
  mixed := by kernel_rfl
  f170 := Tryz.func118.trans (congrArg some (by kernel_rfl))
  t0 := Tryz.underlying0
  a0 := Tryz.isAgg0
  z0 := Tryz.sizeOf0
  v0 := Tryz.zeroValue0
  t3 := Tryz.underlying3
  a3 := Tryz.isAgg3
  z3 := Tryz.sizeOf3
  v3 := Tryz.zeroValue3
  t37 := Tryz.underlying134
  a37 := Tryz.isAgg134
  z37 := Tryz.sizeOf134
  v37 := Tryz.zeroValue134
  t70 := Tryz.underlying133
  a70 := Tryz.isAgg133
  z70 := Tryz.sizeOf133
  v70 := Tryz.zeroValue133
  t72 := Tryz.underlying136
  a72 := Tryz.isAgg136
  z72 := Tryz.sizeOf136
  v72 := Tryz.zeroValue136 }
theorem Tryz.bln99 : Go.Proofs.Lays.n99 Tryz.prog Tryz.bln_ren := {
  mixed := by kernel_rfl
  f99 := Tryz.func123.trans (congrArg some (by kernel_rfl))
  f206 := Tryz.func148.trans (congrArg some (by kernel_rfl))
  t3 := Tryz.underlying3
  a3 := Tryz.isAgg3
  z3 := Tryz.sizeOf3
  v3 := Tryz.zeroValue3
  t4 := Tryz.underlying4
  a4 := Tryz.isAgg4
  z4 := Tryz.sizeOf4
  v4 := Tryz.zeroValue4
  t9 := Tryz.underlying9
  a9 := Tryz.isAgg9
  z9 := Tryz.sizeOf9
  v9 := Tryz.zeroValue9 }
namespace YtmkllibfblacfaaGreatDoor
open Go.RowKit
theorem bldf_len (B b : Nat) (l : List UInt8) (w : World) (h : BldF w B b l) :
    Calls Tryz.prog 118 #[.pointer (some ⟨b, 0, none⟩)] w fun e w' => e = .returned (.int .i64 l.length) ∧ w' = w :=
  (Any.Builder_Len_f Tryz.bln170 B b (Lib.byteCells l) w h).mono fun _ _ ⟨h1, h2⟩ => ⟨by rw [h1, Lib.byteCells_length], h2⟩
theorem hasPre_any (s p : ByteArray) (w : World) :
    Calls Tryz.prog 123 #[.string s, .string p] w fun e w' => e = .returned (.bool (p.data.toList.isPrefixOf s.data.toList)) ∧ w' = w :=
  Any.strings_HasPrefix Tryz.bln99 s p w
end YtmkllibfblacfaaGreatDoor
end Go.Proofs

/-
  Layer 13, the program's: texts.
-/
namespace Go.Proofs.YtmkllibfblacfaaGreatDoor
open Go.RowKit
/-- the loop's world: the result's box, the builder -/
structure TxtAt (w : World) (acc : List UInt8) (wr : World) : Prop where
  box : RowV wr w.heap.size 78 (tokC Lx.no).toList
  bld : BldF wr (w.heap.size + 1) (w.heap.size + 1) acc
  bel : Below w.heap.size w wr
  siz : w.heap.size + 1 ≤ wr.heap.size
theorem txtAt_next {w wr w' : World} {acc acc' : List UInt8} (h : TxtAt w acc wr) (hb : BldF w' (w.heap.size + 1) (w.heap.size + 1) acc') (hk : Below (w.heap.size + 1) wr w') : TxtAt w acc' w' :=
  ⟨rowV_below h.box hk (Nat.lt_succ_self _), hb, h.bel.trans (hk.mono (Nat.le_succ _)), Nat.le_trans h.siz hk.size⟩
theorem txtAt_start (w : World) : TxtAt w [] ((w.alloc (.cells (tokC Lx.no) 78)).alloc (.cells #[.pointer none, .slice none 0 0] 136)) := by
  obtain ⟨r0, b0, s0⟩ := tok_new Lx.no w
  have hb := bldf_fresh (w.alloc (.cells (tokC Lx.no) 78))
  rw [s0] at hb
  exact ⟨rowV_alloc r0 _, hb, b0.alloc (by rw [s0]; omega) _, by rw [World.size_alloc, s0]; omega⟩
set_option maxRecDepth 100000 in
set_option maxHeartbeats 6400000 in
theorem text13_any (s : ByteArray) (w : World) (hs : s.size ≤ 1000000) :
    Calls Tryz.prog 84 #[.string s] w fun e w' => e = .returned (.tuple #[tokV (Lx.txtT s.data.toList).1, .int .i64 ((Lx.txtT s.data.toList).2.1 : Nat), .int .i64 (Lx.txtT s.data.toList).2.2]) ∧ Below w.heap.size w w' := by
  have HS := Lib.hid (txtAt_start w)
  go_enter Tryz.func84, Tryz.ntmps84
  go_wp2_with fail
  go_loopw [6] (fun i wr => ∃ (k : Nat) (acc : List UInt8), i = .int .i64 (k : Int) ∧ k ≤ s.size + 1 ∧ Hid (TxtTo s k acc) ∧ Hid (TxtAt w acc wr)) (fun i _ => s.size + 1 - (intOf i).toNat)
  case atStart => exact ⟨1, [], rfl, by omega, Lib.hid (txtTo_start s), HS⟩
  case round =>
    obtain ⟨k, acc, rfl, hle, HI, HT⟩ := hrel
    have hal := HI.out.len
    by_cases hlt : k < s.size
    · obtain ⟨c, hcc⟩ : ∃ c, c = s[k] := ⟨_, rfl⟩
      have c256 := c.toNat_lt
      by_cases h34 : s[k] = 34
      · have hres := txtTo_quote HI.out hlt h34
        have t1 : ((s[k].toNat : Int) == 34) = true := by rw [h34]; rfl
        have cL := bldf_len _ _ _ wr HT.out.bld
        by_cases h40 : 40 < acc.length
        · have HN := Lib.hid (hres.trans (if_pos h40))
          have HC := Lib.hid cL
          have t2 : decide ((acc.length : Int) > 40) = true := decide_eq_true (by omega)
          clear hres h34 hcc cL
          obtain ⟨a0, a1, a2, a3, g0, g1, g2, g3⟩ := tok_cells HT.out.box
          go_wp2_with fail
          refine HC.out.mono ?_
          rintro e w1 ⟨rfl, rfl⟩
          go_wp2_with fail
          rw [HN.out]
          exact bodyPost_ret (v := .tuple #[tokV ⟨0, Vl.mt, 0, 0⟩, .int .i64 0, .int .i64 5]) (results_tok (p := 2) (u := 3) (x := 4) rfl _ _ w.heap.size ⟨0, Vl.mt, 0, 0⟩ rfl (tok_put (v := Lx.no) HT.out.box 0 Vl.mt 0 0).1) rfl ⟨by push_cast; rfl, HT.out.bel.trans ((tok_put (v := Lx.no) HT.out.box 0 Vl.mt 0 0).2 _ (Nat.le_refl _))⟩
        · have HN := Lib.hid (hres.trans (if_neg h40))
          have HC := Lib.hid (And.intro cL (bldf_string _ _ acc wr HT.out.bld HT.out.siz))
          have t2 : decide ((acc.length : Int) > 40) = false := decide_eq_false (by omega)
          clear hres h34 hcc cL
          go_wp2_with fail
          refine HC.out.1.mono ?_
          rintro e w1 ⟨rfl, rfl⟩
          go_wp2_with fail
          refine HC.out.2.mono ?_
          rintro e w1 ⟨rfl, hb1⟩
          have hbox := rowV_below HT.out.box hb1 (Nat.lt_succ_self _)
          have hbel := HT.out.bel.trans (hb1.mono (Nat.le_succ _))
          obtain ⟨a0, a1, a2, a3, g0, g1, g2, g3⟩ := tok_cells hbox
          have HB := Lib.hid (And.intro hbox hbel)
          clear hb1 hbox hbel
          go_wp2_with fail
          rw [HN.out]
          exact bodyPost_ret (v := .tuple #[tokV ⟨3, Lx.mk acc, 0, 0⟩, .int .i64 ((k : Int) + 1), .int .i64 0]) (results_tok (p := 2) (u := 3) (x := 4) rfl _ _ w.heap.size ⟨3, Lx.mk acc, 0, 0⟩ rfl (tok_put (v := Lx.no) HB.out.1 3 (Lx.mk acc) 0 0).1) rfl ⟨by push_cast; rfl, HB.out.2.trans ((tok_put (v := Lx.no) HB.out.1 3 (Lx.mk acc) 0 0).2 _ (Nat.le_refl _))⟩
      · have t1 : ((s[k].toNat : Int) == 34) = false := by
          have : ¬ s[k].toNat = 34 := fun e => h34 (UInt8.toNat_inj.1 e)
          simp; omega
        by_cases hb : s[k].toNat < 32 ∨ 126 < s[k].toNat
        · have h92 : ¬ s[k] = 92 := fun e => by rw [e] at hb; revert hb; decide
          have HN := Lib.hid (txtTo_bad HI.out hlt h34 h92 hb)
          have t3 : decide ((s[k].toNat : Int) < 32) = true ∨ (decide ((s[k].toNat : Int) < 32) = false ∧ decide (126 < (s[k].toNat : Int)) = true) := by
            by_cases h : s[k].toNat < 32
            · exact .inl (decide_eq_true (by omega))
            · exact .inr ⟨decide_eq_false (by omega), decide_eq_true (by omega)⟩
          clear h34 h92 hcc hb
          rcases t3 with t3 | ⟨t3, t3'⟩
          · obtain ⟨a0, a1, a2, a3, g0, g1, g2, g3⟩ := tok_cells HT.out.box
            go_wp2_with fail
            rw [HN.out]
            exact bodyPost_ret (v := .tuple #[tokV ⟨0, Vl.mt, 0, 0⟩, .int .i64 0, .int .i64 11]) (results_tok (p := 2) (u := 3) (x := 4) rfl _ _ w.heap.size ⟨0, Vl.mt, 0, 0⟩ rfl (tok_put (v := Lx.no) HT.out.box 0 Vl.mt 0 0).1) rfl ⟨by push_cast; rfl, HT.out.bel.trans ((tok_put (v := Lx.no) HT.out.box 0 Vl.mt 0 0).2 _ (Nat.le_refl _))⟩
          · obtain ⟨a0, a1, a2, a3, g0, g1, g2, g3⟩ := tok_cells HT.out.box
            go_wp2_with fail
            rw [HN.out]
            exact bodyPost_ret (v := .tuple #[tokV ⟨0, Vl.mt, 0, 0⟩, .int .i64 0, .int .i64 11]) (results_tok (p := 2) (u := 3) (x := 4) rfl _ _ w.heap.size ⟨0, Vl.mt, 0, 0⟩ rfl (tok_put (v := Lx.no) HT.out.box 0 Vl.mt 0 0).1) rfl ⟨by push_cast; rfl, HT.out.bel.trans ((tok_put (v := Lx.no) HT.out.box 0 Vl.mt 0 0).2 _ (Nat.le_refl _))⟩
        · have t3 : decide ((s[k].toNat : Int) < 32) = false := decide_eq_false (by omega)
          have t4 : decide (126 < (s[k].toNat : Int)) = false := decide_eq_false (by omega)
          by_cases h92 : s[k] = 92
          · have t2 : ((s[k].toNat : Int) == 92) = true := by rw [h92]; rfl
            by_cases he : k + 1 = s.size
            · have HN := Lib.hid (txtTo_slash0 HI.out hlt h92 he)
              have t5 : (((k : Int) + 1) == (s.size : Int)) = true := by simp; omega
              clear h34 h92 hcc he hb
              obtain ⟨a0, a1, a2, a3, g0, g1, g2, g3⟩ := tok_cells HT.out.box
              go_wp2_with fail
              rw [HN.out]
              exact bodyPost_ret (v := .tuple #[tokV ⟨0, Vl.mt, 0, 0⟩, .int .i64 0, .int .i64 11]) (results_tok (p := 2) (u := 3) (x := 4) rfl _ _ w.heap.size ⟨0, Vl.mt, 0, 0⟩ rfl (tok_put (v := Lx.no) HT.out.box 0 Vl.mt 0 0).1) rfl ⟨by push_cast; rfl, HT.out.bel.trans ((tok_put (v := Lx.no) HT.out.box 0 Vl.mt 0 0).2 _ (Nat.le_refl _))⟩
            · have he2 : k + 1 < s.size := by omega
              have t5 : (((k : Int) + 1) == (s.size : Int)) = false := by simp; omega
              by_cases hd : s[k + 1] = 34 ∨ s[k + 1] = 92
              · have HN := Lib.hid (txtTo_slash HI.out hlt h92 he2 hd)
                have t6 : ((s[k + 1].toNat : Int) != 34) = false ∨ (((s[k + 1].toNat : Int) != 34) = true ∧ ((s[k + 1].toNat : Int) != 92) = false) := by
                  rcases hd with hd | hd
                  · exact .inl (by rw [hd]; rfl)
                  · exact .inr ⟨by rw [hd]; rfl, by rw [hd]; rfl⟩
                clear h34 h92 hcc hd he hb
                rcases t6 with t6 | ⟨t6, t6'⟩
                · go_wp2_with fail
                  refine (bldf_byte _ _ acc s[k + 1] wr HT.out.bld (by omega) HT.out.siz).mono ?_
                  rintro e w1 ⟨rfl, hb1, hb2, -⟩
                  have HT1 := Lib.hid (txtAt_next HT.out hb1 hb2)
                  clear hb1 hb2
                  go_wp2_with fail
                  go_roundw
                  case rel => exact ⟨k + 1 + 1, _, by go_num, by omega, HN, HT1⟩
                  case measure => simp [intOf]; omega
                · go_wp2_with fail
                  refine (bldf_byte _ _ acc s[k + 1] wr HT.out.bld (by omega) HT.out.siz).mono ?_
                  rintro e w1 ⟨rfl, hb1, hb2, -⟩
                  have HT1 := Lib.hid (txtAt_next HT.out hb1 hb2)
                  clear hb1 hb2
                  go_wp2_with fail
                  go_roundw
                  case rel => exact ⟨k + 1 + 1, _, by go_num, by omega, HN, HT1⟩
                  case measure => simp [intOf]; omega
              · have HN := Lib.hid (txtTo_slash_bad HI.out hlt h92 he2 hd)
                have t6 : ((s[k + 1].toNat : Int) != 34) = true := by
                  have : ¬ s[k + 1].toNat = 34 := fun e => hd (.inl (UInt8.toNat_inj.1 e))
                  simp; omega
                have t7 : ((s[k + 1].toNat : Int) != 92) = true := by
                  have : ¬ s[k + 1].toNat = 92 := fun e => hd (.inr (UInt8.toNat_inj.1 e))
                  simp; omega
                clear h34 h92 hcc hd he hb
                obtain ⟨a0, a1, a2, a3, g0, g1, g2, g3⟩ := tok_cells HT.out.box
                go_wp2_with fail
                rw [HN.out]
                exact bodyPost_ret (v := .tuple #[tokV ⟨0, Vl.mt, 0, 0⟩, .int .i64 0, .int .i64 11]) (results_tok (p := 2) (u := 3) (x := 4) rfl _ _ w.heap.size ⟨0, Vl.mt, 0, 0⟩ rfl (tok_put (v := Lx.no) HT.out.box 0 Vl.mt 0 0).1) rfl ⟨by push_cast; rfl, HT.out.bel.trans ((tok_put (v := Lx.no) HT.out.box 0 Vl.mt 0 0).2 _ (Nat.le_refl _))⟩
          · have t2 : ((s[k].toNat : Int) == 92) = false := by
              have : ¬ s[k].toNat = 92 := fun e => h92 (UInt8.toNat_inj.1 e)
              simp; omega
            have HN := Lib.hid (txtTo_plain HI.out hlt h34 h92 hb)
            clear h34 h92 hcc hb
            go_wp2_with fail
            refine (bldf_byte _ _ acc s[k] wr HT.out.bld (by omega) HT.out.siz).mono ?_
            rintro e w1 ⟨rfl, hb1, hb2, -⟩
            have HT1 := Lib.hid (txtAt_next HT.out hb1 hb2)
            clear hb1 hb2
            go_wp2_with fail
            go_roundw
            case rel => exact ⟨k + 1, _, by go_num, by omega, HN, HT1⟩
            case measure => simp [intOf]; omega
    · have HN := Lib.hid (txtTo_end HI.out hlt)
      obtain ⟨a0, a1, a2, a3, g0, g1, g2, g3⟩ := tok_cells HT.out.box
      go_wp2_with fail
      rw [HN.out]
      exact bodyPost_ret (v := .tuple #[tokV ⟨0, Vl.mt, 0, 0⟩, .int .i64 0, .int .i64 11]) (results_tok (p := 2) (u := 3) (x := 4) rfl _ _ w.heap.size ⟨0, Vl.mt, 0, 0⟩ rfl (tok_put (v := Lx.no) HT.out.box 0 Vl.mt 0 0).1) rfl ⟨by push_cast; rfl, HT.out.bel.trans ((tok_put (v := Lx.no) HT.out.box 0 Vl.mt 0 0).2 _ (Nat.le_refl _))⟩
end Go.Proofs.YtmkllibfblacfaaGreatDoor

/-
  A region that draws its order, whose operations but the last ones (these in one forced order) read, or call what makes memory of its own and always hands back the same: one walk, in the order of the text. What the kit has for one world ('wp_region_still_tail') and for a class of worlds without a tail ('wp_region_quiet'), put together.
-/
namespace Go.Proofs.YtmkllibfblacfaaGreatDoor
open Go.RowKit

section
variable {P : Program} {ops : Array Oper} {md : Region.Mode} {C : World → Prop}
/-- whatever order is picked among the first n -/
def HeadQ (P : Program) (md : Region.Mode) (ops : Array Oper) (C : World → Prop) (n : Nat) (L : Array Bool → Act → Prop) : Nat → Array Bool → Act → Prop
  | 0, listed, a => L listed a
  | f + 1, listed, a => Region.ready md ops listed ≠ [] ∧ ∀ i ∈ Region.ready md ops listed, i < n ∧ qOp P ops C i (HeadQ P md ops C n L f (listed.setIfInBounds i true)) a
theorem headQ_any {n g : Nat} {L : Array Bool → Act → Prop} {Q : Exit → Act → World → Prop} (hL : ∀ listed a, L listed a → ∀ w, C w → wpAny P md ops Q g listed a w) :
    ∀ (f : Nat) (listed : Array Bool) (a : Act), HeadQ P md ops C n L f listed a → ∀ w, C w → wpAny P md ops Q (f + g) listed a w := by
  intro f
  induction f with
  | zero => intro listed a h w hw; rw [Nat.zero_add]; exact hL _ _ h w hw
  | succ f ih =>
    intro listed a h w hw
    rw [show f + 1 + g = (f + g) + 1 by omega]
    exact ⟨fun h0 => absurd h0 h.1, fun i hi => wpOp_of_qOp hw (fun a' w' hw' k => ih _ a' k w' hw') (h.2 i hi).2⟩
theorem headQ_first {n i : Nat} {oi : Oper} {v : Value} {L : Array Bool → Act → Prop} (hi : ops[i]? = some oi) (hsel : ∀ (j : Nat) (o : Oper) cs b, ops[j]? = some o → o.op ≠ .select cs b)
    (hs : Region.sinkB md ops n = true) (hc : Region.chainB md ops n = true) (hn : n < ops.size) (hin : i < n) (hdone : ∀ listed a, L listed a → ∀ j ∈ Region.ready md ops listed, n ≤ j) :
    ∀ (f : Nat) (listed : Array Bool) (a : Act), HeadInv md ops n listed →
      (∀ j oj, ops[j]? = some oj → j ≠ i → listed.getD j true = false → (∀ e ∈ oj.after, Region.binds md e = true → e.on ≠ i) → oi.apart ops oj = true) →
      i ∈ Region.ready md ops listed → YieldsIn P ops C oi v a → HeadQ P md ops C n L f (listed.setIfInBounds i true) (a.put oi.dst v) → HeadQ P md ops C n L (f + 1) listed a := by
  intro f
  induction f with
  | zero =>
    intro listed a inv _ hr hy H
    have hun := (mem_ready.1 hr).1
    refine ⟨fun h => (by rw [h] at hr; cases hr), fun j hj => ?_⟩
    have hjn : j < n := Nat.lt_of_not_le fun h => absurd hj (tail_waits hs hc hn inv _ i rfl hin hun j h)
    refine ⟨hjn, ?_⟩
    by_cases hji : j = i
    · subst hji; exact hy.qOp hi H
    · have := hdone _ _ H j (ready_mono hj hji)
      omega
  | succ f ih =>
    intro listed a inv hfree hr hy H
    have hun := (mem_ready.1 hr).1
    refine ⟨fun h => (by rw [h] at hr; cases hr), fun j hj => ?_⟩
    have hjn : j < n := Nat.lt_of_not_le fun h => absurd hj (tail_waits hs hc hn inv _ i rfl hin hun j h)
    refine ⟨hjn, ?_⟩
    by_cases hji : j = i
    · subst hji; exact hy.qOp hi H
    · have h1 := (H.2 j (ready_mono hj hji)).2
      obtain ⟨hjun, oj, hoj, hall⟩ := mem_ready.1 hj
      have hnot : ∀ e ∈ oj.after, Region.binds md e = true → e.on ≠ i := fun e he hb heq => by
        have h2 := hall e he hb
        rw [heq, getD_both hun] at h2
        cases h2
      have h2 := qOp_put hoj (hfree j oj hoj hji hjun hnot) (fun cs b => hsel i oi cs b hi) (fun cs b => hsel j oj cs b hoj) hy h1
      refine qOp_mono (fun a' h3 => ih (listed.setIfInBounds j true) a' (inv.set hj hjn) (fun k ok hk hki hunk hno => hfree k ok hk hki ?_ hno) (ready_mono hr (Ne.symm hji)) h3.1 ?_) h2
      · by_cases hjk : j = k
        · subst hjk; exact hjun
        · rw [getD_set_ne true hjk] at hunk; exact hunk
      · rw [Array.setIfInBounds_comm _ _ hji]
        exact h3.2
theorem headQ_lex {n g : Nat} {Lq : Act → Prop} (hsel : Region.noSelect ops = true) (hs : Region.sinkB md ops n = true) (hc : Region.chainB md ops n = true) (hn : n < ops.size) :
    ∀ (l : List Oper) (k : Nat) (listed : Array Bool) (a : Act), (∀ j, j < l.length → l[j]? = ops[k + j]?) → k + l.length = n → HeadInv md ops n listed →
    Region.lexHead md ops g l.length k listed = true → wpQuiet P ops C Lq l a → HeadQ P md ops C n (fun listed' a' => Region.seqB md ops g n listed' = true ∧ Lq a') l.length listed a := by
  intro l
  induction l with
  | nil =>
    intro k listed a _ hk _ hB h
    obtain rfl : k = n := by simpa using hk
    exact ⟨by simpa [Region.lexHead] using hB, h⟩
  | cons o l ih =>
    intro k listed a hl hk inv hB h
    have h0 : ops[k]? = some o := by simpa using (hl 0 (by simp)).symm
    simp only [List.length_cons, Region.lexHead, Bool.and_eq_true] at hB
    obtain ⟨⟨hr, hf⟩, hB'⟩ := hB
    have hkn : k < n := by simp only [List.length_cons] at hk; omega
    have hr' : k ∈ Region.ready md ops listed := by simpa using hr
    have hst : qOp P ops C k (wpQuiet P ops C Lq l) a := by unfold qOp; simp only [h0]; exact h
    obtain ⟨v, hy, hK⟩ := yieldsIn_of_qOp h0 hst
    exact headQ_first h0 (Region.noSelect_spec hsel) hs hc hn hkn (fun listed' a' hL => seqB_ready hL.1) l.length listed a inv (Region.free_spec h0 hf) hr' hy
      (ih (k + 1) _ _ (fun j hj => by have := hl (j + 1) (by simp; omega); simpa [Nat.add_assoc, Nat.add_comm 1 j] using this) (by simp only [List.length_cons] at hk; omega) (inv.set hr' hkn) hB' hK)
/-- the law -/
theorem wp_region_quiet_tail {id : Nat} {Q : Exit → Act → World → Prop} {a : Act} {w : World} {l : List Oper} (n : Nat) (hm : P.follows .mixedOrders = true) (hB : Region.lexTailB .any l.toArray n = true) (hC : C w.drew)
    (h : wpQuiet P l.toArray C (fun a' => ∀ w', C w' → wpList P l.toArray Q (l.drop n) a' w') (l.take n) a) : (Code.region id l.toArray true).wp P Q a w := by
  simp only [Region.lexTailB, Bool.and_eq_true, decide_eq_true_eq] at hB
  obtain ⟨⟨⟨⟨hsel, hn⟩, hs⟩, hc⟩, hlex⟩ := hB
  have hn' : n < l.length := by simpa using hn
  have htl : (l.take n).length = n := by simp; omega
  have hdl : (l.drop n).length = l.toArray.size - n := by simp
  have inv0 : HeadInv .any l.toArray n (Array.replicate l.toArray.size false) :=
    ⟨by simp, fun j oj _ hl => (by rw [getD_replicate_false] at hl; cases hl), fun t _ ht => getD_in (by simpa using ht) (getD_replicate_false _ _)⟩
  have H := headQ_lex (md := .any) (g := l.toArray.size - n) hsel hs hc hn (l.take n) 0 _ a (fun j hj => by
    have hj' : j < n := by rw [htl] at hj; exact hj
    simp [hj']) (by simpa using htl) inv0 (by rw [htl]; exact hlex) h
  refine wp_region_any hm ?_
  have := headQ_any (Q := Q) (g := l.toArray.size - n) (fun listed a' hL w' hw' => by
    have := wpAny_of_seq (md := .any) (Q' := Q) (l.drop n) n listed a' w' (fun j => by simp [List.getElem?_drop]) (by rw [hdl]; exact hL.1) (hL.2 w' hw')
    rwa [hdl] at this) _ _ _ H w.drew hC
  rw [htl, show n + (l.toArray.size - n) = l.toArray.size by omega] at this
  exact this
end
end Go.Proofs.YtmkllibfblacfaaGreatDoor

/-
  A call, guarded or not, in a drawn region that is walked in the order of its text (used with go_big_quiet_want).
-/
namespace Go.Proofs.YtmkllibfblacfaaGreatDoor
open Go.RowKit
theorem quietAt_call {P : Program} {op : Oper} {a : Act} {C : World → Prop} {w : World} {v : Value} (f : FuncId) (args : Array Value) (hrun : (execOp a.eval op).run P w = .ok (.enter f args) w)
    (h : Calls P f args w fun e w' => e = .returned v ∧ C w') : op.quietAt P a C w v := by
  unfold Oper.quietAt
  rw [hrun]
  exact ⟨rfl, h⟩
end Go.Proofs.YtmkllibfblacfaaGreatDoor

/-
  A region that draws its order: first operations that only read (under a condition S on the world), then some that write and keep S, then last ones that need not keep it; the second and third in one forced order. One walk, in the order of the text.
-/
namespace Go.Proofs.YtmkllibfblacfaaGreatDoor
open Go.RowKit

section
variable {P : Program} {ops : Array Oper} {md : Region.Mode} {S : World → Prop} {Q : Exit → Act → World → Prop}
/-- operations that only read, one by one -/
def wpYield (P : Program) (ops : Array Oper) (S : World → Prop) (R : Act → Prop) : List Oper → Act → Prop
  | [], a => R a
  | o :: rest, a => ∃ v, YieldsIf P ops S o v a ∧ wpYield P ops S R rest (a.put o.dst v)
/-- operations that keep S, one by one -/
def wpKeep (P : Program) (ops : Array Oper) (S : World → Prop) (Q : Exit → Act → World → Prop) (R : Act → World → Prop) (i : Nat) : Nat → Act → World → Prop
  | 0, a, w => R a w
  | f + 1, a, w => wpOp P ops Q i (fun a' w' => S w' ∧ wpKeep P ops S Q R (i + 1) f a' w') a w
/-- whatever order is picked among the first n, S kept -/
def HeadH (P : Program) (md : Region.Mode) (ops : Array Oper) (S : World → Prop) (Q : Exit → Act → World → Prop) (n : Nat) (L : Array Bool → Act → World → Prop) : Nat → Array Bool → Act → World → Prop
  | 0, listed, a, w => L listed a w
  | f + 1, listed, a, w => Region.ready md ops listed ≠ [] ∧ ∀ i ∈ Region.ready md ops listed, i < n ∧ wpOp P ops Q i (fun a' w' => S w' ∧ HeadH P md ops S Q n L f (listed.setIfInBounds i true) a' w') a w
theorem headH_any {n g : Nat} {L : Array Bool → Act → World → Prop} (hL : ∀ listed a w, L listed a w → wpAny P md ops Q g listed a w) :
    ∀ (f : Nat) (listed : Array Bool) (a : Act) (w : World), HeadH P md ops S Q n L f listed a w → wpAny P md ops Q (f + g) listed a w := by
  intro f
  induction f with
  | zero => intro listed a w h; rw [Nat.zero_add]; exact hL _ _ _ h
  | succ f ih =>
    intro listed a w h
    rw [show f + 1 + g = (f + g) + 1 by omega]
    exact ⟨fun h0 => absurd h0 h.1, fun i hi => wpOp_mono (fun a' w' k => ih _ a' w' k.2) (h.2 i hi).2⟩
theorem headH_first {n i : Nat} {oi : Oper} {v : Value} {L : Array Bool → Act → World → Prop} (hi : ops[i]? = some oi) (hsel : ∀ (j : Nat) (o : Oper) cs b, ops[j]? = some o → o.op ≠ .select cs b)
    (hQ : ∀ c a w, Q (.panic c) (a.put oi.dst v) w → Q (.panic c) a w)
    (hs : Region.sinkB md ops n = true) (hc : Region.chainB md ops n = true) (hn : n < ops.size) (hin : i < n) (hdone : ∀ listed a w, L listed a w → ∀ j ∈ Region.ready md ops listed, n ≤ j) :
    ∀ (f : Nat) (listed : Array Bool) (a : Act) (w : World), HeadInv md ops n listed →
      (∀ j oj, ops[j]? = some oj → j ≠ i → listed.getD j true = false → (∀ e ∈ oj.after, Region.binds md e = true → e.on ≠ i) → oi.apart ops oj = true) →
      i ∈ Region.ready md ops listed → YieldsIf P ops S oi v a → S w → HeadH P md ops S Q n L f (listed.setIfInBounds i true) (a.put oi.dst v) w → HeadH P md ops S Q n L (f + 1) listed a w := by
  intro f
  induction f with
  | zero =>
    intro listed a w inv _ hr hy hS H
    have hun := (mem_ready.1 hr).1
    refine ⟨fun h => (by rw [h] at hr; cases hr), fun j hj => ?_⟩
    have hjn : j < n := Nat.lt_of_not_le fun h => absurd hj (tail_waits hs hc hn inv _ i rfl hin hun j h)
    refine ⟨hjn, ?_⟩
    by_cases hji : j = i
    · subst hji; exact hy.wpOp hi hS ⟨hS, H⟩
    · have := hdone _ _ _ H j (ready_mono hj hji)
      omega
  | succ f ih =>
    intro listed a w inv hfree hr hy hS H
    have hun := (mem_ready.1 hr).1
    refine ⟨fun h => (by rw [h] at hr; cases hr), fun j hj => ?_⟩
    have hjn : j < n := Nat.lt_of_not_le fun h => absurd hj (tail_waits hs hc hn inv _ i rfl hin hun j h)
    refine ⟨hjn, ?_⟩
    by_cases hji : j = i
    · subst hji; exact hy.wpOp hi hS ⟨hS, H⟩
    · have h1 := (H.2 j (ready_mono hj hji)).2
      obtain ⟨hjun, oj, hoj, hall⟩ := mem_ready.1 hj
      have hnot : ∀ e ∈ oj.after, Region.binds md e = true → e.on ≠ i := fun e he hb heq => by
        have h2 := hall e he hb
        rw [heq, getD_both hun] at h2
        cases h2
      have h2 := wpOp_putIf hoj (hfree j oj hoj hji hjun hnot) (fun cs b => hsel i oi cs b hi) (fun cs b => hsel j oj cs b hoj) hQ hy h1
      refine wpOp_mono (fun a' w' h3 => ⟨h3.2.1, ih (listed.setIfInBounds j true) a' w' (inv.set hj hjn) (fun k ok hk hki hunk hno => hfree k ok hk hki ?_ hno) (ready_mono hr (Ne.symm hji)) h3.1 h3.2.1 ?_⟩) h2
      · by_cases hjk : j = k
        · subst hjk; exact hjun
        · rw [getD_set_ne true hjk] at hunk; exact hunk
      · rw [Array.setIfInBounds_comm _ _ hji]
        exact h3.2.2
/-- those that keep S, in their forced order -/
theorem headH_seq {n : Nat} {R : Act → World → Prop} : ∀ (f k : Nat) (g : Nat) (listed : Array Bool) (a : Act) (w : World), k + f = n → Region.seqB md ops (f + g) k listed = true → wpKeep P ops S Q R k f a w →
    HeadH P md ops S Q n (fun listed' a' w' => Region.seqB md ops g n listed' = true ∧ R a' w') f listed a w := by
  intro f
  induction f with
  | zero => intro k g listed a w hk hB h; obtain rfl : k = n := by omega
            exact ⟨by simpa using hB, h⟩
  | succ f ih =>
    intro k g listed a w hk hB h
    rw [show f + 1 + g = (f + g) + 1 by omega] at hB
    simp only [Region.seqB, Bool.and_eq_true, decide_eq_true_eq] at hB
    refine ⟨fun h0 => (by rw [hB.1] at h0; cases h0), fun i hi => ?_⟩
    rw [hB.1] at hi
    obtain rfl : i = k := by simpa using hi
    exact ⟨by omega, wpOp_mono (fun a' w' h3 => ⟨h3.1, ih (i + 1) g _ a' w' (by omega) hB.2 h3.2⟩) h⟩
theorem headH_lex {n g : Nat} {R : Act → World → Prop} {w : World} (hsel : Region.noSelect ops = true) (hQ : ∀ c (d : Option Tmp) v a w, Q (.panic c) (a.put d v) w → Q (.panic c) a w) (hs : Region.sinkB md ops n = true) (hc : Region.chainB md ops n = true) (hn : n < ops.size) (hS : S w) :
    ∀ (l : List Oper) (k f : Nat) (listed : Array Bool) (a : Act), (∀ j, j < l.length → l[j]? = ops[k + j]?) → k + l.length + f = n → HeadInv md ops n listed →
    Region.lexHead md ops (f + g) l.length k listed = true → wpYield P ops S (fun a' => wpKeep P ops S Q R (k + l.length) f a' w) l a →
    HeadH P md ops S Q n (fun listed' a' w' => Region.seqB md ops g n listed' = true ∧ R a' w') (l.length + f) listed a w := by
  intro l
  induction l with
  | nil =>
    intro k f listed a _ hk _ hB h
    rw [List.length_nil, Nat.zero_add]
    exact headH_seq f k g listed a w (by simpa using hk) (by simpa [Region.lexHead] using hB) (by simpa [wpYield] using h)
  | cons o l ih =>
    intro k f listed a hl hk inv hB h
    have h0 : ops[k]? = some o := by simpa using (hl 0 (by simp)).symm
    simp only [List.length_cons, Region.lexHead, Bool.and_eq_true] at hB
    obtain ⟨⟨hr, hf⟩, hB'⟩ := hB
    have hkn : k < n := by simp only [List.length_cons] at hk; omega
    have hr' : k ∈ Region.ready md ops listed := by simpa using hr
    obtain ⟨v, hy, hK⟩ := h
    rw [List.length_cons, show l.length + 1 + f = (l.length + f) + 1 by omega]
    refine headH_first h0 (Region.noSelect_spec hsel) (fun c a w => hQ c o.dst v a w) hs hc hn hkn (fun listed' a' w' hL => seqB_ready hL.1) (l.length + f) listed a w inv (Region.free_spec h0 hf) hr' hy hS
      (ih (k + 1) f _ _ (fun j hj => by have := hl (j + 1) (by simp; omega); simpa [Nat.add_assoc, Nat.add_comm 1 j] using this) (by simp only [List.length_cons] at hk; omega) (inv.set hr' hkn) hB' ?_)
    rw [List.length_cons, show k + (l.length + 1) = k + 1 + l.length by omega] at hK
    exact hK
/-- the law: m that only read, n - m that keep S, the rest -/
theorem wp_region_held_tail {id : Nat} {a : Act} {w : World} {l : List Oper} (m n : Nat) (hmn : m ≤ n) (hm : P.follows .mixedOrders = true) (hQ : ∀ c (d : Option Tmp) v a w, Q (.panic c) (a.put d v) w → Q (.panic c) a w)
    (hB : (Region.noSelect l.toArray && decide (n < l.toArray.size) && Region.sinkB .any l.toArray n && Region.chainB .any l.toArray n && Region.lexHead .any l.toArray (n - m + (l.toArray.size - n)) m 0 (Array.replicate l.toArray.size false)) = true) (hS : S w.drew)
    (h : wpYield P l.toArray S (fun a' => wpKeep P l.toArray S Q (fun a'' w'' => wpList P l.toArray Q (l.drop n) a'' w'') m (n - m) a' w.drew) (l.take m) a) : (Code.region id l.toArray true).wp P Q a w := by
  simp only [Bool.and_eq_true, decide_eq_true_eq] at hB
  obtain ⟨⟨⟨⟨hsel, hn⟩, hs⟩, hc⟩, hlex⟩ := hB
  have hn' : n < l.length := by simpa using hn
  have htl : (l.take m).length = m := by simp; omega
  have hdl : (l.drop n).length = l.toArray.size - n := by simp
  have inv0 : HeadInv .any l.toArray n (Array.replicate l.toArray.size false) :=
    ⟨by simp, fun j oj _ hl => (by rw [getD_replicate_false] at hl; cases hl), fun t _ ht => getD_in (by simpa using ht) (getD_replicate_false _ _)⟩
  have H := headH_lex (md := .any) (g := l.toArray.size - n) hsel hQ hs hc hn hS (l.take m) 0 (n - m) _ a (fun j hj => by
    have hj' : j < m := by rw [htl] at hj; exact hj
    simp [hj']) (by rw [htl]; omega) inv0 (by rw [htl]; exact hlex) (by rw [htl, Nat.zero_add]; exact h)
  refine wp_region_any hm ?_
  have := headH_any (g := l.toArray.size - n) (fun listed a' w' hL => by
    have := wpAny_of_seq (md := .any) (Q' := Q) (l.drop n) n listed a' w' (fun j => by simp [List.getElem?_drop]) (by rw [hdl]; exact hL.1) hL.2
    rwa [hdl] at this) _ _ _ _ H
  rw [htl, show m + (n - m) + (l.toArray.size - n) = l.toArray.size by omega] at this
  exact this
/-- one step that only reads; its value is found by the walk -/
theorem wpYield_step {R : Act → Prop} {o : Oper} {rest : List Oper} {a : Act} (h : ∃ v, (Region.wanted o (yielded ops a.tmps) = true ∧ ∀ w, S w → (execOp a.eval o).run P w = .ok (.value v) w) ∧ wpYield P ops S R rest (a.put o.dst v)) : wpYield P ops S R (o :: rest) a := by
  obtain ⟨v, h1, h2⟩ := h
  exact ⟨v, .inl h1, h2⟩
/-- one step that keeps S -/
theorem wpKeep_step {R : Act → World → Prop} {i f : Nat} {o : Oper} {a : Act} {w : World} (hi : ops[i]? = some o) (hgd : o.guard = none)
    (h : ∀ K : Act → World → Prop, (∀ a' w', S w' → wpKeep P ops S Q R (i + 1) f a' w' → K a' w') → Oper.wp P o a w K Q) : wpKeep P ops S Q R i (f + 1) a w := by
  show wpOp P ops Q i _ a w
  unfold wpOp
  simp only [hi]
  rw [if_pos (by simp [Region.wanted, hgd])]
  exact .inl (h _ fun a' w' h1 h2 => ⟨h1, h2⟩)
end
end Go.Proofs.YtmkllibfblacfaaGreatDoor
