/-
  Texts of the layers, part 6: Rft, AppIn, LexRight, LexMark, LexText, LexProg7, LexProg8, LexJoin, StrJoin, LexProg9, LexSame, LexSam, LexLives, LexLawsW, LexOpen, LexTextsW, LexBackW, LexAgainW, QRound, Plan3R, LexLaid.
-/
import Derived.RangeFuncNested
import Derived.RangeFuncBound
import Derived.RangeFuncCalls
import Derived.RangeFuncLeaves
import Derived.Test.YtekahmlppaabjaaGreatDoorPk2
import Derived.OwnWalkIn
import Derived.Test.YtekahmlppaabjaaGreatDoorPk4
import Derived.Test.YtekahmlppaabjaaGreatDoorPk3
import Derived.Test.YtekahmlppaabjaaGreatDoorPk5
import Derived.Laws.StructEq
import Derived.LaidEql
import Derived.Deep.Cut
import Derived.Shelf.Strings.OnBuilder
import Derived.Test.YtekahmlppaabjaaGreatDoorPk1
import Derived.Test.YtekahmlppaabjaaGreatDoorProg
import Derived.WalkKit
import Derived.BigQuiet
import Derived.Deep.Slices
import Derived.ChangeSlices
import Derived.ChangeArms
import Derived.OpenShut
import Derived.OrdersIn
import Derived.TacticsIn
import Derived.Test.YtekahmlppaabjaaGreatDoorRows
import Derived.Lib.LaidTab
import Derived.LaidMore
import Derived.Stop.Joined
/-
  A range over a function that keeps state of its own in cells (of one type, in blocks that it made): the law for the loop, at the wide fence; a round goes on, or returns.
-/
namespace Go.Proofs.YtekahmlppaabjaaGreatDoor
open Go.RowKit
/-- J stands through what an iterator does by itself: it makes blocks, and turns cells of type T, from block B on -/
def Surv (B T : Nat) (J : World → Prop) : Prop := ∀ A A' row, J A → A.grownBy A' row → (∀ r, row = some r → B ≤ r ∧ ∃ cs fz, A.heap[r]? = some (.cells cs T fz)) → J A'
/-- .. and through the loop's own book-keeping: what is no cells, from block B on -/
def SurvR (B T : Nat) (J : World → Prop) : Prop := ∀ A A' row, J A → A.grownBy A' row → (∀ r, row = some r → B ≤ r ∧ ∃ o : Obj, A.heap[r]? = some o ∧ (o.isCells = false ∨ ∃ cs fz, o = .cells cs T fz)) → J A'
theorem SurvR.surv {B B' T : Nat} {J : World → Prop} (h : SurvR B T J) (hB : B ≤ B') : Surv B' T J := fun A A' row hJ hg hr =>
  h A A' row hJ hg fun r e => by
    obtain ⟨h1, cs, fz, h2⟩ := hr r e
    exact ⟨by omega, _, h2, .inr ⟨cs, fz, rfl⟩⟩
theorem SurvR.mono {B B' T : Nat} {J : World → Prop} (h : SurvR B T J) (hB : B ≤ B') : SurvR B' T J := fun A A' row hJ hg hr =>
  h A A' row hJ hg fun r e => by
    obtain ⟨h1, h2⟩ := hr r e
    exact ⟨by omega, h2⟩
theorem SurvR.put {B T : Nat} {J : World → Prop} (h : SurvR B T J) {A : World} {l : Nat} {o o' : Obj} (hJ : J A) (hl : B ≤ l) (ho : A.heap[l]? = some o) (hc : o.isCells = false) : J (A.putObj l o') :=
  h A _ (some l) hJ (grownBy_putObj' A l o') fun r e => by cases e; exact ⟨hl, o, ho, .inl hc⟩
theorem SurvR.new {B T : Nat} {J : World → Prop} (h : SurvR B T J) {A : World} (hJ : J A) (o : Obj) : J (A.alloc o) := h A _ none hJ (World.grownBy_alloc A o none) fun r e => by cases e
/-- what hands out values, one by one, to whatever round that keeps Kp -/
def Hands {α : Type} (n : Nat) (P : Program) (g : Nat) (lb : Array Value) (encs : α → Array Value) (Kp : World → World → Prop) (S Sp : List α → Prop) (N T : Nat) (w : World) : Prop :=
  ∀ (l : Nat) (J Jx : List α → World → Prop) (W : World), Below w.heap.size w W → w.heap.size + 2 ≤ W.heap.size → (∀ s, SurvR W.heap.size T (J s)) → (∀ s, SurvR W.heap.size T (Jx s)) →
    (∀ pre x W1, J pre W1 → pre.length < N → YieldAt Fence.wide (n - 1) P l (encs x) W1 fun e W' => (e = .returned (.bool true) ∧ J (pre ++ [x]) W' ∧ Kp W1 W') ∨ (e = .returned (.bool false) ∧ Jx (pre ++ [x]) W' ∧ Kp W1 W')) →
    J [] W → CallsIn Fence.wide n P g (#[.func (.yield l) #[] #[]] ++ lb) W fun e W' => (∃ v, e = .returned v) ∧ ((∃ xs, S xs ∧ J xs W') ∨ (∃ pre, Sp pre ∧ Jx pre W'))
/-- the loop's two blocks lie as they lay -/
def Rec2 (B : Nat) (W W' : World) : Prop := W'.heap[B]? = W.heap[B]? ∧ W'.heap[B + 1]? = W.heap[B + 1]?
/-- how a round may end -/
def RndPost {α : Type} (B : Nat) (Kp : World → World → Prop) (I Ix : List α → World → Prop) (xs : List α) (W : World) : Exit → Act → World → Prop
  | .normal, _, W' => Rec2 B W W' ∧ Kp W W' ∧ I xs W'
  | .ret, _, W' => Rec2 B W W' ∧ Kp W W' ∧ Ix xs W'
  | _, _, _ => False
theorem putObj_only (W : World) (l : Nat) (o : Obj) : Only (fun k => k = l) W (W.putObj l o) := by
  have hg := grownBy_putObj' W l o
  exact ⟨hg.os, hg.tape, hg.output, hg.size, fun k hk hn => hg.block k hk fun e => hn (by cases e; rfl)⟩
/-- the loop's two blocks are no cells -/
def NC2 (B : Nat) (W : World) : Prop := (∃ o : Obj, W.heap[B]? = some o ∧ o.isCells = false) ∧ (∃ o : Obj, W.heap[B + 1]? = some o ∧ o.isCells = false)
theorem wpIn_handsR {α : Type} {P : Program} {n : Nat} {g : Operand} {ps : Array Tmp} {assign body : Code} {Q : Exit → Act → World → Prop} {a : Act} {w : World} {gf : Nat} {lb : Array Value} (hg : a.eval g = .func (.func gf) #[] lb) (eg : ∀ args w, (callFunc gf args).run P w = .ok (.enter gf args) w)
    {encs : α → Array Value} {Kp : World → World → Prop} {S Sp : List α → Prop} {N T : Nat} {w0 : World} (hs : Hands (n - 1) P gf lb encs Kp S Sp N T w0) (hb0 : Below w0.heap.size w0 w) (hps : ∀ x, (encs x).size = ps.size)
    (hKt : ∀ {A B C : World}, Kp A B → Kp B C → Kp A C) (hKb : ∀ (W : World) (o o' : Obj), W.heap[w.heap.size + 1]? = some o → o.isCells = false → Kp W (W.putObj (w.heap.size + 1) o'))
    (I Ix : List α → World → Prop) (hI : ∀ s, SurvR w.heap.size T (I s)) (hIx : ∀ s, SurvR w.heap.size T (Ix s)) (h0 : I [] w)
    (round : ∀ pre x W, I pre W → pre.length < N → w.heap.size + 2 ≤ W.heap.size → NC2 w.heap.size W → assign.wpIn (Fence.wide.inRound (w.heap.size + 1)) (n - 1 - 1) P
      (Exit.then (fun a1 W1 => Rec2 w.heap.size W W1 ∧ Kp W W1 ∧ ∀ W2, Only (fun k => k = w.heap.size + 1) W1 W2 → (∀ pre, I pre W1 → I pre W2) → NC2 w.heap.size W2 → body.wpIn (Fence.wide.inRound (w.heap.size + 1)) (n - 1 - 1) P (RndPost w.heap.size Kp I Ix (pre ++ [x]) W2) a1 W2) (fun _ _ _ => False))
      { tmps := (ps.zip (encs x)).foldl (fun t (p, v) => t.setIfInBounds p v) a.tmps, defers := [] } W)
    (hdone : ∀ (xs : List α) (W : World), S xs → I xs W → W.heap[w.heap.size]? = some (.deferred (some [])) → Q .normal { a with defers := { target := .collected w.heap.size, args := #[] } :: a.defers } W)
    (hstop : ∀ (pre : List α) (W : World), Sp pre → Ix pre W → W.heap[w.heap.size]? = some (.deferred (some [])) → Code.ret.wpIn Fence.wide n P Q { a with defers := { target := .collected w.heap.size, args := #[] } :: a.defers } W) :
    (Code.rangeFunc g ps assign body).wpIn Fence.wide n P Q a w := by
  generalize hB : w.heap.size = B at *
  refine wpIn_rangeFunc fun fn hfn => ?_
  let mk : LoopState → Option Code → Obj := fun st pe => .loop { state := st, pending := pe, fn := fn, tmps := a.tmps, params := ps, assign := assign, body := body, defers := B }
  obtain ⟨W1, hW1⟩ : ∃ W1, W1 = (w.alloc (.deferred (some []))).alloc (mk .ready none) := ⟨_, rfl⟩
  have e1 := World.alloc_heap_new (w.alloc (.deferred (some []))) (mk .ready none)
  have e0 := (Below.heap_alloc (w.alloc (.deferred (some []))) (mk .ready none) w.heap.size (by simp)).trans (World.alloc_heap_new w (.deferred (some [])))
  rw [World.size_alloc, hB, ← hW1] at e1
  rw [hB, ← hW1] at e0
  have hI1 : I [] W1 := by rw [hW1]; exact (hI []).new ((hI []).new h0 _) _
  have hsz : W1.heap.size = B + 2 := by rw [hW1, World.size_alloc, World.size_alloc, hB]
  have hb1 : Below w0.heap.size w0 W1 := by rw [hW1]; exact (hb0.alloc hb0.size _).alloc (by rw [World.size_alloc]; have := hb0.size; omega) _
  refine ⟨B + 1, [{ target := .collected B, args := #[] }], W1, { target := .fn (.func gf) lb, args := #[.func (.yield (B + 1)) #[] #[]] }, W1, gf, #[.func (.yield (B + 1)) #[] #[]] ++ lb, W1, ?_, ?_, fun f' _ => trivial, ?_, fun h => (by cases h), ?_⟩
  · have := run_enterLoop_outer (P := P) (w := w) fn a.tmps ps assign body
    rw [hB] at this
    rw [hW1]; exact this
  · simp only [resolve, hg]; simp [go_sem]
  · simp [invoke, go_sem, eg]
  · -- the record and the block for deferred calls stand through what the iterator does
    have hrec : ∀ {st pe} {A A' : World} {row : Option Nat}, A.grownBy A' row → (∀ r, row = some r → W1.heap.size ≤ r) → (A.heap[B + 1]? = some (mk st pe) ∧ A.heap[B]? = some (.deferred (some []))) → (A'.heap[B + 1]? = some (mk st pe) ∧ A'.heap[B]? = some (.deferred (some []))) := fun {st pe A A' row} hgr hr h =>
      ⟨(hgr.block _ (Array.getElem?_eq_some_iff.1 h.1).1 fun e => by have := hr _ e.symm; omega).trans h.1, (hgr.block _ (Array.getElem?_eq_some_iff.1 h.2).1 fun e => by have := hr _ e.symm; omega).trans h.2⟩
    have hend : ∀ {W3 : World} {st pe}, W3.heap[B + 1]? = some (mk st pe) → st ≠ .busy → (Instr.endLoop (B + 1)).run P W3 = .ok pe (W3.putObj (B + 1) (mk .exhausted pe)) := fun h hb => run_endLoop h hb
    refine (hs (B + 1) (fun pre W => I pre W ∧ W.heap[B + 1]? = some (mk .ready none) ∧ W.heap[B]? = some (.deferred (some []))) (fun pre W => Ix pre W ∧ W.heap[B + 1]? = some (mk .done (some .ret)) ∧ W.heap[B]? = some (.deferred (some []))) W1 hb1 (by have := hb0.size; omega)
      (fun s A A' row h hgr hr => ⟨(hI s).mono (show B ≤ W1.heap.size by omega) A A' row h.1 hgr hr, hrec hgr (fun r e => (hr r e).1) h.2⟩) (fun s A A' row h hgr hr => ⟨(hIx s).mono (show B ≤ W1.heap.size by omega) A A' row h.1 hgr hr, hrec hgr (fun r e => (hr r e).1) h.2⟩) ?_ ⟨hI1, e1, e0⟩).mono ?_
    · rintro pre x W ⟨hi, hl, hk⟩ hlen
      have hy := run_yield (P := P) (args := encs x) hl (hps x)
      have hlt : B + 1 < W.heap.size := (Array.getElem?_eq_some_iff.1 hl).1
      refine ⟨fn, _, assign, body, hy, roundIn_of_wpIn hfn (Code.wpIn_mono ?_ (round pre x W hi hlen (by omega) ⟨⟨_, hk, rfl⟩, ⟨_, hl, rfl⟩⟩))⟩
      intro e a1 Wa hq
      cases e with
      | normal =>
        obtain ⟨hr1, hk1, hbody⟩ := hq
        have hla : Wa.heap[B + 1]? = some (mk .ready none) := hr1.2.trans hl
        have hka : Wa.heap[B]? = some (.deferred (some [])) := hr1.1.trans hk
        have hlta : B + 1 < Wa.heap.size := (Array.getElem?_eq_some_iff.1 hla).1
        have hl2 : (Wa.putObj (B + 1) (mk .busy none)).heap[B + 1]? = some (mk .busy none) := World.putObj_heap_same hlta
        have hk2 : (Wa.putObj (B + 1) (mk .busy none)).heap[B]? = some (.deferred (some [])) := (World.putObj_heap_other (by omega)).trans hka
        refine ⟨_, run_beginRound hla rfl, Code.wpIn_mono ?_ (hbody _ (putObj_only Wa (B + 1) _) (fun p hp => (hI p).put hp (by omega) hla rfl) ⟨⟨_, hk2, rfl⟩, ⟨_, hl2, rfl⟩⟩)⟩
        intro e a3 W3 hp
        cases e with
        | normal =>
          obtain ⟨h1, h2, h3⟩ := hp
          have hl3 := h1.2.trans hl2
          have hk3 := h1.1.trans hk2
          exact ⟨_, _, run_endRound none hl3, .inl ⟨rfl, ⟨(hI _).put h3 (by omega) hl3 rfl, World.putObj_heap_same (Array.getElem?_eq_some_iff.1 hl3).1, (World.putObj_heap_other (by omega)).trans hk3⟩, hKt hk1 (hKt (hKt (hKb _ _ _ hla rfl) h2) (hKb _ _ _ hl3 rfl))⟩⟩
        | ret =>
          obtain ⟨h1, h0, h2⟩ := hp
          have hl3 := h1.2.trans hl2
          have hk3 := h1.1.trans hk2
          exact ⟨_, _, run_endRound (some .ret) hl3, .inr ⟨rfl, ⟨(hIx _).put h2 (by omega) hl3 rfl, World.putObj_heap_same (Array.getElem?_eq_some_iff.1 hl3).1, (World.putObj_heap_other (by omega)).trans hk3⟩, hKt hk1 (hKt (hKt (hKb _ _ _ hla rfl) h0) (hKb _ _ _ hl3 rfl))⟩⟩
        | _ => exact hp.elim
      | _ => exact hq.elim
    · rintro e W3 ⟨⟨v, rfl⟩, (⟨xs, hS, hi, hl, hk⟩ | ⟨pre, hSp, hi, hl, hk⟩)⟩
      · exact ⟨none, _, hend hl (by decide), hdone xs _ hS ((hI _).put hi (by omega) hl rfl) ((World.putObj_heap_other (by omega)).trans hk)⟩
      · exact ⟨some .ret, _, hend hl (by decide), hstop pre _ hSp ((hIx _).put hi (by omega) hl rfl) ((World.putObj_heap_other (by omega)).trans hk)⟩
theorem wpIn_hands {α : Type} {P : Program} {n : Nat} {g : Operand} {ps : Array Tmp} {assign body : Code} {Q : Exit → Act → World → Prop} {a : Act} {w : World} {gf : Nat} {lb : Array Value} (hg : a.eval g = .func (.func gf) #[] lb) (eg : ∀ args w, (callFunc gf args).run P w = .ok (.enter gf args) w)
    {encs : α → Array Value} {Kp : World → World → Prop} {S Sp : List α → Prop} {N T : Nat} {w0 : World} (hs : Hands (n - 1) P gf lb encs Kp S Sp N T w0) (hb0 : Below w0.heap.size w0 w) (hps : ∀ x, (encs x).size = ps.size)
    (hKt : ∀ {A B C : World}, Kp A B → Kp B C → Kp A C) (hKb : ∀ (W : World) (o o' : Obj), W.heap[w.heap.size + 1]? = some o → o.isCells = false → Kp W (W.putObj (w.heap.size + 1) o'))
    (I Ix : List α → World → Prop) (hI : ∀ s, SurvR w.heap.size T (I s)) (hIx : ∀ s, SurvR w.heap.size T (Ix s)) (h0 : I [] w)
    (round : ∀ pre x W, I pre W → pre.length < N → w.heap.size + 2 ≤ W.heap.size → assign.wpIn (Fence.wide.inRound (w.heap.size + 1)) (n - 1 - 1) P
      (Exit.then (fun a1 W1 => Rec2 w.heap.size W W1 ∧ Kp W W1 ∧ ∀ W2, Only (fun k => k = w.heap.size + 1) W1 W2 → (∀ pre, I pre W1 → I pre W2) → body.wpIn (Fence.wide.inRound (w.heap.size + 1)) (n - 1 - 1) P (RndPost w.heap.size Kp I Ix (pre ++ [x]) W2) a1 W2) (fun _ _ _ => False))
      { tmps := (ps.zip (encs x)).foldl (fun t (p, v) => t.setIfInBounds p v) a.tmps, defers := [] } W)
    (hdone : ∀ (xs : List α) (W : World), S xs → I xs W → W.heap[w.heap.size]? = some (.deferred (some [])) → Q .normal { a with defers := { target := .collected w.heap.size, args := #[] } :: a.defers } W)
    (hstop : ∀ (pre : List α) (W : World), Sp pre → Ix pre W → W.heap[w.heap.size]? = some (.deferred (some [])) → Code.ret.wpIn Fence.wide n P Q { a with defers := { target := .collected w.heap.size, args := #[] } :: a.defers } W) :
    (Code.rangeFunc g ps assign body).wpIn Fence.wide n P Q a w :=
  wpIn_handsR hg eg hs hb0 hps hKt hKb I Ix hI hIx h0 (fun pre x W h1 h2 h3 _ => Code.wpIn_mono (fun e a1 W1 h => by
    cases e with
    | normal => exact ⟨h.1, h.2.1, fun W2 h4 h5 _ => h.2.2 W2 h4 h5⟩
    | _ => exact h) (round pre x W h1 h2 h3)) hdone hstop
end Go.Proofs.YtekahmlppaabjaaGreatDoor

/-
  An append of one element, as an operation of a walk in a fence.
-/
namespace Go.Proofs.YtekahmlppaabjaaGreatDoor
open Go.RowKit
section
variable {α : Type} {f : α → List Value} {E k bytes : Nat} {P : Program} {w : World} {B : Nat}
/-- one element more, as an operation of a walk in a fence: its box at block N -/
theorem wpListIn_append_one14 {F : Fence} {n : Nat} (he : ElemOk P E k bytes) {ops : Array Oper} {rest : List Oper} {o : Oper} {a : Act} {Q : Exit → Act → World → Prop} (hgd : o.guard = none) (s x : Operand) (t : TypeId)
    (ho : o.op = .call { callee := .builtin .append, args := #[s, x], argTypes := #[t, t] }) (ht : P.underlying t = some (.slice E)) (v : Value) (l : List α) (y : α) (hs : a.eval s = v) (hown : OwL f E k w B v l) (N c : Nat) (hx : a.eval x = .slice (some ⟨N, 0, none⟩) 1 c)
    (hN : RowV w N E (f y)) (hfl : (f y).length = k) (h1 : ∀ u ∈ f y, u.oneCell' = true) (hl : l.length ≤ 1000000) (hB : B ≤ w.heap.size)
    (h : ∀ v' w', OwL f E k w' B v' (l ++ [y]) → Only (fun j => v.ownBlock = some j) w w' → wpListIn F n P ops Q rest (a.put o.dst v') w') :
    wpListIn F n P ops Q (o :: rest) a w := by
  obtain ⟨i, z, hi, hz, hsz, hby, hzs, hk, hb⟩ := he
  refine wpListIn_append_own w hgd s x t ho B E i z k bytes ht hi hz hsz hby hzs hk v l.length (l.flatMap f) hs hown ⟨N, 0, none⟩ 1 c (f y) hx (by rw [hfl, Nat.one_mul]) (fun j u hj => by rw [Addr.add_mid, Nat.zero_add, rowV_cell hN]; exact hj) h1 (by unfold maxLen; omega) ?_ hB ?_
  · have := Nat.mul_le_mul (show l.length + 1 ≤ 1000001 by omega) hb
    omega
  · intro v' w' h2 h3 _
    refine h v' w' ?_ ((Only.refl _ w).grown h3 fun j _ e => e)
    unfold OwL
    rw [List.flatMap_append, List.length_append]
    simpa using h2
end
end Go.Proofs.YtekahmlppaabjaaGreatDoor

/-
  Layer 13: which tokens are right, the document's answer.
-/
namespace Go.Proofs.YtekahmlppaabjaaGreatDoor
open Go.RowKit
theorem right13_1 {s : ByteArray} {n a : Int} : Lx.right ⟨1, s, n, a⟩ ↔ n = 0 ∧ s ≠ Vl.mt ∧ Lx.word false s.data.toList = s.size ∧ s.size ≤ 16 := by simp [Lx.right]
theorem right13_2 {s : ByteArray} {n a : Int} : Lx.right ⟨2, s, n, a⟩ ↔ 0 ≤ n ∧ s = Vl.mt := by simp [Lx.right]
theorem right13_3 {s : ByteArray} {n a : Int} : Lx.right ⟨3, s, n, a⟩ ↔ n = 0 ∧ Vl.plain s := by simp [Lx.right]
theorem right13_4 {s : ByteArray} {n a : Int} : Lx.right ⟨4, s, n, a⟩ ↔ s.data.toList ∈ Lx.marks ∧ n = 0 := by simp [Lx.right]
theorem right13_0 {s : ByteArray} {k n a : Int} (h1 : k ≠ 1) (h2 : k ≠ 2) (h3 : k ≠ 3) (h4 : k ≠ 4) : ¬ Lx.right ⟨k, s, n, a⟩ := by simp [Lx.right, h1, h2, h3, h4]
end Go.Proofs.YtekahmlppaabjaaGreatDoor

/-
  Layer 13: which tokens are right, the document's answer: marks.
-/
namespace Go.Proofs.YtekahmlppaabjaaGreatDoor
open Go.RowKit
/-- it is none of the first k marks -/
def NotMark (l : List UInt8) (k : Nat) : Prop := l ∉ Lx.marks.take k
theorem notMark_next {l : List UInt8} {k : Nat} (h : NotMark l k) (hk : k < Lx.marks.length) (hp : Lx.marks[k] ≠ l) : NotMark l (k + 1) := by
  intro hm
  rw [List.take_succ_eq_append_getElem hk] at hm
  rcases List.mem_append.1 hm with hm | hm
  · exact h hm
  · simp only [List.mem_singleton] at hm; exact hp hm.symm
theorem notMark_end {l : List UInt8} (h : NotMark l 16) : l ∉ Lx.marks := by unfold NotMark at h; rwa [List.take_of_length_le] at h; rw [marks_len]; omega
end Go.Proofs.YtekahmlppaabjaaGreatDoor

/-
  Layer 13: a token's text, the document's.
-/
namespace Go.Proofs.YtekahmlppaabjaaGreatDoor
open Go.RowKit
def Lx.textT (t : Lx.T) : ByteArray × Int := if Lx.right t then (Lx.mk (Lx.textL t), 0) else (Vl.mt, 2)
end Go.Proofs.YtekahmlppaabjaaGreatDoor

/-
  Layer 13, the program's: what a token is written as, and its text.
-/
namespace Go.Proofs.YtekahmlppaabjaaGreatDoor
open Go.RowKit
namespace Lx
/-- what a token is written as -/
def wr (t : T) : ByteArray := if t.kind = 1 ∨ t.kind = 4 then t.s else if t.kind = 2 then textB ⟨1, t.n, Vl.mt⟩ else if t.kind = 3 then textB ⟨2, 0, t.s⟩ else Vl.mt
theorem wr_right {t : T} (h : right t) : wr t = mk (textL t) := by
  obtain ⟨k, s, n, a⟩ := t
  rcases h with ⟨rfl, _⟩ | ⟨rfl, _⟩ | ⟨rfl, _, h⟩ | ⟨rfl, _⟩
  · unfold wr textL; simp [list_mk]
  · unfold wr textL
    rw [if_neg (by simp), if_pos rfl, if_pos rfl, text_ok (.inr (.inl ⟨rfl, rfl⟩))]
    rfl
  · unfold wr textL
    rw [if_neg (by simp), if_neg (by simp), if_pos rfl, if_neg (by simp), if_pos rfl, text_ok (.inr (.inr (.inl ⟨rfl, rfl, h⟩)))]
    rfl
  · unfold wr textL; simp [list_mk]
theorem wr_size (t : T) (h0 : -9223372036854775808 ≤ t.n) (h1 : t.n ≤ 9223372036854775807) : (wr t).size ≤ t.s.size + 100 := by
  obtain ⟨k, s, n, a⟩ := t
  unfold wr
  split
  · exact Nat.le_add_right _ _
  · split
    · rw [text_ok (.inr (.inl ⟨rfl, rfl⟩))]
      have := Lib.itoa_length_le n h0 h1
      show (Lib.itoa n).toArray.size ≤ _
      rw [List.size_toArray]; omega
    · split
      · by_cases hr : Vl.right ⟨2, 0, s⟩
        · rw [text_ok hr]
          have h40 : s.size ≤ 40 := by
            rcases hr with ⟨h, _⟩ | ⟨h, _⟩ | ⟨_, _, h⟩ | ⟨h, _⟩
            · exact absurd (show (2 : Int) = 0 from h) (by decide)
            · exact absurd (show (2 : Int) = 1 from h) (by decide)
            · exact h.1
            · exact absurd (show (2 : Int) = 3 from h) (by decide)
          have := Vl.esc_len s.data.toList
          have hl : s.data.toList.length = s.size := Array.length_toList ..
          show (Vl.quoteL s.data.toList).toArray.size ≤ _
          rw [List.size_toArray]
          unfold Vl.quoteL
          simp only [List.length_cons, List.length_append, List.length_nil]
          omega
        · rw [text_bad hr]; exact Nat.zero_le _
      · exact Nat.zero_le _
theorem right_strip {t : T} : right (strip t) ↔ right t := Iff.rfl
theorem textT_yes {t : T} (h : (one (wr t).data.toList).2.2 = 0) (h2 : (one (wr t).data.toList).1 = strip t) : textT t = (wr t, 0) := by
  have hr := (one_ok h).1
  rw [h2] at hr
  have hr := right_strip.1 hr
  rw [show textT t = (mk (textL t), 0) from if_pos hr, wr_right hr]
theorem textT_no {t : T} (hn : t.n ≤ 9223372036854775807) (h : ¬ ((one (wr t).data.toList).2.2 = 0 ∧ (one (wr t).data.toList).2.1 = (wr t).size ∧ (one (wr t).data.toList).1 = strip t)) : textT t = (Vl.mt, 2) := by
  refine if_neg fun hr => h ?_
  have h1 := one_text hr hn [] (.inl rfl)
  rw [List.append_nil] at h1
  rw [wr_right hr]
  show (one (textL t)).2.2 = 0 ∧ (one (textL t)).2.1 = _ ∧ (one (textL t)).1 = strip t
  rw [h1]
  exact ⟨rfl, (List.size_toArray).symm, rfl⟩
end Lx
theorem neq_tok_same (a : Lx.T) (w : World) : (binOp BinOp.neq 45 (tokV a) (tokV a)).run Tryz.prog w = .ok (.bool false) w := by
  obtain ⟨k, s, n, p⟩ := a
  have hS : Tryz.prog.underlying 45 = some (.struct (Tryz.prog.fieldsOf 45)) := by kernel_rfl
  have hp : Tryz.prog.stoodInHeld 45 = false := by kernel_rfl
  rw [run_neq_struct, show (10000 : Nat) = 9999 + 1 from rfl, run_equalIn_agg w 9999 45 _ _ hS hp]
  have hU := Tryz.underlying45
  simp only [Program.fieldsOf, hU]
  go_simp
theorem neq_tok_other {a b : Lx.T} (h : ¬ a = b) (w : World) : (binOp BinOp.neq 45 (tokV a) (tokV b)).run Tryz.prog w = .ok (.bool true) w := by
  obtain ⟨k, s, n, p⟩ := a
  obtain ⟨k2, s2, n2, p2⟩ := b
  have hS : Tryz.prog.underlying 45 = some (.struct (Tryz.prog.fieldsOf 45)) := by kernel_rfl
  have hp : Tryz.prog.stoodInHeld 45 = false := by kernel_rfl
  rw [run_neq_struct, show (10000 : Nat) = 9999 + 1 from rfl, run_equalIn_agg w 9999 45 _ _ hS hp]
  have hU := Tryz.underlying45
  simp only [Program.fieldsOf, hU]
  go_simp
  by_cases h1 : k = k2
  · subst h1
    by_cases h2 : s = s2
    · subst h2
      by_cases h3 : n = n2
      · subst h3
        have h4 : ¬ p = p2 := fun e => h (by rw [e])
        simp [h4]
      · simp [h3]
    · have e2 : ¬ s.toList = s2.toList := fun e => h2 (Sl.ba_ext (by rw [← ByteArray.toList_eq, ← ByteArray.toList_eq]; exact e))
      simp [e2]
  · simp [h1]
theorem guard_tok (op : BinOp) (w : World) (x y : Operand) (X Y : Array Value) : (eqGuard op 45 x y (.agg X) (.agg Y)).run Tryz.prog w = .ok () w :=
  run_eqGuard_agg w op _ x y X Y (by kernel_rfl)
end Go.Proofs.YtekahmlppaabjaaGreatDoor

/-
  Layer 13, the program's: a token's text.
-/
namespace Go.Proofs.YtekahmlppaabjaaGreatDoor
open Go.RowKit
theorem Lx.wr_strip (t : Lx.T) : Lx.wr (Lx.strip t) = Lx.wr t := rfl
end Go.Proofs.YtekahmlppaabjaaGreatDoor

/-
  Layer 13: tokens joined, the document's.
-/
namespace Go.Proofs.YtekahmlppaabjaaGreatDoor
open Go.RowKit
namespace Lx
theorem join_snoc (t : T) : ∀ l : List T, l ≠ [] → join (l ++ [t]) = join l ++ 32 :: textL t
  | [], h => absurd rfl h
  | [u], _ => rfl
  | u :: v :: l, _ => by
    show textL u ++ 32 :: join (v :: l ++ [t]) = (textL u ++ 32 :: join (v :: l)) ++ 32 :: textL t
    rw [join_snoc t (v :: l) (by simp)]; simp
instance (L : List T) : Decidable (∀ t ∈ L, right t) := inferInstance
def joinS (L : List T) : ByteArray × Int := if ∀ t ∈ L, right t then (mk (join L), 0) else (Vl.mt, 2)
theorem mk_app (a b : List UInt8) : mk a ++ mk b = mk (a ++ b) := by apply Sl.ba_ext; rw [ByteArray.data_append]; simp
theorem joinS_not {L : List T} {k : Nat} (hk : k < L.length) (h : ¬ right L[k]) : joinS L = (Vl.mt, 2) := if_neg fun ha => h (ha _ (List.getElem_mem hk))
def RightTo (L : List T) (k : Nat) : Prop := ∀ t ∈ L.take k, right t
theorem rightTo_next {L : List T} {k : Nat} (h : RightTo L k) (hk : k < L.length) (hr : right L[k]) : RightTo L (k + 1) := by
  intro t ht
  rw [List.take_succ_eq_append_getElem hk] at ht
  rcases List.mem_append.1 ht with ht | ht
  · exact h t ht
  · simp only [List.mem_singleton] at ht; subst ht; exact hr
theorem joinS_end {L : List T} {k : Nat} (h : RightTo L k) (hk : ¬ k < L.length) : joinS L = (mk (join (L.take k)), 0) := by
  unfold RightTo at h
  rw [List.take_of_length_le (by omega)] at h ⊢
  exact if_pos h
theorem join_next0 {L : List T} (hk : 0 < L.length) : mk (join (L.take 0)) ++ mk (textL L[0]) = mk (join (L.take 1)) := by
  rw [List.take_succ_eq_append_getElem hk, mk_app]; rfl
theorem join_next {L : List T} {k : Nat} (h0 : 0 < k) (hk : k < L.length) : mk (join (L.take k)) ++ ⟨#[32]⟩ ++ mk (textL L[k]) = mk (join (L.take (k + 1))) := by
  rw [List.take_succ_eq_append_getElem hk, join_snoc _ _ (by intro h; have := congrArg List.length h; rw [List.length_take, Nat.min_eq_left (by omega)] at this; simp at this; omega)]
  rw [show (⟨#[32]⟩ : ByteArray) = mk [32] from rfl, mk_app, mk_app]; simp
theorem textL_size {t : T} (h : right t) (hn : t.n ≤ 9223372036854775807) : (textL t).length ≤ 85 := by
  obtain ⟨k, s, n, a⟩ := t
  have hl : s.data.toList.length = s.size := Array.length_toList ..
  rcases h with ⟨rfl, _, _, _, h⟩ | ⟨rfl, h, _⟩ | ⟨rfl, _, h⟩ | ⟨rfl, h, _⟩
  · show s.data.toList.length ≤ 85
    have : s.size ≤ 16 := h
    omega
  · have h0 : 0 ≤ n := h
    have h1 : n ≤ 9223372036854775807 := hn
    have := Lib.itoa_length_le n (by omega) h1
    show (Lib.itoa n).length ≤ 85
    omega
  · show (Vl.quoteL s.data.toList).length ≤ 85
    have h40 : s.size ≤ 40 := h.1
    have := Vl.esc_len s.data.toList
    unfold Vl.quoteL
    simp only [List.length_cons, List.length_append, List.length_nil]
    omega
  · have hm : ∀ m ∈ marks, m.length ≤ 85 := by decide
    exact hm _ h
theorem join_size (L : List T) (hn : ∀ t ∈ L, t.n ≤ 9223372036854775807) : ∀ k : Nat, RightTo L k → (mk (join (L.take k))).size ≤ 86 * k
  | 0, _ => by simp [join, ByteArray.size]
  | k + 1, h => by
    have hk : RightTo L k := fun t ht => h t (List.take_subset_take_left L (Nat.le_succ k) ht)
    have ih := join_size L hn k hk
    by_cases hlt : k < L.length
    · have hr : right L[k] := h _ (by rw [List.take_succ_eq_append_getElem hlt]; exact List.mem_append_right _ (List.mem_singleton.2 rfl))
      have ht := textL_size hr (hn _ (List.getElem_mem hlt))
      have hz : ∀ l : List UInt8, (mk l).size = l.length := fun l => List.size_toArray
      rw [hz] at ih ⊢
      by_cases h0 : k = 0
      · subst h0
        have := congrArg ByteArray.size (join_next0 hlt)
        rw [ByteArray.size_append, hz, hz, hz] at this
        have h00 : (join (List.take 0 L)).length = 0 := rfl
        show (join (List.take 1 L)).length ≤ 86
        omega
      · have := congrArg ByteArray.size (join_next (by omega) hlt)
        have h1 : (⟨#[32]⟩ : ByteArray).size = 1 := rfl
        rw [ByteArray.size_append, ByteArray.size_append, h1, hz (join (L.take k)), hz (textL L[k]), hz (join (L.take (k + 1)))] at this
        omega
    · rw [List.take_of_length_le (by omega)] at ih ⊢
      omega
end Lx
theorem readsT13_at {w : World} {a : Option Addr} {L : List Lx.T} (h : ReadsT13 w a L) (k : Nat) (hk : k < L.length) : ∃ b off, a = some ⟨b, off, none⟩ ∧ w.cell? ⟨b, off + k * 4, none⟩ = some (.int .i64 L[k].kind) ∧ w.cell? ⟨b, off + k * 4 + 1, none⟩ = some (.string L[k].s) ∧ w.cell? ⟨b, off + k * 4 + 2, none⟩ = some (.int .i64 L[k].n) ∧ w.cell? ⟨b, off + k * 4 + 3, none⟩ = some (.int .i64 L[k].spot) := h k hk
end Go.Proofs.YtekahmlppaabjaaGreatDoor

/-
  strings.Join: the library's contract at this program's own numbers.
-/
namespace Go.Proofs
open Go.Shelf
namespace YtekahmlppaabjaaGreatDoor
open Go.RowKit
end YtekahmlppaabjaaGreatDoor
end Go.Proofs

/-
  Layer 13, the program's: tokens joined.
-/
namespace Go.Proofs.YtekahmlppaabjaaGreatDoor
open Go.RowKit
namespace Lx
def texts (L : List T) : List ByteArray := L.map fun t => mk (textL t)
theorem texts_join : ∀ L : List T, Lib.join ((texts L).map (·.data.toList)) [32] = join L
  | [] => rfl
  | [_] => by simp [texts, Lib.join, join]
  | t :: u :: l => by
    have ih := texts_join (u :: l)
    show Lib.join (textL t :: textL u :: ((texts l).map (·.data.toList))) [32] = textL t ++ 32 :: join (u :: l)
    rw [← ih]
    show _ = textL t ++ 32 :: Lib.join (textL u :: ((texts l).map (·.data.toList))) [32]
    simp [Lib.join]
theorem texts_next {L : List T} {k : Nat} (hk : k < L.length) : texts (L.take (k + 1)) = texts (L.take k) ++ [mk (textL L[k])] := by
  unfold texts
  rw [List.take_succ_eq_append_getElem hk, List.map_append]; rfl
theorem texts_len {L : List T} {k : Nat} (hk : k ≤ L.length) : (texts (L.take k)).length = k := by
  unfold texts; rw [List.length_map, List.length_take, Nat.min_eq_left hk]
end Lx
end Go.Proofs.YtekahmlppaabjaaGreatDoor

/-
  Layer 13: two lists of tokens compared, the document's.
-/
namespace Go.Proofs.YtekahmlppaabjaaGreatDoor
open Go.RowKit
namespace Lx
/-- what is compared of a token -/
def key (p : Bool) (t : T) : T := if p then t else strip t
def SameK (p : Bool) (L M : List T) (k : Nat) : Prop := (L.map (key p)).take k = (M.map (key p)).take k
theorem sameK_next {p : Bool} {L M : List T} {k : Nat} (h : SameK p L M k) (h1 : k < L.length) (h2 : k < M.length) (hx : key p L[k] = key p M[k]) : SameK p L M (k + 1) := by
  have h1' : k < (L.map (key p)).length := by simpa using h1
  have h2' : k < (M.map (key p)).length := by simpa using h2
  show (L.map (key p)).take (k + 1) = (M.map (key p)).take (k + 1)
  rw [List.take_succ_eq_append_getElem h1', List.take_succ_eq_append_getElem h2', List.getElem_map, List.getElem_map, hx, show (L.map (key p)).take k = (M.map (key p)).take k from h]
theorem sameK_full {p : Bool} {L M : List T} {k : Nat} (h : SameK p L M k) (hl : L.length = M.length) (hk : ¬ k < L.length) : L.map (key p) = M.map (key p) := by
  unfold SameK at h
  rwa [List.take_of_length_le (by rw [List.length_map]; omega), List.take_of_length_le (by rw [List.length_map]; omega)] at h
theorem sameK_not {p : Bool} {L M : List T} {k : Nat} (h1 : k < L.length) (h2 : k < M.length) (hx : ¬ key p L[k] = key p M[k]) : ¬ L.map (key p) = M.map (key p) := fun e => by
  have h1' : k < (L.map (key p)).length := by simpa using h1
  have h2' : k < (M.map (key p)).length := by simpa using h2
  have h3 : (L.map (key p))[k]? = (M.map (key p))[k]? := by rw [e]
  rw [List.getElem?_eq_getElem h1', List.getElem?_eq_getElem h2', List.getElem_map, List.getElem_map] at h3
  exact hx (Option.some.inj h3)
theorem key_kind {p : Bool} {a b : T} (h : key p a = key p b) : a.kind = b.kind := by
  cases p with
  | false =>
    have e : (strip a).kind = (strip b).kind := by rw [show strip a = strip b from h]
    exact e
  | true => exact congrArg T.kind (show a = b from h)
theorem key_s {p : Bool} {a b : T} (h : key p a = key p b) : a.s = b.s := by
  cases p with
  | false =>
    have e : (strip a).s = (strip b).s := by rw [show strip a = strip b from h]
    exact e
  | true => exact congrArg T.s (show a = b from h)
theorem key_n {p : Bool} {a b : T} (h : key p a = key p b) : a.n = b.n := by
  cases p with
  | false =>
    have e : (strip a).n = (strip b).n := by rw [show strip a = strip b from h]
    exact e
  | true => exact congrArg T.n (show a = b from h)
end Lx
end Go.Proofs.YtekahmlppaabjaaGreatDoor

/-
  Layer 13: two lists of tokens compared, the document's: walked.
-/
namespace Go.Proofs.YtekahmlppaabjaaGreatDoor
open Go.RowKit
end Go.Proofs.YtekahmlppaabjaaGreatDoor

/-
  Layer 13's laws: lives (the document's example).
-/
namespace Go.Proofs.YtekahmlppaabjaaGreatDoor
open Go.RowKit
def exL : List Lx.T := [⟨1, ⟨#[97]⟩, 0, 0⟩, ⟨4, ⟨#[60, 61]⟩, 0, 1⟩, ⟨2, ⟨#[]⟩, 12, 4⟩]
theorem ex_lex : lexS ⟨#[97, 60, 61, 32, 49, 50]⟩ = (exL, 0, 0) := by kernel_rfl
theorem ex_a : Lx.nameB ⟨#[97]⟩ = true := by kernel_rfl
theorem ex_and : Lx.nameB ⟨#[97, 110, 100]⟩ = false := by kernel_rfl
theorem ex_same : (open Classical in decide (exL.map (Lx.key true) = exL.map (Lx.key true))) = true := by simp
theorem ex_reads (w : World) (g : Nat) (h : RowV w g 45 (exL.flatMap tCl)) : ReadsT13 w (some ⟨g, 0, none⟩) exL := by
  intro i hi
  have hi3 : i < 3 := hi
  refine ⟨g, 0, rfl, ?_⟩
  match i, hi3 with
  | 0, _ => exact ⟨rowV_cell h 0, rowV_cell h 1, rowV_cell h 2, rowV_cell h 3⟩
  | 1, _ => exact ⟨rowV_cell h 4, rowV_cell h 5, rowV_cell h 6, rowV_cell h 7⟩
  | 2, _ => exact ⟨rowV_cell h 8, rowV_cell h 9, rowV_cell h 10, rowV_cell h 11⟩
end Go.Proofs.YtekahmlppaabjaaGreatDoor

/-
  Layer 13: LexReads walked.
-/
namespace Go.Proofs.YtekahmlppaabjaaGreatDoor
open Go.RowKit
/-- what the walks want of the listed variables -/
def Facts13 (w : World) : Prop := Pow10 w ∧ ErrR w
namespace Lx
theorem lex_count : ∀ (k a : Nat) (l : List UInt8), (lex k a l).1.length ≤ k
  | 0, _, _ => Nat.le_refl _
  | _ + 1, _, [] => Nat.zero_le _
  | k + 1, a, c :: r => by
    by_cases h : c = 32
    · subst h; rw [lex_blank]; exact Nat.le_succ_of_le (lex_count k _ _)
    · by_cases he : (one (c :: r)).2.2 = 0
      · rw [lex_more h he]
        split
        · exact Nat.zero_le _
        · exact Nat.succ_le_succ (lex_count k _ _)
      · rw [lex_err h he]; exact Nat.zero_le _
end Lx
theorem lexS_count (s : ByteArray) : (lexS s).1.length ≤ 200 := by
  have hl : s.data.toList.length = s.size := Array.length_toList ..
  unfold lexS
  split
  · exact Nat.zero_le _
  · have := Lx.lex_count s.data.toList.length 0 s.data.toList
    show (Lx.lex _ _ _).1.length ≤ 200
    omega
end Go.Proofs.YtekahmlppaabjaaGreatDoor

/-
  Layer 13's laws: arguments that are tokens, and lists of them, opened.
-/
namespace Go.Proofs.YtekahmlppaabjaaGreatDoor
open Go.ChangeShapes Go.WideShapes Go.RowKit
/-- what a token that an argument is has of bounds -/
def FitsT (t : Lx.T) : Prop := (-9223372036854775808 ≤ t.n ∧ t.n ≤ 9223372036854775807) ∧ (-9223372036854775808 ≤ t.spot ∧ t.spot ≤ 9223372036854775807) ∧ t.s.size ≤ maxLen
/-- a list of tokens that an argument may be -/
def ReadsTF (w : World) (a : Option Addr) (L : List Lx.T) : Prop := ReadsT13 w a L ∧ ∀ x ∈ L, FitsT x
section
variable {H : Type} {enc : TypeId × Value → H} {w : World} {base : Nat} {spare : Nat → Bool} {held : Bool}
theorem add_mid13 (b off k : Nat) : (⟨b, off, none⟩ : Addr).add k = ⟨b, off + k, none⟩ := by unfold Addr.add; split <;> simp_all
theorem one_cell13 {l : List Value} {k : Nat} (h : k < l.length) : (l.drop k).take 1 = [l[k]] := by
  rw [List.drop_eq_getElem_cons h]; rfl
set_option maxRecDepth 100000 in
theorem tok_frame {fuel : Nat} {cs : List Value} {x : DataW H × List MemPlace} (h : DataW.trod enc Tryz.prog w base spare held fuel 45 cs = some x) : ∃ l : Lx.T, cs = (tokC l).toList ∧ FitsT l := by
  have hC : Tryz.prog.cellsOf 45 = 4 := by kernel_rfl
  obtain ⟨ys, n', _, _, hcl, hyl, hf⟩ := DataW.trod_struct Tryz.underlying45 h
  rw [hC] at hcl
  have hyl4 : ys.length = 4 := hyl
  have g0 : DataW.trod enc Tryz.prog w base spare held n' 43 ((cs.drop 0).take (Tryz.prog.cellsOf 43)) = ys[0]? := hf 0 _ rfl
  have g1 : DataW.trod enc Tryz.prog w base spare held n' 9 ((cs.drop 1).take (Tryz.prog.cellsOf 9)) = ys[1]? := hf 1 _ rfl
  have g2 : DataW.trod enc Tryz.prog w base spare held n' 3 ((cs.drop 2).take (Tryz.prog.cellsOf 3)) = ys[2]? := hf 2 _ rfl
  have g3 : DataW.trod enc Tryz.prog w base spare held n' 3 ((cs.drop 3).take (Tryz.prog.cellsOf 3)) = ys[3]? := hf 3 _ rfl
  rw [List.getElem?_eq_getElem (by omega)] at g0 g1 g2 g3
  have kk : Tryz.prog.cellsOf 43 = 1 := by kernel_rfl
  have k0 : Tryz.prog.cellsOf 3 = 1 := by kernel_rfl
  have ks : Tryz.prog.cellsOf 9 = 1 := by kernel_rfl
  rw [kk, one_cell13 (by omega)] at g0
  rw [ks, one_cell13 (by omega)] at g1
  rw [k0, one_cell13 (by omega)] at g2 g3
  obtain ⟨z0, e0, _, _⟩ := DataW.trod_int Tryz.underlying43 g0
  obtain ⟨z1, e1, _, w1⟩ := DataW.trod_string Tryz.underlying9 g1
  obtain ⟨z2, e2, _, w2⟩ := DataW.trod_int Tryz.underlying3 g2
  obtain ⟨z3, e3, _, w3⟩ := DataW.trod_int Tryz.underlying3 g3
  simp only [List.cons.injEq, and_true] at e0 e1 e2 e3
  refine ⟨⟨z0, z1, z2, z3⟩, ?_, ?_⟩
  · obtain ⟨a, b, c, d, rfl⟩ : ∃ a b c d, cs = [a, b, c, d] := by
      rcases cs with _ | ⟨a, _ | ⟨b, _ | ⟨c, _ | ⟨d, _ | ⟨e, r⟩⟩⟩⟩⟩
      · exact absurd hcl (by simp)
      · exact absurd hcl (by simp)
      · exact absurd hcl (by simp)
      · exact absurd hcl (by simp)
      · exact ⟨a, b, c, d, rfl⟩
      · exact absurd hcl (by simp)
    simp only [List.getElem_cons_zero, List.getElem_cons_succ] at e0 e1 e2 e3
    rw [e0, e1, e2, e3]
  · exact ⟨bounds_i64 w2, bounds_i64 w3, w1⟩
theorem toks_frame {fuel : Nat} {cs : List Value} {x : DataW H × List MemPlace} (h : DataW.trod enc Tryz.prog w base spare held fuel 39 cs = some x) (hsp : ∀ b, spare b = true) :
    ∃ (a : Option Addr) (L : List Lx.T) (cap : Nat), cs = [.slice a L.length cap] ∧ ReadsTF w a L ∧ L.length ≤ maxLen := by
  have hC : Tryz.prog.cellsOf 45 = 4 := by kernel_rfl
  rcases Go.Deep.open_slice Tryz.underlying39 h with ⟨hcs, _⟩ | ⟨a, len, cap, m, n, D, Pl, hcs, _, hl, hm, hmm, _, hi⟩
  · exact ⟨none, [], 0, hcs, ⟨readsT13_none _ _, fun x hx => by simp at hx⟩, Nat.zero_le _⟩
  · rw [hsp, if_pos rfl] at hmm
    subst hmm
    have one : ∀ i, i < m → ∃ y : Lx.T, (w.cell? (a.add (i * 4)) = some (.int .i64 y.kind) ∧ w.cell? (a.add (i * 4 + 1)) = some (.string y.s) ∧ w.cell? (a.add (i * 4 + 2)) = some (.int .i64 y.n) ∧ w.cell? (a.add (i * 4 + 3)) = some (.int .i64 y.spot)) ∧ FitsT y := by
      intro i him
      obtain ⟨cs', hc, ht⟩ := hi i him
      rw [hC] at hc
      obtain ⟨_, hcl, hat⟩ := World.cells?_some hc
      obtain ⟨y, hy, hf⟩ := tok_frame ht
      have c0 := hat 0 (by omega)
      have c1 := hat 1 (by omega)
      have c2 := hat 2 (by omega)
      have c3 := hat 3 (by omega)
      rw [Go.Deep.add_add] at c0 c1 c2 c3
      subst hy
      exact ⟨y, ⟨c0, c1, c2, c3⟩, hf⟩
    have : Inhabited Lx.T := ⟨Lx.no⟩
    obtain ⟨f, hfam⟩ := Go.Deep.choose_lt one
    have hlen : ((List.range len).map f).length = len := by rw [List.length_map, List.length_range]
    have eL : ∀ i (h : i < ((List.range len).map f).length), ((List.range len).map f)[i] = f i := fun i h => by rw [List.getElem_map, List.getElem_range]
    refine ⟨some a, (List.range len).map f, m, by rw [hlen]; exact hcs, ⟨fun i hi2 => ?_, fun x hx => ?_⟩, by rw [hlen]; omega⟩
    · have hi3 := hi2
      rw [hlen] at hi3
      have hy := hfam i (by omega)
      rw [eL i hi2]
      have hc0 := hfam 0 (by omega)
      have ha := hc0.1.1
      have e0 : a.add (0 * 4) = a := by simp [Addr.add]
      rw [e0] at ha
      obtain ⟨b, o, s⟩ := a
      obtain rfl : s = none := World.cell?_spot ha
      obtain ⟨⟨h1, h2, h3, h4⟩, _⟩ := hy
      rw [add_mid13] at h1 h2 h3 h4
      exact ⟨b, o, rfl, h1, by rw [Nat.add_assoc]; exact h2, by rw [Nat.add_assoc]; exact h3, by rw [Nat.add_assoc]; exact h4⟩
    · obtain ⟨i, hi2, rfl⟩ := List.getElem_of_mem hx
      rw [eL i hi2]
      rw [hlen] at hi2
      exact (hfam i (by omega)).2
end
end Go.Proofs.YtekahmlppaabjaaGreatDoor

/-
  Layer 13: LexTexts walked.
-/
namespace Go.Proofs.YtekahmlppaabjaaGreatDoor
open Go.RowKit
/-- the loop's token: the last one that was gone by -/
structure LastAt (w : World) (x : Lx.T) (wr : World) : Prop where
  row : RowV wr w.heap.size 45 (tokC x).toList
  fit : x.s.size ≤ 300 ∧ -9223372036854775808 ≤ x.n ∧ x.n ≤ 9223372036854775807
  bel : Below w.heap.size w wr
end Go.Proofs.YtekahmlppaabjaaGreatDoor

/-
  Layer 13: LexBack walked.
-/
namespace Go.Proofs.YtekahmlppaabjaaGreatDoor
open Go.RowKit
theorem joinS_right {L : List Lx.T} (h : ∀ t ∈ L, Lx.right t) : Lx.joinS L = (Lx.mk (Lx.join L), 0) := if_pos h
theorem joinS_wrong {L : List Lx.T} (h : ¬ ∀ t ∈ L, Lx.right t) : Lx.joinS L = (Vl.mt, 2) := if_neg h
theorem lexS_big {s : ByteArray} (h : 200 < s.size) : lexS s = ([], 0, 5) := if_pos h
theorem lexS_join {L : List Lx.T} (h : ¬ 200 < (Lx.mk (Lx.join L)).size) (hr : ∀ t ∈ L, Lx.right t) (hn : ∀ t ∈ L, t.n ≤ 9223372036854775807) : ∃ m, lexS (Lx.mk (Lx.join L)) = (m, 0, 0) ∧ Lx.Same m L := by
  obtain ⟨m, h1, h2⟩ := Lx.join_back L 0 fun t ht => ⟨hr t ht, hn t ht⟩
  exact ⟨m, (if_neg h).trans h1, h2⟩
end Go.Proofs.YtekahmlppaabjaaGreatDoor

/-
  Layer 13: LexAgain walked.
-/
namespace Go.Proofs.YtekahmlppaabjaaGreatDoor
open Go.RowKit
namespace Lx
theorem lex_place : ∀ (k a : Nat) (l : List UInt8), (lex k a l).2.2 ≠ 0 → (lex k a l).1 = [] ∧ ∃ p : Nat, (lex k a l).2.1 = (p : Int) ∧ p ≤ a + l.length
  | 0, _, _, h => absurd rfl h
  | _ + 1, _, [], h => absurd rfl h
  | k + 1, a, c :: r, h => by
    by_cases hc : c = 32
    · subst hc
      rw [lex_blank] at h ⊢
      obtain ⟨h1, p, h2, h3⟩ := lex_place k _ _ h
      exact ⟨h1, p, h2, by rw [List.length_cons]; omega⟩
    · by_cases he : (one (c :: r)).2.2 = 0
      · have hle := (one_ok he).2.2.2.1
        rw [lex_more hc he] at h ⊢
        split
        · rename_i h2
          obtain ⟨h1, p, h4, h3⟩ := lex_place k _ _ h2
          refine ⟨rfl, p, h4, ?_⟩
          rw [List.length_drop] at h3
          omega
        · rename_i h2
          rw [if_neg h2] at h
          exact absurd rfl h
      · rw [lex_err hc he]; exact ⟨rfl, a, rfl, Nat.le_add_right _ _⟩
theorem laid_at {s : List UInt8} {e : Nat} {L : List T} {k : Nat} (hk : k < L.length) (h : Laid s e (L.drop k)) : ∃ a : Nat, L[k].spot = (a : Int) ∧ e ≤ a ∧ a + (textL L[k]).length ≤ s.length ∧ (∀ j, e ≤ j → j < a → s[j]? = some 32) ∧ (s.drop a).take (textL L[k]).length = textL L[k] ∧ right L[k] ∧ L[k].n ≤ maxI ∧ Laid s (a + (textL L[k]).length) (L.drop (k + 1)) := by
  rw [List.drop_eq_getElem_cons hk] at h
  exact h
end Lx
theorem lexS_place {s : ByteArray} (h : (lexS s).2.2 ≠ 0) : (lexS s).1 = [] ∧ ∃ p : Nat, (lexS s).2.1 = (p : Int) ∧ p ≤ s.size := by
  have hl : s.data.toList.length = s.size := Array.length_toList ..
  revert h
  unfold lexS
  split
  · exact fun _ => ⟨rfl, 0, rfl, Nat.zero_le _⟩
  · intro h
    obtain ⟨h1, p, h2, h3⟩ := Lx.lex_place _ _ _ h
    exact ⟨h1, p, h2, by omega⟩
theorem lexS_laid {s : ByteArray} (h : (lexS s).2.2 = 0) : (lexS s).2.1 = 0 ∧ Lx.Laid s.data.toList 0 (lexS s).1 := by
  revert h
  unfold lexS
  split
  · intro h; exact absurd h (by decide)
  · intro h
    have h0 := Lx.lexAt_zero _ _ h
    refine ⟨h0, Lx.lex_laid s.data.toList s.data.toList.length 0 _ (Nat.le_of_eq (Nat.sub_zero _)) (Nat.zero_le _) ?_ 0 (Nat.le_refl _) (fun j _ h2 => by omega)⟩
    rw [List.drop_zero]
    exact Prod.ext rfl (Prod.ext h0 h)
theorem blank_at {s : ByteArray} {j : Nat} (hj : j < s.size) (h : s.data.toList[j]? = some 32) : s[j] = 32 := by
  have hl : j < s.data.toList.length := by simpa using hj
  rw [List.getElem?_eq_getElem hl] at h
  exact Option.some.inj h
/-- what the loop over the tokens knows -/
structure AgainAt (s : ByteArray) (L : List Lx.T) (k e : Nat) (w wr : World) : Prop where
  laid : Lx.Laid s.data.toList e (L.drop k)
  bel : Below w.heap.size w wr
theorem text_right {t : Lx.T} (h : Lx.right t) : Lx.textT t = (Lx.mk (Lx.textL t), 0) := if_pos h
theorem right_small {t : Lx.T} (h : Lx.right t) : t.s.size ≤ 40 ∧ -9223372036854775808 ≤ t.n := by
  obtain ⟨k, s, n, a⟩ := t
  have hl : s.data.toList.length = s.size := Array.length_toList ..
  rcases h with ⟨_, h, _, _, h2⟩ | ⟨_, h, h2⟩ | ⟨_, h, h2⟩ | ⟨_, h, h2⟩
  · have h : n = 0 := h
    have h2 : s.size ≤ 16 := h2
    exact ⟨by show s.size ≤ 40; omega, by show _ ≤ n; omega⟩
  · have h : 0 ≤ n := h
    have h2 : s = Vl.mt := h2
    exact ⟨by show s.size ≤ 40; rw [h2]; decide, by show _ ≤ n; omega⟩
  · have h : n = 0 := h
    exact ⟨h2.1, by show _ ≤ n; omega⟩
  · have h2 : n = 0 := h2
    have hm : ∀ m ∈ Lx.marks, m.length ≤ 40 := by decide
    have h3 : s.data.toList.length ≤ 40 := hm _ h
    exact ⟨by show s.size ≤ 40; omega, by show _ ≤ n; omega⟩
theorem cut_text {s : ByteArray} {a : Nat} {l : List UInt8} (h : (s.data.toList.drop a).take l.length = l) : s.extract a (a + (Lx.mk l).size) = Lx.mk l := by
  have hz : (Lx.mk l).size = l.length := List.size_toArray
  apply Sl.ba_ext
  rw [Sl.ext_list, hz, Nat.add_sub_cancel_left, h]
end Go.Proofs.YtekahmlppaabjaaGreatDoor

/-
  A region that draws its order, in a round of a range over a function: by the plain law (QTail), where no operation of it is a 'defer' and the round's post lets nothing be outgrown.
-/
namespace Go.Proofs.YtekahmlppaabjaaGreatDoor
open Go.RowKit
def noDefer (l : List Oper) : Bool := l.all fun o => match o.op with | .defer _ => false | _ => true
section
variable {P : Program} {ops : Array Oper} {md : Region.Mode} {Q : Exit → Act → World → Prop} {r n : Nat}
theorem stepsIn_round {m m' : Machine} (h : Go.Steps P m m') : StepsIn (Machine.fenced P (Fence.wide.inRound r)) P m m' := stepsIn_wide.2 h
theorem wpIn_of_wp {o : Oper} {a : Act} {w : World} {K K' : Act → World → Prop} (hd : ∀ c, o.op ≠ .defer c) (hK : ∀ a w, K a w → K' a w) (h : o.wp P a w K Q) : o.wpIn (Fence.wide.inRound r) n P a w K' Q := by
  unfold Oper.wpIn
  refine ⟨fun _ _ => trivial, ?_⟩
  rw [Fence.inRound_round, Oper.semAt_some _ _ _ hd]
  unfold Oper.wp at h
  have hdep : (Fence.wide.inRound r).depth.isSome = true → 1 ≤ n := fun h => by cases h
  generalize (execOp a.eval o).run P w = res at *
  cases res with
  | ok x w' =>
    cases x with
    | value v => exact hK _ _ h
    | skip => exact hK _ _ h
    | defer d => exact hK _ _ h
    | enter f args =>
      refine ⟨hdep, CallsIn.inRound r (callsIn_wide.2 (Calls.mono h fun e w'' he => ?_))⟩
      cases e with
      | returned v => exact hK _ _ he
      | panicked c => exact he
      | outgrown => exact he
    | row row args =>
      refine ⟨hdep, fun c cs _ => ?_⟩
      obtain ⟨v, w'', hR, hs⟩ := (show Rows P row args w' _ from h) c cs
      exact ⟨v, w'', hK _ _ hR, stepsIn_round hs⟩
    | _ => exact False.elim h
  | halt x w' =>
    cases x <;> first | exact h | exact False.elim h
theorem wpOpIn_of_wpOp {i : Nat} {a : Act} {w : World} {K K' : Act → World → Prop} (hd : noDefer ops.toList = true) (hNo : ∀ a w, ¬ Q .outgrown a w) (hK : ∀ a w, K a w → K' a w) (h : wpOp P ops Q i K a w) : wpOpIn (Fence.wide.inRound r) n P ops Q i K' a w := by
  unfold wpOp at h
  unfold wpOpIn
  cases ho : ops[i]? with
  | none => rw [ho] at h; exact hK _ _ h
  | some o =>
    rw [ho] at h
    dsimp only at h ⊢
    have hmem : o ∈ ops.toList := by
      have := Array.mem_of_getElem? ho
      simpa using this
    have hdo : ∀ c, o.op ≠ .defer c := fun c hc => by
      have := List.all_eq_true.1 hd o hmem
      rw [hc] at this
      cases this
    split
    · rename_i hw
      rw [if_pos hw] at h
      rcases h with h | ⟨_, a', w', h⟩
      · exact wpIn_of_wp hdo hK h
      · exact absurd h (hNo _ _)
    · rename_i hw
      rw [if_neg hw] at h
      exact ⟨fun _ _ => trivial, hK _ _ h⟩
theorem wpAnyIn_of_wpAny (hd : noDefer ops.toList = true) (hNo : ∀ a w, ¬ Q .outgrown a w) : ∀ (fuel : Nat) (listed : Array Bool) (a : Act) (w : World), wpAny P md ops Q fuel listed a w → wpAnyIn (Fence.wide.inRound r) n P md ops Q fuel listed a w
  | 0, _, _, _, h => h
  | fuel + 1, _, _, _, h => ⟨h.1, fun i hi => wpOpIn_of_wpOp hd hNo (fun a' w' => wpAnyIn_of_wpAny hd hNo fuel _ a' w') (h.2 i hi)⟩
variable {C : World → Prop}
theorem wpIn_round_quiet_tail {id : Nat} {a : Act} {w : World} {l : List Oper} (k : Nat) (hm : P.follows .mixedOrders = true) (hB : Region.lexTailB .any l.toArray k = true) (hd : noDefer l = true) (hNo : ∀ a w, ¬ Q .outgrown a w) (hC : C w.drew)
    (h : wpQuiet P l.toArray C (fun a' => ∀ w', C w' → wpList P l.toArray Q (l.drop k) a' w') (l.take k) a) : (Code.region id l.toArray true).wpIn (Fence.wide.inRound r) n P Q a w := by
  simp only [Region.lexTailB, Bool.and_eq_true, decide_eq_true_eq] at hB
  obtain ⟨⟨⟨⟨hsel, hn⟩, hs⟩, hc⟩, hlex⟩ := hB
  have hn' : k < l.length := by simpa using hn
  have htl : (l.take k).length = k := by simp; omega
  have hdl : (l.drop k).length = l.toArray.size - k := by simp
  have inv0 : HeadInv .any l.toArray k (Array.replicate l.toArray.size false) :=
    ⟨by simp, fun j oj _ hl => (by rw [getD_replicate_false] at hl; cases hl), fun t _ ht => getD_in (by simpa using ht) (getD_replicate_false _ _)⟩
  have H := headQ_lex (md := .any) (g := l.toArray.size - k) hsel hs hc hn (l.take k) 0 _ a (fun j hj => by
    have hj' : j < k := by rw [htl] at hj; exact hj
    simp [hj']) (by simpa using htl) inv0 (by rw [htl]; exact hlex) h
  have := headQ_any (Q := Q) (g := l.toArray.size - k) (fun listed a' hL w' hw' => by
    have := wpAny_of_seq (md := .any) (Q' := Q) (l.drop k) k listed a' w' (fun j => by simp [List.getElem?_drop]) (by rw [hdl]; exact hL.1) (hL.2 w' hw')
    rwa [hdl] at this) _ _ _ H w.drew hC
  rw [htl, show k + (l.toArray.size - k) = l.toArray.size by omega] at this
  exact wpIn_region_any hm (wpAnyIn_of_wpAny (by simpa using hd) hNo _ _ _ _ this)
end
section
variable {F : Fence} {n : Nat} {P : Program} {w : World} {ops : Array Oper} {rest : List Oper} {o : Oper} {a : Act} {Q : Exit → Act → World → Prop}
/-- a whole array stored, inside a fence -/
theorem wpListIn_store_row (hgd : o.guard = none) (ty : TypeId) (x y : Operand) (ho : o.op = .store ty x y)
    (g : Nat) (cells : Array Value) (hx : a.eval x = .pointer (some ⟨g, 0, none⟩)) (hy : a.eval y = .agg cells)
    (t : TypeId) (old : Array Value) (hg : w.heap[g]? = some (.cells old t (0, 0))) (hi : (P.info? ty).map (·.size) = some cells.size)
    (hold : old.size = cells.size) (h1 : cells.all (·.oneCell') = true)
    (h : wpListIn F n P ops Q rest (a.put o.dst undef) (w.setRow g cells)) : wpListIn F n P ops Q (o :: rest) a w := by
  refine wpListIn_plain hgd fun K hK => ?_
  unfold Oper.wpIn
  refine ⟨?_, ?_⟩
  · simp [Oper.about, ho]
  · rw [Oper.semAt_plain F _ _ (by rw [ho]; intro c hc'; cases hc')]
    unfold execOp
    simp only [ho, hx, hy, Instr.storeAt, Instr.sureAddr, Sem.run_bind, Sem.run_pure, Result.andThen_ok, run_storeVar_row w g t ty old cells hg hi hold h1]
    exact hK _ _ h
/-- a key struck out of a map, inside a fence -/
theorem wpListIn_run_delete (hgd : o.guard = none) (m x : Operand) (t k : TypeId) (hop : o.op = Op.call { callee := Callee.builtin Builtin.delete, args := #[m, x], argTypes := #[t, k] })
    (mv key : Value) (hm : a.eval m = mv) (hx : a.eval x = key) (w' : World) (hrun : (Builtin.delete_ #[t, k] o.type #[mv, key]).run P w = .ok (.tuple #[]) w')
    (h : wpListIn F n P ops Q rest (a.put o.dst (.tuple #[])) w') : wpListIn F n P ops Q (o :: rest) a w := by
  refine wpListIn_plain hgd fun K hK => ?_
  unfold Oper.wpIn
  refine ⟨?_, ?_⟩
  · simp [Oper.about, hop, resolve, Target.leads, Sem.run_pure]
  · rw [Oper.semAt_plain F _ _ (by rw [hop]; intro c hc'; cases hc')]
    simp [execOp, hop, resolve, invoke, builtin, hm, hx, hrun, Result.andThen]
    exact hK _ _ h
end
end Go.Proofs.YtekahmlppaabjaaGreatDoor

/-
  Plan3's law, in a round of a range over a function.
-/
namespace Go.Proofs.YtekahmlppaabjaaGreatDoor
open Go.RowKit
section
variable {P : Program} {ops : Array Oper} {md : Region.Mode} {S : World → Prop} {Q : Exit → Act → World → Prop}
theorem wpIn_region_plan3 {id rr nn : Nat} {a : Act} {w : World} {l : List Oper} (n : Nat) (pl pl2 : List (Bool × Nat)) (x y : Nat) (T : Array Bool) (hm : P.follows .mixedOrders = true) (hQ : ∀ c (d : Option Tmp) v a w, Q (.panic c) (a.put d v) w → Q (.panic c) a w)
    (hd : noDefer l = true) (hNo : ∀ a w, ¬ Q .outgrown a w) (hB : (Region.noSelect l.toArray && decide (pl.length = n) && decide (n + (pl2.length + 2) = l.toArray.size) && allB .any l.toArray n && planT .any l.toArray n T pl (Array.replicate l.toArray.size false) && (Region.ready .any l.toArray T).all (fun j => decide (n ≤ j)) && planP .any l.toArray x y pl2 T) = true) (hS : S w.drew)
    (h : wpPlan P l.toArray S Q (fun a' w' => wpPlan P l.toArray (fun _ => True) Q (Both2 P l.toArray Q x y) pl2 a' w') pl a w.drew) : (Code.region id l.toArray true).wpIn (Fence.wide.inRound rr) nn P Q a w := by
  simp only [Bool.and_eq_true, decide_eq_true_eq] at hB
  obtain ⟨⟨⟨⟨⟨⟨hsel, hpl⟩, hsz⟩, hall⟩, hplan⟩, hT⟩, hplan2⟩ := hB
  have hT' : ∀ j ∈ Region.ready .any l.toArray T, n ≤ j := fun j hj => of_decide_eq_true (List.all_eq_true.1 hT j hj)
  have inv0 : HeadInv .any l.toArray n (Array.replicate l.toArray.size false) :=
    ⟨by simp, fun j oj _ hl => (by rw [getD_replicate_false] at hl; cases hl), fun t _ ht => getD_in (by simpa using ht) (getD_replicate_false _ _)⟩
  have H := headH_planT (md := .any) hsel hQ (fun listed _ i hi hu => tail_waits3 hall i hi hu) hT' pl _ a w.drew inv0 hplan hS h
  refine wpIn_region_any hm (wpAnyIn_of_wpAny (by simpa using hd) hNo _ _ _ _ ?_)
  have := headH_any (g := pl2.length + 2) (fun listed' a' w' hL => by
    obtain ⟨hLT, hinv, h2⟩ := hL
    subst hLT
    have inv2 : HeadInv .any l.toArray l.toArray.size listed' := ⟨hinv.size, hinv.closed, fun t h1 h2 => by omega⟩
    have H2 := headH_planP (md := .any) hsel hQ pl2 _ a' w' inv2 hplan2 h2
    exact headH_any (g := 0) (fun listed'' a'' w'' hL2 => hL2) _ _ _ _ H2) _ _ _ _ H
  rw [hpl, hsz] at this
  exact this
end
end Go.Proofs.YtekahmlppaabjaaGreatDoor

/-
  Layer 13: what the rows' condition on the listed variables gives the walks; the program's own start meets it.
-/
namespace Go.Proofs.YtekahmlppaabjaaGreatDoor
open Go.RowKit
def laidL : List (String × DataW Unit) := [("math/bits.deBruijn32tab", Rows.laid_math_bits_deBruijn32tab), ("math/bits.deBruijn64tab", Rows.laid_math_bits_deBruijn64tab), ("internal/strconv.uint64pow10", Rows.laid_internal_strconv_uint64pow10), ("strconv.ErrRange", Rows.laid_strconv_ErrRange), ("strconv.ErrSyntax", Rows.laid_strconv_ErrSyntax)]
theorem gPow10 : Tryz.prog.globalNamed "internal/strconv.uint64pow10" = some 3 := by kernel_rfl
theorem tPow10 : (Tryz.prog.globals[3]?).map (·.type) = some 146 := by kernel_rfl
theorem cellsU64 : Tryz.prog.cellsOf 132 = 1 := by kernel_rfl
theorem cells20 : Tryz.prog.cellsOf 146 = 20 := by kernel_rfl
theorem laid_pow10 : (Rows.laid_internal_strconv_uint64pow10 : DataW Unit) = Lib.tabData .u64 Lib.pow10Tab := by kernel_rfl
/-- without the first -/
theorem laidMet_tail {P : Program} {x : String × DataW Unit} {rest : List (String × DataW Unit)} {W : World} (h : laidMet P (x :: rest) W) : laidMet P rest W := by
  obtain ⟨ps, ⟨g', t', cs, fuel, p, q, _, _, _, _, hr, hps⟩, hn, hb⟩ := h
  subst hps
  exact ⟨q, hr, (List.nodup_append.1 hn).2.1, fun b off hm => hb b off (List.mem_append_right _ hm)⟩
theorem door_met (os : Os) (args : Array Value) : laidMetH Tryz.prog laidL ((World.doorLaid Tryz.prog 400 os).forCall (fun _ _ => 0) ⟨#[], args, []⟩).memory :=
  laidMetH_of_parts3 (fuel := 8) (laidMet_of_run' 8 (by kernel_rfl) (by kernel_rfl)) (by kernel_rfl) (by kernel_rfl)
theorem gErrRange : Tryz.prog.globalNamed "strconv.ErrRange" = some 2 := by kernel_rfl
theorem tErrRange : (Tryz.prog.globals[2]?).map (·.type) = some 97 := by kernel_rfl
/-- an error variable that reads as an interface over something holds one -/
theorem trod_iface {P : Program} {H : Type} {enc : TypeId × Value → H} {w : World} {base : Nat} {spare : Nat → Bool} {held : Bool} {fuel : Nat} {t : TypeId} {cs : List Value} {k : Array (String × TypeId)} {ty : String} {d : DataW H} {p : List MemPlace}
    (ht : P.underlying t = some (.interface k)) (h : DataW.trod enc P w base spare held fuel t cs = some (.iface ty d, p)) : ∃ te pe, cs = [.iface te pe] := by
  cases fuel with
  | zero => simp [DataW.trod] at h
  | succ n =>
    unfold DataW.trod at h
    rw [ht] at h
    split at h <;> simp_all
theorem err_of_head {P : Program} {W : World} {name ty : String} {d : DataW Unit} {rest : List (String × DataW Unit)} {g t : Nat} {k : Array (String × TypeId)}
    (hg : P.globalNamed name = some g) (hty : (P.globals[g]?).map (·.type) = some t) (ht : P.underlying t = some (.interface k)) (h : laidMet P ((name, .iface ty d) :: rest) W) : ∃ te pe, W.cell? ⟨g, 0, none⟩ = some (.iface te pe) := by
  obtain ⟨ps, ⟨g', t', cs, fuel, p, q, hg', ht', hvar, hd, _, _⟩, _⟩ := h
  obtain rfl := Option.some.inj (hg.symm.trans hg')
  obtain rfl := Option.some.inj (hty.symm.trans ht')
  obtain ⟨te, pe, hcs⟩ := trod_iface ht hd
  refine ⟨te, pe, ?_⟩
  have := World.var?_cell hg hvar 0
  rw [this]
  obtain ⟨l⟩ := cs
  have hl : l = [.iface te pe] := hcs
  rw [hl]; rfl
/-- the tables and the error, out of the condition -/
theorem facts_of_laid {W : World} (h : laidMetH Tryz.prog laidL W) : Facts13 W := by
  rw [MakeChecks.laidMetH_plain _ _ _ (by kernel_rfl)] at h
  have h3 := laidMet_tail (laidMet_tail h)
  have h4 := laidMet_tail h3
  rw [laid_pow10] at h3
  exact ⟨Lib.tabIs_of_head gPow10 tPow10 Tryz.underlying146 Tryz.underlying132 cellsU64 cells20 h3, err_of_head gErrRange tErrRange Tryz.underlying97 h4⟩
end Go.Proofs.YtekahmlppaabjaaGreatDoor
