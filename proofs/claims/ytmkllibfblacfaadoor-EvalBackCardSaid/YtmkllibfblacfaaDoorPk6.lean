/-
  Texts of the layers, part 6: Rft2, RelyR, Goto2, LexRight, LexMark, LexText, LexProg7, LexProg8, LexJoin, StrJoin, LexProg9, LexSame, LexSam, LexLives, LexLawsW, LexOpen, LexTextsW, LexBackW, LexAgainW, ValBox, ValPart, ValTake, ValRows, ValCmp, LexLaid.
-/
import Derived.Test.YtmkllibfblacfaaDoorPk1
import Derived.Test.YtmkllibfblacfaaDoorPk4
import Derived.Test.YtmkllibfblacfaaDoorPk5
import Derived.Scope
import Derived.WalkMore
import Derived.Control
import Derived.Test.YtmkllibfblacfaaDoorPk2
import Derived.Test.YtmkllibfblacfaaDoorPk3
import Derived.Laws.StructEq
import Derived.LaidEql
import Derived.Deep.Cut
import Derived.Shelf.Strings.OnBuilder
import Derived.Test.YtmkllibfblacfaaDoorProg
import Derived.WalkKit
import Derived.BigQuiet
import Derived.Deep.Slices
import Derived.ChangeSlices
import Derived.ChangeArms
import Derived.OpenShut
import Derived.Laws.ResultCell
import Derived.Test.YtmkllibfblacfaaDoorRows
import Derived.Lib.LaidTab
import Derived.LaidMore
import Derived.Stop.Joined
/-
  As Rft, and each round knows what has been handed out so far.
-/
namespace Go.Proofs.YtmkllibfblacfaaDoor
open Go.RowKit
/-- as Hands; and each round knows what has been handed out, itself among it -/
def Hands2 {α : Type} (n : Nat) (P : Program) (g : Nat) (lb : Array Value) (encs : α → Array Value) (Kp : World → World → Prop) (S Sp : List α → Prop) (N T : Nat) (w : World) : Prop :=
  ∀ (l : Nat) (J Jx : List α → World → Prop) (W : World), Below w.heap.size w W → w.heap.size + 2 ≤ W.heap.size → (∀ s, SurvR W.heap.size T (J s)) → (∀ s, SurvR W.heap.size T (Jx s)) →
    (∀ pre x W1, J pre W1 → pre.length < N → Sp (pre ++ [x]) → YieldAt Fence.wide (n - 1) P l (encs x) W1 fun e W' => (e = .returned (.bool true) ∧ J (pre ++ [x]) W' ∧ Kp W1 W') ∨ (e = .returned (.bool false) ∧ Jx (pre ++ [x]) W' ∧ Kp W1 W')) →
    J [] W → CallsIn Fence.wide n P g (#[.func (.yield l) #[] #[]] ++ lb) W fun e W' => (∃ v, e = .returned v) ∧ ((∃ xs, S xs ∧ J xs W') ∨ (∃ pre, Sp pre ∧ Jx pre W'))
theorem wpIn_hands2 {α : Type} {P : Program} {n : Nat} {g : Operand} {ps : Array Tmp} {assign body : Code} {Q : Exit → Act → World → Prop} {a : Act} {w : World} {gf : Nat} {lb : Array Value} (hg : a.eval g = .func (.func gf) #[] lb) (eg : ∀ args w, (callFunc gf args).run P w = .ok (.enter gf args) w)
    {encs : α → Array Value} {Kp : World → World → Prop} {S Sp : List α → Prop} {N T : Nat} {w0 : World} (hs : Hands2 (n - 1) P gf lb encs Kp S Sp N T w0) (hb0 : Below w0.heap.size w0 w) (hps : ∀ x, (encs x).size = ps.size)
    (hKt : ∀ {A B C : World}, Kp A B → Kp B C → Kp A C) (hKb : ∀ (W : World) (o o' : Obj), W.heap[w.heap.size + 1]? = some o → o.isCells = false → Kp W (W.putObj (w.heap.size + 1) o'))
    (I Ix : List α → World → Prop) (hI : ∀ s, SurvR w.heap.size T (I s)) (hIx : ∀ s, SurvR w.heap.size T (Ix s)) (h0 : I [] w)
    (round : ∀ pre x W, I pre W → pre.length < N → Sp (pre ++ [x]) → w.heap.size + 2 ≤ W.heap.size → NC2 w.heap.size W → assign.wpIn (Fence.wide.inRound (w.heap.size + 1)) (n - 1 - 1) P
      (Exit.then (fun a1 W1 => Rec2 w.heap.size W W1 ∧ Kp W W1 ∧ ∀ W2, Only (fun k => k = w.heap.size + 1) W1 W2 → (∀ pre, I pre W1 → I pre W2) → NC2 w.heap.size W2 → body.wpIn (Fence.wide.inRound (w.heap.size + 1)) (n - 1 - 1) P (RndPost w.heap.size Kp I Ix (pre ++ [x]) W2) a1 W2) (fun _ _ _ => False))
      { tmps := (ps.zip (encs x)).foldl (fun t (p, v) => t.setIfInBounds p v) a.tmps, defers := [] } W)
    (hdone : ∀ (xs : List α) (W : World), S xs → I xs W → W.heap[w.heap.size]? = some (.deferred (some [])) → Q .normal { a with defers := { target := .collected w.heap.size, args := #[] } :: a.defers } W)
    (hstop : ∀ (pre : List α) (W : World), Sp pre → Ix pre W → W.heap[w.heap.size]? = some (.deferred (some [])) → Code.ret.wpIn Fence.wide n P Q { a with defers := { target := .collected w.heap.size, args := #[] } :: a.defers } W) :
    (Code.rangeFunc g ps assign body).wpIn Fence.wide n P Q a w := by
  generalize hB : w.heap.size = B at *
  refine wpIn_rangeFunc fun fn hfn => ?_
  let mk : LoopState → Option Code → Obj := fun st pe => .loop { state := st, pending := pe, fn := fn, tmps := a.tmps, params := ps, assign := assign, body := body, defers := B }
  obtain ⟨W1, hW1⟩ : ∃ W1, W1 = (w.alloc (.deferred (some []))).alloc (mk .ready none) := ⟨_, rfl⟩
  have e1 := World.alloc_heap_new (w.alloc (.deferred (some []))) (mk .ready none)
  have e0 := (Below.heap_alloc (w.alloc (.deferred (some []))) (mk .ready none) w.heap.size (by simp)).trans (World.alloc_heap_new w (.deferred (some [])))
  rw [World.size_alloc, hB, ← hW1] at e1
  rw [hB, ← hW1] at e0
  have hI1 : I [] W1 := by rw [hW1]; exact (hI []).new ((hI []).new h0 _) _
  have hsz : W1.heap.size = B + 2 := by rw [hW1, World.size_alloc, World.size_alloc, hB]
  have hb1 : Below w0.heap.size w0 W1 := by rw [hW1]; exact (hb0.alloc hb0.size _).alloc (by rw [World.size_alloc]; have := hb0.size; omega) _
  refine ⟨B + 1, [{ target := .collected B, args := #[] }], W1, { target := .fn (.func gf) lb, args := #[.func (.yield (B + 1)) #[] #[]] }, W1, gf, #[.func (.yield (B + 1)) #[] #[]] ++ lb, W1, ?_, ?_, fun f' _ => trivial, ?_, fun h => (by cases h), ?_⟩
  · have := run_enterLoop_outer (P := P) (w := w) fn a.tmps ps assign body
    rw [hB] at this
    rw [hW1]; exact this
  · simp only [resolve, hg]; simp [go_sem]
  · simp [invoke, go_sem, eg]
  · -- the record and the block for deferred calls stand through what the iterator does
    have hrec : ∀ {st pe} {A A' : World} {row : Option Nat}, A.grownBy A' row → (∀ r, row = some r → W1.heap.size ≤ r) → (A.heap[B + 1]? = some (mk st pe) ∧ A.heap[B]? = some (.deferred (some []))) → (A'.heap[B + 1]? = some (mk st pe) ∧ A'.heap[B]? = some (.deferred (some []))) := fun {st pe A A' row} hgr hr h =>
      ⟨(hgr.block _ (Array.getElem?_eq_some_iff.1 h.1).1 fun e => by have := hr _ e.symm; omega).trans h.1, (hgr.block _ (Array.getElem?_eq_some_iff.1 h.2).1 fun e => by have := hr _ e.symm; omega).trans h.2⟩
    have hend : ∀ {W3 : World} {st pe}, W3.heap[B + 1]? = some (mk st pe) → st ≠ .busy → (Instr.endLoop (B + 1)).run P W3 = .ok pe (W3.putObj (B + 1) (mk .exhausted pe)) := fun h hb => run_endLoop h hb
    refine (hs (B + 1) (fun pre W => I pre W ∧ W.heap[B + 1]? = some (mk .ready none) ∧ W.heap[B]? = some (.deferred (some []))) (fun pre W => Ix pre W ∧ W.heap[B + 1]? = some (mk .done (some .ret)) ∧ W.heap[B]? = some (.deferred (some []))) W1 hb1 (by have := hb0.size; omega)
      (fun s A A' row h hgr hr => ⟨(hI s).mono (show B ≤ W1.heap.size by omega) A A' row h.1 hgr hr, hrec hgr (fun r e => (hr r e).1) h.2⟩) (fun s A A' row h hgr hr => ⟨(hIx s).mono (show B ≤ W1.heap.size by omega) A A' row h.1 hgr hr, hrec hgr (fun r e => (hr r e).1) h.2⟩) ?_ ⟨hI1, e1, e0⟩).mono ?_
    · rintro pre x W ⟨hi, hl, hk⟩ hlen hsp
      have hy := run_yield (P := P) (args := encs x) hl (hps x)
      have hlt : B + 1 < W.heap.size := (Array.getElem?_eq_some_iff.1 hl).1
      refine ⟨fn, _, assign, body, hy, roundIn_of_wpIn hfn (Code.wpIn_mono ?_ (round pre x W hi hlen hsp (by omega) ⟨⟨_, hk, rfl⟩, ⟨_, hl, rfl⟩⟩))⟩
      intro e a1 Wa hq
      cases e with
      | normal =>
        obtain ⟨hr1, hk1, hbody⟩ := hq
        have hla : Wa.heap[B + 1]? = some (mk .ready none) := hr1.2.trans hl
        have hka : Wa.heap[B]? = some (.deferred (some [])) := hr1.1.trans hk
        have hlta : B + 1 < Wa.heap.size := (Array.getElem?_eq_some_iff.1 hla).1
        have hl2 : (Wa.putObj (B + 1) (mk .busy none)).heap[B + 1]? = some (mk .busy none) := World.putObj_heap_same hlta
        have hk2 : (Wa.putObj (B + 1) (mk .busy none)).heap[B]? = some (.deferred (some [])) := (World.putObj_heap_other (by omega)).trans hka
        refine ⟨_, run_beginRound hla rfl, Code.wpIn_mono ?_ (hbody _ (putObj_only Wa (B + 1) _) (fun p hp => (hI p).put hp (by omega) hla rfl) ⟨⟨_, hk2, rfl⟩, ⟨_, hl2, rfl⟩⟩)⟩
        intro e a3 W3 hp
        cases e with
        | normal =>
          obtain ⟨h1, h2, h3⟩ := hp
          have hl3 := h1.2.trans hl2
          have hk3 := h1.1.trans hk2
          exact ⟨_, _, run_endRound none hl3, .inl ⟨rfl, ⟨(hI _).put h3 (by omega) hl3 rfl, World.putObj_heap_same (Array.getElem?_eq_some_iff.1 hl3).1, (World.putObj_heap_other (by omega)).trans hk3⟩, hKt hk1 (hKt (hKt (hKb _ _ _ hla rfl) h2) (hKb _ _ _ hl3 rfl))⟩⟩
        | ret =>
          obtain ⟨h1, h0, h2⟩ := hp
          have hl3 := h1.2.trans hl2
          have hk3 := h1.1.trans hk2
          exact ⟨_, _, run_endRound (some .ret) hl3, .inr ⟨rfl, ⟨(hIx _).put h2 (by omega) hl3 rfl, World.putObj_heap_same (Array.getElem?_eq_some_iff.1 hl3).1, (World.putObj_heap_other (by omega)).trans hk3⟩, hKt hk1 (hKt (hKt (hKb _ _ _ hla rfl) h0) (hKb _ _ _ hl3 rfl))⟩⟩
        | _ => exact hp.elim
      | _ => exact hq.elim
    · rintro e W3 ⟨⟨v, rfl⟩, (⟨xs, hS, hi, hl, hk⟩ | ⟨pre, hSp, hi, hl, hk⟩)⟩
      · exact ⟨none, _, hend hl (by decide), hdone xs _ hS ((hI _).put hi (by omega) hl rfl) ((World.putObj_heap_other (by omega)).trans hk)⟩
      · exact ⟨some .ret, _, hend hl (by decide), hstop pre _ hSp ((hIx _).put hi (by omega) hl rfl) ((World.putObj_heap_other (by omega)).trans hk)⟩
end Go.Proofs.YtmkllibfblacfaaDoor

/-
  As RelyC, in a round of a range over a function.
-/
namespace Go.Proofs.YtmkllibfblacfaaDoor
open Go.RowKit
section
variable {P : Program} {ops : Array Oper} {Q : Exit → Act → World → Prop}
theorem wpIn_round_relyC {id r n : Nat} {a0 : Act} {w : World} (G : (Nat → Option Value) → World → Prop) (hm : P.follows .mixedOrders = true) (hok : relyB ops a0.tmps.size = true) (hd : noDefer ops.toList = true) (hNo : ∀ a w, ¬ Q .outgrown a w) (h0 : G (fun _ => none) w.drew)
    (hstep : ∀ st w i o a, ops[i]? = some o → st i = none → (∀ e ∈ o.after, Region.binds .any e = true → (st e.on).isSome = true) → G st w → FrameIs ops a0 st a → StepsC P G st i o a w)
    (hend : ∀ st w a, (∀ i, i < ops.size → (st i).isSome = true) → G st w → FrameIs ops a0 st a → Q .normal a w) : (Code.region id ops true).wpIn (Fence.wide.inRound r) n P Q a0 w := by
  refine wpIn_region_any hm (wpAnyIn_of_wpAny hd hNo _ _ _ _ ?_)
  refine wpAny_relyC (relyOk_of hok).1 (fun st w i o a ho hn haft hg hf => by
    have hw : Region.wanted o (yielded ops a.tmps) = true := by simp [Region.wanted, (relyOk_of hok).2 i o ho]
    rw [if_pos hw]
    exact hstep st w i o a ho hn haft hg hf) hend ops.size (fun _ => none) _ a0 w.drew ?_ ?_ h0 ?_
  · show (List.range ops.size).countP (fun _ => true) = ops.size
    rw [List.countP_true, List.length_range]
  · exact ⟨Array.size_replicate, fun i hi => by rw [Array.getElem?_replicate, if_pos hi]; rfl⟩
  · exact ⟨rfl, rfl, (fun _ _ _ _ _ _ h => by cases h), fun _ _ => rfl⟩
end
end Go.Proofs.YtmkllibfblacfaaDoor

/-
  A scope with two labels, 0 at its head and 1 within, between which the run jumps to and fro: what holds at each jump, with a number that each jump lowers.
-/
namespace Go.Proofs.YtmkllibfblacfaaDoor
open Go.RowKit
/-- by a goto to label 0: J0; to label 1: J1, each at a smaller number; else as Q -/
def Exit2 (n : Nat) (J0 J1 : Nat → Act → World → Prop) (Q : Exit → Act → World → Prop) : Exit → Act → World → Prop
  | .goto l, a, w => ∃ m, m < n ∧ ((l = 0 ∧ J0 m a w) ∨ (l = 1 ∧ J1 m a w))
  | e, a, w => Q e a w
section
variable {P : Program} {a : Act} {w : World} {n : Nat} {J0 J1 : Nat → Act → World → Prop} {Q : Exit → Act → World → Prop}
@[go_sem] theorem exit2_normal : Exit2 n J0 J1 Q .normal a w = Q .normal a w := rfl
@[go_sem] theorem exit2_exit (id : Nat) : Exit2 n J0 J1 Q (.exit id) a w = Q (.exit id) a w := rfl
@[go_sem] theorem exit2_ret : Exit2 n J0 J1 Q .ret a w = Q .ret a w := rfl
@[go_sem] theorem exit2_panic (ch : List PanicEntry) : Exit2 n J0 J1 Q (.panic ch) a w = Q (.panic ch) a w := rfl
theorem exit2_mono {m : Nat} (h : m ≤ n) : ∀ e a w, Exit2 m J0 J1 Q e a w → Exit2 n J0 J1 Q e a w := by
  intro e a w hq
  cases e with
  | goto l => obtain ⟨k, hk, hj⟩ := hq; exact ⟨k, by omega, hj⟩
  | normal => exact hq
  | exit id => exact hq
  | ret => exact hq
  | panic ch => exact hq
  | outgrown => exact hq
theorem wp_scope_two {X Y : Code} (J0 J1 : Nat → Act → World → Prop) (h1 : findLabel ((Code.label 0).seq X) 1 = some (Code.skip.seq Y))
    (pass1 : ∀ n a w, J1 n a w → Y.wp P (Exit2 n J0 J1 Q) a w)
    (pass0 : (∀ n a w, J1 n a w → Y.wp P (Exit2 n J0 J1 Q) a w) → ∀ n a w, J0 n a w → X.wp P (Exit2 n J0 J1 Q) a w) (n : Nat) (first : J0 n a w) : (Code.scope ((Code.label 0).seq X)).wp P Q a w := by
  have p0 := pass0 pass1
  have h0 : findLabel ((Code.label 0).seq X) 0 = some (Code.skip.seq X) := rfl
  intro b k cs
  have hg0 : gotoIn 0 (.inScope ((Code.label 0).seq X) :: k) = some (.code (Code.skip.seq X) :: .inScope ((Code.label 0).seq X) :: k) := by simp [gotoIn, h0]
  have hg1 : gotoIn 1 (.inScope ((Code.label 0).seq X) :: k) = some (.code (Code.skip.seq Y) :: .inScope ((Code.label 0).seq X) :: k) := by simp [gotoIn, h1]
  have key : ∀ n, (∀ a w, J0 n a w → ∃ e a' w', Q e a' w' ∧ Arrives P (lone (b.at a (.code (Code.skip.seq X) :: .inScope ((Code.label 0).seq X) :: k)) cs w) b k cs e a' w') ∧ (∀ a w, J1 n a w → ∃ e a' w', Q e a' w' ∧ Arrives P (lone (b.at a (.code (Code.skip.seq Y) :: .inScope ((Code.label 0).seq X) :: k)) cs w) b k cs e a' w') := by
    intro n
    induction n using Nat.strongRecOn with
    | _ n ih =>
      have fin : ∀ (Z : Code) a w, Z.wp P (Exit2 n J0 J1 Q) a w → ∃ e a' w', Q e a' w' ∧ Arrives P (lone (b.at a (.code Z :: .inScope ((Code.label 0).seq X) :: k)) cs w) b k cs e a' w' := by
        intro Z a w hZ
        obtain ⟨e, a₁, w₁, hq, harr⟩ := hZ b (.inScope ((Code.label 0).seq X) :: k) cs
        cases e with
        | normal => exact ⟨.normal, a₁, w₁, hq, Steps.trans harr (.one step_inScope)⟩
        | exit id => exact ⟨.exit id, a₁, w₁, hq, fun k' hk => harr k' (by simp [exitTo, hk])⟩
        | goto l' =>
          obtain ⟨m, hm, ⟨rfl, hJ⟩ | ⟨rfl, hJ⟩⟩ := hq
          · obtain ⟨e₂, a₂, w₂, hq₂, harr₂⟩ := (ih m hm).1 a₁ w₁ hJ
            exact ⟨e₂, a₂, w₂, hq₂, .of_steps (harr _ hg0) harr₂⟩
          · obtain ⟨e₂, a₂, w₂, hq₂, harr₂⟩ := (ih m hm).2 a₁ w₁ hJ
            exact ⟨e₂, a₂, w₂, hq₂, .of_steps (harr _ hg1) harr₂⟩
        | ret => exact ⟨_, a₁, w₁, hq, harr⟩
        | panic ch => exact ⟨_, a₁, w₁, hq, harr⟩
        | outgrown => exact ⟨_, a₁, w₁, hq, harr⟩
      exact ⟨fun a w hJ => fin _ a w (wp_seq (wp_skip (p0 n a w hJ))), fun a w hJ => fin _ a w (wp_seq (wp_skip (pass1 n a w hJ)))⟩
  have hfirst : ((Code.label 0).seq X).wp P (Exit2 n J0 J1 Q) a w := wp_seq (wp_label (p0 n a w first))
  obtain ⟨e, a₁, w₁, hq, harr⟩ := hfirst b (.inScope ((Code.label 0).seq X) :: k) cs
  cases e with
  | normal => exact ⟨.normal, a₁, w₁, hq, .head step_scope (Steps.trans harr (.one step_inScope))⟩
  | exit id => exact ⟨.exit id, a₁, w₁, hq, fun k' hk => .head step_scope (harr k' (by simp [exitTo, hk]))⟩
  | goto l' =>
    obtain ⟨m, hm, ⟨rfl, hJ⟩ | ⟨rfl, hJ⟩⟩ := hq
    · obtain ⟨e₂, a₂, w₂, hq₂, harr₂⟩ := (key m).1 a₁ w₁ hJ
      exact ⟨e₂, a₂, w₂, hq₂, .of_steps (.head step_scope (harr _ hg0)) harr₂⟩
    · obtain ⟨e₂, a₂, w₂, hq₂, harr₂⟩ := (key m).2 a₁ w₁ hJ
      exact ⟨e₂, a₂, w₂, hq₂, .of_steps (.head step_scope (harr _ hg1)) harr₂⟩
  | ret => exact ⟨_, a₁, w₁, hq, .of_steps (.one step_scope) harr⟩
  | panic ch => exact ⟨_, a₁, w₁, hq, .of_steps (.one step_scope) harr⟩
  | outgrown => exact ⟨_, a₁, w₁, hq, .of_steps (.one step_scope) harr⟩
end
end Go.Proofs.YtmkllibfblacfaaDoor

/-
  Layer 13: which tokens are right, the document's answer.
-/
namespace Go.Proofs.YtmkllibfblacfaaDoor
open Go.RowKit
theorem right13_1 {s : ByteArray} {n a : Int} : Lx.right ⟨1, s, n, a⟩ ↔ n = 0 ∧ s ≠ Vl.mt ∧ Lx.word false s.data.toList = s.size ∧ s.size ≤ 16 := by simp [Lx.right]
theorem right13_2 {s : ByteArray} {n a : Int} : Lx.right ⟨2, s, n, a⟩ ↔ 0 ≤ n ∧ s = Vl.mt := by simp [Lx.right]
theorem right13_3 {s : ByteArray} {n a : Int} : Lx.right ⟨3, s, n, a⟩ ↔ n = 0 ∧ Vl.plain s := by simp [Lx.right]
theorem right13_4 {s : ByteArray} {n a : Int} : Lx.right ⟨4, s, n, a⟩ ↔ s.data.toList ∈ Lx.marks ∧ n = 0 := by simp [Lx.right]
theorem right13_0 {s : ByteArray} {k n a : Int} (h1 : k ≠ 1) (h2 : k ≠ 2) (h3 : k ≠ 3) (h4 : k ≠ 4) : ¬ Lx.right ⟨k, s, n, a⟩ := by simp [Lx.right, h1, h2, h3, h4]
end Go.Proofs.YtmkllibfblacfaaDoor

/-
  Layer 13: which tokens are right, the document's answer: marks.
-/
namespace Go.Proofs.YtmkllibfblacfaaDoor
open Go.RowKit
/-- it is none of the first k marks -/
def NotMark (l : List UInt8) (k : Nat) : Prop := l ∉ Lx.marks.take k
theorem notMark_next {l : List UInt8} {k : Nat} (h : NotMark l k) (hk : k < Lx.marks.length) (hp : Lx.marks[k] ≠ l) : NotMark l (k + 1) := by
  intro hm
  rw [List.take_succ_eq_append_getElem hk] at hm
  rcases List.mem_append.1 hm with hm | hm
  · exact h hm
  · simp only [List.mem_singleton] at hm; exact hp hm.symm
theorem notMark_end {l : List UInt8} (h : NotMark l 16) : l ∉ Lx.marks := by unfold NotMark at h; rwa [List.take_of_length_le] at h; rw [marks_len]; omega
end Go.Proofs.YtmkllibfblacfaaDoor

/-
  Layer 13: a token's text, the document's.
-/
namespace Go.Proofs.YtmkllibfblacfaaDoor
open Go.RowKit
def Lx.textT (t : Lx.T) : ByteArray × Int := if Lx.right t then (Lx.mk (Lx.textL t), 0) else (Vl.mt, 2)
end Go.Proofs.YtmkllibfblacfaaDoor

/-
  Layer 13, the program's: what a token is written as, and its text.
-/
namespace Go.Proofs.YtmkllibfblacfaaDoor
open Go.RowKit
namespace Lx
/-- what a token is written as -/
def wr (t : T) : ByteArray := if t.kind = 1 ∨ t.kind = 4 then t.s else if t.kind = 2 then textB ⟨1, t.n, Vl.mt⟩ else if t.kind = 3 then textB ⟨2, 0, t.s⟩ else Vl.mt
theorem wr_right {t : T} (h : right t) : wr t = mk (textL t) := by
  obtain ⟨k, s, n, a⟩ := t
  rcases h with ⟨rfl, _⟩ | ⟨rfl, _⟩ | ⟨rfl, _, h⟩ | ⟨rfl, _⟩
  · unfold wr textL; simp [list_mk]
  · unfold wr textL
    rw [if_neg (by simp), if_pos rfl, if_pos rfl, text_ok (.inr (.inl ⟨rfl, rfl⟩))]
    rfl
  · unfold wr textL
    rw [if_neg (by simp), if_neg (by simp), if_pos rfl, if_neg (by simp), if_pos rfl, text_ok (.inr (.inr (.inl ⟨rfl, rfl, h⟩)))]
    rfl
  · unfold wr textL; simp [list_mk]
theorem wr_size (t : T) (h0 : -9223372036854775808 ≤ t.n) (h1 : t.n ≤ 9223372036854775807) : (wr t).size ≤ t.s.size + 100 := by
  obtain ⟨k, s, n, a⟩ := t
  unfold wr
  split
  · exact Nat.le_add_right _ _
  · split
    · rw [text_ok (.inr (.inl ⟨rfl, rfl⟩))]
      have := Lib.itoa_length_le n h0 h1
      show (Lib.itoa n).toArray.size ≤ _
      rw [List.size_toArray]; omega
    · split
      · by_cases hr : Vl.right ⟨2, 0, s⟩
        · rw [text_ok hr]
          have h40 : s.size ≤ 40 := by
            rcases hr with ⟨h, _⟩ | ⟨h, _⟩ | ⟨_, _, h⟩ | ⟨h, _⟩
            · exact absurd (show (2 : Int) = 0 from h) (by decide)
            · exact absurd (show (2 : Int) = 1 from h) (by decide)
            · exact h.1
            · exact absurd (show (2 : Int) = 3 from h) (by decide)
          have := Vl.esc_len s.data.toList
          have hl : s.data.toList.length = s.size := Array.length_toList ..
          show (Vl.quoteL s.data.toList).toArray.size ≤ _
          rw [List.size_toArray]
          unfold Vl.quoteL
          simp only [List.length_cons, List.length_append, List.length_nil]
          omega
        · rw [text_bad hr]; exact Nat.zero_le _
      · exact Nat.zero_le _
theorem right_strip {t : T} : right (strip t) ↔ right t := Iff.rfl
theorem textT_yes {t : T} (h : (one (wr t).data.toList).2.2 = 0) (h2 : (one (wr t).data.toList).1 = strip t) : textT t = (wr t, 0) := by
  have hr := (one_ok h).1
  rw [h2] at hr
  have hr := right_strip.1 hr
  rw [show textT t = (mk (textL t), 0) from if_pos hr, wr_right hr]
theorem textT_no {t : T} (hn : t.n ≤ 9223372036854775807) (h : ¬ ((one (wr t).data.toList).2.2 = 0 ∧ (one (wr t).data.toList).2.1 = (wr t).size ∧ (one (wr t).data.toList).1 = strip t)) : textT t = (Vl.mt, 2) := by
  refine if_neg fun hr => h ?_
  have h1 := one_text hr hn [] (.inl rfl)
  rw [List.append_nil] at h1
  rw [wr_right hr]
  show (one (textL t)).2.2 = 0 ∧ (one (textL t)).2.1 = _ ∧ (one (textL t)).1 = strip t
  rw [h1]
  exact ⟨rfl, (List.size_toArray).symm, rfl⟩
end Lx
theorem neq_tok_same (a : Lx.T) (w : World) : (binOp BinOp.neq 74 (tokV a) (tokV a)).run Tryd.prog w = .ok (.bool false) w := by
  obtain ⟨k, s, n, p⟩ := a
  have hS : Tryd.prog.underlying 74 = some (.struct (Tryd.prog.fieldsOf 74)) := by kernel_rfl
  have hp : Tryd.prog.stoodInHeld 74 = false := by kernel_rfl
  rw [run_neq_struct, show (10000 : Nat) = 9999 + 1 from rfl, run_equalIn_agg w 9999 74 _ _ hS hp]
  have hU := Tryd.underlying74
  simp only [Program.fieldsOf, hU]
  go_simp
theorem neq_tok_other {a b : Lx.T} (h : ¬ a = b) (w : World) : (binOp BinOp.neq 74 (tokV a) (tokV b)).run Tryd.prog w = .ok (.bool true) w := by
  obtain ⟨k, s, n, p⟩ := a
  obtain ⟨k2, s2, n2, p2⟩ := b
  have hS : Tryd.prog.underlying 74 = some (.struct (Tryd.prog.fieldsOf 74)) := by kernel_rfl
  have hp : Tryd.prog.stoodInHeld 74 = false := by kernel_rfl
  rw [run_neq_struct, show (10000 : Nat) = 9999 + 1 from rfl, run_equalIn_agg w 9999 74 _ _ hS hp]
  have hU := Tryd.underlying74
  simp only [Program.fieldsOf, hU]
  go_simp
  by_cases h1 : k = k2
  · subst h1
    by_cases h2 : s = s2
    · subst h2
      by_cases h3 : n = n2
      · subst h3
        have h4 : ¬ p = p2 := fun e => h (by rw [e])
        simp [h4]
      · simp [h3]
    · have e2 : ¬ s.toList = s2.toList := fun e => h2 (Sl.ba_ext (by rw [← ByteArray.toList_eq, ← ByteArray.toList_eq]; exact e))
      simp [e2]
  · simp [h1]
theorem guard_tok (op : BinOp) (w : World) (x y : Operand) (X Y : Array Value) : (eqGuard op 74 x y (.agg X) (.agg Y)).run Tryd.prog w = .ok () w :=
  run_eqGuard_agg w op _ x y X Y (by kernel_rfl)
end Go.Proofs.YtmkllibfblacfaaDoor

/-
  Layer 13, the program's: a token's text.
-/
namespace Go.Proofs.YtmkllibfblacfaaDoor
open Go.RowKit
theorem Lx.wr_strip (t : Lx.T) : Lx.wr (Lx.strip t) = Lx.wr t := rfl
end Go.Proofs.YtmkllibfblacfaaDoor

/-
  Layer 13: tokens joined, the document's.
-/
namespace Go.Proofs.YtmkllibfblacfaaDoor
open Go.RowKit
namespace Lx
theorem join_snoc (t : T) : ∀ l : List T, l ≠ [] → join (l ++ [t]) = join l ++ 32 :: textL t
  | [], h => absurd rfl h
  | [u], _ => rfl
  | u :: v :: l, _ => by
    show textL u ++ 32 :: join (v :: l ++ [t]) = (textL u ++ 32 :: join (v :: l)) ++ 32 :: textL t
    rw [join_snoc t (v :: l) (by simp)]; simp
instance (L : List T) : Decidable (∀ t ∈ L, right t) := inferInstance
def joinS (L : List T) : ByteArray × Int := if ∀ t ∈ L, right t then (mk (join L), 0) else (Vl.mt, 2)
theorem mk_app (a b : List UInt8) : mk a ++ mk b = mk (a ++ b) := by apply Sl.ba_ext; rw [ByteArray.data_append]; simp
theorem joinS_not {L : List T} {k : Nat} (hk : k < L.length) (h : ¬ right L[k]) : joinS L = (Vl.mt, 2) := if_neg fun ha => h (ha _ (List.getElem_mem hk))
def RightTo (L : List T) (k : Nat) : Prop := ∀ t ∈ L.take k, right t
theorem rightTo_next {L : List T} {k : Nat} (h : RightTo L k) (hk : k < L.length) (hr : right L[k]) : RightTo L (k + 1) := by
  intro t ht
  rw [List.take_succ_eq_append_getElem hk] at ht
  rcases List.mem_append.1 ht with ht | ht
  · exact h t ht
  · simp only [List.mem_singleton] at ht; subst ht; exact hr
theorem joinS_end {L : List T} {k : Nat} (h : RightTo L k) (hk : ¬ k < L.length) : joinS L = (mk (join (L.take k)), 0) := by
  unfold RightTo at h
  rw [List.take_of_length_le (by omega)] at h ⊢
  exact if_pos h
theorem join_next0 {L : List T} (hk : 0 < L.length) : mk (join (L.take 0)) ++ mk (textL L[0]) = mk (join (L.take 1)) := by
  rw [List.take_succ_eq_append_getElem hk, mk_app]; rfl
theorem join_next {L : List T} {k : Nat} (h0 : 0 < k) (hk : k < L.length) : mk (join (L.take k)) ++ ⟨#[32]⟩ ++ mk (textL L[k]) = mk (join (L.take (k + 1))) := by
  rw [List.take_succ_eq_append_getElem hk, join_snoc _ _ (by intro h; have := congrArg List.length h; rw [List.length_take, Nat.min_eq_left (by omega)] at this; simp at this; omega)]
  rw [show (⟨#[32]⟩ : ByteArray) = mk [32] from rfl, mk_app, mk_app]; simp
theorem textL_size {t : T} (h : right t) (hn : t.n ≤ 9223372036854775807) : (textL t).length ≤ 85 := by
  obtain ⟨k, s, n, a⟩ := t
  have hl : s.data.toList.length = s.size := Array.length_toList ..
  rcases h with ⟨rfl, _, _, _, h⟩ | ⟨rfl, h, _⟩ | ⟨rfl, _, h⟩ | ⟨rfl, h, _⟩
  · show s.data.toList.length ≤ 85
    have : s.size ≤ 16 := h
    omega
  · have h0 : 0 ≤ n := h
    have h1 : n ≤ 9223372036854775807 := hn
    have := Lib.itoa_length_le n (by omega) h1
    show (Lib.itoa n).length ≤ 85
    omega
  · show (Vl.quoteL s.data.toList).length ≤ 85
    have h40 : s.size ≤ 40 := h.1
    have := Vl.esc_len s.data.toList
    unfold Vl.quoteL
    simp only [List.length_cons, List.length_append, List.length_nil]
    omega
  · have hm : ∀ m ∈ marks, m.length ≤ 85 := by decide
    exact hm _ h
theorem join_size (L : List T) (hn : ∀ t ∈ L, t.n ≤ 9223372036854775807) : ∀ k : Nat, RightTo L k → (mk (join (L.take k))).size ≤ 86 * k
  | 0, _ => by simp [join, ByteArray.size]
  | k + 1, h => by
    have hk : RightTo L k := fun t ht => h t (List.take_subset_take_left L (Nat.le_succ k) ht)
    have ih := join_size L hn k hk
    by_cases hlt : k < L.length
    · have hr : right L[k] := h _ (by rw [List.take_succ_eq_append_getElem hlt]; exact List.mem_append_right _ (List.mem_singleton.2 rfl))
      have ht := textL_size hr (hn _ (List.getElem_mem hlt))
      have hz : ∀ l : List UInt8, (mk l).size = l.length := fun l => List.size_toArray
      rw [hz] at ih ⊢
      by_cases h0 : k = 0
      · subst h0
        have := congrArg ByteArray.size (join_next0 hlt)
        rw [ByteArray.size_append, hz, hz, hz] at this
        have h00 : (join (List.take 0 L)).length = 0 := rfl
        show (join (List.take 1 L)).length ≤ 86
        omega
      · have := congrArg ByteArray.size (join_next (by omega) hlt)
        have h1 : (⟨#[32]⟩ : ByteArray).size = 1 := rfl
        rw [ByteArray.size_append, ByteArray.size_append, h1, hz (join (L.take k)), hz (textL L[k]), hz (join (L.take (k + 1)))] at this
        omega
    · rw [List.take_of_length_le (by omega)] at ih ⊢
      omega
end Lx
theorem readsT13_at {w : World} {a : Option Addr} {L : List Lx.T} (h : ReadsT13 w a L) (k : Nat) (hk : k < L.length) : ∃ b off, a = some ⟨b, off, none⟩ ∧ w.cell? ⟨b, off + k * 4, none⟩ = some (.int .i64 L[k].kind) ∧ w.cell? ⟨b, off + k * 4 + 1, none⟩ = some (.string L[k].s) ∧ w.cell? ⟨b, off + k * 4 + 2, none⟩ = some (.int .i64 L[k].n) ∧ w.cell? ⟨b, off + k * 4 + 3, none⟩ = some (.int .i64 L[k].spot) := h k hk
end Go.Proofs.YtmkllibfblacfaaDoor

/-
  strings.Join: the library's contract at this program's own numbers.
-/
namespace Go.Proofs
open Go.Shelf
namespace YtmkllibfblacfaaDoor
open Go.RowKit
end YtmkllibfblacfaaDoor
end Go.Proofs

/-
  Layer 13, the program's: tokens joined.
-/
namespace Go.Proofs.YtmkllibfblacfaaDoor
open Go.RowKit
namespace Lx
def texts (L : List T) : List ByteArray := L.map fun t => mk (textL t)
theorem texts_join : ∀ L : List T, Lib.join ((texts L).map (·.data.toList)) [32] = join L
  | [] => rfl
  | [_] => by simp [texts, Lib.join, join]
  | t :: u :: l => by
    have ih := texts_join (u :: l)
    show Lib.join (textL t :: textL u :: ((texts l).map (·.data.toList))) [32] = textL t ++ 32 :: join (u :: l)
    rw [← ih]
    show _ = textL t ++ 32 :: Lib.join (textL u :: ((texts l).map (·.data.toList))) [32]
    simp [Lib.join]
theorem texts_next {L : List T} {k : Nat} (hk : k < L.length) : texts (L.take (k + 1)) = texts (L.take k) ++ [mk (textL L[k])] := by
  unfold texts
  rw [List.take_succ_eq_append_getElem hk, List.map_append]; rfl
theorem texts_len {L : List T} {k : Nat} (hk : k ≤ L.length) : (texts (L.take k)).length = k := by
  unfold texts; rw [List.length_map, List.length_take, Nat.min_eq_left hk]
end Lx
end Go.Proofs.YtmkllibfblacfaaDoor

/-
  Layer 13: two lists of tokens compared, the document's.
-/
namespace Go.Proofs.YtmkllibfblacfaaDoor
open Go.RowKit
namespace Lx
/-- what is compared of a token -/
def key (p : Bool) (t : T) : T := if p then t else strip t
def SameK (p : Bool) (L M : List T) (k : Nat) : Prop := (L.map (key p)).take k = (M.map (key p)).take k
theorem sameK_next {p : Bool} {L M : List T} {k : Nat} (h : SameK p L M k) (h1 : k < L.length) (h2 : k < M.length) (hx : key p L[k] = key p M[k]) : SameK p L M (k + 1) := by
  have h1' : k < (L.map (key p)).length := by simpa using h1
  have h2' : k < (M.map (key p)).length := by simpa using h2
  show (L.map (key p)).take (k + 1) = (M.map (key p)).take (k + 1)
  rw [List.take_succ_eq_append_getElem h1', List.take_succ_eq_append_getElem h2', List.getElem_map, List.getElem_map, hx, show (L.map (key p)).take k = (M.map (key p)).take k from h]
theorem sameK_full {p : Bool} {L M : List T} {k : Nat} (h : SameK p L M k) (hl : L.length = M.length) (hk : ¬ k < L.length) : L.map (key p) = M.map (key p) := by
  unfold SameK at h
  rwa [List.take_of_length_le (by rw [List.length_map]; omega), List.take_of_length_le (by rw [List.length_map]; omega)] at h
theorem sameK_not {p : Bool} {L M : List T} {k : Nat} (h1 : k < L.length) (h2 : k < M.length) (hx : ¬ key p L[k] = key p M[k]) : ¬ L.map (key p) = M.map (key p) := fun e => by
  have h1' : k < (L.map (key p)).length := by simpa using h1
  have h2' : k < (M.map (key p)).length := by simpa using h2
  have h3 : (L.map (key p))[k]? = (M.map (key p))[k]? := by rw [e]
  rw [List.getElem?_eq_getElem h1', List.getElem?_eq_getElem h2', List.getElem_map, List.getElem_map] at h3
  exact hx (Option.some.inj h3)
theorem key_kind {p : Bool} {a b : T} (h : key p a = key p b) : a.kind = b.kind := by
  cases p with
  | false =>
    have e : (strip a).kind = (strip b).kind := by rw [show strip a = strip b from h]
    exact e
  | true => exact congrArg T.kind (show a = b from h)
theorem key_s {p : Bool} {a b : T} (h : key p a = key p b) : a.s = b.s := by
  cases p with
  | false =>
    have e : (strip a).s = (strip b).s := by rw [show strip a = strip b from h]
    exact e
  | true => exact congrArg T.s (show a = b from h)
theorem key_n {p : Bool} {a b : T} (h : key p a = key p b) : a.n = b.n := by
  cases p with
  | false =>
    have e : (strip a).n = (strip b).n := by rw [show strip a = strip b from h]
    exact e
  | true => exact congrArg T.n (show a = b from h)
end Lx
end Go.Proofs.YtmkllibfblacfaaDoor

/-
  Layer 13: two lists of tokens compared, the document's: walked.
-/
namespace Go.Proofs.YtmkllibfblacfaaDoor
open Go.RowKit
end Go.Proofs.YtmkllibfblacfaaDoor

/-
  Layer 13's laws: lives (the document's example).
-/
namespace Go.Proofs.YtmkllibfblacfaaDoor
open Go.RowKit
def exL : List Lx.T := [⟨1, ⟨#[97]⟩, 0, 0⟩, ⟨4, ⟨#[60, 61]⟩, 0, 1⟩, ⟨2, ⟨#[]⟩, 12, 4⟩]
theorem ex_lex : lexS ⟨#[97, 60, 61, 32, 49, 50]⟩ = (exL, 0, 0) := by kernel_rfl
theorem ex_a : Lx.nameB ⟨#[97]⟩ = true := by kernel_rfl
theorem ex_and : Lx.nameB ⟨#[97, 110, 100]⟩ = false := by kernel_rfl
theorem ex_same : (open Classical in decide (exL.map (Lx.key true) = exL.map (Lx.key true))) = true := by simp
theorem ex_reads (w : World) (g : Nat) (h : RowV w g 74 (exL.flatMap tCl)) : ReadsT13 w (some ⟨g, 0, none⟩) exL := by
  intro i hi
  have hi3 : i < 3 := hi
  refine ⟨g, 0, rfl, ?_⟩
  match i, hi3 with
  | 0, _ => exact ⟨rowV_cell h 0, rowV_cell h 1, rowV_cell h 2, rowV_cell h 3⟩
  | 1, _ => exact ⟨rowV_cell h 4, rowV_cell h 5, rowV_cell h 6, rowV_cell h 7⟩
  | 2, _ => exact ⟨rowV_cell h 8, rowV_cell h 9, rowV_cell h 10, rowV_cell h 11⟩
end Go.Proofs.YtmkllibfblacfaaDoor

/-
  Layer 13: LexReads walked.
-/
namespace Go.Proofs.YtmkllibfblacfaaDoor
open Go.RowKit
/-- what the walks want of the listed variables -/
def Facts13 (w : World) : Prop := Pow10 w ∧ ErrR w
namespace Lx
theorem lex_count : ∀ (k a : Nat) (l : List UInt8), (lex k a l).1.length ≤ k
  | 0, _, _ => Nat.le_refl _
  | _ + 1, _, [] => Nat.zero_le _
  | k + 1, a, c :: r => by
    by_cases h : c = 32
    · subst h; rw [lex_blank]; exact Nat.le_succ_of_le (lex_count k _ _)
    · by_cases he : (one (c :: r)).2.2 = 0
      · rw [lex_more h he]
        split
        · exact Nat.zero_le _
        · exact Nat.succ_le_succ (lex_count k _ _)
      · rw [lex_err h he]; exact Nat.zero_le _
end Lx
theorem lexS_count (s : ByteArray) : (lexS s).1.length ≤ 200 := by
  have hl : s.data.toList.length = s.size := Array.length_toList ..
  unfold lexS
  split
  · exact Nat.zero_le _
  · have := Lx.lex_count s.data.toList.length 0 s.data.toList
    show (Lx.lex _ _ _).1.length ≤ 200
    omega
end Go.Proofs.YtmkllibfblacfaaDoor

/-
  Layer 13's laws: arguments that are tokens, and lists of them, opened.
-/
namespace Go.Proofs.YtmkllibfblacfaaDoor
open Go.ChangeShapes Go.WideShapes Go.RowKit
/-- what a token that an argument is has of bounds -/
def FitsT (t : Lx.T) : Prop := (-9223372036854775808 ≤ t.n ∧ t.n ≤ 9223372036854775807) ∧ (-9223372036854775808 ≤ t.spot ∧ t.spot ≤ 9223372036854775807) ∧ t.s.size ≤ maxLen
/-- a list of tokens that an argument may be -/
def ReadsTF (w : World) (a : Option Addr) (L : List Lx.T) : Prop := ReadsT13 w a L ∧ ∀ x ∈ L, FitsT x
section
variable {H : Type} {enc : TypeId × Value → H} {w : World} {base : Nat} {spare : Nat → Bool} {held : Bool}
theorem add_mid13 (b off k : Nat) : (⟨b, off, none⟩ : Addr).add k = ⟨b, off + k, none⟩ := by unfold Addr.add; split <;> simp_all
theorem one_cell13 {l : List Value} {k : Nat} (h : k < l.length) : (l.drop k).take 1 = [l[k]] := by
  rw [List.drop_eq_getElem_cons h]; rfl
set_option maxRecDepth 100000 in
theorem tok_frame {fuel : Nat} {cs : List Value} {x : DataW H × List MemPlace} (h : DataW.trod enc Tryd.prog w base spare held fuel 74 cs = some x) : ∃ l : Lx.T, cs = (tokC l).toList ∧ FitsT l := by
  have hC : Tryd.prog.cellsOf 74 = 4 := by kernel_rfl
  obtain ⟨ys, n', _, _, hcl, hyl, hf⟩ := DataW.trod_struct Tryd.underlying74 h
  rw [hC] at hcl
  have hyl4 : ys.length = 4 := hyl
  have g0 : DataW.trod enc Tryd.prog w base spare held n' 72 ((cs.drop 0).take (Tryd.prog.cellsOf 72)) = ys[0]? := hf 0 _ rfl
  have g1 : DataW.trod enc Tryd.prog w base spare held n' 9 ((cs.drop 1).take (Tryd.prog.cellsOf 9)) = ys[1]? := hf 1 _ rfl
  have g2 : DataW.trod enc Tryd.prog w base spare held n' 3 ((cs.drop 2).take (Tryd.prog.cellsOf 3)) = ys[2]? := hf 2 _ rfl
  have g3 : DataW.trod enc Tryd.prog w base spare held n' 3 ((cs.drop 3).take (Tryd.prog.cellsOf 3)) = ys[3]? := hf 3 _ rfl
  rw [List.getElem?_eq_getElem (by omega)] at g0 g1 g2 g3
  have kk : Tryd.prog.cellsOf 72 = 1 := by kernel_rfl
  have k0 : Tryd.prog.cellsOf 3 = 1 := by kernel_rfl
  have ks : Tryd.prog.cellsOf 9 = 1 := by kernel_rfl
  rw [kk, one_cell13 (by omega)] at g0
  rw [ks, one_cell13 (by omega)] at g1
  rw [k0, one_cell13 (by omega)] at g2 g3
  obtain ⟨z0, e0, _, _⟩ := DataW.trod_int Tryd.underlying72 g0
  obtain ⟨z1, e1, _, w1⟩ := DataW.trod_string Tryd.underlying9 g1
  obtain ⟨z2, e2, _, w2⟩ := DataW.trod_int Tryd.underlying3 g2
  obtain ⟨z3, e3, _, w3⟩ := DataW.trod_int Tryd.underlying3 g3
  simp only [List.cons.injEq, and_true] at e0 e1 e2 e3
  refine ⟨⟨z0, z1, z2, z3⟩, ?_, ?_⟩
  · obtain ⟨a, b, c, d, rfl⟩ : ∃ a b c d, cs = [a, b, c, d] := by
      rcases cs with _ | ⟨a, _ | ⟨b, _ | ⟨c, _ | ⟨d, _ | ⟨e, r⟩⟩⟩⟩⟩
      · exact absurd hcl (by simp)
      · exact absurd hcl (by simp)
      · exact absurd hcl (by simp)
      · exact absurd hcl (by simp)
      · exact ⟨a, b, c, d, rfl⟩
      · exact absurd hcl (by simp)
    simp only [List.getElem_cons_zero, List.getElem_cons_succ] at e0 e1 e2 e3
    rw [e0, e1, e2, e3]
  · exact ⟨bounds_i64 w2, bounds_i64 w3, w1⟩
end
end Go.Proofs.YtmkllibfblacfaaDoor

/-
  Layer 13: LexTexts walked.
-/
namespace Go.Proofs.YtmkllibfblacfaaDoor
open Go.RowKit
/-- the loop's token: the last one that was gone by -/
structure LastAt (w : World) (x : Lx.T) (wr : World) : Prop where
  row : RowV wr w.heap.size 74 (tokC x).toList
  fit : x.s.size ≤ 300 ∧ -9223372036854775808 ≤ x.n ∧ x.n ≤ 9223372036854775807
  bel : Below w.heap.size w wr
end Go.Proofs.YtmkllibfblacfaaDoor

/-
  Layer 13: LexBack walked.
-/
namespace Go.Proofs.YtmkllibfblacfaaDoor
open Go.RowKit
theorem joinS_right {L : List Lx.T} (h : ∀ t ∈ L, Lx.right t) : Lx.joinS L = (Lx.mk (Lx.join L), 0) := if_pos h
theorem joinS_wrong {L : List Lx.T} (h : ¬ ∀ t ∈ L, Lx.right t) : Lx.joinS L = (Vl.mt, 2) := if_neg h
theorem lexS_big {s : ByteArray} (h : 200 < s.size) : lexS s = ([], 0, 5) := if_pos h
theorem lexS_join {L : List Lx.T} (h : ¬ 200 < (Lx.mk (Lx.join L)).size) (hr : ∀ t ∈ L, Lx.right t) (hn : ∀ t ∈ L, t.n ≤ 9223372036854775807) : ∃ m, lexS (Lx.mk (Lx.join L)) = (m, 0, 0) ∧ Lx.Same m L := by
  obtain ⟨m, h1, h2⟩ := Lx.join_back L 0 fun t ht => ⟨hr t ht, hn t ht⟩
  exact ⟨m, (if_neg h).trans h1, h2⟩
end Go.Proofs.YtmkllibfblacfaaDoor

/-
  Layer 13: LexAgain walked.
-/
namespace Go.Proofs.YtmkllibfblacfaaDoor
open Go.RowKit
namespace Lx
theorem lex_place : ∀ (k a : Nat) (l : List UInt8), (lex k a l).2.2 ≠ 0 → (lex k a l).1 = [] ∧ ∃ p : Nat, (lex k a l).2.1 = (p : Int) ∧ p ≤ a + l.length
  | 0, _, _, h => absurd rfl h
  | _ + 1, _, [], h => absurd rfl h
  | k + 1, a, c :: r, h => by
    by_cases hc : c = 32
    · subst hc
      rw [lex_blank] at h ⊢
      obtain ⟨h1, p, h2, h3⟩ := lex_place k _ _ h
      exact ⟨h1, p, h2, by rw [List.length_cons]; omega⟩
    · by_cases he : (one (c :: r)).2.2 = 0
      · have hle := (one_ok he).2.2.2.1
        rw [lex_more hc he] at h ⊢
        split
        · rename_i h2
          obtain ⟨h1, p, h4, h3⟩ := lex_place k _ _ h2
          refine ⟨rfl, p, h4, ?_⟩
          rw [List.length_drop] at h3
          omega
        · rename_i h2
          rw [if_neg h2] at h
          exact absurd rfl h
      · rw [lex_err hc he]; exact ⟨rfl, a, rfl, Nat.le_add_right _ _⟩
theorem laid_at {s : List UInt8} {e : Nat} {L : List T} {k : Nat} (hk : k < L.length) (h : Laid s e (L.drop k)) : ∃ a : Nat, L[k].spot = (a : Int) ∧ e ≤ a ∧ a + (textL L[k]).length ≤ s.length ∧ (∀ j, e ≤ j → j < a → s[j]? = some 32) ∧ (s.drop a).take (textL L[k]).length = textL L[k] ∧ right L[k] ∧ L[k].n ≤ maxI ∧ Laid s (a + (textL L[k]).length) (L.drop (k + 1)) := by
  rw [List.drop_eq_getElem_cons hk] at h
  exact h
end Lx
theorem lexS_place {s : ByteArray} (h : (lexS s).2.2 ≠ 0) : (lexS s).1 = [] ∧ ∃ p : Nat, (lexS s).2.1 = (p : Int) ∧ p ≤ s.size := by
  have hl : s.data.toList.length = s.size := Array.length_toList ..
  revert h
  unfold lexS
  split
  · exact fun _ => ⟨rfl, 0, rfl, Nat.zero_le _⟩
  · intro h
    obtain ⟨h1, p, h2, h3⟩ := Lx.lex_place _ _ _ h
    exact ⟨h1, p, h2, by omega⟩
theorem lexS_laid {s : ByteArray} (h : (lexS s).2.2 = 0) : (lexS s).2.1 = 0 ∧ Lx.Laid s.data.toList 0 (lexS s).1 := by
  revert h
  unfold lexS
  split
  · intro h; exact absurd h (by decide)
  · intro h
    have h0 := Lx.lexAt_zero _ _ h
    refine ⟨h0, Lx.lex_laid s.data.toList s.data.toList.length 0 _ (Nat.le_of_eq (Nat.sub_zero _)) (Nat.zero_le _) ?_ 0 (Nat.le_refl _) (fun j _ h2 => by omega)⟩
    rw [List.drop_zero]
    exact Prod.ext rfl (Prod.ext h0 h)
theorem blank_at {s : ByteArray} {j : Nat} (hj : j < s.size) (h : s.data.toList[j]? = some 32) : s[j] = 32 := by
  have hl : j < s.data.toList.length := by simpa using hj
  rw [List.getElem?_eq_getElem hl] at h
  exact Option.some.inj h
/-- what the loop over the tokens knows -/
structure AgainAt (s : ByteArray) (L : List Lx.T) (k e : Nat) (w wr : World) : Prop where
  laid : Lx.Laid s.data.toList e (L.drop k)
  bel : Below w.heap.size w wr
theorem text_right {t : Lx.T} (h : Lx.right t) : Lx.textT t = (Lx.mk (Lx.textL t), 0) := if_pos h
theorem right_small {t : Lx.T} (h : Lx.right t) : t.s.size ≤ 40 ∧ -9223372036854775808 ≤ t.n := by
  obtain ⟨k, s, n, a⟩ := t
  have hl : s.data.toList.length = s.size := Array.length_toList ..
  rcases h with ⟨_, h, _, _, h2⟩ | ⟨_, h, h2⟩ | ⟨_, h, h2⟩ | ⟨_, h, h2⟩
  · have h : n = 0 := h
    have h2 : s.size ≤ 16 := h2
    exact ⟨by show s.size ≤ 40; omega, by show _ ≤ n; omega⟩
  · have h : 0 ≤ n := h
    have h2 : s = Vl.mt := h2
    exact ⟨by show s.size ≤ 40; rw [h2]; decide, by show _ ≤ n; omega⟩
  · have h : n = 0 := h
    exact ⟨h2.1, by show _ ≤ n; omega⟩
  · have h2 : n = 0 := h2
    have hm : ∀ m ∈ Lx.marks, m.length ≤ 40 := by decide
    have h3 : s.data.toList.length ≤ 40 := hm _ h
    exact ⟨by show s.size ≤ 40; omega, by show _ ≤ n; omega⟩
theorem cut_text {s : ByteArray} {a : Nat} {l : List UInt8} (h : (s.data.toList.drop a).take l.length = l) : s.extract a (a + (Lx.mk l).size) = Lx.mk l := by
  have hz : (Lx.mk l).size = l.length := List.size_toArray
  apply Sl.ba_ext
  rw [Sl.ext_list, hz, Nat.add_sub_cancel_left, h]
end Go.Proofs.YtmkllibfblacfaaDoor

/-
  Layer 12: a value in a cell of its own, and as a result.
-/
namespace Go.Proofs.YtmkllibfblacfaaDoor
open Go.RowKit
theorem info_val : (Tryd.prog.info? 29).map (·.size) = some 3 := by kernel_rfl
theorem results_cell_two {fn : Func} {p u x : Tmp} {ty : TypeId} (h : fn.results = #[.cell p ty, .tmp u, .tmp x]) (tmps : Array Value) (P : Program) (w : World) :
    (results fn tmps).run P w =
      ((asAddr (tmps.getD p undef)).run P w).andThen fun a w₁ => ((loadVar ty a).run P w₁).andThen fun v w₂ => .ok (.tuple #[v, tmps.getD u undef, tmps.getD x undef]) w₂ := by
  simp only [results, h]
  simp [Sem.run_bind, Result.andThen]
set_option maxRecDepth 100000 in
theorem results_val {fn : Func} {p u x : Tmp} (h : fn.results = #[.cell p 29, .tmp u, .tmp x]) (tmps : Array Value) (w : World) (g : Nat) (v : Vl.V)
    (hp : tmps.getD p undef = .pointer (some ⟨g, 0, none⟩)) (hg : RowV w g 29 (valC v).toList) :
    (results fn tmps).run Tryd.prog w = .ok (.tuple #[valV v, tmps.getD u undef, tmps.getD x undef]) w := by
  have hl := run_loadVar_row (P := Tryd.prog) w g 29 29 (valC v) (0, 0) _ hg Tryd.underlying29 rfl info_val
  rw [results_cell_two h, hp]
  simp only [asAddr, Sem.run_pure, Result.andThen]
  rw [hl]
/-- a value stored into its box -/
theorem val_put {w : World} {N : Nat} {v : Vl.V} (hr : RowV w N 29 (valC v).toList) (k n : Int) (s : ByteArray) :
    RowV (((w.setCell ⟨N, 0, none⟩ (.int .i64 k)).setCell ⟨N, 1, none⟩ (.int .i64 n)).setCell ⟨N, 2, none⟩ (.string s)) N 29 (valC ⟨k, n, s⟩).toList ∧
    ∀ B, B ≤ N → Below B w (((w.setCell ⟨N, 0, none⟩ (.int .i64 k)).setCell ⟨N, 1, none⟩ (.int .i64 n)).setCell ⟨N, 2, none⟩ (.string s)) :=
  ⟨rowV_stored (rowV_stored (rowV_stored hr 0 (.int .i64 k)) 1 (.int .i64 n)) 2 (.string s),
    fun B hB => (((Below.refl B w).setCell (p := ⟨N, 0, none⟩) hB _).setCell (p := ⟨N, 1, none⟩) hB _).setCell (p := ⟨N, 2, none⟩) hB _⟩
/-- a value's cells, at its box -/
theorem val_cells {w : World} {g : Nat} {v : Vl.V} (h : RowV w g 29 (valC v).toList) :
    w.cell? ⟨g, 0, none⟩ = some (.int .i64 v.kind) ∧ w.cell? ⟨g, 1, none⟩ = some (.int .i64 v.n) ∧ w.cell? ⟨g, 2, none⟩ = some (.string v.s) ∧
    w.frozen? ⟨g, 0, none⟩ = false ∧ w.frozen? ⟨g, 1, none⟩ = false ∧ w.frozen? ⟨g, 2, none⟩ = false :=
  ⟨rowV_cell h 0, rowV_cell h 1, rowV_cell h 2, rowV_frozen h 0, rowV_frozen h 1, rowV_frozen h 2⟩
/-- a new box -/
theorem val_new (v : Vl.V) (w : World) : RowV (w.alloc (.cells (valC v) 29)) w.heap.size 29 (valC v).toList ∧ Below w.heap.size w (w.alloc (.cells (valC v) 29)) ∧ (w.alloc (.cells (valC v) 29)).heap.size = w.heap.size + 1 :=
  ⟨rowV_new w _ [_, _, _], (Below.refl w.heap.size w).alloc (Nat.le_refl _) _, World.size_alloc _ _⟩
end Go.Proofs.YtmkllibfblacfaaDoor

/-
  Layer 12: a value's parts off the front.
-/
namespace Go.Proofs.YtmkllibfblacfaaDoor
open Go.RowKit
namespace Vl
open Oct (numB tN tR tE txt)
def parts (s : ByteArray) : V × ByteArray × Int :=
  if tE s ≠ 0 then (no, mt, tE s) else if tN s = 1 ∨ tN s = 3 then (⟨tN s, tN (tR s), mt⟩, tR (tR s), tE (tR s)) else if tN s = 2 then (⟨tN s, 0, (txt (tR s) 40).1⟩, (txt (tR s) 40).2.1, (txt (tR s) 40).2.2) else (⟨tN s, 0, mt⟩, tR s, 0)
theorem take_parts (s : ByteArray) : take s = if (parts s).2.2 ≠ 0 then (no, mt, (parts s).2.2) else if right (parts s).1 then parts s else (no, mt, 4) := by
  unfold take parts
  by_cases h1 : tE s = 0
  · simp only [h1, ne_eq, not_true_eq_false, if_false]
    by_cases h2 : tN s = 1 ∨ tN s = 3
    · simp only [h2, if_true]
      by_cases h3 : tE (tR s) = 0
      · simp only [h3, not_true_eq_false, if_false]
      · simp only [h3, not_false_eq_true, if_true]
    · simp only [h2, if_false]
      by_cases h3 : tN s = 2
      · simp only [h3, if_true]
        by_cases h4 : (txt (tR s) 40).2.2 = 0
        · simp only [h4, not_true_eq_false, if_false]
        · simp only [h4, not_false_eq_true, if_true]
      · simp only [h3, if_false, not_true_eq_false]
        by_cases h4 : tN s = 0
        · rw [if_pos h4, if_pos (by rw [h4]; exact right_no), h4]; rfl
        · rw [if_neg h4, if_neg]
          rintro (h | h | h | h)
          · exact h4 h.1
          · exact h2 (.inl h.1)
          · exact h3 h.1
          · exact h2 (.inr h.1)
  · simp only [h1, ne_eq, not_false_eq_true, if_true]
theorem parts_err {s : ByteArray} (h : tE s ≠ 0) : parts s = (no, mt, tE s) := if_pos h
theorem parts_num {s : ByteArray} (h : tE s = 0) (h2 : tN s = 1 ∨ tN s = 3) : parts s = (⟨tN s, tN (tR s), mt⟩, tR (tR s), tE (tR s)) := by unfold parts; rw [if_neg (fun x => x h), if_pos h2]
theorem parts_txt {s : ByteArray} (h : tE s = 0) (h2 : tN s = 2) : parts s = (⟨2, 0, (txt (tR s) 40).1⟩, (txt (tR s) 40).2.1, (txt (tR s) 40).2.2) := by unfold parts; rw [if_neg (fun x => x h), if_neg (by omega), if_pos h2, h2]
theorem parts_one {s : ByteArray} (h : tE s = 0) (h2 : ¬ (tN s = 1 ∨ tN s = 3)) (h3 : ¬ tN s = 2) : parts s = (⟨tN s, 0, mt⟩, tR s, 0) := by unfold parts; rw [if_neg (fun x => x h), if_neg h2, if_neg h3]
end Vl
/-- two boxes, draws between and behind -/
theorem val_two (w : World) (a b : Vl.V) (k l : Nat) {w2 : World} (h : w2 = (((w.alloc (.cells (valC a) 29)).drewN k).alloc (.cells (valC b) 29)).drewN l) :
    RowV w2 (w.heap.size + 1) 29 (valC b).toList ∧ RowV w2 w.heap.size 29 (valC a).toList ∧ Below w.heap.size w w2 ∧ w.heap.size + 1 < w2.heap.size := by
  subst h
  obtain ⟨r0, b0, s0⟩ := val_new a w
  have e : ((w.alloc (.cells (valC a) 29)).drewN k).heap.size = w.heap.size + 1 := by simp
  have h := rowV_new ((w.alloc (.cells (valC a) 29)).drewN k) 29 (valC b).toList
  rw [e] at h
  have h0 : RowV ((w.alloc (.cells (valC a) 29)).drewN k) w.heap.size 29 (valC a).toList := r0
  refine ⟨h, rowV_alloc h0 _, below_drewN ((below_drewN b0 k).alloc (by omega) _) l, ?_⟩
  exact rowV_lt h
theorem tR12_size (s : ByteArray) : (Oct.tR s).size ≤ s.size := by
  rcases Oct.t_cases s with ⟨_, h, _⟩ | ⟨n, r, _, _, h3, _, e2, _, _⟩
  · rw [h]; exact Nat.zero_le _
  · rw [e2]; exact h3
end Go.Proofs.YtmkllibfblacfaaDoor

/-
  Layer 12: a value off the front, the program's and the document's.
-/
namespace Go.Proofs.YtmkllibfblacfaaDoor
open Go.RowKit
theorem parts_size (s : ByteArray) (hs : s.size ≤ maxLen) : (Vl.parts s).1.s.size ≤ maxLen := by
  unfold Vl.parts
  split
  · exact Nat.zero_le _
  · split
    · exact Nat.zero_le _
    · split
      · have z1 := tR12_size s
        show (Oct.txt (Oct.tR s) 40).1.size ≤ maxLen
        rcases Oct.txt_cases (Oct.tR s) 40 with ⟨e, _, h⟩ | ⟨a, r, h, _, h2⟩
        · rw [h]; exact Nat.zero_le _
        · rw [h]; show a.size ≤ maxLen; omega
      · exact Nat.zero_le _
/-! the document's -/
end Go.Proofs.YtmkllibfblacfaaDoor

/-
  Layer 12: rows of values in memory; a row off the front, the program's and the document's.
-/
namespace Go.Proofs.YtmkllibfblacfaaDoor
open Go.RowKit
abbrev vCl (v : Vl.V) : List Value := [.int .i64 v.kind, .int .i64 v.n, .string v.s]
theorem val_parts : (Tryd.prog.info? 29).map (fun i => (i.zero, i.size, i.bytes)) = some (some (.agg #[.int .i64 0, .int .i64 0, .string ⟨#[]⟩]), 3, 32) := by kernel_rfl
theorem val_elem : ElemOk Tryd.prog 29 3 32 := elemOk_of val_parts rfl (by decide) (by decide)
theorem vCl_one (v : Vl.V) : ∀ u ∈ vCl v, u.oneCell' = true := by intro u hu; simp [vCl] at hu; rcases hu with rfl | rfl | rfl <;> rfl
/-- a slice of values, read -/
def ReadsV (w : World) (a : Option Addr) (L : List Vl.V) : Prop := ∀ i (h : i < L.length), ∃ b off, a = some ⟨b, off, none⟩ ∧ w.cell? ⟨b, off + i * 3, none⟩ = some (.int .i64 L[i].kind) ∧ w.cell? ⟨b, off + i * 3 + 1, none⟩ = some (.int .i64 L[i].n) ∧ w.cell? ⟨b, off + i * 3 + 2, none⟩ = some (.string L[i].s)
theorem readsV_none (w : World) (a : Option Addr) : ReadsV w a [] := by intro i hi; simp at hi
theorem readsV_only {F : Nat → Prop} {w w' : World} {a : Option Addr} {L : List Vl.V} (h : ReadsV w a L) (ho : Only F w w') (hn : ∀ b, a = some b → ¬ F b.block) : ReadsV w' a L := by
  intro i hi
  obtain ⟨b, off, h1, h2, h3, h4⟩ := h i hi
  have hF : ¬ F b := hn _ h1
  exact ⟨b, off, h1, (ho.cell (World.block_lt_of_cell? w _ h2) hF).trans h2, (ho.cell (World.block_lt_of_cell? w _ h3) hF).trans h3, (ho.cell (World.block_lt_of_cell? w _ h4) hF).trans h4⟩
theorem readsV_below {w w' : World} {a : Option Addr} {L : List Vl.V} (h : ReadsV w a L) (hb : Below w.heap.size w w') : ReadsV w' a L := readsV_only h (Only.of_none (F := fun _ => False) hb) fun _ _ h => h
theorem owL_readsV {w : World} {B : Nat} {ao : Option Addr} {cp k : Nat} {L : List Vl.V} (hk : L.length = k) (h : OwL vCl 29 3 w B (.slice ao k cp) L) : ReadsV w ao L := by
  intro i hi
  obtain ⟨g, c, e, hc⟩ := owL_cell (f := vCl) (k := 3) (fun _ _ => rfl) h i hi
  cases e
  refine ⟨g, 0, rfl, ?_, ?_, ?_⟩
  · have := (hc 0 _ rfl).1; rw [Nat.zero_add]; exact this
  · have := (hc 1 _ rfl).1; rw [Nat.zero_add]; exact this
  · have := (hc 2 _ rfl).1; rw [Nat.zero_add]; exact this
/-- what is answered as a row off the front -/
def RowPost (t : List Vl.V × ByteArray × Int) (w : World) (e : Ending) (w' : World) : Prop := ∃ a cap, e = .returned (.tuple #[.slice a t.1.length cap, .string t.2.1, .int .i64 t.2.2]) ∧ ReadsV w' a t.1 ∧ t.1.length ≤ cap ∧ Below w.heap.size w w'
theorem rowPost_err {t : List Vl.V × ByteArray × Int} {w w' : World} {e : Int} (h : t = ([], Vl.mt, e)) (hb : Below w.heap.size w w') : RowPost t w (.returned (.tuple #[.slice none 0 0, .string Vl.mt, .int .i64 e])) w' := by
  subst h; exact ⟨none, 0, rfl, readsV_none _ _, Nat.le_refl _, hb⟩
theorem rowPost_ok {t : List Vl.V × ByteArray × Int} {L : List Vl.V} {R : ByteArray} {w w' : World} {B k cp : Nat} {ao : Option Addr} (h : t = (L, R, 0)) (hk : L.length = k) (hown : OwL vCl 29 3 w' B (.slice ao k cp) L) (hb : Below w.heap.size w w') : RowPost t w (.returned (.tuple #[.slice ao k cp, .string R, .int .i64 0])) w' := by
  subst h
  refine ⟨ao, cp, by rw [hk], owL_readsV hk hown, ?_, hb⟩
  obtain ⟨a, c, e, h1, _⟩ := owL_form hown
  cases e
  exact h1
theorem ret3v {a a' : Option Addr} {k k' c c' : Nat} {R R' : ByteArray} {e e' : Int} (h : a = a' ∧ k = k' ∧ c = c' ∧ R = R' ∧ e = e') : Ending.returned (.tuple #[.slice a k c, .string R, .int .i64 e]) = .returned (.tuple #[.slice a' k' c', .string R', .int .i64 e']) := by
  obtain ⟨rfl, rfl, rfl, rfl, rfl⟩ := h; rfl
/-- behind an append of a new box -/
theorem box_val {w wr : World} {B : Nat} {u : Value} {l : List Vl.V} (v : Vl.V) (h : OwL vCl 29 3 wr B u l) (hb : Below B w wr) (hB : B ≤ w.heap.size) :
    OwL vCl 29 3 (wr.alloc (.cells (valC v) 29)) B u l ∧ Below B w (wr.alloc (.cells (valC v) 29)) ∧ B ≤ (wr.alloc (.cells (valC v) 29)).heap.size ∧ RowV (wr.alloc (.cells (valC v) 29)) wr.heap.size 29 (vCl v) := by
  have hs := hb.size
  have hz : (wr.alloc (.cells (valC v) 29)).heap.size = wr.heap.size + 1 := World.size_alloc _ _
  exact ⟨owL_below h ((Below.refl _ _).alloc (Nat.le_refl _) _), hb.alloc (by omega) _, by omega, rowV_new _ _ _⟩
theorem app_val {w wr w5 : World} {B g n cap : Nat} {u : Value} {l l' : List Vl.V} (h5 : OwL vCl 29 3 w5 B (.slice (some ⟨g, 0, none⟩) n cap) l') (ho : Only (fun j => u.ownBlock = some j) wr w5) (h : OwL vCl 29 3 wr B u l) (hb : Below B w wr) (hB : B ≤ wr.heap.size) :
    OwL vCl 29 3 w5 B (.slice (some ⟨g, 0, none⟩) n cap) l' ∧ Below B w w5 :=
  ⟨h5, hb.trans (ho.below (fun j _ e => (owL_lt h j e).1) hB)⟩
/-- a value stored into a box that is not the row's -/
theorem put_val {w wr : World} {B G : Nat} {u : Value} {l : List Vl.V} {v0 : Vl.V} (k n : Int) (s : ByteArray) (h : OwL vCl 29 3 wr B u l) (hb : Below B w wr) (hr : RowV wr G 29 (valC v0).toList) (hG : B ≤ G) (hn : u.ownBlock ≠ some G) :
    OwL vCl 29 3 (((wr.setCell ⟨G, 0, none⟩ (.int .i64 k)).setCell ⟨G, 1, none⟩ (.int .i64 n)).setCell ⟨G, 2, none⟩ (.string s)) B u l ∧
    RowV (((wr.setCell ⟨G, 0, none⟩ (.int .i64 k)).setCell ⟨G, 1, none⟩ (.int .i64 n)).setCell ⟨G, 2, none⟩ (.string s)) G 29 (valC ⟨k, n, s⟩).toList ∧
    Below B w (((wr.setCell ⟨G, 0, none⟩ (.int .i64 k)).setCell ⟨G, 1, none⟩ (.int .i64 n)).setCell ⟨G, 2, none⟩ (.string s)) := by
  obtain ⟨p1, p2⟩ := val_put hr k n s
  refine ⟨owL_only (F := fun j => j = G) h (Only.setCell (F := fun j => j = G) (g := G) (i := 2) (Only.setCell (F := fun j => j = G) (g := G) (i := 1) (Only.setCell (F := fun j => j = G) (g := G) (i := 0) (Only.refl _ wr) (fun _ => rfl) _) (fun _ => rfl) _) (fun _ => rfl) _) (fun j e hj => ?_), p1, hb.trans (p2 B hG)⟩
  subst hj; exact hn e
theorem take12_size (r : ByteArray) : (Vl.take r).2.1.size ≤ r.size := by
  rcases Vl.take_ok r with ⟨_, _, h⟩ | ⟨_, _, h⟩
  · have := congrArg ByteArray.size h
    rw [ByteArray.size_append] at this; omega
  · rw [h]; exact Nat.zero_le _
/-- a string of a value -/
def strOf : Value → ByteArray | .string s => s | _ => Vl.mt
theorem tN12_range (s : ByteArray) : -9223372036854775808 ≤ Oct.tN s ∧ Oct.tN s ≤ 9223372036854775807 := by
  rcases Oct.t_cases s with ⟨h, _, _⟩ | ⟨n, r, h1, h2, _, h3, _⟩
  · rw [h]; omega
  · rw [h3]; omega
end Go.Proofs.YtmkllibfblacfaaDoor

/-
  Layer 12: how two values stand, the program's answer and the document's.
-/
namespace Go.Proofs.YtmkllibfblacfaaDoor
open Go.RowKit
/-- what two boxes leave -/
theorem below_box2v (a b : Vl.V) (w : World) : Below w.heap.size w ((w.alloc (.cells (valC a) 29)).alloc (.cells (valC b) 29)) :=
  ((Below.refl w.heap.size w).alloc (Nat.le_refl _) _).alloc (by rw [World.size_alloc]; omega) _
theorem bless_iff : ∀ a b : List UInt8, Op.bytesLess a b = true ↔ Lib.compareBytes a b = -1
  | [], [] => by simp [Lib.compareBytes, Op.bytesLess]
  | [], _ :: _ => by simp [Lib.compareBytes, Op.bytesLess]
  | _ :: _, [] => by simp [Lib.compareBytes, Op.bytesLess]
  | x :: a, y :: b => by
    have ih := bless_iff a b
    have e1 : Op.bytesLess (x :: a) (y :: b) = (x < y || (x == y && Op.bytesLess a b)) := rfl
    have e2 : Lib.compareBytes (x :: a) (y :: b) = (if x < y then (-1 : Int) else if y < x then 1 else Lib.compareBytes a b) := rfl
    rw [e1, e2]
    by_cases h1 : x < y
    · simp [h1]
    · by_cases h2 : y < x
      · have h3 : (x == y) = false := by
          simp only [beq_eq_false_iff_ne, ne_eq]; rintro rfl; exact h1 h2
        simp [h1, h2, h3]
      · have h3 : x = y := UInt8.toNat_inj.1 (by rw [UInt8.lt_iff_toNat_lt] at h1 h2; omega)
        subst h3
        simp [h1, ih]
set_option maxRecDepth 100000 in
set_option maxHeartbeats 3200000 in
theorem compare12_any (a b : Vl.V) (w : World) :
    Calls Tryd.prog 48 #[valV a, valV b] w fun e w' => e = .returned (.int .i64 (Vl.cmp a b)) ∧ Below w.heap.size w w' := by
  have HB := Lib.hid (below_box2v a b w)
  obtain ⟨k, n, s⟩ := a
  obtain ⟨k', n', s'⟩ := b
  by_cases hk : k = k'
  · subst hk
    by_cases hn : n = n'
    · subst hn
      have E := Lib.hid (Vl.cmp_s (a := ⟨k, n, s⟩) (b := ⟨k, n, s'⟩) rfl rfl)
      rw [E.out]
      clear E
      go_enter Tryd.func48, Tryd.ntmps48
      go_wp2_with (go_at_call 65; refine (scompare_any _ _ _).mono ?_; rintro e w1 ⟨rfl, rfl⟩)
      go_ret
      exact ⟨rfl, HB.out⟩
    · have E := Lib.hid (Vl.cmp_n (a := ⟨k, n, s⟩) (b := ⟨k, n', s'⟩) rfl hn)
      rw [E.out]
      have t : (n == n') = false := by simp; exact hn
      clear E
      go_enter Tryd.func48, Tryd.ntmps48
      go_wp2_with (go_at_call 64; refine (icompare_any _ _ _).mono ?_; rintro e w1 ⟨rfl, rfl⟩)
      go_ret
      exact ⟨rfl, HB.out⟩
  · have E := Lib.hid (Vl.cmp_k (a := ⟨k, n, s⟩) (b := ⟨k', n', s'⟩) hk)
    rw [E.out]
    have t : (k == k') = false := by simp; exact hk
    clear E
    go_enter Tryd.func48, Tryd.ntmps48
    go_wp2_with (go_at_call 63; refine (kcompare_any _ _ _).mono ?_; rintro e w1 ⟨rfl, rfl⟩)
    go_ret
    exact ⟨rfl, HB.out⟩
end Go.Proofs.YtmkllibfblacfaaDoor

/-
  Layer 13: what the rows' condition on the listed variables gives the walks; the program's own start meets it.
-/
namespace Go.Proofs.YtmkllibfblacfaaDoor
open Go.RowKit
def laidL : List (String × DataW Unit) := [("math/bits.deBruijn32tab", Rows.laid_math_bits_deBruijn32tab), ("math/bits.deBruijn64tab", Rows.laid_math_bits_deBruijn64tab), ("internal/strconv.uint64pow10", Rows.laid_internal_strconv_uint64pow10), ("strconv.ErrRange", Rows.laid_strconv_ErrRange), ("strconv.ErrSyntax", Rows.laid_strconv_ErrSyntax)]
theorem gPow10 : Tryd.prog.globalNamed "internal/strconv.uint64pow10" = some 3 := by kernel_rfl
theorem tPow10 : (Tryd.prog.globals[3]?).map (·.type) = some 148 := by kernel_rfl
theorem cellsU64 : Tryd.prog.cellsOf 127 = 1 := by kernel_rfl
theorem cells20 : Tryd.prog.cellsOf 148 = 20 := by kernel_rfl
theorem laid_pow10 : (Rows.laid_internal_strconv_uint64pow10 : DataW Unit) = Lib.tabData .u64 Lib.pow10Tab := by kernel_rfl
/-- without the first -/
theorem laidMet_tail {P : Program} {x : String × DataW Unit} {rest : List (String × DataW Unit)} {W : World} (h : laidMet P (x :: rest) W) : laidMet P rest W := by
  obtain ⟨ps, ⟨g', t', cs, fuel, p, q, _, _, _, _, hr, hps⟩, hn, hb⟩ := h
  subst hps
  exact ⟨q, hr, (List.nodup_append.1 hn).2.1, fun b off hm => hb b off (List.mem_append_right _ hm)⟩
theorem door_met (os : Os) (args : Array Value) : laidMetH Tryd.prog laidL ((World.doorLaid Tryd.prog 400 os).forCall (fun _ _ => 0) ⟨#[], args, []⟩).memory :=
  laidMetH_of_parts3 (fuel := 8) (laidMet_of_run' 8 (by kernel_rfl) (by kernel_rfl)) (by kernel_rfl) (by kernel_rfl)
theorem gErrRange : Tryd.prog.globalNamed "strconv.ErrRange" = some 2 := by kernel_rfl
theorem tErrRange : (Tryd.prog.globals[2]?).map (·.type) = some 95 := by kernel_rfl
/-- an error variable that reads as an interface over something holds one -/
theorem trod_iface {P : Program} {H : Type} {enc : TypeId × Value → H} {w : World} {base : Nat} {spare : Nat → Bool} {held : Bool} {fuel : Nat} {t : TypeId} {cs : List Value} {k : Array (String × TypeId)} {ty : String} {d : DataW H} {p : List MemPlace}
    (ht : P.underlying t = some (.interface k)) (h : DataW.trod enc P w base spare held fuel t cs = some (.iface ty d, p)) : ∃ te pe, cs = [.iface te pe] := by
  cases fuel with
  | zero => simp [DataW.trod] at h
  | succ n =>
    unfold DataW.trod at h
    rw [ht] at h
    split at h <;> simp_all
theorem err_of_head {P : Program} {W : World} {name ty : String} {d : DataW Unit} {rest : List (String × DataW Unit)} {g t : Nat} {k : Array (String × TypeId)}
    (hg : P.globalNamed name = some g) (hty : (P.globals[g]?).map (·.type) = some t) (ht : P.underlying t = some (.interface k)) (h : laidMet P ((name, .iface ty d) :: rest) W) : ∃ te pe, W.cell? ⟨g, 0, none⟩ = some (.iface te pe) := by
  obtain ⟨ps, ⟨g', t', cs, fuel, p, q, hg', ht', hvar, hd, _, _⟩, _⟩ := h
  obtain rfl := Option.some.inj (hg.symm.trans hg')
  obtain rfl := Option.some.inj (hty.symm.trans ht')
  obtain ⟨te, pe, hcs⟩ := trod_iface ht hd
  refine ⟨te, pe, ?_⟩
  have := World.var?_cell hg hvar 0
  rw [this]
  obtain ⟨l⟩ := cs
  have hl : l = [.iface te pe] := hcs
  rw [hl]; rfl
/-- the tables and the error, out of the condition -/
theorem facts_of_laid {W : World} (h : laidMetH Tryd.prog laidL W) : Facts13 W := by
  rw [MakeChecks.laidMetH_plain _ _ _ (by kernel_rfl)] at h
  have h3 := laidMet_tail (laidMet_tail h)
  have h4 := laidMet_tail h3
  rw [laid_pow10] at h3
  exact ⟨Lib.tabIs_of_head gPow10 tPow10 Tryd.underlying148 Tryd.underlying127 cellsU64 cells20 h3, err_of_head gErrRange tErrRange Tryd.underlying95 h4⟩
end Go.Proofs.YtmkllibfblacfaaDoor
