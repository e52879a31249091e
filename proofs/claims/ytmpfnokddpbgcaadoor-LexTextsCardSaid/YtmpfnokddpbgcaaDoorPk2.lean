/-
  Texts of the layers, part 2: QTail, NodQuiet, HTail, Plan, Dump, DskArr, ListAt, AppOne, Slice1, ValRight, Rely, RelyC, ValDig, ValQuote, StrCmp, Itoa.
-/
import Derived.Test.YtmpfnokddpbgcaaDoorPk1
import Derived.StillTail
import Derived.Deep.Quiet
import Derived.BigQuiet
import Derived.OrdersHeld
import Derived.Laws.Tables
import Derived.Test.YtmpfnokddpbgcaaDoorProg
import Derived.WalkKit
import Derived.Deep.MidRow
import Derived.ChangeKeysEq
import Derived.Laws.MakeOwn
import Derived.Deep.DeepAppendWide
import Derived.ArgAppend
import Derived.Deep.AppendLies
import Derived.Great.FillDense
import Derived.Great.BuildSlice
import Derived.LoopTactic
import Derived.Laws.RangeAny
import Derived.Deep.RegionHeld3
import Derived.Orders
import Derived.IntWalk
import Derived.Lib.ItoaLen
import Derived.Lib.OthersKept
import Derived.Lib.Bytealg
import Derived.Laws.Externs
import Derived.Shelf.Strconv.Itoa3
/-
  A region that draws its order, whose operations but the last ones (these in one forced order) read, or call what makes memory of its own and always hands back the same: one walk, in the order of the text. What the kit has for one world ('wp_region_still_tail') and for a class of worlds without a tail ('wp_region_quiet'), put together.
-/
namespace Go.Proofs.YtmpfnokddpbgcaaDoor
open Go.RowKit

section
variable {P : Program} {ops : Array Oper} {md : Region.Mode} {C : World → Prop}
/-- whatever order is picked among the first n -/
def HeadQ (P : Program) (md : Region.Mode) (ops : Array Oper) (C : World → Prop) (n : Nat) (L : Array Bool → Act → Prop) : Nat → Array Bool → Act → Prop
  | 0, listed, a => L listed a
  | f + 1, listed, a => Region.ready md ops listed ≠ [] ∧ ∀ i ∈ Region.ready md ops listed, i < n ∧ qOp P ops C i (HeadQ P md ops C n L f (listed.setIfInBounds i true)) a
theorem headQ_any {n g : Nat} {L : Array Bool → Act → Prop} {Q : Exit → Act → World → Prop} (hL : ∀ listed a, L listed a → ∀ w, C w → wpAny P md ops Q g listed a w) :
    ∀ (f : Nat) (listed : Array Bool) (a : Act), HeadQ P md ops C n L f listed a → ∀ w, C w → wpAny P md ops Q (f + g) listed a w := by
  intro f
  induction f with
  | zero => intro listed a h w hw; rw [Nat.zero_add]; exact hL _ _ h w hw
  | succ f ih =>
    intro listed a h w hw
    rw [show f + 1 + g = (f + g) + 1 by omega]
    exact ⟨fun h0 => absurd h0 h.1, fun i hi => wpOp_of_qOp hw (fun a' w' hw' k => ih _ a' k w' hw') (h.2 i hi).2⟩
theorem headQ_first {n i : Nat} {oi : Oper} {v : Value} {L : Array Bool → Act → Prop} (hi : ops[i]? = some oi) (hsel : ∀ (j : Nat) (o : Oper) cs b, ops[j]? = some o → o.op ≠ .select cs b)
    (hs : Region.sinkB md ops n = true) (hc : Region.chainB md ops n = true) (hn : n < ops.size) (hin : i < n) (hdone : ∀ listed a, L listed a → ∀ j ∈ Region.ready md ops listed, n ≤ j) :
    ∀ (f : Nat) (listed : Array Bool) (a : Act), HeadInv md ops n listed →
      (∀ j oj, ops[j]? = some oj → j ≠ i → listed.getD j true = false → (∀ e ∈ oj.after, Region.binds md e = true → e.on ≠ i) → oi.apart ops oj = true) →
      i ∈ Region.ready md ops listed → YieldsIn P ops C oi v a → HeadQ P md ops C n L f (listed.setIfInBounds i true) (a.put oi.dst v) → HeadQ P md ops C n L (f + 1) listed a := by
  intro f
  induction f with
  | zero =>
    intro listed a inv _ hr hy H
    have hun := (mem_ready.1 hr).1
    refine ⟨fun h => (by rw [h] at hr; cases hr), fun j hj => ?_⟩
    have hjn : j < n := Nat.lt_of_not_le fun h => absurd hj (tail_waits hs hc hn inv _ i rfl hin hun j h)
    refine ⟨hjn, ?_⟩
    by_cases hji : j = i
    · subst hji; exact hy.qOp hi H
    · have := hdone _ _ H j (ready_mono hj hji)
      omega
  | succ f ih =>
    intro listed a inv hfree hr hy H
    have hun := (mem_ready.1 hr).1
    refine ⟨fun h => (by rw [h] at hr; cases hr), fun j hj => ?_⟩
    have hjn : j < n := Nat.lt_of_not_le fun h => absurd hj (tail_waits hs hc hn inv _ i rfl hin hun j h)
    refine ⟨hjn, ?_⟩
    by_cases hji : j = i
    · subst hji; exact hy.qOp hi H
    · have h1 := (H.2 j (ready_mono hj hji)).2
      obtain ⟨hjun, oj, hoj, hall⟩ := mem_ready.1 hj
      have hnot : ∀ e ∈ oj.after, Region.binds md e = true → e.on ≠ i := fun e he hb heq => by
        have h2 := hall e he hb
        rw [heq, getD_both hun] at h2
        cases h2
      have h2 := qOp_put hoj (hfree j oj hoj hji hjun hnot) (fun cs b => hsel i oi cs b hi) (fun cs b => hsel j oj cs b hoj) hy h1
      refine qOp_mono (fun a' h3 => ih (listed.setIfInBounds j true) a' (inv.set hj hjn) (fun k ok hk hki hunk hno => hfree k ok hk hki ?_ hno) (ready_mono hr (Ne.symm hji)) h3.1 ?_) h2
      · by_cases hjk : j = k
        · subst hjk; exact hjun
        · rw [getD_set_ne true hjk] at hunk; exact hunk
      · rw [Array.setIfInBounds_comm _ _ hji]
        exact h3.2
theorem headQ_lex {n g : Nat} {Lq : Act → Prop} (hsel : Region.noSelect ops = true) (hs : Region.sinkB md ops n = true) (hc : Region.chainB md ops n = true) (hn : n < ops.size) :
    ∀ (l : List Oper) (k : Nat) (listed : Array Bool) (a : Act), (∀ j, j < l.length → l[j]? = ops[k + j]?) → k + l.length = n → HeadInv md ops n listed →
    Region.lexHead md ops g l.length k listed = true → wpQuiet P ops C Lq l a → HeadQ P md ops C n (fun listed' a' => Region.seqB md ops g n listed' = true ∧ Lq a') l.length listed a := by
  intro l
  induction l with
  | nil =>
    intro k listed a _ hk _ hB h
    obtain rfl : k = n := by simpa using hk
    exact ⟨by simpa [Region.lexHead] using hB, h⟩
  | cons o l ih =>
    intro k listed a hl hk inv hB h
    have h0 : ops[k]? = some o := by simpa using (hl 0 (by simp)).symm
    simp only [List.length_cons, Region.lexHead, Bool.and_eq_true] at hB
    obtain ⟨⟨hr, hf⟩, hB'⟩ := hB
    have hkn : k < n := by simp only [List.length_cons] at hk; omega
    have hr' : k ∈ Region.ready md ops listed := by simpa using hr
    have hst : qOp P ops C k (wpQuiet P ops C Lq l) a := by unfold qOp; simp only [h0]; exact h
    obtain ⟨v, hy, hK⟩ := yieldsIn_of_qOp h0 hst
    exact headQ_first h0 (Region.noSelect_spec hsel) hs hc hn hkn (fun listed' a' hL => seqB_ready hL.1) l.length listed a inv (Region.free_spec h0 hf) hr' hy
      (ih (k + 1) _ _ (fun j hj => by have := hl (j + 1) (by simp; omega); simpa [Nat.add_assoc, Nat.add_comm 1 j] using this) (by simp only [List.length_cons] at hk; omega) (inv.set hr' hkn) hB' hK)
/-- the law -/
theorem wp_region_quiet_tail {id : Nat} {Q : Exit → Act → World → Prop} {a : Act} {w : World} {l : List Oper} (n : Nat) (hm : P.follows .mixedOrders = true) (hB : Region.lexTailB .any l.toArray n = true) (hC : C w.drew)
    (h : wpQuiet P l.toArray C (fun a' => ∀ w', C w' → wpList P l.toArray Q (l.drop n) a' w') (l.take n) a) : (Code.region id l.toArray true).wp P Q a w := by
  simp only [Region.lexTailB, Bool.and_eq_true, decide_eq_true_eq] at hB
  obtain ⟨⟨⟨⟨hsel, hn⟩, hs⟩, hc⟩, hlex⟩ := hB
  have hn' : n < l.length := by simpa using hn
  have htl : (l.take n).length = n := by simp; omega
  have hdl : (l.drop n).length = l.toArray.size - n := by simp
  have inv0 : HeadInv .any l.toArray n (Array.replicate l.toArray.size false) :=
    ⟨by simp, fun j oj _ hl => (by rw [getD_replicate_false] at hl; cases hl), fun t _ ht => getD_in (by simpa using ht) (getD_replicate_false _ _)⟩
  have H := headQ_lex (md := .any) (g := l.toArray.size - n) hsel hs hc hn (l.take n) 0 _ a (fun j hj => by
    have hj' : j < n := by rw [htl] at hj; exact hj
    simp [hj']) (by simpa using htl) inv0 (by rw [htl]; exact hlex) h
  refine wp_region_any hm ?_
  have := headQ_any (Q := Q) (g := l.toArray.size - n) (fun listed a' hL w' hw' => by
    have := wpAny_of_seq (md := .any) (Q' := Q) (l.drop n) n listed a' w' (fun j => by simp [List.getElem?_drop]) (by rw [hdl]; exact hL.1) (hL.2 w' hw')
    rwa [hdl] at this) _ _ _ H w.drew hC
  rw [htl, show n + (l.toArray.size - n) = l.toArray.size by omega] at this
  exact this
/-- a load of an array or a struct, in whatever class of worlds -/
theorem wpQuiet_load_rows {Q : Act → Prop} {op : Oper} {rest : List Oper} {a : Act} (hgd : op.guard = none) (ty : TypeId) (x : Operand) (ho : op.op = .load ty x)
    (b o : Nat) (hx : a.eval x = .pointer (some ⟨b, o, none⟩)) (cs : Array Value) (hc : ∀ w, C w → (loadVar ty ⟨b, o, none⟩).run P w = .ok (.agg cs) w)
    (h : wpQuiet P ops C Q rest (a.put op.dst (.agg cs))) : wpQuiet P ops C Q (op :: rest) a := by
  refine wpQuiet_step fun K hK => ?_
  have hw : Region.wanted op (yielded ops a.tmps) = true := by simp [Region.wanted, hgd]
  rw [if_pos hw]
  refine ⟨.agg cs, ?_, hK _ h⟩
  intro w' hw'
  unfold Oper.quietAt execOp
  simp only [ho, hx, Instr.loadAt, Instr.sureAddr, Sem.run_bind, Sem.run_pure, Result.andThen_ok, hc w' hw']
  exact ⟨rfl, rfl⟩
/-- a call by its contract, in whatever class of worlds -/
theorem wpQuiet_call {Q : Act → Prop} {op : Oper} {rest : List Oper} {a : Act} (hgd : op.guard = none) (f : FuncId) (args : Array Value) (v : Value) (hrun : ∀ w, C w → (execOp a.eval op).run P w = .ok (.enter f args) w)
    (hc : ∀ w, C w → Calls P f args w fun e w' => e = .returned v ∧ C w') (h : wpQuiet P ops C Q rest (a.put op.dst v)) : wpQuiet P ops C Q (op :: rest) a := by
  refine wpQuiet_step fun K hK => ?_
  have hw : Region.wanted op (yielded ops a.tmps) = true := by simp [Region.wanted, hgd]
  rw [if_pos hw]
  refine ⟨v, ?_, hK _ h⟩
  intro w' hw'
  unfold Oper.quietAt
  rw [hrun w' hw']
  exact ⟨rfl, hc w' hw'⟩
/-- any operation that only reads -/
theorem wpQuiet_value {Q : Act → Prop} {op : Oper} {rest : List Oper} {a : Act} (hgd : op.guard = none) (v : Value) (hrun : ∀ w, C w → (execOp a.eval op).run P w = .ok (.value v) w)
    (h : wpQuiet P ops C Q rest (a.put op.dst v)) : wpQuiet P ops C Q (op :: rest) a := by
  refine wpQuiet_step fun K hK => ?_
  have hw : Region.wanted op (yielded ops a.tmps) = true := by simp [Region.wanted, hgd]
  rw [if_pos hw]
  refine ⟨v, ?_, hK _ h⟩
  intro w' hw'
  unfold Oper.quietAt
  rw [hrun w' hw']
  exact ⟨rfl, rfl⟩
/-- one step that only reads; its value is found by the walk -/
theorem wpQuiet_read {Q : Act → Prop} {op : Oper} {rest : List Oper} {a : Act} (h : ∃ v, (Region.wanted op (yielded ops a.tmps) = true ∧ ∀ w, C w → (execOp a.eval op).run P w = .ok (.value v) w) ∧ wpQuiet P ops C Q rest (a.put op.dst v)) : wpQuiet P ops C Q (op :: rest) a := by
  obtain ⟨v, ⟨h1, h2⟩, h3⟩ := h
  refine wpQuiet_step fun K hK => ?_
  rw [if_pos h1]
  refine ⟨v, ?_, hK _ h3⟩
  intro w' hw'
  unfold Oper.quietAt
  rw [h2 w' hw']
  exact ⟨rfl, rfl⟩
end
end Go.Proofs.YtmpfnokddpbgcaaDoor

/-
  A call, guarded or not, in a drawn region that is walked in the order of its text (used with go_big_quiet_want).
-/
namespace Go.Proofs.YtmpfnokddpbgcaaDoor
open Go.RowKit
theorem quietAt_call {P : Program} {op : Oper} {a : Act} {C : World → Prop} {w : World} {v : Value} (f : FuncId) (args : Array Value) (hrun : (execOp a.eval op).run P w = .ok (.enter f args) w)
    (h : Calls P f args w fun e w' => e = .returned v ∧ C w') : op.quietAt P a C w v := by
  unfold Oper.quietAt
  rw [hrun]
  exact ⟨rfl, h⟩
end Go.Proofs.YtmpfnokddpbgcaaDoor

/-
  A region that draws its order: first operations that only read (under a condition S on the world), then some that write and keep S, then last ones that need not keep it; the second and third in one forced order. One walk, in the order of the text.
-/
namespace Go.Proofs.YtmpfnokddpbgcaaDoor
open Go.RowKit

section
variable {P : Program} {ops : Array Oper} {md : Region.Mode} {S : World → Prop} {Q : Exit → Act → World → Prop}
/-- operations that only read, one by one -/
def wpYield (P : Program) (ops : Array Oper) (S : World → Prop) (R : Act → Prop) : List Oper → Act → Prop
  | [], a => R a
  | o :: rest, a => ∃ v, YieldsIf P ops S o v a ∧ wpYield P ops S R rest (a.put o.dst v)
/-- operations that keep S, one by one -/
def wpKeep (P : Program) (ops : Array Oper) (S : World → Prop) (Q : Exit → Act → World → Prop) (R : Act → World → Prop) (i : Nat) : Nat → Act → World → Prop
  | 0, a, w => R a w
  | f + 1, a, w => wpOp P ops Q i (fun a' w' => S w' ∧ wpKeep P ops S Q R (i + 1) f a' w') a w
/-- whatever order is picked among the first n, S kept -/
def HeadH (P : Program) (md : Region.Mode) (ops : Array Oper) (S : World → Prop) (Q : Exit → Act → World → Prop) (n : Nat) (L : Array Bool → Act → World → Prop) : Nat → Array Bool → Act → World → Prop
  | 0, listed, a, w => L listed a w
  | f + 1, listed, a, w => Region.ready md ops listed ≠ [] ∧ ∀ i ∈ Region.ready md ops listed, i < n ∧ wpOp P ops Q i (fun a' w' => S w' ∧ HeadH P md ops S Q n L f (listed.setIfInBounds i true) a' w') a w
theorem headH_any {n g : Nat} {L : Array Bool → Act → World → Prop} (hL : ∀ listed a w, L listed a w → wpAny P md ops Q g listed a w) :
    ∀ (f : Nat) (listed : Array Bool) (a : Act) (w : World), HeadH P md ops S Q n L f listed a w → wpAny P md ops Q (f + g) listed a w := by
  intro f
  induction f with
  | zero => intro listed a w h; rw [Nat.zero_add]; exact hL _ _ _ h
  | succ f ih =>
    intro listed a w h
    rw [show f + 1 + g = (f + g) + 1 by omega]
    exact ⟨fun h0 => absurd h0 h.1, fun i hi => wpOp_mono (fun a' w' k => ih _ a' w' k.2) (h.2 i hi).2⟩
theorem headH_first {n i : Nat} {oi : Oper} {v : Value} {L : Array Bool → Act → World → Prop} (hi : ops[i]? = some oi) (hsel : ∀ (j : Nat) (o : Oper) cs b, ops[j]? = some o → o.op ≠ .select cs b)
    (hQ : ∀ c a w, Q (.panic c) (a.put oi.dst v) w → Q (.panic c) a w)
    (hs : Region.sinkB md ops n = true) (hc : Region.chainB md ops n = true) (hn : n < ops.size) (hin : i < n) (hdone : ∀ listed a w, L listed a w → ∀ j ∈ Region.ready md ops listed, n ≤ j) :
    ∀ (f : Nat) (listed : Array Bool) (a : Act) (w : World), HeadInv md ops n listed →
      (∀ j oj, ops[j]? = some oj → j ≠ i → listed.getD j true = false → (∀ e ∈ oj.after, Region.binds md e = true → e.on ≠ i) → oi.apart ops oj = true) →
      i ∈ Region.ready md ops listed → YieldsIf P ops S oi v a → S w → HeadH P md ops S Q n L f (listed.setIfInBounds i true) (a.put oi.dst v) w → HeadH P md ops S Q n L (f + 1) listed a w := by
  intro f
  induction f with
  | zero =>
    intro listed a w inv _ hr hy hS H
    have hun := (mem_ready.1 hr).1
    refine ⟨fun h => (by rw [h] at hr; cases hr), fun j hj => ?_⟩
    have hjn : j < n := Nat.lt_of_not_le fun h => absurd hj (tail_waits hs hc hn inv _ i rfl hin hun j h)
    refine ⟨hjn, ?_⟩
    by_cases hji : j = i
    · subst hji; exact hy.wpOp hi hS ⟨hS, H⟩
    · have := hdone _ _ _ H j (ready_mono hj hji)
      omega
  | succ f ih =>
    intro listed a w inv hfree hr hy hS H
    have hun := (mem_ready.1 hr).1
    refine ⟨fun h => (by rw [h] at hr; cases hr), fun j hj => ?_⟩
    have hjn : j < n := Nat.lt_of_not_le fun h => absurd hj (tail_waits hs hc hn inv _ i rfl hin hun j h)
    refine ⟨hjn, ?_⟩
    by_cases hji : j = i
    · subst hji; exact hy.wpOp hi hS ⟨hS, H⟩
    · have h1 := (H.2 j (ready_mono hj hji)).2
      obtain ⟨hjun, oj, hoj, hall⟩ := mem_ready.1 hj
      have hnot : ∀ e ∈ oj.after, Region.binds md e = true → e.on ≠ i := fun e he hb heq => by
        have h2 := hall e he hb
        rw [heq, getD_both hun] at h2
        cases h2
      have h2 := wpOp_putIf hoj (hfree j oj hoj hji hjun hnot) (fun cs b => hsel i oi cs b hi) (fun cs b => hsel j oj cs b hoj) hQ hy h1
      refine wpOp_mono (fun a' w' h3 => ⟨h3.2.1, ih (listed.setIfInBounds j true) a' w' (inv.set hj hjn) (fun k ok hk hki hunk hno => hfree k ok hk hki ?_ hno) (ready_mono hr (Ne.symm hji)) h3.1 h3.2.1 ?_⟩) h2
      · by_cases hjk : j = k
        · subst hjk; exact hjun
        · rw [getD_set_ne true hjk] at hunk; exact hunk
      · rw [Array.setIfInBounds_comm _ _ hji]
        exact h3.2.2
/-- those that keep S, in their forced order -/
theorem headH_seq {n : Nat} {R : Act → World → Prop} : ∀ (f k : Nat) (g : Nat) (listed : Array Bool) (a : Act) (w : World), k + f = n → Region.seqB md ops (f + g) k listed = true → wpKeep P ops S Q R k f a w →
    HeadH P md ops S Q n (fun listed' a' w' => Region.seqB md ops g n listed' = true ∧ R a' w') f listed a w := by
  intro f
  induction f with
  | zero => intro k g listed a w hk hB h; obtain rfl : k = n := by omega
            exact ⟨by simpa using hB, h⟩
  | succ f ih =>
    intro k g listed a w hk hB h
    rw [show f + 1 + g = (f + g) + 1 by omega] at hB
    simp only [Region.seqB, Bool.and_eq_true, decide_eq_true_eq] at hB
    refine ⟨fun h0 => (by rw [hB.1] at h0; cases h0), fun i hi => ?_⟩
    rw [hB.1] at hi
    obtain rfl : i = k := by simpa using hi
    exact ⟨by omega, wpOp_mono (fun a' w' h3 => ⟨h3.1, ih (i + 1) g _ a' w' (by omega) hB.2 h3.2⟩) h⟩
theorem headH_lex {n g : Nat} {R : Act → World → Prop} {w : World} (hsel : Region.noSelect ops = true) (hQ : ∀ c (d : Option Tmp) v a w, Q (.panic c) (a.put d v) w → Q (.panic c) a w) (hs : Region.sinkB md ops n = true) (hc : Region.chainB md ops n = true) (hn : n < ops.size) (hS : S w) :
    ∀ (l : List Oper) (k f : Nat) (listed : Array Bool) (a : Act), (∀ j, j < l.length → l[j]? = ops[k + j]?) → k + l.length + f = n → HeadInv md ops n listed →
    Region.lexHead md ops (f + g) l.length k listed = true → wpYield P ops S (fun a' => wpKeep P ops S Q R (k + l.length) f a' w) l a →
    HeadH P md ops S Q n (fun listed' a' w' => Region.seqB md ops g n listed' = true ∧ R a' w') (l.length + f) listed a w := by
  intro l
  induction l with
  | nil =>
    intro k f listed a _ hk _ hB h
    rw [List.length_nil, Nat.zero_add]
    exact headH_seq f k g listed a w (by simpa using hk) (by simpa [Region.lexHead] using hB) (by simpa [wpYield] using h)
  | cons o l ih =>
    intro k f listed a hl hk inv hB h
    have h0 : ops[k]? = some o := by simpa using (hl 0 (by simp)).symm
    simp only [List.length_cons, Region.lexHead, Bool.and_eq_true] at hB
    obtain ⟨⟨hr, hf⟩, hB'⟩ := hB
    have hkn : k < n := by simp only [List.length_cons] at hk; omega
    have hr' : k ∈ Region.ready md ops listed := by simpa using hr
    obtain ⟨v, hy, hK⟩ := h
    rw [List.length_cons, show l.length + 1 + f = (l.length + f) + 1 by omega]
    refine headH_first h0 (Region.noSelect_spec hsel) (fun c a w => hQ c o.dst v a w) hs hc hn hkn (fun listed' a' w' hL => seqB_ready hL.1) (l.length + f) listed a w inv (Region.free_spec h0 hf) hr' hy hS
      (ih (k + 1) f _ _ (fun j hj => by have := hl (j + 1) (by simp; omega); simpa [Nat.add_assoc, Nat.add_comm 1 j] using this) (by simp only [List.length_cons] at hk; omega) (inv.set hr' hkn) hB' ?_)
    rw [List.length_cons, show k + (l.length + 1) = k + 1 + l.length by omega] at hK
    exact hK
/-- the law: m that only read, n - m that keep S, the rest -/
theorem wp_region_held_tail {id : Nat} {a : Act} {w : World} {l : List Oper} (m n : Nat) (hmn : m ≤ n) (hm : P.follows .mixedOrders = true) (hQ : ∀ c (d : Option Tmp) v a w, Q (.panic c) (a.put d v) w → Q (.panic c) a w)
    (hB : (Region.noSelect l.toArray && decide (n < l.toArray.size) && Region.sinkB .any l.toArray n && Region.chainB .any l.toArray n && Region.lexHead .any l.toArray (n - m + (l.toArray.size - n)) m 0 (Array.replicate l.toArray.size false)) = true) (hS : S w.drew)
    (h : wpYield P l.toArray S (fun a' => wpKeep P l.toArray S Q (fun a'' w'' => wpList P l.toArray Q (l.drop n) a'' w'') m (n - m) a' w.drew) (l.take m) a) : (Code.region id l.toArray true).wp P Q a w := by
  simp only [Bool.and_eq_true, decide_eq_true_eq] at hB
  obtain ⟨⟨⟨⟨hsel, hn⟩, hs⟩, hc⟩, hlex⟩ := hB
  have hn' : n < l.length := by simpa using hn
  have htl : (l.take m).length = m := by simp; omega
  have hdl : (l.drop n).length = l.toArray.size - n := by simp
  have inv0 : HeadInv .any l.toArray n (Array.replicate l.toArray.size false) :=
    ⟨by simp, fun j oj _ hl => (by rw [getD_replicate_false] at hl; cases hl), fun t _ ht => getD_in (by simpa using ht) (getD_replicate_false _ _)⟩
  have H := headH_lex (md := .any) (g := l.toArray.size - n) hsel hQ hs hc hn hS (l.take m) 0 (n - m) _ a (fun j hj => by
    have hj' : j < m := by rw [htl] at hj; exact hj
    simp [hj']) (by rw [htl]; omega) inv0 (by rw [htl]; exact hlex) (by rw [htl, Nat.zero_add]; exact h)
  refine wp_region_any hm ?_
  have := headH_any (g := l.toArray.size - n) (fun listed a' w' hL => by
    have := wpAny_of_seq (md := .any) (Q' := Q) (l.drop n) n listed a' w' (fun j => by simp [List.getElem?_drop]) (by rw [hdl]; exact hL.1) hL.2
    rwa [hdl] at this) _ _ _ _ H
  rw [htl, show m + (n - m) + (l.toArray.size - n) = l.toArray.size by omega] at this
  exact this
/-- one step that only reads; its value is found by the walk -/
theorem wpYield_step {R : Act → Prop} {o : Oper} {rest : List Oper} {a : Act} (h : ∃ v, (Region.wanted o (yielded ops a.tmps) = true ∧ ∀ w, S w → (execOp a.eval o).run P w = .ok (.value v) w) ∧ wpYield P ops S R rest (a.put o.dst v)) : wpYield P ops S R (o :: rest) a := by
  obtain ⟨v, h1, h2⟩ := h
  exact ⟨v, .inl h1, h2⟩
theorem wpYield_load {R : Act → Prop} {o : Oper} {rest : List Oper} {a : Act} (hgd : o.guard = none) (ty : TypeId) (x : Operand) (ho : o.op = .load ty x) (b off : Nat) (hx : a.eval x = .pointer (some ⟨b, off, none⟩)) (cs : Array Value)
    (hc : ∀ w, S w → (loadVar ty ⟨b, off, none⟩).run P w = .ok (.agg cs) w) (h : wpYield P ops S R rest (a.put o.dst (.agg cs))) : wpYield P ops S R (o :: rest) a := by
  refine ⟨_, .inl ⟨by simp [Region.wanted, hgd], fun w hw => ?_⟩, h⟩
  unfold execOp
  simp only [ho, hx, Instr.loadAt, Instr.sureAddr, Sem.run_bind, Sem.run_pure, Result.andThen_ok, hc w hw]
theorem wpYield_build {R : Act → Prop} {o : Oper} {rest : List Oper} {a : Act} (hgd : o.guard = none) (t : TypeId) (parts : Array (Nat × Operand)) (ho : o.op = .build t parts) (cells : Array Value) (vs : List (Nat × Value)) (hv : (parts.map fun (i, x) => (i, a.eval x)).toList = vs) (hb : P.built t vs = some cells)
    (h : wpYield P ops S R rest (a.put o.dst (.agg cells))) : wpYield P ops S R (o :: rest) a := by
  refine ⟨_, .inl ⟨by simp [Region.wanted, hgd], fun w _ => ?_⟩, h⟩
  subst hv
  unfold execOp
  simp only [ho, Sem.run_bind, run_build w t _ cells hb, Result.andThen_ok, Sem.run_pure]
/-- one step that keeps S -/
theorem wpKeep_step {R : Act → World → Prop} {i f : Nat} {o : Oper} {a : Act} {w : World} (hi : ops[i]? = some o) (hgd : o.guard = none)
    (h : ∀ K : Act → World → Prop, (∀ a' w', S w' → wpKeep P ops S Q R (i + 1) f a' w' → K a' w') → Oper.wp P o a w K Q) : wpKeep P ops S Q R i (f + 1) a w := by
  show wpOp P ops Q i _ a w
  unfold wpOp
  simp only [hi]
  rw [if_pos (by simp [Region.wanted, hgd])]
  exact .inl (h _ fun a' w' h1 h2 => ⟨h1, h2⟩)
end
end Go.Proofs.YtmpfnokddpbgcaaDoor

/-
  A region that draws its order, walked in a planned one: operations that only read (under a condition S on the world), each as soon as it is ready; operations that write or call and keep S, each where nothing else is ready; then the last ones in their forced order. One walk.
-/
namespace Go.Proofs.YtmpfnokddpbgcaaDoor
open Go.RowKit
section
variable {P : Program} {ops : Array Oper} {md : Region.Mode} {S : World → Prop} {Q : Exit → Act → World → Prop}
/-- the plan: (true, i): operation i only reads; (false, i): it may write, and keeps S -/
def wpPlan (P : Program) (ops : Array Oper) (S : World → Prop) (Q : Exit → Act → World → Prop) (R : Act → World → Prop) : List (Bool × Nat) → Act → World → Prop
  | [], a, w => R a w
  | (true, i) :: r, a, w => ∃ o v, ops[i]? = some o ∧ YieldsIf P ops S o v a ∧ wpPlan P ops S Q R r (a.put o.dst v) w
  | (false, i) :: r, a, w => wpOp P ops Q i (fun a' w' => S w' ∧ wpPlan P ops S Q R r a' w') a w
def planB (md : Region.Mode) (ops : Array Oper) (g n : Nat) : List (Bool × Nat) → Array Bool → Bool
  | [], listed => Region.seqB md ops g n listed
  | (true, i) :: r, listed => decide (i < n) && (Region.ready md ops listed).contains i && Region.free md ops listed i && planB md ops g n r (listed.setIfInBounds i true)
  | (false, i) :: r, listed => decide (i < n) && decide (Region.ready md ops listed = [i]) && planB md ops g n r (listed.setIfInBounds i true)
theorem headH_plan {n g : Nat} {R : Act → World → Prop} (hsel : Region.noSelect ops = true) (hQ : ∀ c (d : Option Tmp) v a w, Q (.panic c) (a.put d v) w → Q (.panic c) a w) (hs : Region.sinkB md ops n = true) (hc : Region.chainB md ops n = true) (hn : n < ops.size) :
    ∀ (pl : List (Bool × Nat)) (listed : Array Bool) (a : Act) (w : World), HeadInv md ops n listed → planB md ops g n pl listed = true → S w → wpPlan P ops S Q R pl a w →
    HeadH P md ops S Q n (fun listed' a' w' => Region.seqB md ops g n listed' = true ∧ R a' w') pl.length listed a w
  | [], listed, a, w, _, hB, _, h => ⟨hB, h⟩
  | (true, i) :: r, listed, a, w, inv, hB, hS, h => by
    simp only [planB, Bool.and_eq_true, decide_eq_true_eq] at hB
    obtain ⟨⟨⟨hin, hr⟩, hf⟩, hB'⟩ := hB
    have hr' : i ∈ Region.ready md ops listed := by simpa using hr
    obtain ⟨o, v, h0, hy, hK⟩ := h
    rw [List.length_cons]
    exact headH_first h0 (Region.noSelect_spec hsel) (fun c a w => hQ c o.dst v a w) hs hc hn hin (fun listed' a' w' hL => seqB_ready hL.1) r.length listed a w inv (Region.free_spec h0 hf) hr' hy hS
      (headH_plan hsel hQ hs hc hn r _ _ w (inv.set hr' hin) hB' hS hK)
  | (false, i) :: r, listed, a, w, inv, hB, hS, h => by
    simp only [planB, Bool.and_eq_true, decide_eq_true_eq] at hB
    obtain ⟨⟨hin, hr⟩, hB'⟩ := hB
    have hr' : i ∈ Region.ready md ops listed := by rw [hr]; simp
    rw [List.length_cons]
    refine ⟨fun h0 => (by rw [h0] at hr; cases hr), fun j hj => ?_⟩
    rw [hr] at hj
    obtain rfl : j = i := by simpa using hj
    exact ⟨hin, wpOp_mono (fun a' w' h3 => ⟨h3.1, headH_plan hsel hQ hs hc hn r _ _ _ (inv.set hr' hin) hB' h3.1 h3.2⟩) h⟩
theorem wp_region_plan {id : Nat} {a : Act} {w : World} {l : List Oper} (n : Nat) (pl : List (Bool × Nat)) (hm : P.follows .mixedOrders = true) (hQ : ∀ c (d : Option Tmp) v a w, Q (.panic c) (a.put d v) w → Q (.panic c) a w)
    (hB : (Region.noSelect l.toArray && decide (n < l.toArray.size) && decide (pl.length = n) && Region.sinkB .any l.toArray n && Region.chainB .any l.toArray n && planB .any l.toArray (l.toArray.size - n) n pl (Array.replicate l.toArray.size false)) = true) (hS : S w.drew)
    (h : wpPlan P l.toArray S Q (fun a'' w'' => wpList P l.toArray Q (l.drop n) a'' w'') pl a w.drew) : (Code.region id l.toArray true).wp P Q a w := by
  simp only [Bool.and_eq_true, decide_eq_true_eq] at hB
  obtain ⟨⟨⟨⟨⟨hsel, hn⟩, hpl⟩, hs⟩, hc⟩, hplan⟩ := hB
  have hn' : n < l.length := by simpa using hn
  have hdl : (l.drop n).length = l.toArray.size - n := by simp
  have inv0 : HeadInv .any l.toArray n (Array.replicate l.toArray.size false) :=
    ⟨by simp, fun j oj _ hl => (by rw [getD_replicate_false] at hl; cases hl), fun t _ ht => getD_in (by simpa using ht) (getD_replicate_false _ _)⟩
  have H := headH_plan (md := .any) (g := l.toArray.size - n) hsel hQ hs hc hn pl _ a w.drew inv0 hplan hS h
  refine wp_region_any hm ?_
  have := headH_any (g := l.toArray.size - n) (fun listed' a' w' hL => by
    have := wpAny_of_seq (md := .any) (Q' := Q) (l.drop n) n listed' a' w' (fun j => by simp [List.getElem?_drop]) (by rw [hdl]; exact hL.1) hL.2
    rwa [hdl] at this) _ _ _ _ H
  rw [hpl, show n + (l.toArray.size - n) = l.toArray.size by omega] at this
  exact this
section
variable {l : List Oper}
/-- a step that only reads; its value is found by the walk -/
theorem wpPlan_step {R : Act → World → Prop} {i : Nat} {r : List (Bool × Nat)} {o : Oper} {a : Act} {w : World} (hi : l[i]? = some o) (h : ∃ v, (Region.wanted o (yielded l.toArray a.tmps) = true ∧ ∀ w, S w → (execOp a.eval o).run P w = .ok (.value v) w) ∧ wpPlan P l.toArray S Q R r (a.put o.dst v) w) : wpPlan P l.toArray S Q R ((true, i) :: r) a w := by
  obtain ⟨v, h1, h2⟩ := h
  exact ⟨o, v, by rw [List.getElem?_toArray]; exact hi, .inl h1, h2⟩
/-- a step that is passed over -/
theorem wpPlan_skip {R : Act → World → Prop} {i : Nat} {r : List (Bool × Nat)} {o : Oper} {a : Act} {w : World} (hi : l[i]? = some o) (hy : YieldsIf P l.toArray S o undef a) (h : wpPlan P l.toArray S Q R r (a.put o.dst undef) w) : wpPlan P l.toArray S Q R ((true, i) :: r) a w :=
  ⟨o, undef, by rw [List.getElem?_toArray]; exact hi, hy, h⟩
/-- a step that keeps S -/
theorem wpPlan_keep {R : Act → World → Prop} {i : Nat} {r : List (Bool × Nat)} {o : Oper} {a : Act} {w : World} (hi : l[i]? = some o) (hw : Region.wanted o (yielded l.toArray a.tmps) = true)
    (h : ∀ K : Act → World → Prop, (∀ a' w', S w' → wpPlan P l.toArray S Q R r a' w' → K a' w') → Oper.wp P o a w K Q) : wpPlan P l.toArray S Q R ((false, i) :: r) a w := by
  show wpOp P l.toArray Q i _ a w
  have hi' : l.toArray[i]? = some o := by rw [List.getElem?_toArray]; exact hi
  unfold wpOp
  simp only [hi']
  rw [if_pos hw]
  exact .inl (h _ fun a' w' h1 h2 => ⟨h1, h2⟩)
/-- a call of a Go function -/
theorem wpPlan_call {R : Act → World → Prop} {i : Nat} {r : List (Bool × Nat)} {o : Oper} {a : Act} {w : World} (hi : l[i]? = some o) (hw : Region.wanted o (yielded l.toArray a.tmps) = true) (f : FuncId) (args : Array Value) (hrun : (execOp a.eval o).run P w = .ok (.enter f args) w)
    {R' : Ending → World → Prop} (hc : Calls P f args w R') (h : ∀ e w', R' e w' → (∃ v, e = .returned v ∧ S w' ∧ wpPlan P l.toArray S Q R r (a.put o.dst v) w') ∨ (∃ c, e = .panicked c ∧ Q (.panic c) a w')) : wpPlan P l.toArray S Q R ((false, i) :: r) a w := by
  show wpOp P l.toArray Q i _ a w
  have hi' : l.toArray[i]? = some o := by rw [List.getElem?_toArray]; exact hi
  unfold wpOp
  simp only [hi']
  rw [if_pos hw]
  refine .inl ?_
  unfold Oper.wp
  rw [hrun, Oper.upon_enter]
  refine hc.mono fun e w' he => ?_
  rcases h e w' he with ⟨v, rfl, h1, h2⟩ | ⟨c, rfl, h1⟩
  · exact ⟨h1, h2⟩
  · exact h1
end
end
end Go.Proofs.YtmpfnokddpbgcaaDoor

/-
  Closed facts of the translation that more than one text uses.
-/
namespace Go.Proofs.YtmpfnokddpbgcaaDoor
open Go.RowKit
theorem Tryd.info5 : (Tryd.prog.info? 5).map (fun i => (i.zero, i.size, i.bytes)) = some (some (.int .u8 0), 1, 1) := by kernel_rfl
end Go.Proofs.YtmpfnokddpbgcaaDoor

/-
  Layer 4: blocks as arrays of 512 bytes: their cells; elements of many cells in a row; two arrays held against one another.
-/
namespace Go.Proofs.YtmpfnokddpbgcaaDoor
open Go.RowKit

/-- a text's bytes as cells -/
def bv (b : ByteArray) : List Value := valB b.data.toList
theorem ba_len (b : ByteArray) : b.data.toList.length = b.size := by rw [Array.length_toList]; rfl
theorem bv_len (b : ByteArray) : (bv b).length = b.size := by unfold bv valB; rw [List.length_map, ba_len]
theorem bv_at (b : ByteArray) (i : Nat) (h : i < b.size) : (bv b)[i]? = some (.int .u8 ((b.data.toList[i]'(by rw [ba_len]; exact h)).toNat : Int)) := by
  unfold bv valB
  rw [List.getElem?_map, List.getElem?_eq_getElem (by rw [ba_len]; exact h)]; rfl
theorem valB_inj {a b : List UInt8} (h : valB a = valB b) : a = b := by
  unfold valB at h
  refine List.map_inj_right (fun x y hxy => ?_) |>.1 h
  simp only [Value.int.injEq, true_and] at hxy
  have : x.toNat = y.toNat := by omega
  exact UInt8.toNat_inj.1 this
theorem bv_inj {a b : ByteArray} (h : bv a = bv b) : a = b := by
  have h2 := valB_inj h
  cases a; cases b
  simp at h2
  rw [h2]
theorem valB_one (l : List UInt8) : ∀ v ∈ valB l, v.oneCell' = true := by
  intro v hv
  obtain ⟨x, _, rfl⟩ := List.mem_map.1 hv; rfl
theorem bv_one (b : ByteArray) : ∀ v ∈ bv b, v.oneCell' = true := valB_one _

/-! elements of k cells each, one behind the other -/
section
variable {α : Type} (f : α → List Value) (k : Nat)
theorem flat_len (bs : List α) (h : ∀ b ∈ bs, (f b).length = k) : (bs.flatMap f).length = bs.length * k := by
  induction bs with
  | nil => simp
  | cons b bs ih =>
    rw [List.flatMap_cons, List.length_append, h b (by simp), ih fun x hx => h x (by simp [hx]), List.length_cons, Nat.add_mul]; omega
theorem flat_at (bs : List α) (h : ∀ b ∈ bs, (f b).length = k) (i : Nat) (hi : i < bs.length) (j : Nat) (hj : j < k) : (bs.flatMap f)[i * k + j]? = (f bs[i])[j]? := by
  induction bs generalizing i with
  | nil => simp at hi
  | cons b bs ih =>
    have hb := h b (by simp)
    rw [List.flatMap_cons]
    cases i with
    | zero => rw [List.getElem?_append_left (by omega)]; simp
    | succ i =>
      rw [List.getElem?_append_right (by rw [hb, Nat.add_mul]; omega), hb, show (i + 1) * k + j - k = i * k + j by rw [Nat.add_mul]; omega]
      exact ih (fun x hx => h x (by simp [hx])) i (by simpa using hi)
theorem flat_set (bs : List α) (h : ∀ b ∈ bs, (f b).length = k) (i : Nat) (hi : i < bs.length) (x : α) (r : List Value) :
    (bs.flatMap f ++ r).take (i * k) ++ f x ++ (bs.flatMap f ++ r).drop (i * k + k) = (bs.set i x).flatMap f ++ r := by
  induction bs generalizing i with
  | nil => simp at hi
  | cons b bs ih =>
    have hb := h b (by simp)
    cases i with
    | zero =>
      simp only [List.flatMap_cons, List.set_cons_zero, Nat.zero_mul, Nat.zero_add, List.take_zero, List.nil_append, List.append_assoc]
      congr 1
      rw [List.drop_append, hb, Nat.sub_self, List.drop_zero, List.drop_of_length_le (by omega), List.nil_append]
    | succ i =>
      have e := ih (fun x hx => h x (by simp [hx])) i (by simpa using hi)
      simp only [List.flatMap_cons, List.set_cons_succ, List.append_assoc] at e ⊢
      rw [← e, List.take_append, List.drop_append, hb, List.take_of_length_le (by rw [hb, Nat.add_mul]; omega), List.drop_of_length_le (by rw [hb, Nat.add_mul]; omega),
        show (i + 1) * k - k = i * k by rw [Nat.add_mul]; omega, show (i + 1) * k + k - k = i * k + k by rw [Nat.add_mul]; omega, List.nil_append, List.append_assoc]
end
/-- what a store of many cells makes of a row -/
theorem rowV_setCells (vs : List Value) : ∀ (o : Nat) {w : World} {g T : Nat} {l : List Value}, RowV w g T l → o + vs.length ≤ l.length → RowV (w.setCells g o vs) g T (l.take o ++ vs ++ l.drop (o + vs.length)) := by
  induction vs with
  | nil => intro o w g T l h _; simpa [World.setCells] using h
  | cons v r ih =>
    intro o w g T l h ho
    rw [World.setCells]
    have h2 := ih (o + 1) (rowV_stored h o v) (by rw [List.length_set]; simp at ho; omega)
    have e : (l.set o v).take (o + 1) ++ r ++ (l.set o v).drop (o + 1 + r.length) = l.take o ++ (v :: r) ++ l.drop (o + (v :: r).length) := by
      have ho2 : o < l.length := by simp at ho; omega
      rw [List.take_set, List.drop_set_of_lt (by omega), List.take_succ_eq_append_getElem ho2, List.set_append_right _ _ (by rw [List.length_take]; omega), List.length_take, show o - min o l.length = 0 by omega, List.set_cons_zero]
      simp [Nat.add_assoc, Nat.add_comm 1]
    rw [e] at h2
    exact h2
theorem setCells_far (g : Nat) (vs : List Value) : ∀ (o : Nat) (w : World) (i : Nat), i ≠ g → (w.setCells g o vs).heap[i]? = w.heap[i]? := by
  induction vs with
  | nil => intro o w i _; rfl
  | cons v r ih => intro o w i h; rw [World.setCells, ih _ _ _ h]; exact Below.heap_setCell w ⟨g, o, none⟩ v i h
theorem setCells_size (g : Nat) (vs : List Value) : ∀ (o : Nat) (w : World), (w.setCells g o vs).heap.size = w.heap.size := by
  induction vs with
  | nil => intro o w; rfl
  | cons v r ih => intro o w; rw [World.setCells, ih]; simp [World.setCell]
theorem setCells_rest (g : Nat) (vs : List Value) : ∀ (o : Nat) (w : World), (w.setCells g o vs).os = w.os ∧ (w.setCells g o vs).tape = w.tape ∧ (w.setCells g o vs).output = w.output := by
  induction vs with
  | nil => intro o w; exact ⟨rfl, rfl, rfl⟩
  | cons v r ih => intro o w; rw [World.setCells]; exact ih _ _
theorem Only.setCells {F : Nat → Prop} {a w : World} (h : Only F a w) {g : Nat} (hg : g < a.heap.size → F g) (o : Nat) (vs : List Value) : Only F a (w.setCells g o vs) :=
  h.trans (G := fun k => k = g) ⟨(setCells_rest _ _ _ _).1, (setCells_rest _ _ _ _).2.1, (setCells_rest _ _ _ _).2.2, by rw [setCells_size]; exact Nat.le_refl _, fun k _ hk => setCells_far g vs o w k hk⟩ fun k hk e => by subst e; exact hg hk
theorem rowV_cellsFar {w : World} {g T g' : Nat} {l : List Value} (h : RowV w g T l) (hg : g ≠ g') (o : Nat) (vs : List Value) : RowV (w.setCells g' o vs) g T l := (setCells_far g' vs o w g hg).trans h
/-- the cells of a row from o on -/
theorem rowV_range {w : World} {g T : Nat} {l : List Value} (h : RowV w g T l) (o : Nat) (cs : List Value) (hc : ∀ j, j < cs.length → l[o + j]? = cs[j]?) : w.rangeAt g o cs := by
  intro j v hv
  have hj : j < cs.length := (List.getElem?_eq_some_iff.1 hv).1
  rw [rowV_cell h, hc j hj, hv]
theorem rowV_there {w : World} {g T : Nat} {l : List Value} (h : RowV w g T l) (o n : Nat) (hn : o + n ≤ l.length) : w.there g o n := by
  intro j hj
  refine ⟨?_, rowV_frozen h _⟩
  rw [rowV_cell h, List.getElem?_eq_getElem (by omega)]; rfl

/-! two arrays of bytes held against one another -/
theorem info_byte : (Tryd.prog.info? 5).map (fun i => (i.zero, i.size, i.bytes)) = some (some (.int .u8 0), 1, 1) := by kernel_rfl
theorem eqItems_int {P : Program} (w : World) (e : TypeId) (k : IntKind) (he : P.underlying e = some (.int k)) (d : Nat) (is : List Nat) : ∀ (X Y : List Int), (∀ i ∈ is, i < X.length ∧ i < Y.length) →
    (Op.eqItems (d + 1) e 1 (X.map (Value.int k)).toArray (Y.map (Value.int k)).toArray is).run P w = .ok (is.all fun i => X.getD i 0 == Y.getD i 0) w := by
  induction is with
  | nil => intro X Y _; simp [Op.eqItems]
  | cons i is ih =>
    intro X Y h
    obtain ⟨h1, h2⟩ := h i (by simp)
    have hag : (isAgg e).run P w = .ok false w := by unfold isAgg; rw [Sem.run_bind, run_underlying he w]; rfl
    have hx : (part e (X.map (Value.int k)).toArray (i * 1)).run P w = .ok (.int k (X.getD i 0)) w := by
      simp [part, hag, List.getElem?_eq_getElem h1, List.getD]
    have hy : (part e (Y.map (Value.int k)).toArray (i * 1)).run P w = .ok (.int k (Y.getD i 0)) w := by
      simp [part, hag, List.getElem?_eq_getElem h2, List.getD]
    simp only [Op.eqItems, Sem.run_bind, hx, hy, Result.andThen_ok, run_equalIn_int w d e k k _ _ he]
    by_cases hq : X.getD i 0 = Y.getD i 0
    · rw [List.all_cons]
      have : (X.getD i 0 == Y.getD i 0) = true := by simpa using hq
      rw [this]
      simpa using ih X Y fun j hj => h j (by simp [hj])
    · have : (X.getD i 0 == Y.getD i 0) = false := by simpa using hq
      rw [List.all_cons, this]
      simp
theorem all_getD {X Y : List Int} {n : Nat} (hX : X.length = n) (hY : Y.length = n) : ((List.range n).all fun i => X.getD i 0 == Y.getD i 0) = decide (X = Y) := by
  rw [Bool.eq_iff_iff, List.all_eq_true, decide_eq_true_iff]
  constructor
  · intro h
    apply List.ext_getElem (by omega)
    intro i h1 h2
    have := h i (List.mem_range.2 (by omega))
    simpa [List.getD, List.getElem?_eq_getElem h1, List.getElem?_eq_getElem h2] using this
  · rintro rfl i _; simp
theorem valB_int (l : List UInt8) : valB l = (l.map fun b => (b.toNat : Int)).map (Value.int .u8) := by unfold valB; rw [List.map_map]; rfl
end Go.Proofs.YtmpfnokddpbgcaaDoor

/-
  A list in memory that is appended to: its elements of k cells each, one behind the other; what lies behind its length is its own.
-/
namespace Go.Proofs.YtmpfnokddpbgcaaDoor
open Go.RowKit

section
variable {α : Type} (f : α → List Value) (k : Nat) (E : TypeId)
/-- the slice (la, its length, cap) holds the list W; its block is of S and none of Av -/
def ListAt (w : World) (S Av : Nat → Prop) (la : Option Addr) (cap : Nat) (W : List α) : Prop :=
  (la = none ∧ cap = 0 ∧ W = []) ∨ ∃ g r, la = some ⟨g, 0, none⟩ ∧ RowV w g E (W.flatMap f ++ r) ∧ W.length ≤ cap ∧ cap ≤ maxLen ∧ ¬ Av g ∧ S g ∧ W.length * k + r.length = cap * k
theorem listAt_nil (w : World) (S Av : Nat → Prop) : ListAt f k E w S Av none 0 [] := .inl ⟨rfl, rfl, rfl⟩
variable {f k E} {w w' : World} {S S' Av Av' : Nat → Prop} {la : Option Addr} {cap : Nat} {W : List α}
theorem listAt_only {F : Nat → Prop} (h : ListAt f k E w S Av la cap W) (ho : Only F w w') (hn : ∀ a, la = some a → ¬ F a.block) : ListAt f k E w' S Av la cap W := by
  rcases h with h | ⟨g, r, h1, h2, h3⟩
  · exact .inl h
  · exact .inr ⟨g, r, h1, rowV_only h2 ho (hn _ h1), h3⟩
theorem listAt_mono (h : ListAt f k E w S Av la cap W) (hs : ∀ j, j < w.heap.size → S j → S' j) (ha : ∀ j, j < w.heap.size → Av' j → Av j) : ListAt f k E w S' Av' la cap W := by
  rcases h with h | ⟨g, r, h1, h2, h3, h4, h5, h6, h7⟩
  · exact .inl h
  · exact .inr ⟨g, r, h1, h2, h3, h4, fun h => h5 (ha _ (rowV_lt h2) h), hs _ (rowV_lt h2) h6, h7⟩
theorem listAt_block (h : ListAt f k E w S Av la cap W) : ∀ a, la = some a → ∃ g, a = ⟨g, 0, none⟩ ∧ g < w.heap.size ∧ S g ∧ ¬ Av g := by
  rintro a rfl
  rcases h with ⟨h1, _⟩ | ⟨g, r, h1, h2, h3, h4, h5, h6, h7⟩
  · cases h1
  · cases h1; exact ⟨g, rfl, rowV_lt h2, h6, h5⟩
theorem listAt_len (h : ListAt f k E w S Av la cap W) : W.length ≤ cap ∧ cap ≤ maxLen := by
  rcases h with ⟨_, h2, h3⟩ | ⟨g, r, h1, h2, h3, h4, _⟩
  · rw [h2, h3]; exact ⟨Nat.le_refl _, Nat.zero_le _⟩
  · exact ⟨h3, h4⟩
/-- cell j of element i -/
theorem listAt_cell (h : ListAt f k E w S Av la cap W) (hf : ∀ x ∈ W, (f x).length = k) (i : Nat) (hi : i < W.length) : ∃ g, la = some ⟨g, 0, none⟩ ∧ ∀ j v, (f W[i])[j]? = some v → w.cell? ⟨g, i * k + j, none⟩ = some v ∧ w.frozen? ⟨g, i * k + j, none⟩ = false := by
  rcases h with ⟨_, _, h3⟩ | ⟨g, r, h1, h2, _⟩
  · subst h3; simp at hi
  · refine ⟨g, h1, fun j v hj => ⟨?_, rowV_frozen h2 _⟩⟩
    have hjk : j < k := by rw [← hf _ (List.getElem_mem hi)]; exact (List.getElem?_eq_some_iff.1 hj).1
    have hle := Nat.mul_le_mul_right k (show i + 1 ≤ W.length from hi)
    rw [Nat.add_mul, Nat.one_mul] at hle
    rw [rowV_cell h2, List.getElem?_append_left (by rw [flat_len f k W hf]; omega), flat_at f k W hf i hi j hjk]
    exact hj
theorem room_more (k n r c : Nat) (h : n * k + r = c * k) (h2 : (n + 1) * k ≤ c * k) : (n + 1) * k + (r - k) = c * k := by
  rw [Nat.add_mul, Nat.one_mul] at h2 ⊢
  generalize n * k = a at *
  generalize c * k = b at *
  omega
theorem listAt_owns (h : ListAt f k E w S Av la cap W) (hf : ∀ x ∈ W, (f x).length = k) : w.ownsRow 0 E k (.slice la W.length cap) W.length (W.flatMap f) := by
  have hl := flat_len f k W hf
  refine ⟨hl, ?_⟩
  rcases h with ⟨h1, h2, h3⟩ | ⟨g, r, h1, h2, h3, h4, _, _, h7⟩
  · left; rw [h1, h2, h3]; exact ⟨rfl, rfl⟩
  · right
    refine ⟨g, cap, (W.flatMap f ++ r).toArray, by rw [h1], Nat.zero_le _, h2, h3, h4, ?_, ?_⟩
    · rw [List.size_toArray, List.length_append, hl]; exact h7
    · rw [← hl]; simp
/-- one element more -/
theorem append_list {P : Program} (t ty : TypeId) (i : TypeInfo) (z : Value) (bytes : Nat) (ht : P.underlying t = some (.slice E)) (hi : P.info? E = some i) (hz : i.zero = some z) (hsize : i.size = k) (hby : i.bytes = bytes) (hzs : z.cells.size = k) (hk : 0 < k)
    (h : ListAt f k E w S Av la cap W) (hf : ∀ x ∈ W, (f x).length = k) (x : α) (hx : (f x).length = k) (h1 : ∀ v ∈ f x, v.oneCell' = true) (N : Nat) (hN : RowV w N E (f x)) (hW : ((W.length + 1) + (W.length + 1) / 4 + 192) * bytes ≤ 281474976710656) (hW2 : (W.length + 1) * bytes ≤ 140737488355328) (hm : W.length + 1 ≤ maxLen)
    (hAv : ∀ j, Av j → j < w.heap.size) :
    ∃ la' cap' w', (Builtin.append_ #[t, t] ty #[.slice la W.length cap, .slice (some ⟨N, 0, none⟩) 1 1]).run P w = .ok (.slice la' (W.length + 1) cap') w' ∧
      ListAt f k E w' (fun j => S j ∨ w.heap.size ≤ j) Av la' cap' (W ++ [x]) ∧ Only (fun j => S j ∧ ¬ Av j) w w' := by
  have hsnoc : (W ++ [x]).flatMap f = W.flatMap f ++ f x := by rw [List.flatMap_append]; simp
  have hnews : ∀ j u, (f x)[j]? = some u → w.cell? ((⟨N, 0, none⟩ : Addr).add j) = some u := fun j u hj => by
    rw [Addr.add_mid, Nat.zero_add, rowV_cell hN]; exact hj
  have hb := listAt_block h
  have hlen := flat_len f k W hf
  have fin : ∀ (v' : Value) (w' : World) (row : Option Nat), w'.ownsRow w.heap.size E k v' (W.length + 1) (W.flatMap f ++ f x) → w.grownBy w' row → (∀ j, row = some j → S j ∧ ¬ Av j) →
      ∃ la' cap', v' = .slice la' (W.length + 1) cap' ∧ ListAt f k E w' (fun j => S j ∨ w.heap.size ≤ j) Av la' cap' (W ++ [x]) ∧ Only (fun j => S j ∧ ¬ Av j) w w' := by
    intro v' w' row ho hg hrow
    rcases ho.2 with ⟨_, h0⟩ | ⟨g', cap', cur, rfl, hb', hh, u1, u2, u3, u4⟩
    · omega
    · refine ⟨_, _, rfl, .inr ⟨g', cur.toList.drop ((W.length + 1) * k), rfl, ?_, by simpa using u1, u2, fun h => by have := hAv _ h; omega, .inr hb', ?_⟩, (Only.refl _ w).grown hg (by intro j _ e; exact hrow j e)⟩
      · rw [hsnoc, ← u4, List.take_append_drop]; exact hh
      · have hcl : cur.toList.length = cur.size := Array.length_toList
        rw [List.length_drop, hcl, u3, List.length_append, List.length_singleton]
        have := Nat.mul_le_mul_right k u1
        omega
  rcases h with ⟨rfl, rfl, rfl⟩ | ⟨g, r, rfl, hg, hcap, hmax, hav, hS, hsz⟩
  · obtain ⟨v', w', hr, ho, hgr, _⟩ := run_append_own_wide (P := P) w w.heap.size t ty E i z k bytes ht hi hz hsize hby hzs hk _ 0 [] (World.ownsRow_nil w w.heap.size E k)
      ⟨N, 0, none⟩ 1 1 (f x) (by rw [hx, Nat.one_mul]) hnews h1 (by unfold maxLen; omega) (by simpa using hW) (Nat.le_refl _)
    obtain ⟨la', cap', rfl, rest⟩ := fin v' w' _ (by simpa using ho) hgr (by intro j e; simp [Value.ownBlock] at e)
    exact ⟨la', cap', w', hr, rest⟩
  · by_cases hroom : W.length < cap
    · have hle := Nat.mul_le_mul_right k (show W.length + 1 ≤ cap from hroom)
      have hle2 : W.length * k + k ≤ cap * k := by rw [Nat.add_mul, Nat.one_mul] at hle; exact hle
      have hth := rowV_there hg (W.length * k) k (by rw [List.length_append, hlen]; omega)
      have hr := run_append_room_cells (P := P) w t ty E i ht hi g 0 W.length cap ⟨N, 0, none⟩ 1 1 (f x) (by rw [hsize, hx, Nat.one_mul]) hnews h1 hroom
        (fun j hj => by rw [hsize, Nat.zero_add]; exact (hth j (by omega)).1) (fun j hj => by rw [hsize, Nat.zero_add]; exact (hth j (by omega)).2)
      rw [hsize, Nat.zero_add] at hr
      have hst := rowV_setCells (f x) (W.length * k) hg (by rw [hx, List.length_append, hlen]; omega)
      refine ⟨_, _, _, hr, .inr ⟨g, r.drop k, rfl, ?_, by rw [List.length_append, List.length_singleton]; exact hroom, hmax, hav, .inl hS, ?_⟩, (Only.refl _ w).setCells (fun _ => ⟨hS, hav⟩) _ _⟩
      · have e : (W.flatMap f ++ r).take (W.length * k) ++ f x ++ (W.flatMap f ++ r).drop (W.length * k + (f x).length) = (W ++ [x]).flatMap f ++ r.drop k := by
          rw [hsnoc, ← hlen, List.take_left', List.drop_append, hx, List.drop_of_length_le (by omega), List.nil_append, show (W.flatMap f).length + k - (W.flatMap f).length = k by omega]
          rfl
        rw [← e]; exact hst
      · rw [List.length_drop, List.length_append, List.length_singleton]; exact room_more k _ _ _ hsz hle
    · have hcw : cap = W.length := by omega
      obtain ⟨v', w', hr, ho, hgr⟩ := run_append_arg_grows (P := P) w t ty E i z k bytes ht hi hz hsize hby hzs hk ⟨g, 0, none⟩ W.length cap (W.flatMap f) hlen
        (fun j u hj => by
          have hlt := (List.getElem?_eq_some_iff.1 hj).1
          rw [Addr.add_mid, Nat.zero_add, rowV_cell hg, List.getElem?_append_left hlt]; exact hj)
        ⟨N, 0, none⟩ 1 1 (f x) (by rw [hx, Nat.one_mul]) hnews (by omega) hm hW2
      obtain ⟨la', cap', rfl, rest⟩ := fin v' w' none ho hgr (by intro j e; cases e)
      exact ⟨la', cap', w', hr, rest⟩
end
end Go.Proofs.YtmpfnokddpbgcaaDoor

/-
  Lists that a call makes, of elements of k cells each (told by f): one element more; read.
-/
namespace Go.Proofs.YtmpfnokddpbgcaaDoor
open Go.RowKit
/-- what an append asks of the elements' type -/
def ElemOk (P : Program) (E k bytes : Nat) : Prop := ∃ i z, P.info? E = some i ∧ i.zero = some z ∧ i.size = k ∧ i.bytes = bytes ∧ z.cells.size = k ∧ 0 < k ∧ bytes ≤ 1000
theorem elemOk_of {P : Program} {E k bytes : Nat} {z : Value} (h : (P.info? E).map (fun i => (i.zero, i.size, i.bytes)) = some (some z, k, bytes)) (hz : z.cells.size = k) (hk : 0 < k) (hb : bytes ≤ 1000) : ElemOk P E k bytes := by
  obtain ⟨i, hi, e⟩ := Option.map_eq_some_iff.1 h
  simp only [Prod.mk.injEq] at e
  exact ⟨i, z, hi, e.1, e.2.1, e.2.2, hz, hk, hb⟩
section
variable {α : Type} {f : α → List Value} {E k bytes : Nat} {P : Program} {w : World} {B : Nat}
/-- the slice v, its row from block B on, holds the elements l -/
def OwL (f : α → List Value) (E k : Nat) (w : World) (B : Nat) (v : Value) (l : List α) : Prop := w.ownsRow B E k v l.length (l.flatMap f)
theorem owL_nil (w : World) : OwL f E k w B (.slice none 0 0) [] := World.ownsRow_nil _ _ _ _
theorem owL_below {w' : World} {v : Value} {l : List α} (h : OwL f E k w B v l) (hb : Below w.heap.size w w') : OwL f E k w' B v l :=
  ownsRow_only h (Only.of_none (F := fun _ => False) hb) fun _ _ x => x
theorem owL_only {F : Nat → Prop} {w' : World} {v : Value} {l : List α} (h : OwL f E k w B v l) (ho : Only F w w') (hn : ∀ j, v.ownBlock = some j → ¬ F j) : OwL f E k w' B v l := ownsRow_only h ho hn
theorem owL_lt {v : Value} {l : List α} (h : OwL f E k w B v l) : ∀ j, v.ownBlock = some j → B ≤ j ∧ j < w.heap.size := World.ownsRow.lt h
theorem owL_form {v : Value} {l : List α} (h : OwL f E k w B v l) : ∃ a c, v = .slice a l.length c ∧ l.length ≤ c ∧ c ≤ maxLen ∧ (∀ x, a = some x → ∃ g, x = ⟨g, 0, none⟩ ∧ B ≤ g ∧ g < w.heap.size ∧ v.ownBlock = some g) ∧ (a = none → l = []) := by
  rcases h.2 with ⟨rfl, h0⟩ | ⟨g, cap, cur, rfl, hb, hh, u1, u2, u3, u4⟩
  · have : l = [] := List.eq_nil_of_length_eq_zero h0
    subst this
    exact ⟨none, 0, rfl, Nat.le_refl _, Nat.zero_le _, ⟨fun x e => (by cases e), fun _ => rfl⟩⟩
  · exact ⟨_, _, rfl, u1, u2, fun x e => (by cases e; exact ⟨g, rfl, hb, (Array.getElem?_eq_some_iff.1 hh).1, rfl⟩), fun e => (by cases e)⟩
/-- cell j of element i -/
theorem owL_cell {v : Value} {l : List α} (hf : ∀ x ∈ l, (f x).length = k) (h : OwL f E k w B v l) (i : Nat) (hi : i < l.length) : ∃ g c, v = .slice (some ⟨g, 0, none⟩) l.length c ∧ ∀ j u, (f l[i])[j]? = some u → w.cell? ⟨g, i * k + j, none⟩ = some u ∧ w.frozen? ⟨g, i * k + j, none⟩ = false := by
  rcases h.2 with ⟨rfl, h0⟩ | ⟨g, cap, cur, rfl, hb, hh, u1, u2, u3, u4⟩
  · omega
  · refine ⟨g, cap, rfl, fun j u hj => ?_⟩
    have hrow : RowV w g E cur.toList := hh
    have hjk : j < k := by rw [← hf _ (List.getElem_mem hi)]; exact (List.getElem?_eq_some_iff.1 hj).1
    refine ⟨?_, rowV_frozen hrow _⟩
    have h1 := flat_at f k l hf i hi j hjk
    have hlt : i * k + j < l.length * k := by
      have := Nat.mul_le_mul_right k (show i + 1 ≤ l.length from hi)
      rw [Nat.add_mul, Nat.one_mul] at this
      omega
    have h2 : (cur.toList.take (l.length * k))[i * k + j]? = cur.toList[i * k + j]? := by rw [List.getElem?_take, if_pos hlt]
    rw [rowV_cell hrow, ← h2, u4, h1]
    exact hj
/-- one element more, as an operation of a walk: its box at block N -/
theorem wpList_append_one (he : ElemOk P E k bytes) {ops : Array Oper} {rest : List Oper} {o : Oper} {a : Act} {Q : Exit → Act → World → Prop} (hgd : o.guard = none) (s x : Operand) (t : TypeId)
    (ho : o.op = .call { callee := .builtin .append, args := #[s, x], argTypes := #[t, t] }) (ht : P.underlying t = some (.slice E)) (v : Value) (l : List α) (y : α) (hs : a.eval s = v) (hown : OwL f E k w B v l) (N c : Nat) (hx : a.eval x = .slice (some ⟨N, 0, none⟩) 1 c)
    (hN : RowV w N E (f y)) (hfl : (f y).length = k) (h1 : ∀ u ∈ f y, u.oneCell' = true) (hl : l.length ≤ 1000000) (hB : B ≤ w.heap.size)
    (h : ∀ g cap w', OwL f E k w' B (.slice (some ⟨g, 0, none⟩) (l.length + 1) cap) (l ++ [y]) → Only (fun j => v.ownBlock = some j) w w' → (v.ownBlock = some g ∨ g = w.heap.size) → g < w'.heap.size → wpList P ops Q rest (a.put o.dst (.slice (some ⟨g, 0, none⟩) (l.length + 1) cap)) w') :
    wpList P ops Q (o :: rest) a w := by
  obtain ⟨i, z, hi, hz, hsz, hby, hzs, hk, hb⟩ := he
  refine wpList_append_lies w hgd s x t ho B E i z k bytes ht hi hz hsz hby hzs hk v l.length (l.flatMap f) hs hown ⟨N, 0, none⟩ 1 c (f y) hx (by rw [hfl, Nat.one_mul]) (fun j u hj => by rw [Addr.add_mid, Nat.zero_add, rowV_cell hN]; exact hj) h1 (by omega) (by unfold maxLen; omega) ?_ hB _ rfl ?_
  · have := Nat.mul_le_mul (show l.length + 1 ≤ 1000001 by omega) hb
    omega
  · intro g cap w' h2 h3 h4 h5
    refine h g cap w' ?_ ((Only.refl _ w).grown h3 fun j _ e => e) h4 h5
    unfold OwL
    rw [List.flatMap_append, List.length_append]
    simpa using h2
/-- .. as one operation -/
theorem wp_append_one (he : ElemOk P E k bytes) {o : Oper} {a : Act} {K : Act → World → Prop} {Q : Exit → Act → World → Prop} (s x : Operand) (t : TypeId)
    (ho : o.op = .call { callee := .builtin .append, args := #[s, x], argTypes := #[t, t] }) (ht : P.underlying t = some (.slice E)) (v : Value) (l : List α) (y : α) (hs : a.eval s = v) (hown : OwL f E k w B v l) (N c : Nat) (hx : a.eval x = .slice (some ⟨N, 0, none⟩) 1 c)
    (hN : RowV w N E (f y)) (hfl : (f y).length = k) (h1 : ∀ u ∈ f y, u.oneCell' = true) (hl : l.length ≤ 1000000) (hB : B ≤ w.heap.size)
    (h : ∀ g cap w', OwL f E k w' B (.slice (some ⟨g, 0, none⟩) (l.length + 1) cap) (l ++ [y]) → Only (fun j => v.ownBlock = some j) w w' → (v.ownBlock = some g ∨ g = w.heap.size) → g < w'.heap.size → K (a.put o.dst (.slice (some ⟨g, 0, none⟩) (l.length + 1) cap)) w') :
    Oper.wp P o a w K Q := by
  obtain ⟨i, z, hi, hz, hsz, hby, hzs, hk, hb⟩ := he
  refine wp_append_lies w s x t ho B E i z k bytes ht hi hz hsz hby hzs hk v l.length (l.flatMap f) hs hown ⟨N, 0, none⟩ 1 c (f y) hx (by rw [hfl, Nat.one_mul]) (fun j u hj => by rw [Addr.add_mid, Nat.zero_add, rowV_cell hN]; exact hj) h1 (by omega) (by unfold maxLen; omega) ?_ hB _ rfl ?_
  · have := Nat.mul_le_mul (show l.length + 1 ≤ 1000001 by omega) hb
    omega
  · intro g cap w' h2 h3 h4 h5
    refine h g cap w' ?_ ((Only.refl _ w).grown h3 fun j _ e => e) h4 h5
    unfold OwL
    rw [List.flatMap_append, List.length_append]
    simpa using h2
end
end Go.Proofs.YtmpfnokddpbgcaaDoor

/-
  '[]T{x}': a slice of one element, of k cells, made: as a run, as an operation that keeps its class.
-/
namespace Go.Proofs.YtmpfnokddpbgcaaDoor
open Go.RowKit
section
variable {P : Program} {E k bytes : Nat}
theorem run_slice_one (he : ElemOk P E k bytes) (hk1 : k ≤ 1000) {t : TypeId} (ht : P.underlying t = some (.slice E)) (w : World) (x : Value) (X : Array Value) (hX : x.cells = X) (hsz : X.size = k) : (Instr.buildSlice t 1 #[(0, x)]).run P w = .ok (.slice (some ⟨w.heap.size, 0, none⟩) 1 1) (w.alloc (.cells X E)) := by
  obtain ⟨i, z, hi, hz, hs, hby, hzs, hk, hb⟩ := he
  refine run_buildSlice w t E 1 _ X i z ht hi hz (by rw [hs]; omega) (by rw [hs]; omega) ?_
  have e := Great.fill_whole (s := i.size) (by rw [hs]; omega) [x] ((Array.range (1 * i.size)).map (z.cells[· % z.cells.size]!)) (by intro v hv; rw [List.mem_singleton] at hv; subst hv; rw [hs, hX]; exact hsz) (by simp)
  simp only [List.zipIdx_cons, List.zipIdx_nil, List.map_cons, List.map_nil, List.flatMap_cons, List.flatMap_nil, List.append_nil, hX, Array.toArray_toList] at e
  exact e
theorem wp_slice_one (he : ElemOk P E k bytes) (hk1 : k ≤ 1000) {t : TypeId} (ht : P.underlying t = some (.slice E)) {o : Oper} {a : Act} {w : World} {K : Act → World → Prop} {Q : Exit → Act → World → Prop} (x : Operand) (ho : o.op = .buildSlice t 1 #[(0, x)]) (v : Value) (X : Array Value) (hx : a.eval x = v) (hX : v.cells = X) (hsz : X.size = k)
    (h : K (a.put o.dst (.slice (some ⟨w.heap.size, 0, none⟩) 1 1)) (w.alloc (.cells X E))) : Oper.wp P o a w K Q := by
  unfold Oper.wp execOp
  have e : (#[(0, x)] : Array (Nat × Operand)).map (fun (i, x) => (i, a.eval x)) = #[(0, v)] := by rw [← hx]; simp
  simp only [ho, e, Sem.run_bind, run_slice_one he hk1 ht w v X hX hsz, Result.andThen_ok]
  exact h
end
end Go.Proofs.YtmpfnokddpbgcaaDoor

/-
  Layer 12: which values are right, the program's answer and the document's.
-/
namespace Go.Proofs.YtmpfnokddpbgcaaDoor
open Go.RowKit
/-- a value as a value -/
abbrev valC (v : Vl.V) : Array Value := #[.int .i64 v.kind, .int .i64 v.n, .string v.s]
abbrev valV (v : Vl.V) : Value := .agg (valC v)
/-- the bytes ahead of pos may stand in a text -/
def PlainTo (s : ByteArray) (pos : Nat) : Prop := ∀ b ∈ s.data.toList.take pos, 32 ≤ b.toNat ∧ b.toNat ≤ 126
theorem plainTo_start (s : ByteArray) : PlainTo s 0 := by intro b hb; simp at hb
theorem plainTo_step {s : ByteArray} {pos : Nat} (h : PlainTo s pos) (hp : pos < s.size) (h1 : 32 ≤ (s[pos]).toNat) (h2 : (s[pos]).toNat ≤ 126) : PlainTo s (pos + 1) := by
  intro b hb
  have hl : pos < s.data.toList.length := by simpa using hp
  rw [List.take_add_one, List.getElem?_eq_getElem hl] at hb
  rcases List.mem_append.1 hb with hb | hb
  · exact h b hb
  · simp only [Option.toList_some, List.mem_singleton] at hb
    subst hb
    exact ⟨h1, h2⟩
theorem plainTo_all {s : ByteArray} {pos : Nat} (h : PlainTo s pos) (hp : ¬ pos < s.size) (h40 : s.size ≤ 40) : Vl.plain s := by
  refine ⟨h40, fun b hb => h b ?_⟩
  rw [List.take_of_length_le (by simp; omega)]
  exact hb
theorem plain_not {s : ByteArray} {pos : Nat} (hp : pos < s.size) (h : (s[pos]).toNat < 32 ∨ 126 < (s[pos]).toNat) : ¬ Vl.plain s := by
  intro hh
  have := hh.2 s[pos] (by
    have hl : pos < s.data.toList.length := by simpa using hp
    exact (List.getElem_mem hl : s.data.toList[pos] ∈ s.data.toList))
  omega
theorem below_iter {w : World} (s : ByteArray) (pos : Nat) : Below w.heap.size w (w.iter s pos) := (Below.refl w.heap.size w).alloc (Nat.le_refl _) _
set_option maxRecDepth 100000 in
set_option maxHeartbeats 1600000 in
theorem rightText_any (s : ByteArray) (w : World) :
    Calls Tryd.prog 73 #[.string s] w fun e w' => e = .returned (.bool (decide (Vl.plain s))) ∧ Below w.heap.size w w' := by
  have hbl : Hid (∀ pos, Below w.heap.size w (w.iter s pos)) := Lib.hid fun pos => below_iter s pos
  by_cases h40 : (s.size : Int) > 40
  · go_enter Tryd.func73, Tryd.ntmps73
    go_wp2_with fail
    go_ret
    exact ⟨ret_bool (decide_eq_false (fun hh : Vl.plain s => by have := hh.1; omega)).symm, Below.refl _ _⟩
  · go_enter Tryd.func73, Tryd.ntmps73
    go_wp2
    go_loopw [4] (fun _ w' => ∃ (pos : Nat), w' = w.iter s pos ∧ pos ≤ s.size ∧ Hid (PlainTo s pos)) (fun _ w' => s.size - w'.iterPos w.heap.size)
    case atStart => exact ⟨0, rfl, Nat.zero_le _, Lib.hid (plainTo_start s)⟩
    case round =>
      obtain ⟨pos, rfl, hle, hpl⟩ := hrel
      by_cases hp : pos < s.size
      · by_cases ha : (s[pos]).toNat < 128
        · have hnx : ∀ ty, (Instr.next (.pointer (some ⟨w.heap.size, 0, none⟩)) true ty).run Tryd.prog (w.iter s pos) = _ := fun ty => run_next_ascii w s pos ty hp ha
          by_cases h1 : ((s[pos]).toNat : Int) < 32
          · have hno := Lib.hid (plain_not hp (.inl (by omega)))
            go_wp2_with fail
            go_ret
            exact ⟨ret_bool (decide_eq_false hno.out).symm, hbl.out _⟩
          · by_cases h2 : ((s[pos]).toNat : Int) > 126
            · have hno := Lib.hid (plain_not hp (.inr (by omega)))
              go_wp2_with fail
              go_ret
              exact ⟨ret_bool (decide_eq_false hno.out).symm, hbl.out _⟩
            · go_wp2_with fail
              go_roundw
              case rel => exact ⟨pos + 1, rfl, by omega, Lib.hid (plainTo_step hpl.out hp (by omega) (by omega))⟩
              case measure => simp; omega
        · have hnx : ∀ ty, (Instr.next (.pointer (some ⟨w.heap.size, 0, none⟩)) true ty).run Tryd.prog (w.iter s pos) = _ := fun ty => run_next_any w s pos ty hp
          have hd := (decode_high s pos hp (by omega)).1
          have hno := Lib.hid (plain_not hp (.inr (by omega)))
          have h1 : ¬ ((Utf8.decode s pos).1 : Int) < 32 := by omega
          have h2 : ((Utf8.decode s pos).1 : Int) > 126 := by omega
          go_wp2_with fail
          go_ret
          exact ⟨ret_bool (decide_eq_false hno.out).symm, hbl.out _⟩
      · have hnx : ∀ ty, (Instr.next (.pointer (some ⟨w.heap.size, 0, none⟩)) true ty).run Tryd.prog (w.iter s pos) = _ := fun ty => run_next_end w s pos ty hp
        go_wp2_with fail
        go_ret
        exact ⟨ret_bool (decide_eq_true (plainTo_all hpl.out hp (by omega))).symm, hbl.out _⟩
set_option maxRecDepth 100000 in
set_option maxHeartbeats 1600000 in
theorem plain_any (s : ByteArray) (w : World) (hs : s.size ≤ maxLen) :
    Calls Tryd.prog 43 #[.string s] w fun e w' => e = .returned (.bool (decide (Vl.plain s))) ∧ w' = w := by
  unfold maxLen at hs
  go_enter Tryd.func43, Tryd.ntmps43
  go_wp2
  go_loop [3] (fun i => ∃ k : Nat, i = .int .i64 k ∧ k ≤ s.size ∧ Hid (PlainTo s k)) (fun i => s.size - (intOf i).toNat)
  case atStart => exact ⟨0, rfl, Nat.zero_le _, Lib.hid (plainTo_start s)⟩
  case round =>
    obtain ⟨k, rfl, hle, hpl⟩ := hrel
    by_cases hp : k < s.size
    · by_cases h1 : ((s[k]).toNat : Int) < 32
      · have hno := Lib.hid (plain_not hp (.inl (by omega)))
        go_wp2_with fail
        go_ret
        exact ⟨ret_bool (decide_eq_false hno.out).symm, rfl⟩
      · by_cases h2 : ((s[k]).toNat : Int) > 126
        · have hno := Lib.hid (plain_not hp (.inr (by omega)))
          go_wp2_with fail
          go_ret
          exact ⟨ret_bool (decide_eq_false hno.out).symm, rfl⟩
        · have hst := Lib.hid (plainTo_step hpl.out hp (by omega) (by omega))
          go_wp2_with fail
          go_round
          case rel => exact ⟨k + 1, by go_num, by omega, hst⟩
          case measure => simp [intOf]; omega
    · by_cases h40 : (s.size : Int) ≤ 40
      · have hall := Lib.hid (plainTo_all hpl.out hp (by omega))
        go_wp2_with fail
        go_ret
        exact ⟨ret_bool (by simp [hall.out]), rfl⟩
      · go_wp2_with fail
        go_ret
        exact ⟨ret_bool (by rw [decide_eq_false (fun hh : Vl.plain s => by have := hh.1; omega)]), rfl⟩
/-! right -/
/-- what the box of a value leaves -/
theorem below_box {w w' : World} (o : Obj) (h : Below (w.alloc o).heap.size (w.alloc o) w') : Below w.heap.size w w' :=
  ((Below.refl w.heap.size w).alloc (Nat.le_refl _) o).trans (h.mono (by rw [show (w.alloc o).heap.size = w.heap.size + 1 from Array.size_push _]; omega))
theorem mt_iff (s : ByteArray) : s.toList = [] ↔ s = Vl.mt := by
  rw [ByteArray.toList_eq]
  constructor
  · intro h; apply Sl.ba_ext; rw [h]
  · rintro rfl; rfl
theorem isEmp {p : Prop} [Decidable p] {l : List UInt8} (h : p ↔ l = []) : l.isEmpty = decide p := by cases l <;> simp [h]
theorem not_right {k n : Int} {s : ByteArray} (h2 : k ≠ 2 ∨ n ≠ 0) (h0 : k ≠ 0 ∨ n ≠ 0) (h1 : k ≠ 1) (h3 : k ≠ 3 ∨ (n ≠ 0 ∧ n ≠ 1)) : ¬ Vl.right ⟨k, n, s⟩ := by
  intro h
  rcases h with ⟨h, h', _⟩ | ⟨h, _⟩ | ⟨h, h', _⟩ | ⟨h, h', _⟩
  · simp only at h h'; omega
  · simp only at h; omega
  · simp only at h h'; omega
  · simp only at h h'; rcases h' with h' | h' <;> omega
theorem right_mt {k n : Int} {s : ByteArray} (h : (k = 0 ∧ n = 0) ∨ k = 1 ∨ (k = 3 ∧ (n = 0 ∨ n = 1))) : Vl.right ⟨k, n, s⟩ ↔ s.toList = [] := by
  rw [mt_iff]
  constructor
  · intro hr
    rcases hr with ⟨_, _, e⟩ | ⟨_, e⟩ | ⟨h2, _⟩ | ⟨_, _, e⟩
    · exact e
    · exact e
    · simp only at h2; omega
    · exact e
  · intro e
    rcases h with ⟨h, h'⟩ | h | ⟨h, h'⟩
    · exact .inl ⟨h, h', e⟩
    · exact .inr (.inl ⟨h, e⟩)
    · exact .inr (.inr (.inr ⟨h, h', e⟩))
theorem right_txt {s : ByteArray} : Vl.right ⟨2, 0, s⟩ ↔ Vl.plain s := by
  constructor
  · intro h
    rcases h with ⟨h, _⟩ | ⟨h, _⟩ | ⟨_, _, e⟩ | ⟨h, _⟩
    · exact absurd h (by simp)
    · exact absurd h (by simp)
    · exact e
    · exact absurd h (by simp)
  · intro h; exact .inr (.inr (.inl ⟨rfl, rfl, h⟩))
set_option maxRecDepth 100000 in
set_option maxHeartbeats 3200000 in
theorem right12_any (v : Vl.V) (w : World) :
    Calls Tryd.prog 64 #[valV v] w fun e w' => e = .returned (.bool (decide (Vl.right v))) ∧ Below w.heap.size w w' := by
  obtain ⟨k, n, s⟩ := v
  have hb0 : Hid (Below w.heap.size w (w.alloc (.cells #[.int .i64 k, .int .i64 n, .string s] 67))) := Lib.hid ((Below.refl w.heap.size w).alloc (Nat.le_refl _) _)
  have hb1 : Hid (∀ w', Below (w.alloc (.cells #[.int .i64 k, .int .i64 n, .string s] 67)).heap.size (w.alloc (.cells #[.int .i64 k, .int .i64 n, .string s] 67)) w' → Below w.heap.size w w') := Lib.hid fun w' h => below_box _ h
  by_cases k2 : k = 2
  · subst k2
    by_cases n0 : n = 0
    · subst n0
      have R := Lib.hid (right_txt (s := s))
      go_enter Tryd.func64, Tryd.ntmps64
      go_wp2_with (go_at_call 73; refine (rightText_any _ _).mono ?_; rintro e w1 ⟨rfl, hb⟩; have H := Lib.hid hb; clear hb)
      go_ret
      exact ⟨ret_bool (decide_eq_decide.2 R.out.symm), hb1.out _ H.out⟩
    · have R := Lib.hid (not_right (k := 2) (n := n) (s := s) (.inr n0) (.inr n0) (by omega) (by omega))
      have t : (n == 0) = false := by simp; exact n0
      go_enter Tryd.func64, Tryd.ntmps64
      go_wp2_with fail
      go_ret
      exact ⟨ret_bool (decide_eq_false R.out).symm, hb0.out⟩
  · have t2 : (k == 2) = false := by simp; exact k2
    by_cases k0 : k = 0
    · subst k0
      by_cases n0 : n = 0
      · subst n0
        have R := Lib.hid (right_mt (k := 0) (n := 0) (s := s) (.inl ⟨rfl, rfl⟩))
        clear t2 k2
        go_enter Tryd.func64, Tryd.ntmps64
        go_wp2_with fail
        go_ret
        exact ⟨ret_bool (isEmp R.out), hb0.out⟩
      · have R := Lib.hid (not_right (k := 0) (n := n) (s := s) (.inr n0) (.inr n0) (by omega) (by omega))
        have t : (n == 0) = false := by simp; exact n0
        clear t2 k2
        go_enter Tryd.func64, Tryd.ntmps64
        go_wp2_with fail
        go_ret
        exact ⟨ret_bool (decide_eq_false R.out).symm, hb0.out⟩
    · have t0 : (k == 0) = false := by simp; exact k0
      by_cases k3 : k = 3
      · subst k3
        by_cases n0 : n < 0
        · have R := Lib.hid (not_right (k := 3) (n := n) (s := s) (by omega) (by omega) (by omega) (by omega))
          clear t2 k2 k0 t0
          go_enter Tryd.func64, Tryd.ntmps64
          go_wp2_with fail
          go_ret
          exact ⟨ret_bool (decide_eq_false R.out).symm, hb0.out⟩
        · by_cases n1 : n > 1
          · have R := Lib.hid (not_right (k := 3) (n := n) (s := s) (by omega) (by omega) (by omega) (by omega))
            clear t2 k2 k0 t0
            go_enter Tryd.func64, Tryd.ntmps64
            go_wp2_with fail
            go_ret
            exact ⟨ret_bool (decide_eq_false R.out).symm, hb0.out⟩
          · have R := Lib.hid (right_mt (k := 3) (n := n) (s := s) (.inr (.inr ⟨rfl, by omega⟩)))
            clear t2 k2 k0 t0
            go_enter Tryd.func64, Tryd.ntmps64
            go_wp2_with fail
            go_ret
            exact ⟨ret_bool (isEmp R.out), hb0.out⟩
      · have t3 : (k == 3) = false := by simp; exact k3
        by_cases k1 : k = 1
        · subst k1
          have R := Lib.hid (right_mt (k := 1) (n := n) (s := s) (.inr (.inl rfl)))
          clear t2 k2 k0 t0 k3 t3
          go_enter Tryd.func64, Tryd.ntmps64
          go_wp2_with fail
          go_ret
          exact ⟨ret_bool (isEmp R.out), hb0.out⟩
        · have t1 : (k == 1) = false := by simp; exact k1
          have R := Lib.hid (not_right (k := k) (n := n) (s := s) (.inl k2) (.inl k0) k1 (.inl k3))
          go_enter Tryd.func64, Tryd.ntmps64
          go_wp2_with fail
          go_ret
          exact ⟨ret_bool (decide_eq_false R.out).symm, hb0.out⟩
/-- Check -/
def checkE (v : Vl.V) : Int := if Vl.right v then 0 else 2
theorem checkE_ok {v : Vl.V} (h : Vl.right v) : checkE v = 0 := if_pos h
theorem checkE_bad {v : Vl.V} (h : ¬ Vl.right v) : checkE v = 2 := if_neg h
set_option maxRecDepth 100000 in
set_option maxHeartbeats 1600000 in
theorem check12_any (v : Vl.V) (w : World) :
    Calls Tryd.prog 55 #[valV v] w fun e w' => e = .returned (.int .i64 (checkE v)) ∧ Below w.heap.size w w' := by
  have hb1 : Hid (∀ w', Below (w.alloc (.cells (valC v) 67)).heap.size (w.alloc (.cells (valC v) 67)) w' → Below w.heap.size w w') := Lib.hid fun w' h => below_box _ h
  by_cases hr : Vl.right v
  · have E := Lib.hid (checkE_ok hr)
    have c := fun w => right12_any v w
    rw [decide_eq_true hr] at c
    clear hr
    go_enter Tryd.func55, Tryd.ntmps55
    go_wp2_with (go_at_call 64; refine (c _).mono ?_; rintro e w1 ⟨rfl, hb⟩; have H := Lib.hid hb; clear hb)
    go_ret
    exact ⟨ret_int E.out.symm, hb1.out _ H.out⟩
  · have E := Lib.hid (checkE_bad hr)
    have c := fun w => right12_any v w
    rw [decide_eq_false hr] at c
    clear hr
    go_enter Tryd.func55, Tryd.ntmps55
    go_wp2_with (go_at_call 64; refine (c _).mono ?_; rintro e w1 ⟨rfl, hb⟩; have H := Lib.hid hb; clear hb)
    go_ret
    exact ⟨ret_int E.out.symm, hb1.out _ H.out⟩
end Go.Proofs.YtmpfnokddpbgcaaDoor

/-
  A region that draws its order, walked by what each operation leaves behind: whatever order is picked, a condition on the values that have come up so far and on the world is kept by each operation. For regions whose operations make and write memory (an append of an append ..), where the orders are too many to be walked one by one.
-/
namespace Go.Proofs.YtmpfnokddpbgcaaDoor
open Go.RowKit
section
variable {P : Program} {ops : Array Oper} {Q : Exit → Act → World → Prop}
/-- the values that have come up, one more -/
def came (st : Nat → Option Value) (i : Nat) (v : Value) : Nat → Option Value := fun j => if j = i then some v else st j
theorem came_at (st : Nat → Option Value) (i : Nat) (v : Value) : came st i v i = some v := if_pos rfl
theorem came_far {st : Nat → Option Value} {i j : Nat} {v : Value} (h : j ≠ i) : came st i v j = st j := if_neg h
/-- the frame a is a0, with the values st where the operations put them -/
structure FrameIs (ops : Array Oper) (a0 : Act) (st : Nat → Option Value) (a : Act) : Prop where
  defers : a.defers = a0.defers
  size : a.tmps.size = a0.tmps.size
  come : ∀ i o d v, ops[i]? = some o → o.dst = some d → st i = some v → a.tmps.getD d undef = v
  stay : ∀ d, (∀ i o, ops[i]? = some o → o.dst = some d → st i = none) → a.tmps.getD d undef = a0.tmps.getD d undef
/-- what is asked of the region's text (each by the kernel) -/
structure RelyOk (ops : Array Oper) (n : Nat) : Prop where
  bound : ∀ (i : Nat) (o : Oper) (d : Nat), ops[i]? = some o → o.dst = some d → d < n
  apart : ∀ (i j : Nat) (o p : Oper) (d : Nat), ops[i]? = some o → ops[j]? = some p → o.dst = some d → p.dst = some d → i = j
  after : ∀ (i : Nat) (o : Oper), ops[i]? = some o → ∀ e ∈ o.after, e.on < i
  plain : ∀ (i : Nat) (o : Oper), ops[i]? = some o → o.guard = none
def relyB (ops : Array Oper) (n : Nat) : Bool :=
  (List.range ops.size).all fun i => match ops[i]? with
    | none => true
    | some o => o.guard.isNone && o.after.all (fun e => decide (e.on < i)) && (match o.dst with
      | none => true
      | some d => decide (d < n) && (List.range ops.size).all fun j => match ops[j]? with
        | none => true
        | some p => p.dst != some d || decide (i = j))
theorem relyOk_of {ops : Array Oper} {n : Nat} (h : relyB ops n = true) : RelyOk ops n := by
  unfold relyB at h
  rw [List.all_eq_true] at h
  have key : ∀ (i : Nat) (o : Oper), ops[i]? = some o → o.guard.isNone = true ∧ o.after.all (fun e => decide (e.on < i)) = true ∧ ∀ d, o.dst = some d → d < n ∧ ∀ (j : Nat) (p : Oper), ops[j]? = some p → p.dst = some d → i = j := by
    intro i o ho
    have hi : i < ops.size := (Array.getElem?_eq_some_iff.1 ho).1
    have h1 := h i (List.mem_range.2 hi)
    rw [ho] at h1
    simp only [Bool.and_eq_true] at h1
    refine ⟨h1.1.1, h1.1.2, fun d hd => ?_⟩
    have h2 := h1.2
    rw [hd] at h2
    simp only [Bool.and_eq_true, decide_eq_true_eq] at h2
    refine ⟨h2.1, fun j p hp hpd => ?_⟩
    have hj : j < ops.size := (Array.getElem?_eq_some_iff.1 hp).1
    have h3 := List.all_eq_true.1 h2.2 j (List.mem_range.2 hj)
    rw [hp] at h3
    simp only [hpd, bne_self_eq_false, Bool.false_or, decide_eq_true_eq] at h3
    exact h3
  refine ⟨fun i o d ho hd => ((key i o ho).2.2 d hd).1, fun i j o p d ho hp hd hpd => ((key i o ho).2.2 d hd).2 j p hp hpd, fun i o ho e he => ?_, fun i o ho => ?_⟩
  · have := (key i o ho).2.1
    rw [Array.all_eq_true_iff_forall_mem] at this
    simpa using this e he
  · simpa using (key i o ho).1
theorem frame_put {a0 a : Act} {st : Nat → Option Value} {i : Nat} {o : Oper} {v : Value} (hok : RelyOk ops a0.tmps.size) (ho : ops[i]? = some o) (h : FrameIs ops a0 st a) : FrameIs ops a0 (came st i v) (a.put o.dst v) := by
  cases hd : o.dst with
  | none =>
    refine ⟨h.defers, h.size, fun j p d u hj hpd hu => ?_, fun d hn => ?_⟩
    · have hji : j ≠ i := fun e => by subst e; rw [ho] at hj; cases hj; rw [hd] at hpd; cases hpd
      rw [came_far hji] at hu
      exact h.come j p d u hj hpd hu
    · refine h.stay d fun j p hj hpd => ?_
      have hji : j ≠ i := fun e => by subst e; rw [ho] at hj; cases hj; rw [hd] at hpd; cases hpd
      have := hn j p hj hpd
      rwa [came_far hji] at this
  | some d0 =>
    have hlt := hok.bound i o d0 ho hd
    have hget : ∀ d, (a.tmps.setIfInBounds d0 v).getD d undef = if d0 = d then v else a.tmps.getD d undef := fun d => by
      rw [Array.getD_eq_getD_getElem?, Array.getD_eq_getD_getElem?, Array.getElem?_setIfInBounds]
      by_cases e : d0 = d
      · subst e
        rw [if_pos rfl, if_pos rfl, if_pos (by rw [h.size]; exact hlt)]; rfl
      · rw [if_neg e, if_neg e]
    refine ⟨h.defers, by show (a.tmps.setIfInBounds d0 v).size = _; rw [Array.size_setIfInBounds]; exact h.size, fun j p d u hj hpd hu => ?_, fun d hn => ?_⟩
    · show (a.tmps.setIfInBounds d0 v).getD d undef = u
      rw [hget]
      by_cases e : d0 = d
      · subst e
        have hij := hok.apart i j o p d0 ho hj hd hpd
        subst hij
        rw [came_at] at hu
        rw [if_pos rfl]; exact Option.some.inj hu
      · rw [if_neg e]
        have hji : j ≠ i := fun e2 => by subst e2; rw [ho] at hj; cases hj; rw [hd] at hpd; cases hpd; exact e rfl
        rw [came_far hji] at hu
        exact h.come j p d u hj hpd hu
    · show (a.tmps.setIfInBounds d0 v).getD d undef = _
      rw [hget]
      have e : d0 ≠ d := fun e => by subst e; have := hn i o ho hd; rw [came_at] at this; cases this
      rw [if_neg e]
      refine h.stay d fun j p hj hpd => ?_
      have hji : j ≠ i := fun e2 => by subst e2; rw [ho] at hj; cases hj; rw [hd] at hpd; cases hpd; exact e rfl
      have := hn j p hj hpd
      rwa [came_far hji] at this
theorem least_of {p : Nat → Prop} (h : ∃ i, p i) : ∃ i, p i ∧ ∀ j, j < i → ¬ p j := by
  obtain ⟨i, hi⟩ := h
  induction i using Nat.strongRecOn with
  | _ i ih =>
    by_cases hc : ∃ j, j < i ∧ p j
    · obtain ⟨j, hj, hp⟩ := hc
      exact ih j hj hp
    · exact ⟨i, hi, fun j hj hp => hc ⟨j, hj, hp⟩⟩
/-- a slot that no operation writes -/
theorem frame_stay {a0 a : Act} {st : Nat → Option Value} (h : FrameIs ops a0 st a) {d : Nat} (hd : (ops.all fun o => o.dst != some d) = true) : a.tmps.getD d undef = a0.tmps.getD d undef := by
  refine h.stay d fun i o ho hod => ?_
  rw [Array.all_eq_true_iff_forall_mem] at hd
  have := hd o (Array.mem_of_getElem? ho)
  rw [hod] at this
  simp at this
/-- the frame, written out -/
theorem frame_list {a : Act} {n : Nat} (h : a.tmps.size = n) : a = ⟨((List.range n).map fun i => a.tmps.getD i undef).toArray, a.defers⟩ := by
  obtain ⟨t, d⟩ := a
  have h : t.size = n := h
  congr 1
  apply Array.ext
  · simp [h]
  · intro i h1 h2
    simp only [List.getElem_toArray, List.getElem_map, List.getElem_range]
    rw [Array.getD_eq_getD_getElem?, Array.getElem?_eq_getElem h1]; rfl
/-- listed says which have come up -/
def Told (n : Nat) (st : Nat → Option Value) (listed : Array Bool) : Prop := listed.size = n ∧ ∀ i, i < n → listed[i]? = some (st i).isSome
def left (n : Nat) (st : Nat → Option Value) : Nat := (List.range n).countP fun i => (st i).isNone
theorem left_came {n : Nat} {st : Nat → Option Value} {i : Nat} {v : Value} (hi : i < n) (h : st i = none) : left n st = left n (came st i v) + 1 := by
  unfold left
  induction n with
  | zero => omega
  | succ n ih =>
    rw [List.range_succ, List.countP_append, List.countP_append]
    by_cases e : i = n
    · subst e
      have h1 : (List.range i).countP (fun j => (st j).isNone) = (List.range i).countP (fun j => (came st i v j).isNone) := by
        apply List.countP_congr
        intro j hj
        rw [came_far (by have := List.mem_range.1 hj; omega)]
      rw [h1]
      simp [came_at, h]
    · have := ih (by omega)
      rw [this]
      have h2 : came st i v n = st n := came_far (by omega)
      simp [h2]
      omega
theorem left_zero {n : Nat} {st : Nat → Option Value} (h : left n st = 0) : ∀ i, i < n → (st i).isSome = true := by
  intro i hi
  unfold left at h
  rw [List.countP_eq_zero] at h
  have := h i (List.mem_range.2 hi)
  cases hs : st i with
  | none => rw [hs] at this; simp at this
  | some v => rfl
/-- the step of one operation -/
def Steps (P : Program) (G : (Nat → Option Value) → World → Prop) (st : Nat → Option Value) (i : Nat) (o : Oper) (a : Act) (w : World) : Prop :=
  (∃ v w', (execOp a.eval o).run P w = .ok (.value v) w' ∧ G (came st i v) w') ∨ (∃ w', (execOp a.eval o).run P w = .ok .skip w' ∧ G (came st i undef) w')
theorem wpAny_rely {a0 : Act} {G : (Nat → Option Value) → World → Prop} (hok : RelyOk ops a0.tmps.size)
    (hstep : ∀ st w i o a, ops[i]? = some o → st i = none → (∀ e ∈ o.after, Region.binds .any e = true → (st e.on).isSome = true) → G st w → FrameIs ops a0 st a → Steps P G st i o a w)
    (hend : ∀ st w a, (∀ i, i < ops.size → (st i).isSome = true) → G st w → FrameIs ops a0 st a → Q .normal a w) :
    ∀ fuel st listed a w, left ops.size st = fuel → Told ops.size st listed → G st w → FrameIs ops a0 st a → wpAny P .any ops Q fuel listed a w := by
  have hmem : ∀ st listed, Told ops.size st listed → ∀ i, i ∈ Region.ready .any ops listed → ∃ o, ops[i]? = some o ∧ i < ops.size ∧ st i = none ∧ ∀ e ∈ o.after, Region.binds .any e = true → (st e.on).isSome = true := by
    intro st listed ht i hi
    unfold Region.ready at hi
    rw [List.mem_filter, List.mem_range] at hi
    obtain ⟨hi1, hi2⟩ := hi
    rw [Bool.and_eq_true] at hi2
    obtain ⟨o, ho⟩ : ∃ o, ops[i]? = some o := ⟨_, Array.getElem?_eq_getElem hi1⟩
    refine ⟨o, ho, hi1, ?_, fun e he hb => ?_⟩
    · have h1 := hi2.1
      rw [Array.getD_eq_getD_getElem?, ht.2 i hi1] at h1
      cases hs : st i with
      | none => rfl
      | some v => rw [hs] at h1; simp at h1
    · have h2 := hi2.2
      rw [ho] at h2
      simp only [Option.map_some, Option.getD_some] at h2
      rw [Array.all_eq_true_iff_forall_mem] at h2
      have h3 := h2 e he
      rw [hb] at h3
      simp only [Bool.not_true, Bool.false_or] at h3
      have hlt : e.on < ops.size := Nat.lt_trans (hok.after i o ho e he) hi1
      rw [Array.getD_eq_getD_getElem?, ht.2 _ hlt] at h3
      exact h3
  intro fuel
  induction fuel with
  | zero =>
    intro st listed a w hl ht hg hf
    have hall := left_zero hl
    refine ⟨?_, hend st w a hall hg hf⟩
    cases hr : Region.ready .any ops listed with
    | nil => rfl
    | cons i r =>
      obtain ⟨o, _, hi, hn, _⟩ := hmem st listed ht i (by rw [hr]; exact List.mem_cons_self ..)
      have := hall i hi
      rw [hn] at this; cases this
  | succ fuel ih =>
    intro st listed a w hl ht hg hf
    refine ⟨fun h0 => ?_, fun i hi => ?_⟩
    · -- the first that has not come up is ready
      exfalso
      have hex : ∃ i, i < ops.size ∧ st i = none := by
        refine Classical.byContradiction fun hc => ?_
        have : left ops.size st = 0 := by
          unfold left
          rw [List.countP_eq_zero]
          intro i hi
          cases hs : st i with
          | none => exact absurd ⟨i, List.mem_range.1 hi, hs⟩ hc
          | some v => simp
        omega
      obtain ⟨i, ⟨hi, hn⟩, hmin⟩ := least_of hex
      obtain ⟨o, ho⟩ : ∃ o, ops[i]? = some o := ⟨_, Array.getElem?_eq_getElem hi⟩
      have : i ∈ Region.ready .any ops listed := by
        unfold Region.ready
        rw [List.mem_filter, List.mem_range]
        refine ⟨hi, ?_⟩
        rw [Bool.and_eq_true]
        refine ⟨by rw [Array.getD_eq_getD_getElem?, ht.2 i hi, hn]; rfl, ?_⟩
        rw [ho]
        simp only [Option.map_some, Option.getD_some]
        rw [Array.all_eq_true_iff_forall_mem]
        intro e he
        have hlt := hok.after i o ho e he
        have hs : (st e.on).isSome = true := by
          cases hs : st e.on with
          | none => exact absurd ⟨Nat.lt_trans hlt hi, hs⟩ (hmin _ hlt)
          | some v => rfl
        rw [Array.getD_eq_getD_getElem?, ht.2 _ (Nat.lt_trans hlt hi), hs]
        simp
      rw [h0] at this
      cases this
    · obtain ⟨o, ho, hi1, hn, haft⟩ := hmem st listed ht i hi
      unfold wpOp
      rw [ho]
      have hw : Region.wanted o (yielded ops a.tmps) = true := by simp [Region.wanted, hok.plain i o ho]
      simp only [hw, if_true]
      have ht2 : ∀ v, Told ops.size (came st i v) (listed.setIfInBounds i true) := fun v => by
        refine ⟨by rw [Array.size_setIfInBounds]; exact ht.1, fun j hj => ?_⟩
        rw [Array.getElem?_setIfInBounds]
        by_cases e : i = j
        · subst e
          rw [if_pos rfl, if_pos (by rw [ht.1]; exact hi1), came_at]; rfl
        · rw [if_neg e, came_far (fun x => e x.symm)]
          exact ht.2 j hj
      have hl2 : ∀ v, left ops.size (came st i v) = fuel := fun v => by have := left_came (v := v) hi1 hn; omega
      left
      unfold Oper.wp
      rcases hstep st w i o a ho hn haft hg hf with ⟨v, w', hrun, hg'⟩ | ⟨w', hrun, hg'⟩
      · rw [hrun]
        exact ih _ _ _ _ (hl2 v) (ht2 v) hg' (frame_put hok ho hf)
      · rw [hrun]
        exact ih _ _ _ _ (hl2 undef) (ht2 undef) hg' (frame_put hok ho hf)
theorem wp_region_rely {id : Nat} {a0 : Act} {w : World} (G : (Nat → Option Value) → World → Prop) (hm : P.follows .mixedOrders = true) (hok : relyB ops a0.tmps.size = true) (h0 : G (fun _ => none) w.drew)
    (hstep : ∀ st w i o a, ops[i]? = some o → st i = none → (∀ e ∈ o.after, Region.binds .any e = true → (st e.on).isSome = true) → G st w → FrameIs ops a0 st a → Steps P G st i o a w)
    (hend : ∀ st w a, (∀ i, i < ops.size → (st i).isSome = true) → G st w → FrameIs ops a0 st a → Q .normal a w) : (Code.region id ops true).wp P Q a0 w := by
  refine wp_region_any hm ?_
  refine wpAny_rely (relyOk_of hok) hstep hend ops.size (fun _ => none) _ a0 w.drew ?_ ?_ h0 ?_
  · show (List.range ops.size).countP (fun _ => true) = ops.size
    rw [List.countP_true, List.length_range]
  · exact ⟨Array.size_replicate, fun i hi => by rw [Array.getElem?_replicate, if_pos hi]; rfl⟩
  · exact ⟨rfl, rfl, (fun _ _ _ _ _ _ h => by cases h), fun _ _ => rfl⟩
end
end Go.Proofs.YtmpfnokddpbgcaaDoor

/-
  As Rely, for a region that calls Go functions too; and the usual condition: each value as it is told, whatever is made behind.
-/
namespace Go.Proofs.YtmpfnokddpbgcaaDoor
open Go.RowKit
section
variable {P : Program} {ops : Array Oper} {Q : Exit → Act → World → Prop}
/-- the step of one operation, a call among them -/
def StepsC (P : Program) (G : (Nat → Option Value) → World → Prop) (st : Nat → Option Value) (i : Nat) (o : Oper) (a : Act) (w : World) : Prop :=
  (∃ v w', (execOp a.eval o).run P w = .ok (.value v) w' ∧ G (came st i v) w') ∨ (∃ w', (execOp a.eval o).run P w = .ok .skip w' ∧ G (came st i undef) w') ∨
    (∃ f args R, (execOp a.eval o).run P w = .ok (.enter f args) w ∧ Calls P f args w R ∧ ∀ e w', R e w' → ∃ v, e = .returned v ∧ G (came st i v) w')
theorem wpAny_relyC {a0 : Act} {G : (Nat → Option Value) → World → Prop} (hok : RelyOk ops a0.tmps.size)
    (hstep : ∀ st w i o a, ops[i]? = some o → st i = none → (∀ e ∈ o.after, Region.binds .any e = true → (st e.on).isSome = true) → G st w → FrameIs ops a0 st a → StepsC P G st i o a w)
    (hend : ∀ st w a, (∀ i, i < ops.size → (st i).isSome = true) → G st w → FrameIs ops a0 st a → Q .normal a w) :
    ∀ fuel st listed a w, left ops.size st = fuel → Told ops.size st listed → G st w → FrameIs ops a0 st a → wpAny P .any ops Q fuel listed a w := by
  have hmem : ∀ st listed, Told ops.size st listed → ∀ i, i ∈ Region.ready .any ops listed → ∃ o, ops[i]? = some o ∧ i < ops.size ∧ st i = none ∧ ∀ e ∈ o.after, Region.binds .any e = true → (st e.on).isSome = true := by
    intro st listed ht i hi
    unfold Region.ready at hi
    rw [List.mem_filter, List.mem_range] at hi
    obtain ⟨hi1, hi2⟩ := hi
    rw [Bool.and_eq_true] at hi2
    obtain ⟨o, ho⟩ : ∃ o, ops[i]? = some o := ⟨_, Array.getElem?_eq_getElem hi1⟩
    refine ⟨o, ho, hi1, ?_, fun e he hb => ?_⟩
    · have h1 := hi2.1
      rw [Array.getD_eq_getD_getElem?, ht.2 i hi1] at h1
      cases hs : st i with
      | none => rfl
      | some v => rw [hs] at h1; simp at h1
    · have h2 := hi2.2
      rw [ho] at h2
      simp only [Option.map_some, Option.getD_some] at h2
      rw [Array.all_eq_true_iff_forall_mem] at h2
      have h3 := h2 e he
      rw [hb] at h3
      simp only [Bool.not_true, Bool.false_or] at h3
      have hlt : e.on < ops.size := Nat.lt_trans (hok.after i o ho e he) hi1
      rw [Array.getD_eq_getD_getElem?, ht.2 _ hlt] at h3
      exact h3
  intro fuel
  induction fuel with
  | zero =>
    intro st listed a w hl ht hg hf
    have hall := left_zero hl
    refine ⟨?_, hend st w a hall hg hf⟩
    cases hr : Region.ready .any ops listed with
    | nil => rfl
    | cons i r =>
      obtain ⟨o, _, hi, hn, _⟩ := hmem st listed ht i (by rw [hr]; exact List.mem_cons_self ..)
      have := hall i hi
      rw [hn] at this; cases this
  | succ fuel ih =>
    intro st listed a w hl ht hg hf
    refine ⟨fun h0 => ?_, fun i hi => ?_⟩
    · -- the first that has not come up is ready
      exfalso
      have hex : ∃ i, i < ops.size ∧ st i = none := by
        refine Classical.byContradiction fun hc => ?_
        have : left ops.size st = 0 := by
          unfold left
          rw [List.countP_eq_zero]
          intro i hi
          cases hs : st i with
          | none => exact absurd ⟨i, List.mem_range.1 hi, hs⟩ hc
          | some v => simp
        omega
      obtain ⟨i, ⟨hi, hn⟩, hmin⟩ := least_of hex
      obtain ⟨o, ho⟩ : ∃ o, ops[i]? = some o := ⟨_, Array.getElem?_eq_getElem hi⟩
      have : i ∈ Region.ready .any ops listed := by
        unfold Region.ready
        rw [List.mem_filter, List.mem_range]
        refine ⟨hi, ?_⟩
        rw [Bool.and_eq_true]
        refine ⟨by rw [Array.getD_eq_getD_getElem?, ht.2 i hi, hn]; rfl, ?_⟩
        rw [ho]
        simp only [Option.map_some, Option.getD_some]
        rw [Array.all_eq_true_iff_forall_mem]
        intro e he
        have hlt := hok.after i o ho e he
        have hs : (st e.on).isSome = true := by
          cases hs : st e.on with
          | none => exact absurd ⟨Nat.lt_trans hlt hi, hs⟩ (hmin _ hlt)
          | some v => rfl
        rw [Array.getD_eq_getD_getElem?, ht.2 _ (Nat.lt_trans hlt hi), hs]
        simp
      rw [h0] at this
      cases this
    · obtain ⟨o, ho, hi1, hn, haft⟩ := hmem st listed ht i hi
      unfold wpOp
      rw [ho]
      have hw : Region.wanted o (yielded ops a.tmps) = true := by simp [Region.wanted, hok.plain i o ho]
      simp only [hw, if_true]
      have ht2 : ∀ v, Told ops.size (came st i v) (listed.setIfInBounds i true) := fun v => by
        refine ⟨by rw [Array.size_setIfInBounds]; exact ht.1, fun j hj => ?_⟩
        rw [Array.getElem?_setIfInBounds]
        by_cases e : i = j
        · subst e
          rw [if_pos rfl, if_pos (by rw [ht.1]; exact hi1), came_at]; rfl
        · rw [if_neg e, came_far (fun x => e x.symm)]
          exact ht.2 j hj
      have hl2 : ∀ v, left ops.size (came st i v) = fuel := fun v => by have := left_came (v := v) hi1 hn; omega
      left
      unfold Oper.wp
      rcases hstep st w i o a ho hn haft hg hf with ⟨v, w', hrun, hg'⟩ | ⟨w', hrun, hg'⟩ | ⟨f, args, R, hrun, hc, hR⟩
      · rw [hrun]
        exact ih _ _ _ _ (hl2 v) (ht2 v) hg' (frame_put hok ho hf)
      · rw [hrun]
        exact ih _ _ _ _ (hl2 undef) (ht2 undef) hg' (frame_put hok ho hf)
      · rw [hrun, Oper.upon_enter]
        refine hc.mono fun e w' he => ?_
        obtain ⟨v, rfl, hg'⟩ := hR e w' he
        exact ih _ _ _ _ (hl2 v) (ht2 v) hg' (frame_put hok ho hf)
theorem wp_region_relyC {id : Nat} {a0 : Act} {w : World} (G : (Nat → Option Value) → World → Prop) (hm : P.follows .mixedOrders = true) (hok : relyB ops a0.tmps.size = true) (h0 : G (fun _ => none) w.drew)
    (hstep : ∀ st w i o a, ops[i]? = some o → st i = none → (∀ e ∈ o.after, Region.binds .any e = true → (st e.on).isSome = true) → G st w → FrameIs ops a0 st a → StepsC P G st i o a w)
    (hend : ∀ st w a, (∀ i, i < ops.size → (st i).isSome = true) → G st w → FrameIs ops a0 st a → Q .normal a w) : (Code.region id ops true).wp P Q a0 w := by
  refine wp_region_any hm ?_
  refine wpAny_relyC (relyOk_of hok) hstep hend ops.size (fun _ => none) _ a0 w.drew ?_ ?_ h0 ?_
  · show (List.range ops.size).countP (fun _ => true) = ops.size
    rw [List.countP_true, List.length_range]
  · exact ⟨Array.size_replicate, fun i hi => by rw [Array.getElem?_replicate, if_pos hi]; rfl⟩
  · exact ⟨rfl, rfl, (fun _ _ _ _ _ _ h => by cases h), fun _ _ => rfl⟩
end
/-- each value as F tells, and nothing below w0's end was turned -/
def Gr (w0 : World) (F : Nat → Value → World → Prop) (st : Nat → Option Value) (w : World) : Prop := Below w0.heap.size w0 w ∧ ∀ j v, st j = some v → F j v w
theorem gr_pure {w0 w : World} {F : Nat → Value → World → Prop} {st : Nat → Option Value} {i : Nat} {v : Value} (h : Gr w0 F st w) (hv : F i v w) : Gr w0 F (came st i v) w := by
  refine ⟨h.1, fun j u hj => ?_⟩
  by_cases e : j = i
  · subst e; rw [came_at] at hj; cases hj; exact hv
  · rw [came_far e] at hj; exact h.2 j u hj
theorem gr_more {w0 w w' : World} {F : Nat → Value → World → Prop} {st : Nat → Option Value} {i : Nat} {v : Value} (hF : ∀ j u wx wy, Below wx.heap.size wx wy → F j u wx → F j u wy) (h : Gr w0 F st w) (hb : Below w.heap.size w w') (hv : F i v w') : Gr w0 F (came st i v) w' := by
  refine ⟨h.1.trans (hb.mono h.1.size), fun j u hj => ?_⟩
  by_cases e : j = i
  · subst e; rw [came_at] at hj; cases hj; exact hv
  · rw [came_far e] at hj; exact hF _ _ _ _ hb (h.2 j u hj)
end Go.Proofs.YtmpfnokddpbgcaaDoor

/-
  Layer 12: a number's digits, as the document says them.
-/
namespace Go.Proofs.YtmpfnokddpbgcaaDoor
open Go.RowKit
theorem Vl.itoa_step (n : Int) (h : ¬ (-9 ≤ n ∧ n ≤ 9)) : Lib.itoa n = Lib.itoa (n.tdiv 10) ++ [UInt8.ofNat (48 + (n.natAbs % 10))] ∧ (n.tdiv 10).natAbs < n.natAbs := by
  have key : ∀ u : Nat, 10 ≤ u → Lib.decDigits u = Lib.decDigits (u / 10) ++ [UInt8.ofNat (48 + u % 10)] := fun u hu => by
    rw [Lib.decDigits, dif_neg (by omega)]
  have hd : (n.tdiv 10).natAbs = n.natAbs / 10 := by rw [Int.natAbs_tdiv]; rfl
  refine ⟨?_, by omega⟩
  unfold Lib.itoa
  by_cases h0 : n < 0
  · have h1 : n.tdiv 10 < 0 := by
      have : n.tdiv 10 = -((-n).tdiv 10) := by rw [Int.neg_tdiv, Int.neg_neg]
      rw [this, Int.tdiv_eq_ediv_of_nonneg (by omega)]; omega
    rw [if_pos h0, if_pos h1, hd, key _ (by omega)]; rfl
  · have h1 : ¬ n.tdiv 10 < 0 := by rw [Int.tdiv_eq_ediv_of_nonneg (by omega)]; omega
    have e1 : (n.tdiv 10).toNat = n.toNat / 10 := by rw [Int.tdiv_eq_ediv_of_nonneg (by omega)]; omega
    have e2 : n.natAbs = n.toNat := by omega
    rw [if_neg h0, if_neg h1, e1, e2, key _ (by omega)]
theorem Vl.itoa_neg1 (n : Int) (h : -9 ≤ n ∧ n < 0) : Lib.itoa n = [45, UInt8.ofNat (48 - n).toNat] := by
  unfold Lib.itoa
  rw [if_pos h.2, Lib.decDigits, dif_pos (by omega), show 48 + n.natAbs = (48 - n).toNat by omega]
theorem Vl.itoa_pos1 (n : Int) (h : 0 ≤ n ∧ n ≤ 9) : Lib.itoa n = [UInt8.ofNat (48 + n).toNat] := by
  unfold Lib.itoa
  rw [if_neg (by omega), Lib.decDigits, dif_pos (by omega), show 48 + n.toNat = (48 + n).toNat by omega]
/-- one byte, as a string -/
theorem one_conv (c : Int) (W : World) (g : Nat) (h : W.cell? ⟨g, 0, none⟩ = some (.int .u8 c)) :
    (convert 55 9 (.slice (some ⟨g, 0, none⟩) 1 1)).run Tryd.prog W = .ok (.string ⟨#[UInt8.ofNat c.toNat]⟩) W := by
  have hc := run_convert_bytes_arg (P := Tryd.prog) W 55 5 Tryd.underlying55 Tryd.underlying5 g 0 1 1 [c] rfl (fun i hi => by
    obtain rfl : i = 0 := by omega
    exact h) 9 Tryd.underlying9
  rw [hc]; rfl
set_option maxRecDepth 100000 in
set_option maxHeartbeats 3200000 in
theorem digits_small (n : Int) (w : World) (h : -9 ≤ n ∧ n ≤ 9) :
    Calls Tryd.prog 25 #[.int .i64 n] w fun e w' => e = .returned (.string ⟨(Lib.itoa n).toArray⟩) ∧ Below w.heap.size w w' := by
  obtain ⟨h1, h2⟩ := h
  by_cases h0 : n < 0
  · have E := Lib.hid (Vl.itoa_neg1 n ⟨h1, h0⟩)
    have hcv := one_conv (48 - n) (w.alloc (.cells #[.int .u8 (48 - n)] 5)) w.heap.size (by rw [World.cell?_alloc_at _ _ _ _ rfl]; rfl)
    have hXs : (⟨#[UInt8.ofNat (48 - n).toNat]⟩ : ByteArray).size = 1 := rfl
    generalize hX : (⟨#[UInt8.ofNat (48 - n).toNat]⟩ : ByteArray) = X at *
    have HX := Lib.hid hX
    clear hX
    go_enter Tryd.func25, Tryd.ntmps25
    go_wp2_with fail
    go_ret
    exact ⟨ret_str (by rw [E.out, ← HX.out]; rfl), (Below.refl w.heap.size w).alloc (Nat.le_refl _) _⟩
  · have E := Lib.hid (Vl.itoa_pos1 n ⟨by omega, h2⟩)
    have hcv := one_conv (48 + n) (w.alloc (.cells #[.int .u8 (48 + n)] 5)) w.heap.size (by rw [World.cell?_alloc_at _ _ _ _ rfl]; rfl)
    generalize hX : (⟨#[UInt8.ofNat (48 + n).toNat]⟩ : ByteArray) = X at *
    have HX := Lib.hid hX
    clear hX
    go_enter Tryd.func25, Tryd.ntmps25
    go_wp2_with fail
    go_ret
    exact ⟨ret_str (by rw [E.out, ← HX.out]), (Below.refl w.heap.size w).alloc (Nat.le_refl _) _⟩
/-- the values of the last region -/
def digF (n : Int) (A B : ByteArray) (d : Nat) : Nat → Value → World → Prop
  | 0, v, _ => v = .int .i64 n
  | 1, v, _ => v = .int .i64 (n.tdiv 10)
  | 2, v, _ => v = .string A
  | 3, v, _ => v = .int .i64 (d : Int)
  | 4, v, _ => v = .int .i64 (48 + (d : Int))
  | 5, v, _ => v = .int .u8 (48 + (d : Int))
  | 6, v, w => ∃ g, v = .slice (some ⟨g, 0, none⟩) 1 1 ∧ w.cell? ⟨g, 0, none⟩ = some (.int .u8 (48 + (d : Int)))
  | 7, v, _ => v = .string B
  | 8, v, _ => v = .string (A ++ B)
  | 9, v, _ => v = .string (A ++ B)
  | _, _, _ => True
theorem digF_up (n : Int) (A B : ByteArray) (d : Nat) : ∀ j u wx wy, Below wx.heap.size wx wy → digF n A B d j u wx → digF n A B d j u wy := by
  intro j u wx wy hb h
  match j, h with
  | 6, ⟨g, h1, h2⟩ => exact ⟨g, h1, (hb.cell (World.block_lt_of_cell? _ _ h2)).trans h2⟩
  | 0, h | 1, h | 2, h | 3, h | 4, h | 5, h | 7, h | 8, h | 9, h => exact h
  | _ + 10, _ => trivial
set_option maxRecDepth 100000 in
set_option maxHeartbeats 3200000 in
theorem digits_great (n : Int) (hmin : -9223372036854775808 ≤ n) (hmax : n ≤ 9223372036854775807) (h : ¬ (-9 ≤ n ∧ n ≤ 9))
    (ih : ∀ w, Calls Tryd.prog 25 #[.int .i64 (n.tdiv 10)] w fun e w' => e = .returned (.string ⟨(Lib.itoa (n.tdiv 10)).toArray⟩) ∧ Below w.heap.size w w')
    (hlen : (Lib.itoa (n.tdiv 10)).length ≤ 1000) (w : World) :
    Calls Tryd.prog 25 #[.int .i64 n] w fun e w' => e = .returned (.string ⟨(Lib.itoa n).toArray⟩) ∧ Below w.heap.size w w' := by
  have E := Lib.hid (Vl.itoa_step n h).1
  obtain ⟨A, hA⟩ : ∃ A : ByteArray, A = ⟨(Lib.itoa (n.tdiv 10)).toArray⟩ := ⟨_, rfl⟩
  rw [← hA] at ih
  have hAs : A.size ≤ 1000 := by rw [hA]; show (Lib.itoa (n.tdiv 10)).toArray.size ≤ 1000; rw [List.size_toArray]; exact hlen
  obtain ⟨d, hd⟩ : ∃ d, d = n.natAbs % 10 := ⟨_, rfl⟩
  have hd10 : d < 10 := by omega
  have hcv := fun W g hg => one_conv (48 + (d : Int)) W g hg
  obtain ⟨B, hB⟩ : ∃ B : ByteArray, B = ⟨#[UInt8.ofNat (48 + (d : Int)).toNat]⟩ := ⟨_, rfl⟩
  rw [← hB] at hcv
  have hBs : B.size = 1 := by rw [hB]; rfl
  have HV := Lib.hid hcv
  have HC := Lib.hid ih
  have HE : Hid ((A ++ B) = ⟨(Lib.itoa n).toArray⟩) := Lib.hid (by
    rw [E.out, hA, hB, ← hd, show (48 + (d : Int)).toNat = 48 + d by omega]
    apply Sl.ba_ext; rw [ByteArray.data_append, Array.toList_append])
  have hr : n.tmod 10 = if n < 0 then -(d : Int) else (d : Int) := by
    by_cases hn : n < 0
    · rw [if_pos hn]
      have : n.tmod 10 = -((-n).tmod 10) := by rw [Int.neg_tmod, Int.neg_neg]
      rw [this, Int.tmod_eq_emod_of_nonneg (by omega)]; omega
    · rw [if_neg hn, Int.tmod_eq_emod_of_nonneg (by omega)]; omega
  have HR := Lib.hid hr
  have HQ : Hid (IntKind.i64.wrap (n.tdiv 10) = n.tdiv 10) := Lib.hid (by
    have hd : (n.tdiv 10).natAbs = n.natAbs / 10 := by rw [Int.natAbs_tdiv]; rfl
    exact IntWalk.i64_in _ (by omega))
  clear hr hd hA hB hcv ih E
  by_cases hg : -9 ≤ n
  · have hg2 : ¬ n ≤ 9 := by omega
    clear h
    by_cases hp : n < 0 ∧ 0 < d
    · have hr2 : n.tmod 10 = -(d : Int) := by rw [HR.out, if_pos hp.1]
      have hd0 : -(d : Int) < 0 := by omega
      have hw : IntKind.i64.wrap (-(-(d : Int))) = d := by rw [Int.neg_neg]; exact IntWalk.i64_in _ (by omega)
      clear hp HR
      go_enter Tryd.func25, Tryd.ntmps25
      go_wp2_with fail
      refine wp_region_relyC (Gr w (digF n A B d)) (by kernel_rfl) (by kernel_rfl) ⟨(Below.refl _ _).drew, fun j v h => by cases h⟩ ?hstep ?hend
      case hstep =>
        intro st wx i o ax ho hn haft hG hf
        have f0 : ax.tmps.getD 0 undef = .int .i64 n := frame_stay hf (by kernel_rfl)
        have f3 : ax.tmps.getD 3 undef = .int .i64 (d : Int) := frame_stay hf (by kernel_rfl)
        match i, ho, hn, haft with
        | 0, ho, hn, haft =>
          obtain rfl := Option.some.inj ho
          refine .inl ⟨(.int .i64 n), wx, ?_, gr_pure hG rfl⟩
          go_simp
        | 1, ho, hn, haft =>
          obtain rfl := Option.some.inj ho
          obtain ⟨v0, h0⟩ := Option.isSome_iff_exists.1 (haft ⟨0, .data⟩ (by simp) rfl)
          obtain rfl : v0 = (.int .i64 n) := hG.2 0 v0 h0
          have e29 : ax.tmps.getD 29 undef = (.int .i64 n) := hf.come 0 _ 29 _ rfl rfl h0
          refine .inl ⟨(.int .i64 (n.tdiv 10)), wx, ?_, gr_pure hG rfl⟩
          go_simp; exact HQ.out
        | 2, ho, hn, haft =>
          obtain rfl := Option.some.inj ho
          obtain ⟨v1, h1⟩ := Option.isSome_iff_exists.1 (haft ⟨1, .data⟩ (by simp) rfl)
          obtain rfl : v1 = (.int .i64 (n.tdiv 10)) := hG.2 1 v1 h1
          have e30 : ax.tmps.getD 30 undef = (.int .i64 (n.tdiv 10)) := hf.come 1 _ 30 _ rfl rfl h1
          refine .inr (.inr ⟨25, #[.int .i64 (n.tdiv 10)], _, by go_simp, HC.out wx, ?_⟩)
          rintro e w1 ⟨rfl, hb1⟩
          exact ⟨_, rfl, gr_more (digF_up _ _ _ _) hG hb1 rfl⟩
        | 3, ho, hn, haft =>
          obtain rfl := Option.some.inj ho
          refine .inl ⟨(.int .i64 (d : Int)), wx, ?_, gr_pure hG rfl⟩
          go_simp
        | 4, ho, hn, haft =>
          obtain rfl := Option.some.inj ho
          obtain ⟨v3, h3⟩ := Option.isSome_iff_exists.1 (haft ⟨3, .data⟩ (by simp) rfl)
          obtain rfl : v3 = (.int .i64 (d : Int)) := hG.2 3 v3 h3
          have e32 : ax.tmps.getD 32 undef = (.int .i64 (d : Int)) := hf.come 3 _ 32 _ rfl rfl h3
          refine .inl ⟨(.int .i64 (48 + (d : Int))), wx, ?_, gr_pure hG rfl⟩
          go_simp; rw [IntWalk.i64_in _ (by omega)]
        | 5, ho, hn, haft =>
          obtain rfl := Option.some.inj ho
          obtain ⟨v4, h4⟩ := Option.isSome_iff_exists.1 (haft ⟨4, .data⟩ (by simp) rfl)
          obtain rfl : v4 = (.int .i64 (48 + (d : Int))) := hG.2 4 v4 h4
          have e33 : ax.tmps.getD 33 undef = (.int .i64 (48 + (d : Int))) := hf.come 4 _ 33 _ rfl rfl h4
          refine .inl ⟨(.int .u8 (48 + (d : Int))), wx, ?_, gr_pure hG rfl⟩
          go_simp; first | done | (simp [IntKind.wrap_u8]; omega)
        | 6, ho, hn, haft =>
          obtain rfl := Option.some.inj ho
          obtain ⟨v5, h5⟩ := Option.isSome_iff_exists.1 (haft ⟨5, .data⟩ (by simp) rfl)
          obtain rfl : v5 = (.int .u8 (48 + (d : Int))) := hG.2 5 v5 h5
          have e34 : ax.tmps.getD 34 undef = (.int .u8 (48 + (d : Int))) := hf.come 5 _ 34 _ rfl rfl h5
          refine .inl ⟨.slice (some ⟨wx.heap.size, 0, none⟩) 1 1, wx.alloc (.cells #[.int .u8 (48 + (d : Int))] 5), ?_, gr_more (digF_up _ _ _ _) hG ((Below.refl _ _).alloc (Nat.le_refl _) _) ⟨wx.heap.size, rfl, by rw [World.cell?_alloc_at _ _ _ _ rfl]; rfl⟩⟩
          have e34b := e34
          rw [Array.getD_eq_getD_getElem?] at e34b
          go_simp
        | 7, ho, hn, haft =>
          obtain rfl := Option.some.inj ho
          obtain ⟨v6, h6⟩ := Option.isSome_iff_exists.1 (haft ⟨6, .data⟩ (by simp) rfl)
          have e35 : ax.tmps.getD 35 undef = v6 := hf.come 6 _ 35 _ rfl rfl h6
          obtain ⟨g, rfl, hc⟩ := hG.2 6 v6 h6
          have hcv := HV.out wx g hc
          refine .inl ⟨.string B, wx, ?_, gr_pure hG rfl⟩
          go_simp
        | 8, ho, hn, haft =>
          obtain rfl := Option.some.inj ho
          obtain ⟨v2, h2⟩ := Option.isSome_iff_exists.1 (haft ⟨2, .data⟩ (by simp) rfl)
          obtain rfl : v2 = (.string A) := hG.2 2 v2 h2
          have e31 : ax.tmps.getD 31 undef = (.string A) := hf.come 2 _ 31 _ rfl rfl h2
          obtain ⟨v7, h7⟩ := Option.isSome_iff_exists.1 (haft ⟨7, .data⟩ (by simp) rfl)
          obtain rfl : v7 = (.string B) := hG.2 7 v7 h7
          have e36 : ax.tmps.getD 36 undef = (.string B) := hf.come 7 _ 36 _ rfl rfl h7
          refine .inl ⟨(.string (A ++ B)), wx, ?_, gr_pure hG rfl⟩
          go_simp; first | done | omega
        | 9, ho, hn, haft =>
          obtain rfl := Option.some.inj ho
          obtain ⟨v8, h8⟩ := Option.isSome_iff_exists.1 (haft ⟨8, .data⟩ (by simp) rfl)
          obtain rfl : v8 = (.string (A ++ B)) := hG.2 8 v8 h8
          have e37 : ax.tmps.getD 37 undef = (.string (A ++ B)) := hf.come 8 _ 37 _ rfl rfl h8
          refine .inl ⟨(.string (A ++ B)), wx, ?_, gr_pure hG rfl⟩
          go_simp
        | (i + 10), ho, hn, haft => cases ho
      case hend =>
        intro st wx ax hall hG hf
        obtain ⟨v9, h9⟩ := Option.isSome_iff_exists.1 (hall 9 (by decide))
        obtain rfl : v9 = .string (A ++ B) := hG.2 9 v9 h9
        have hb := Lib.hid hG.1
        obtain ⟨z, hz⟩ : ∃ z : Nat → Value, z = fun i => ax.tmps.getD i undef := ⟨_, rfl⟩
        have hax : ax = ⟨((List.range 38).map z).toArray, ax.defers⟩ := by rw [hz]; exact frame_list (hf.size.trans (by rfl))
        have hde : ax.defers = [] := hf.defers
        rw [hde] at hax
        have hax2 : ax = ⟨#[z 0, z 1, z 2, z 3, z 4, z 5, z 6, z 7, z 8, z 9, z 10, z 11, z 12, z 13, z 14, z 15, z 16, z 17, z 18, z 19, z 20, z 21, z 22, z 23, z 24, z 25, z 26, z 27, z 28, z 29, z 30, z 31, z 32, z 33, z 34, z 35, z 36, z 37], []⟩ := hax
        have z2 : z 2 = .string (A ++ B) := by rw [hz]; exact hf.come 9 _ 2 _ rfl rfl h9
        clear hz hax hde
        subst hax2
        rw [z2]
        clear hf hG hall z2 h9
        go_wp2_with fail
        go_ret
        exact ⟨ret_str HE.out, hb.out⟩
    · have hr2 : n.tmod 10 = (d : Int) := by rw [HR.out]; split <;> omega
      have hd0 : ¬ (d : Int) < 0 := by omega
      clear hp HR
      go_enter Tryd.func25, Tryd.ntmps25
      go_wp2_with fail
      refine wp_region_relyC (Gr w (digF n A B d)) (by kernel_rfl) (by kernel_rfl) ⟨(Below.refl _ _).drew, fun j v h => by cases h⟩ ?hstep ?hend
      case hstep =>
        intro st wx i o ax ho hn haft hG hf
        have f0 : ax.tmps.getD 0 undef = .int .i64 n := frame_stay hf (by kernel_rfl)
        have f3 : ax.tmps.getD 3 undef = .int .i64 (d : Int) := frame_stay hf (by kernel_rfl)
        match i, ho, hn, haft with
        | 0, ho, hn, haft =>
          obtain rfl := Option.some.inj ho
          refine .inl ⟨(.int .i64 n), wx, ?_, gr_pure hG rfl⟩
          go_simp
        | 1, ho, hn, haft =>
          obtain rfl := Option.some.inj ho
          obtain ⟨v0, h0⟩ := Option.isSome_iff_exists.1 (haft ⟨0, .data⟩ (by simp) rfl)
          obtain rfl : v0 = (.int .i64 n) := hG.2 0 v0 h0
          have e29 : ax.tmps.getD 29 undef = (.int .i64 n) := hf.come 0 _ 29 _ rfl rfl h0
          refine .inl ⟨(.int .i64 (n.tdiv 10)), wx, ?_, gr_pure hG rfl⟩
          go_simp; exact HQ.out
        | 2, ho, hn, haft =>
          obtain rfl := Option.some.inj ho
          obtain ⟨v1, h1⟩ := Option.isSome_iff_exists.1 (haft ⟨1, .data⟩ (by simp) rfl)
          obtain rfl : v1 = (.int .i64 (n.tdiv 10)) := hG.2 1 v1 h1
          have e30 : ax.tmps.getD 30 undef = (.int .i64 (n.tdiv 10)) := hf.come 1 _ 30 _ rfl rfl h1
          refine .inr (.inr ⟨25, #[.int .i64 (n.tdiv 10)], _, by go_simp, HC.out wx, ?_⟩)
          rintro e w1 ⟨rfl, hb1⟩
          exact ⟨_, rfl, gr_more (digF_up _ _ _ _) hG hb1 rfl⟩
        | 3, ho, hn, haft =>
          obtain rfl := Option.some.inj ho
          refine .inl ⟨(.int .i64 (d : Int)), wx, ?_, gr_pure hG rfl⟩
          go_simp
        | 4, ho, hn, haft =>
          obtain rfl := Option.some.inj ho
          obtain ⟨v3, h3⟩ := Option.isSome_iff_exists.1 (haft ⟨3, .data⟩ (by simp) rfl)
          obtain rfl : v3 = (.int .i64 (d : Int)) := hG.2 3 v3 h3
          have e32 : ax.tmps.getD 32 undef = (.int .i64 (d : Int)) := hf.come 3 _ 32 _ rfl rfl h3
          refine .inl ⟨(.int .i64 (48 + (d : Int))), wx, ?_, gr_pure hG rfl⟩
          go_simp; rw [IntWalk.i64_in _ (by omega)]
        | 5, ho, hn, haft =>
          obtain rfl := Option.some.inj ho
          obtain ⟨v4, h4⟩ := Option.isSome_iff_exists.1 (haft ⟨4, .data⟩ (by simp) rfl)
          obtain rfl : v4 = (.int .i64 (48 + (d : Int))) := hG.2 4 v4 h4
          have e33 : ax.tmps.getD 33 undef = (.int .i64 (48 + (d : Int))) := hf.come 4 _ 33 _ rfl rfl h4
          refine .inl ⟨(.int .u8 (48 + (d : Int))), wx, ?_, gr_pure hG rfl⟩
          go_simp; first | done | (simp [IntKind.wrap_u8]; omega)
        | 6, ho, hn, haft =>
          obtain rfl := Option.some.inj ho
          obtain ⟨v5, h5⟩ := Option.isSome_iff_exists.1 (haft ⟨5, .data⟩ (by simp) rfl)
          obtain rfl : v5 = (.int .u8 (48 + (d : Int))) := hG.2 5 v5 h5
          have e34 : ax.tmps.getD 34 undef = (.int .u8 (48 + (d : Int))) := hf.come 5 _ 34 _ rfl rfl h5
          refine .inl ⟨.slice (some ⟨wx.heap.size, 0, none⟩) 1 1, wx.alloc (.cells #[.int .u8 (48 + (d : Int))] 5), ?_, gr_more (digF_up _ _ _ _) hG ((Below.refl _ _).alloc (Nat.le_refl _) _) ⟨wx.heap.size, rfl, by rw [World.cell?_alloc_at _ _ _ _ rfl]; rfl⟩⟩
          have e34b := e34
          rw [Array.getD_eq_getD_getElem?] at e34b
          go_simp
        | 7, ho, hn, haft =>
          obtain rfl := Option.some.inj ho
          obtain ⟨v6, h6⟩ := Option.isSome_iff_exists.1 (haft ⟨6, .data⟩ (by simp) rfl)
          have e35 : ax.tmps.getD 35 undef = v6 := hf.come 6 _ 35 _ rfl rfl h6
          obtain ⟨g, rfl, hc⟩ := hG.2 6 v6 h6
          have hcv := HV.out wx g hc
          refine .inl ⟨.string B, wx, ?_, gr_pure hG rfl⟩
          go_simp
        | 8, ho, hn, haft =>
          obtain rfl := Option.some.inj ho
          obtain ⟨v2, h2⟩ := Option.isSome_iff_exists.1 (haft ⟨2, .data⟩ (by simp) rfl)
          obtain rfl : v2 = (.string A) := hG.2 2 v2 h2
          have e31 : ax.tmps.getD 31 undef = (.string A) := hf.come 2 _ 31 _ rfl rfl h2
          obtain ⟨v7, h7⟩ := Option.isSome_iff_exists.1 (haft ⟨7, .data⟩ (by simp) rfl)
          obtain rfl : v7 = (.string B) := hG.2 7 v7 h7
          have e36 : ax.tmps.getD 36 undef = (.string B) := hf.come 7 _ 36 _ rfl rfl h7
          refine .inl ⟨(.string (A ++ B)), wx, ?_, gr_pure hG rfl⟩
          go_simp; first | done | omega
        | 9, ho, hn, haft =>
          obtain rfl := Option.some.inj ho
          obtain ⟨v8, h8⟩ := Option.isSome_iff_exists.1 (haft ⟨8, .data⟩ (by simp) rfl)
          obtain rfl : v8 = (.string (A ++ B)) := hG.2 8 v8 h8
          have e37 : ax.tmps.getD 37 undef = (.string (A ++ B)) := hf.come 8 _ 37 _ rfl rfl h8
          refine .inl ⟨(.string (A ++ B)), wx, ?_, gr_pure hG rfl⟩
          go_simp
        | (i + 10), ho, hn, haft => cases ho
      case hend =>
        intro st wx ax hall hG hf
        obtain ⟨v9, h9⟩ := Option.isSome_iff_exists.1 (hall 9 (by decide))
        obtain rfl : v9 = .string (A ++ B) := hG.2 9 v9 h9
        have hb := Lib.hid hG.1
        obtain ⟨z, hz⟩ : ∃ z : Nat → Value, z = fun i => ax.tmps.getD i undef := ⟨_, rfl⟩
        have hax : ax = ⟨((List.range 38).map z).toArray, ax.defers⟩ := by rw [hz]; exact frame_list (hf.size.trans (by rfl))
        have hde : ax.defers = [] := hf.defers
        rw [hde] at hax
        have hax2 : ax = ⟨#[z 0, z 1, z 2, z 3, z 4, z 5, z 6, z 7, z 8, z 9, z 10, z 11, z 12, z 13, z 14, z 15, z 16, z 17, z 18, z 19, z 20, z 21, z 22, z 23, z 24, z 25, z 26, z 27, z 28, z 29, z 30, z 31, z 32, z 33, z 34, z 35, z 36, z 37], []⟩ := hax
        have z2 : z 2 = .string (A ++ B) := by rw [hz]; exact hf.come 9 _ 2 _ rfl rfl h9
        clear hz hax hde
        subst hax2
        rw [z2]
        clear hf hG hall z2 h9
        go_wp2_with fail
        go_ret
        exact ⟨ret_str HE.out, hb.out⟩
  · clear h
    by_cases hp : n < 0 ∧ 0 < d
    · have hr2 : n.tmod 10 = -(d : Int) := by rw [HR.out, if_pos hp.1]
      have hd0 : -(d : Int) < 0 := by omega
      have hw : IntKind.i64.wrap (-(-(d : Int))) = d := by rw [Int.neg_neg]; exact IntWalk.i64_in _ (by omega)
      clear hp HR
      go_enter Tryd.func25, Tryd.ntmps25
      go_wp2_with fail
      refine wp_region_relyC (Gr w (digF n A B d)) (by kernel_rfl) (by kernel_rfl) ⟨(Below.refl _ _).drew, fun j v h => by cases h⟩ ?hstep ?hend
      case hstep =>
        intro st wx i o ax ho hn haft hG hf
        have f0 : ax.tmps.getD 0 undef = .int .i64 n := frame_stay hf (by kernel_rfl)
        have f3 : ax.tmps.getD 3 undef = .int .i64 (d : Int) := frame_stay hf (by kernel_rfl)
        match i, ho, hn, haft with
        | 0, ho, hn, haft =>
          obtain rfl := Option.some.inj ho
          refine .inl ⟨(.int .i64 n), wx, ?_, gr_pure hG rfl⟩
          go_simp
        | 1, ho, hn, haft =>
          obtain rfl := Option.some.inj ho
          obtain ⟨v0, h0⟩ := Option.isSome_iff_exists.1 (haft ⟨0, .data⟩ (by simp) rfl)
          obtain rfl : v0 = (.int .i64 n) := hG.2 0 v0 h0
          have e29 : ax.tmps.getD 29 undef = (.int .i64 n) := hf.come 0 _ 29 _ rfl rfl h0
          refine .inl ⟨(.int .i64 (n.tdiv 10)), wx, ?_, gr_pure hG rfl⟩
          go_simp; exact HQ.out
        | 2, ho, hn, haft =>
          obtain rfl := Option.some.inj ho
          obtain ⟨v1, h1⟩ := Option.isSome_iff_exists.1 (haft ⟨1, .data⟩ (by simp) rfl)
          obtain rfl : v1 = (.int .i64 (n.tdiv 10)) := hG.2 1 v1 h1
          have e30 : ax.tmps.getD 30 undef = (.int .i64 (n.tdiv 10)) := hf.come 1 _ 30 _ rfl rfl h1
          refine .inr (.inr ⟨25, #[.int .i64 (n.tdiv 10)], _, by go_simp, HC.out wx, ?_⟩)
          rintro e w1 ⟨rfl, hb1⟩
          exact ⟨_, rfl, gr_more (digF_up _ _ _ _) hG hb1 rfl⟩
        | 3, ho, hn, haft =>
          obtain rfl := Option.some.inj ho
          refine .inl ⟨(.int .i64 (d : Int)), wx, ?_, gr_pure hG rfl⟩
          go_simp
        | 4, ho, hn, haft =>
          obtain rfl := Option.some.inj ho
          obtain ⟨v3, h3⟩ := Option.isSome_iff_exists.1 (haft ⟨3, .data⟩ (by simp) rfl)
          obtain rfl : v3 = (.int .i64 (d : Int)) := hG.2 3 v3 h3
          have e32 : ax.tmps.getD 32 undef = (.int .i64 (d : Int)) := hf.come 3 _ 32 _ rfl rfl h3
          refine .inl ⟨(.int .i64 (48 + (d : Int))), wx, ?_, gr_pure hG rfl⟩
          go_simp; rw [IntWalk.i64_in _ (by omega)]
        | 5, ho, hn, haft =>
          obtain rfl := Option.some.inj ho
          obtain ⟨v4, h4⟩ := Option.isSome_iff_exists.1 (haft ⟨4, .data⟩ (by simp) rfl)
          obtain rfl : v4 = (.int .i64 (48 + (d : Int))) := hG.2 4 v4 h4
          have e33 : ax.tmps.getD 33 undef = (.int .i64 (48 + (d : Int))) := hf.come 4 _ 33 _ rfl rfl h4
          refine .inl ⟨(.int .u8 (48 + (d : Int))), wx, ?_, gr_pure hG rfl⟩
          go_simp; first | done | (simp [IntKind.wrap_u8]; omega)
        | 6, ho, hn, haft =>
          obtain rfl := Option.some.inj ho
          obtain ⟨v5, h5⟩ := Option.isSome_iff_exists.1 (haft ⟨5, .data⟩ (by simp) rfl)
          obtain rfl : v5 = (.int .u8 (48 + (d : Int))) := hG.2 5 v5 h5
          have e34 : ax.tmps.getD 34 undef = (.int .u8 (48 + (d : Int))) := hf.come 5 _ 34 _ rfl rfl h5
          refine .inl ⟨.slice (some ⟨wx.heap.size, 0, none⟩) 1 1, wx.alloc (.cells #[.int .u8 (48 + (d : Int))] 5), ?_, gr_more (digF_up _ _ _ _) hG ((Below.refl _ _).alloc (Nat.le_refl _) _) ⟨wx.heap.size, rfl, by rw [World.cell?_alloc_at _ _ _ _ rfl]; rfl⟩⟩
          have e34b := e34
          rw [Array.getD_eq_getD_getElem?] at e34b
          go_simp
        | 7, ho, hn, haft =>
          obtain rfl := Option.some.inj ho
          obtain ⟨v6, h6⟩ := Option.isSome_iff_exists.1 (haft ⟨6, .data⟩ (by simp) rfl)
          have e35 : ax.tmps.getD 35 undef = v6 := hf.come 6 _ 35 _ rfl rfl h6
          obtain ⟨g, rfl, hc⟩ := hG.2 6 v6 h6
          have hcv := HV.out wx g hc
          refine .inl ⟨.string B, wx, ?_, gr_pure hG rfl⟩
          go_simp
        | 8, ho, hn, haft =>
          obtain rfl := Option.some.inj ho
          obtain ⟨v2, h2⟩ := Option.isSome_iff_exists.1 (haft ⟨2, .data⟩ (by simp) rfl)
          obtain rfl : v2 = (.string A) := hG.2 2 v2 h2
          have e31 : ax.tmps.getD 31 undef = (.string A) := hf.come 2 _ 31 _ rfl rfl h2
          obtain ⟨v7, h7⟩ := Option.isSome_iff_exists.1 (haft ⟨7, .data⟩ (by simp) rfl)
          obtain rfl : v7 = (.string B) := hG.2 7 v7 h7
          have e36 : ax.tmps.getD 36 undef = (.string B) := hf.come 7 _ 36 _ rfl rfl h7
          refine .inl ⟨(.string (A ++ B)), wx, ?_, gr_pure hG rfl⟩
          go_simp; first | done | omega
        | 9, ho, hn, haft =>
          obtain rfl := Option.some.inj ho
          obtain ⟨v8, h8⟩ := Option.isSome_iff_exists.1 (haft ⟨8, .data⟩ (by simp) rfl)
          obtain rfl : v8 = (.string (A ++ B)) := hG.2 8 v8 h8
          have e37 : ax.tmps.getD 37 undef = (.string (A ++ B)) := hf.come 8 _ 37 _ rfl rfl h8
          refine .inl ⟨(.string (A ++ B)), wx, ?_, gr_pure hG rfl⟩
          go_simp
        | (i + 10), ho, hn, haft => cases ho
      case hend =>
        intro st wx ax hall hG hf
        obtain ⟨v9, h9⟩ := Option.isSome_iff_exists.1 (hall 9 (by decide))
        obtain rfl : v9 = .string (A ++ B) := hG.2 9 v9 h9
        have hb := Lib.hid hG.1
        obtain ⟨z, hz⟩ : ∃ z : Nat → Value, z = fun i => ax.tmps.getD i undef := ⟨_, rfl⟩
        have hax : ax = ⟨((List.range 38).map z).toArray, ax.defers⟩ := by rw [hz]; exact frame_list (hf.size.trans (by rfl))
        have hde : ax.defers = [] := hf.defers
        rw [hde] at hax
        have hax2 : ax = ⟨#[z 0, z 1, z 2, z 3, z 4, z 5, z 6, z 7, z 8, z 9, z 10, z 11, z 12, z 13, z 14, z 15, z 16, z 17, z 18, z 19, z 20, z 21, z 22, z 23, z 24, z 25, z 26, z 27, z 28, z 29, z 30, z 31, z 32, z 33, z 34, z 35, z 36, z 37], []⟩ := hax
        have z2 : z 2 = .string (A ++ B) := by rw [hz]; exact hf.come 9 _ 2 _ rfl rfl h9
        clear hz hax hde
        subst hax2
        rw [z2]
        clear hf hG hall z2 h9
        go_wp2_with fail
        go_ret
        exact ⟨ret_str HE.out, hb.out⟩
    · have hr2 : n.tmod 10 = (d : Int) := by rw [HR.out]; split <;> omega
      have hd0 : ¬ (d : Int) < 0 := by omega
      clear hp HR
      go_enter Tryd.func25, Tryd.ntmps25
      go_wp2_with fail
      refine wp_region_relyC (Gr w (digF n A B d)) (by kernel_rfl) (by kernel_rfl) ⟨(Below.refl _ _).drew, fun j v h => by cases h⟩ ?hstep ?hend
      case hstep =>
        intro st wx i o ax ho hn haft hG hf
        have f0 : ax.tmps.getD 0 undef = .int .i64 n := frame_stay hf (by kernel_rfl)
        have f3 : ax.tmps.getD 3 undef = .int .i64 (d : Int) := frame_stay hf (by kernel_rfl)
        match i, ho, hn, haft with
        | 0, ho, hn, haft =>
          obtain rfl := Option.some.inj ho
          refine .inl ⟨(.int .i64 n), wx, ?_, gr_pure hG rfl⟩
          go_simp
        | 1, ho, hn, haft =>
          obtain rfl := Option.some.inj ho
          obtain ⟨v0, h0⟩ := Option.isSome_iff_exists.1 (haft ⟨0, .data⟩ (by simp) rfl)
          obtain rfl : v0 = (.int .i64 n) := hG.2 0 v0 h0
          have e29 : ax.tmps.getD 29 undef = (.int .i64 n) := hf.come 0 _ 29 _ rfl rfl h0
          refine .inl ⟨(.int .i64 (n.tdiv 10)), wx, ?_, gr_pure hG rfl⟩
          go_simp; exact HQ.out
        | 2, ho, hn, haft =>
          obtain rfl := Option.some.inj ho
          obtain ⟨v1, h1⟩ := Option.isSome_iff_exists.1 (haft ⟨1, .data⟩ (by simp) rfl)
          obtain rfl : v1 = (.int .i64 (n.tdiv 10)) := hG.2 1 v1 h1
          have e30 : ax.tmps.getD 30 undef = (.int .i64 (n.tdiv 10)) := hf.come 1 _ 30 _ rfl rfl h1
          refine .inr (.inr ⟨25, #[.int .i64 (n.tdiv 10)], _, by go_simp, HC.out wx, ?_⟩)
          rintro e w1 ⟨rfl, hb1⟩
          exact ⟨_, rfl, gr_more (digF_up _ _ _ _) hG hb1 rfl⟩
        | 3, ho, hn, haft =>
          obtain rfl := Option.some.inj ho
          refine .inl ⟨(.int .i64 (d : Int)), wx, ?_, gr_pure hG rfl⟩
          go_simp
        | 4, ho, hn, haft =>
          obtain rfl := Option.some.inj ho
          obtain ⟨v3, h3⟩ := Option.isSome_iff_exists.1 (haft ⟨3, .data⟩ (by simp) rfl)
          obtain rfl : v3 = (.int .i64 (d : Int)) := hG.2 3 v3 h3
          have e32 : ax.tmps.getD 32 undef = (.int .i64 (d : Int)) := hf.come 3 _ 32 _ rfl rfl h3
          refine .inl ⟨(.int .i64 (48 + (d : Int))), wx, ?_, gr_pure hG rfl⟩
          go_simp; rw [IntWalk.i64_in _ (by omega)]
        | 5, ho, hn, haft =>
          obtain rfl := Option.some.inj ho
          obtain ⟨v4, h4⟩ := Option.isSome_iff_exists.1 (haft ⟨4, .data⟩ (by simp) rfl)
          obtain rfl : v4 = (.int .i64 (48 + (d : Int))) := hG.2 4 v4 h4
          have e33 : ax.tmps.getD 33 undef = (.int .i64 (48 + (d : Int))) := hf.come 4 _ 33 _ rfl rfl h4
          refine .inl ⟨(.int .u8 (48 + (d : Int))), wx, ?_, gr_pure hG rfl⟩
          go_simp; first | done | (simp [IntKind.wrap_u8]; omega)
        | 6, ho, hn, haft =>
          obtain rfl := Option.some.inj ho
          obtain ⟨v5, h5⟩ := Option.isSome_iff_exists.1 (haft ⟨5, .data⟩ (by simp) rfl)
          obtain rfl : v5 = (.int .u8 (48 + (d : Int))) := hG.2 5 v5 h5
          have e34 : ax.tmps.getD 34 undef = (.int .u8 (48 + (d : Int))) := hf.come 5 _ 34 _ rfl rfl h5
          refine .inl ⟨.slice (some ⟨wx.heap.size, 0, none⟩) 1 1, wx.alloc (.cells #[.int .u8 (48 + (d : Int))] 5), ?_, gr_more (digF_up _ _ _ _) hG ((Below.refl _ _).alloc (Nat.le_refl _) _) ⟨wx.heap.size, rfl, by rw [World.cell?_alloc_at _ _ _ _ rfl]; rfl⟩⟩
          have e34b := e34
          rw [Array.getD_eq_getD_getElem?] at e34b
          go_simp
        | 7, ho, hn, haft =>
          obtain rfl := Option.some.inj ho
          obtain ⟨v6, h6⟩ := Option.isSome_iff_exists.1 (haft ⟨6, .data⟩ (by simp) rfl)
          have e35 : ax.tmps.getD 35 undef = v6 := hf.come 6 _ 35 _ rfl rfl h6
          obtain ⟨g, rfl, hc⟩ := hG.2 6 v6 h6
          have hcv := HV.out wx g hc
          refine .inl ⟨.string B, wx, ?_, gr_pure hG rfl⟩
          go_simp
        | 8, ho, hn, haft =>
          obtain rfl := Option.some.inj ho
          obtain ⟨v2, h2⟩ := Option.isSome_iff_exists.1 (haft ⟨2, .data⟩ (by simp) rfl)
          obtain rfl : v2 = (.string A) := hG.2 2 v2 h2
          have e31 : ax.tmps.getD 31 undef = (.string A) := hf.come 2 _ 31 _ rfl rfl h2
          obtain ⟨v7, h7⟩ := Option.isSome_iff_exists.1 (haft ⟨7, .data⟩ (by simp) rfl)
          obtain rfl : v7 = (.string B) := hG.2 7 v7 h7
          have e36 : ax.tmps.getD 36 undef = (.string B) := hf.come 7 _ 36 _ rfl rfl h7
          refine .inl ⟨(.string (A ++ B)), wx, ?_, gr_pure hG rfl⟩
          go_simp; first | done | omega
        | 9, ho, hn, haft =>
          obtain rfl := Option.some.inj ho
          obtain ⟨v8, h8⟩ := Option.isSome_iff_exists.1 (haft ⟨8, .data⟩ (by simp) rfl)
          obtain rfl : v8 = (.string (A ++ B)) := hG.2 8 v8 h8
          have e37 : ax.tmps.getD 37 undef = (.string (A ++ B)) := hf.come 8 _ 37 _ rfl rfl h8
          refine .inl ⟨(.string (A ++ B)), wx, ?_, gr_pure hG rfl⟩
          go_simp
        | (i + 10), ho, hn, haft => cases ho
      case hend =>
        intro st wx ax hall hG hf
        obtain ⟨v9, h9⟩ := Option.isSome_iff_exists.1 (hall 9 (by decide))
        obtain rfl : v9 = .string (A ++ B) := hG.2 9 v9 h9
        have hb := Lib.hid hG.1
        obtain ⟨z, hz⟩ : ∃ z : Nat → Value, z = fun i => ax.tmps.getD i undef := ⟨_, rfl⟩
        have hax : ax = ⟨((List.range 38).map z).toArray, ax.defers⟩ := by rw [hz]; exact frame_list (hf.size.trans (by rfl))
        have hde : ax.defers = [] := hf.defers
        rw [hde] at hax
        have hax2 : ax = ⟨#[z 0, z 1, z 2, z 3, z 4, z 5, z 6, z 7, z 8, z 9, z 10, z 11, z 12, z 13, z 14, z 15, z 16, z 17, z 18, z 19, z 20, z 21, z 22, z 23, z 24, z 25, z 26, z 27, z 28, z 29, z 30, z 31, z 32, z 33, z 34, z 35, z 36, z 37], []⟩ := hax
        have z2 : z 2 = .string (A ++ B) := by rw [hz]; exact hf.come 9 _ 2 _ rfl rfl h9
        clear hz hax hde
        subst hax2
        rw [z2]
        clear hf hG hall z2 h9
        go_wp2_with fail
        go_ret
        exact ⟨ret_str HE.out, hb.out⟩
theorem digits_any : ∀ (k : Nat) (n : Int), n.natAbs ≤ k → -9223372036854775808 ≤ n → n ≤ 9223372036854775807 → ∀ w, Calls Tryd.prog 25 #[.int .i64 n] w fun e w' => e = .returned (.string ⟨(Lib.itoa n).toArray⟩) ∧ Below w.heap.size w w' := by
  intro k
  induction k with
  | zero => intro n hk _ _ w; exact digits_small n w ⟨by omega, by omega⟩
  | succ k ih =>
    intro n hk h0 h1 w
    by_cases h : -9 ≤ n ∧ n ≤ 9
    · exact digits_small n w h
    · have hlt := (Vl.itoa_step n h).2
      exact digits_great n h0 h1 h (ih _ (by omega) (by omega) (by omega)) (Nat.le_trans (Lib.itoa_length_le _ (by omega) (by omega)) (by decide)) w
end Go.Proofs.YtmpfnokddpbgcaaDoor

/-
  Layer 12: a text's text: in quotes, the program's and the document's.
-/
namespace Go.Proofs.YtmpfnokddpbgcaaDoor
open Go.RowKit
theorem bldf_34 (B b : Nat) (l : List UInt8) (w : World) (h : BldF w B b l) (hlen : l.length + 1 ≤ 140737488355328) (hBw : B ≤ w.heap.size) :
    Calls Tryd.prog 48 #[.pointer (some ⟨b, 0, none⟩), .int .u8 34] w fun e w' => e = .returned .nilIface ∧ BldF w' B b (l ++ [34]) ∧ Below B w w' ∧ KeptF b w w' := bldf_byte B b l 34 w h hlen hBw
theorem bldf_92 (B b : Nat) (l : List UInt8) (w : World) (h : BldF w B b l) (hlen : l.length + 1 ≤ 140737488355328) (hBw : B ≤ w.heap.size) :
    Calls Tryd.prog 48 #[.pointer (some ⟨b, 0, none⟩), .int .u8 92] w fun e w' => e = .returned .nilIface ∧ BldF w' B b (l ++ [92]) ∧ Below B w w' ∧ KeptF b w w' := bldf_byte B b l 92 w h hlen hBw
/-- what stands in quotes ahead of pos -/
def quoTo (s : ByteArray) (pos : Nat) : List UInt8 := 34 :: Vl.esc (s.data.toList.take pos)
theorem quoTo_len (s : ByteArray) (pos : Nat) (h : s.size ≤ 40) : (quoTo s pos).length ≤ 81 := by
  have h1 := Vl.esc_len (s.data.toList.take pos)
  have h2 : (s.data.toList.take pos).length ≤ 40 := by rw [List.length_take]; simp; omega
  unfold quoTo; rw [List.length_cons]; omega
theorem quoTo_step (s : ByteArray) (pos : Nat) (h : pos < s.size) : quoTo s (pos + 1) = quoTo s pos ++ (if s[pos] = 34 ∨ s[pos] = 92 then [92, s[pos]] else [s[pos]]) := by
  have hl : pos < s.data.toList.length := by simpa using h
  unfold quoTo
  rw [List.take_add_one, List.getElem?_eq_getElem hl, Vl.esc_append]
  show 34 :: (Vl.esc _ ++ Vl.esc [s[pos]]) = _
  rw [Vl.esc, Vl.esc]
  rw [List.cons_append]
theorem quoTo_end (s : ByteArray) (pos : Nat) (h : ¬ pos < s.size) : quoTo s pos ++ [34] = Vl.quoteL s.data.toList := by
  unfold quoTo Vl.quoteL
  rw [List.take_of_length_le (by simp; omega), List.cons_append]
/-- the loop's state: the builder N, the iterator G -/
structure QuoAt (s : ByteArray) (w : World) (G pos : Nat) (wr : World) : Prop where
  bld : BldF wr w.heap.size w.heap.size (quoTo s pos)
  iter : wr.heap[G]? = some (.stringIter s pos)
  below : Below w.heap.size w wr
theorem quoAt_next {s : ByteArray} {w wr : World} {G pos : Nat} (h : QuoAt s w G pos wr) (hG : w.heap.size < G) (pos' : Nat) : BldF (wr.iterAt G s pos') w.heap.size w.heap.size (quoTo s pos) ∧ (wr.iterAt G s pos').heap[G]? = some (.stringIter s pos') ∧ Below w.heap.size w (wr.iterAt G s pos') :=
  ⟨Lib.IsBuilderF.iterAt h.bld h.iter pos', Lib.iterAt_heap wr G s pos pos' h.iter, Lib.below_iterAt h.below (Nat.le_of_lt hG) s pos'⟩
set_option maxRecDepth 100000 in
set_option maxHeartbeats 3200000 in
theorem quoted_any (s : ByteArray) (hp : Vl.plain s) (w : World) :
    Calls Tryd.prog 57 #[.string s] w fun e w' => e = .returned (.string ⟨(Vl.quoteL s.data.toList).toArray⟩) ∧ Below w.heap.size w w' := by
  have h40 := hp.1
  have HP := Lib.hid hp
  clear hp
  have c0 := bldf_34 w.heap.size w.heap.size [] _ (bldf_fresh w) (by simp) (by simp)
  have b0 := Lib.hid ((Below.refl w.heap.size w).alloc (Nat.le_refl _) (.cells #[.pointer none, .slice none 0 0] 57))
  go_enter Tryd.func57, Tryd.ntmps57
  go_wp2_with fail
  refine c0.mono ?_
  rintro e w1 ⟨rfl, hbl, hb1, _⟩
  have h1 : w.heap.size < w1.heap.size := by have := hb1.size; rw [World.size_alloc] at this; omega
  have I1 : QuoAt s w w1.heap.size 0 (w1.iter s 0) := ⟨Lib.IsBuilderF.alloc hbl _, World.iter_heap w1 s 0, (b0.out.trans hb1).alloc (Nat.le_of_lt h1) _⟩
  have HI1 := Lib.hid I1
  clear hbl hb1 c0 I1
  generalize hG : w1.heap.size = G at *
  go_wp2_with fail
  go_loopw [5] (fun _ wr => ∃ (pos : Nat), pos ≤ s.size ∧ QuoAt s w G pos wr) (fun _ wr => s.size - wr.iterPos G)
  case atStart => exact ⟨0, Nat.zero_le _, by first | exact HI1.out | (rw [← hG] at *; exact HI1.out)⟩
  case round =>
    obtain ⟨pos, hle, hI⟩ := hrel
    have hit := iterPos_of hI.iter
    by_cases hps : pos < s.size
    · have hc := HP.out.2 s[pos] (by
        have hl : pos < s.data.toList.length := by simpa using hps
        exact (List.getElem_mem hl : s.data.toList[pos] ∈ s.data.toList))
      have hnx : ∀ ty, (Instr.next (.pointer (some ⟨G, 0, none⟩)) true ty).run Tryd.prog wr = _ := fun ty => Lib.run_next_ascii_at wr G s pos ty hI.iter hps (by omega)
      have hlen := quoTo_len s pos h40
      obtain ⟨q1, q2, q3⟩ := quoAt_next hI h1 (pos + 1)
      have hst := quoTo_step s pos hps
      have HQ := Lib.hid (And.intro q1 (And.intro q2 (And.intro q3 hst)))
      have hq3 := q3.size
      clear q1 q2 q3 hst hI
      generalize hwn : wr.iterAt G s (pos + 1) = wn at *
      obtain ⟨c, hcc⟩ : ∃ c, c = s[pos] := ⟨_, rfl⟩
      rw [← hcc] at hc hnx
      by_cases hq : (c.toNat : Int) = 34 ∨ (c.toNat : Int) = 92
      · have HS : Hid (quoTo s (pos + 1) = quoTo s pos ++ [92] ++ [c]) := Lib.hid (by
          rw [HQ.out.2.2.2, ← hcc, if_pos (hq.elim (fun h => .inl (UInt8.toNat_inj.1 (Int.ofNat_inj.1 h))) (fun h => .inr (UInt8.toNat_inj.1 (Int.ofNat_inj.1 h)))), List.append_assoc]; rfl)
        have t : ((c.toNat : Int) == 34) = true ∨ (((c.toNat : Int) == 34) = false ∧ ((c.toNat : Int) == 92) = true) := by
          rcases hq with h | h
          · exact .inl (by simp [h])
          · exact .inr ⟨by simp [h], by simp [h]⟩
        clear hcc hq
        rcases t with t | ⟨t, t'⟩
        · go_wp2_with fail
          refine (bldf_92 _ _ _ wn HQ.out.1 (by omega) hq3).mono ?_
          rintro e w3 ⟨rfl, hbl3, hb3, hk3⟩
          have hlen3 : (quoTo s pos ++ [92]).length ≤ 82 := by rw [List.length_append]; show _ + 1 ≤ 82; omega
          have hs3 := (HQ.out.2.2.1.trans hb3).size
          have H3 := Lib.hid (And.intro hbl3 (And.intro (hk3.iter HQ.out.2.1 (by omega)) (HQ.out.2.2.1.trans hb3)))
          clear hbl3 hb3 hk3
          go_wp2_with fail
          refine (bldf_rune _ _ _ c (by omega) w3 H3.out.1 (by omega) hs3).mono ?_
          rintro e w4 ⟨rfl, hbl, hb4, hk4⟩
          have I4 : QuoAt s w G (pos + 1) w4 := ⟨by rw [HS.out]; exact hbl, hk4.iter H3.out.2.1 (by omega), H3.out.2.2.trans hb4⟩
          have HI4 := Lib.hid I4
          clear hbl hb4 hk4 I4
          go_wp2_with fail
          go_roundw
          case rel => exact ⟨pos + 1, by omega, HI4.out⟩
          case measure => rw [iterPos_of HI4.out.iter, hit]; omega
        · go_wp2_with fail
          refine (bldf_92 _ _ _ wn HQ.out.1 (by omega) hq3).mono ?_
          rintro e w3 ⟨rfl, hbl3, hb3, hk3⟩
          have hlen3 : (quoTo s pos ++ [92]).length ≤ 82 := by rw [List.length_append]; show _ + 1 ≤ 82; omega
          have hs3 := (HQ.out.2.2.1.trans hb3).size
          have H3 := Lib.hid (And.intro hbl3 (And.intro (hk3.iter HQ.out.2.1 (by omega)) (HQ.out.2.2.1.trans hb3)))
          clear hbl3 hb3 hk3
          go_wp2_with fail
          refine (bldf_rune _ _ _ c (by omega) w3 H3.out.1 (by omega) hs3).mono ?_
          rintro e w4 ⟨rfl, hbl, hb4, hk4⟩
          have I4 : QuoAt s w G (pos + 1) w4 := ⟨by rw [HS.out]; exact hbl, hk4.iter H3.out.2.1 (by omega), H3.out.2.2.trans hb4⟩
          have HI4 := Lib.hid I4
          clear hbl hb4 hk4 I4
          go_wp2_with fail
          go_roundw
          case rel => exact ⟨pos + 1, by omega, HI4.out⟩
          case measure => rw [iterPos_of HI4.out.iter, hit]; omega
      · have HS : Hid (quoTo s (pos + 1) = quoTo s pos ++ [c]) := Lib.hid (by
          rw [HQ.out.2.2.2, ← hcc, if_neg (by rintro (h | h) <;> (apply hq; rw [h]; decide))])
        have t1 : ((c.toNat : Int) == 34) = false := by simp; omega
        have t2 : ((c.toNat : Int) == 92) = false := by simp; omega
        clear hcc hq
        go_wp2_with fail
        refine (bldf_rune _ _ _ c (by omega) wn HQ.out.1 (by omega) hq3).mono ?_
        rintro e w4 ⟨rfl, hbl, hb4, hk4⟩
        have I4 : QuoAt s w G (pos + 1) w4 := ⟨by rw [HS.out]; exact hbl, hk4.iter HQ.out.2.1 (by omega), HQ.out.2.2.1.trans hb4⟩
        have HI4 := Lib.hid I4
        clear hbl hb4 hk4 I4
        go_wp2_with fail
        go_roundw
        case rel => exact ⟨pos + 1, by omega, HI4.out⟩
        case measure => rw [iterPos_of HI4.out.iter, hit]; omega
    · have hnx : ∀ ty, (Instr.next (.pointer (some ⟨G, 0, none⟩)) true ty).run Tryd.prog wr = _ := fun ty => Lib.run_next_end_at wr G s pos ty hI.iter hps
      have hlen := quoTo_len s pos h40
      have HE := Lib.hid (quoTo_end s pos hps)
      have hsz := hI.below.size
      have HI := Lib.hid hI
      clear hI
      go_wp2_with fail
      refine (bldf_34 _ _ _ wr HI.out.bld (by omega) hsz).mono ?_
      rintro e w4 ⟨rfl, hbl, hb4, _⟩
      rw [HE.out] at hbl
      have HB := Lib.hid (And.intro hbl (HI.out.below.trans hb4))
      have hs4 := (HI.out.below.trans hb4).size
      clear hbl hb4
      go_wp2_with fail
      refine (bldf_string _ _ _ w4 HB.out.1 hs4).mono ?_
      rintro e w5 ⟨rfl, hb5⟩
      have H5 := Lib.hid (HB.out.2.trans hb5)
      clear hb5
      go_wp2_with fail
      go_ret
      exact ⟨rfl, H5.out⟩
/-- what stands in quotes ahead of pos, as a string -/
def quoB (s : ByteArray) (pos : Nat) : ByteArray := ⟨(quoTo s pos).toArray⟩
theorem quoB_size (s : ByteArray) (pos : Nat) (h : s.size ≤ 40) : (quoB s pos).size ≤ 81 := by
  show (quoTo s pos).toArray.size ≤ 81
  rw [List.size_toArray]; exact quoTo_len s pos h
theorem quoB_start (s : ByteArray) : quoB s 0 = ⟨#[34]⟩ := by simp [quoB, quoTo, Vl.esc]
theorem cut_one (s : ByteArray) (k : Nat) (h : k < s.size) : (s.extract k (k + 1)).data.toList = [s[k]] := by
  have hl : k < s.data.toList.length := by simpa using h
  rw [Sl.ext_list, show k + 1 - k = 1 by omega, Oct.drop_at _ _ hl]; rfl
theorem quoB_plain (s : ByteArray) (k : Nat) (h : k < s.size) (hq : ¬ (s[k] = 34 ∨ s[k] = 92)) : quoB s k ++ s.extract k (k + 1) = quoB s (k + 1) := by
  apply Sl.ba_ext
  rw [ByteArray.data_append, Array.toList_append, cut_one s k h]
  show quoTo s k ++ [s[k]] = quoTo s (k + 1)
  rw [quoTo_step s k h, if_neg hq]
theorem quoB_esc (s : ByteArray) (k : Nat) (h : k < s.size) (hq : s[k] = 34 ∨ s[k] = 92) : quoB s k ++ ⟨#[92]⟩ ++ s.extract k (k + 1) = quoB s (k + 1) := by
  apply Sl.ba_ext
  rw [ByteArray.data_append, ByteArray.data_append, Array.toList_append, Array.toList_append, cut_one s k h]
  show quoTo s k ++ [92] ++ [s[k]] = quoTo s (k + 1)
  rw [quoTo_step s k h, if_pos hq, List.append_assoc]; rfl
theorem quoB_end (s : ByteArray) (k : Nat) (h : ¬ k < s.size) : quoB s k ++ ⟨#[34]⟩ = ⟨(Vl.quoteL s.data.toList).toArray⟩ := by
  apply Sl.ba_ext
  rw [ByteArray.data_append, Array.toList_append]
  exact quoTo_end s k h
set_option maxRecDepth 100000 in
set_option maxHeartbeats 3200000 in
theorem rquote_any (s : ByteArray) (hp : Vl.plain s) (w : World) :
    Calls Tryd.prog 26 #[.string s] w fun e w' => e = .returned (.string ⟨(Vl.quoteL s.data.toList).toArray⟩) ∧ w' = w := by
  have h40 := hp.1
  clear hp
  go_enter Tryd.func26, Tryd.ntmps26
  go_wp2
  go_loop [3, 4] (fun o i => ∃ k : Nat, i = .int .i64 k ∧ k ≤ s.size ∧ ∃ B : ByteArray, o = .string B ∧ Hid (B = quoB s k)) (fun _ i => s.size - (intOf i).toNat)
  case atStart => exact ⟨0, rfl, Nat.zero_le _, _, rfl, Lib.hid (quoB_start s).symm⟩
  case round =>
    obtain ⟨k, rfl, hle, B, rfl, HB⟩ := hrel
    have hBs : B.size ≤ 81 := by rw [HB.out]; exact quoB_size s k h40
    by_cases hlt : k < s.size
    · obtain ⟨c, hcc⟩ : ∃ c, c = s[k] := ⟨_, rfl⟩
      have hxs : (s.extract k (k + 1)).size = 1 := by rw [ByteArray.size_extract]; omega
      have c256 : c.toNat < 256 := c.toNat_lt
      by_cases hq : (c.toNat : Int) = 34 ∨ (c.toNat : Int) = 92
      · have hq' : s[k] = 34 ∨ s[k] = 92 := by
          rw [← hcc]
          exact hq.elim (fun h => .inl (UInt8.toNat_inj.1 (Int.ofNat_inj.1 h))) (fun h => .inr (UInt8.toNat_inj.1 (Int.ofNat_inj.1 h)))
        have HS := Lib.hid (quoB_esc s k hlt hq')
        have t : (((s[k]).toNat : Int) == 34) = true ∨ ((((s[k]).toNat : Int) == 34) = false ∧ (((s[k]).toNat : Int) == 92) = true) := by
          rw [← hcc]
          rcases hq with h | h
          · exact .inl (by simp [h])
          · exact .inr ⟨by simp [h], by simp [h]⟩
        have h92 : (⟨#[92]⟩ : ByteArray).size = 1 := rfl
        have hBx : (B ++ (⟨#[92]⟩ : ByteArray)).size ≤ 82 := by rw [ByteArray.size_append]; omega
        clear hq hq' hcc c256
        rcases t with t | ⟨t, t'⟩
        · go_wp2_with fail
          go_round
          case rel => exact ⟨k + 1, by go_num, by omega, _, rfl, Lib.hid (by rw [HB.out]; exact HS.out)⟩
          case measure => simp [intOf]; omega
        · go_wp2_with fail
          go_round
          case rel => exact ⟨k + 1, by go_num, by omega, _, rfl, Lib.hid (by rw [HB.out]; exact HS.out)⟩
          case measure => simp [intOf]; omega
      · have hq' : ¬ (s[k] = 34 ∨ s[k] = 92) := by
          rw [← hcc]
          rintro (h | h) <;> (apply hq; rw [h]; decide)
        have HS := Lib.hid (quoB_plain s k hlt hq')
        have t1 : (((s[k]).toNat : Int) == 34) = false := by rw [← hcc]; simp; omega
        have t2 : (((s[k]).toNat : Int) == 92) = false := by rw [← hcc]; simp; omega
        clear hq hq' hcc c256
        go_wp2_with fail
        go_round
        case rel => exact ⟨k + 1, by go_num, by omega, _, rfl, Lib.hid (by rw [HB.out]; exact HS.out)⟩
        case measure => simp [intOf]; omega
    · have HE := Lib.hid (quoB_end s k hlt)
      have h34 : (⟨#[34]⟩ : ByteArray).size = 1 := rfl
      go_wp2_with fail
      go_ret
      exact ⟨ret_str (by rw [HB.out]; exact HE.out), rfl⟩
end Go.Proofs.YtmpfnokddpbgcaaDoor

/-
  strings.Compare, cmp.Compare of integers, strconv.FormatBool: what they answer.
-/
namespace Go.Proofs.YtmpfnokddpbgcaaDoor
open Go.RowKit
set_option maxRecDepth 100000 in
theorem formatBool_any (b : Bool) (w : World) : Calls Tryd.prog 58 #[.bool b] w fun e w' => e = .returned (.string (if b then ⟨#[116, 114, 117, 101]⟩ else ⟨#[102, 97, 108, 115, 101]⟩)) ∧ w' = w := by
  have c1 : ∀ w, Calls Tryd.prog 67 #[.bool b] w fun e w' => e = .returned (.string (if b then ⟨#[116, 114, 117, 101]⟩ else ⟨#[102, 97, 108, 115, 101]⟩)) ∧ w' = w := by
    intro w
    cases b
    · go_enter Tryd.func67, Tryd.ntmps67
      go_wp2_with fail
      go_ret
      exact ⟨rfl, rfl⟩
    · go_enter Tryd.func67, Tryd.ntmps67
      go_wp2_with fail
      go_ret
      exact ⟨rfl, rfl⟩
  generalize (if b = true then (⟨#[116, 114, 117, 101]⟩ : ByteArray) else ⟨#[102, 97, 108, 115, 101]⟩) = A at *
  have HC := Lib.hid c1; clear c1
  go_enter Tryd.func58, Tryd.ntmps58
  go_wp2_with (go_at_call 67; refine (HC.out _).mono ?_; rintro e w1 ⟨rfl, rfl⟩)
  go_ret
  exact ⟨rfl, rfl⟩
end Go.Proofs.YtmpfnokddpbgcaaDoor

/-
  strconv.Itoa: the library's contract at this program's own numbers (every int; it reads the table of powers of ten).
-/
namespace Go.Proofs
open Go.Shelf
def Tryd.ita_ren : Go.Shelf.Ren := ⟨fun | 129 => 87 | 171 => 56 | 243 => 65 | 246 => 74 | 283 => 79 | 284 => 80 | 285 => 81 | 286 => 82 | 317 => 86 | 318 => 88 | 319 => 89 | 320 => 90 | 337 => 91 | 338 => 92 | n => n, fun | 0 => 0 | 2 => 2 | 3 => 3 | 4 => 4 | 5 => 5 | 9 => 9 | 20 => 20 | 37 => 55 | 46 => 93 | 51 => 102 | 53 => 90 | 171 => 97 | 173 => 100 | 212 => 109 | 213 => 110 | 232 => 114 | 233 => 115 | n => n, fun | 17 => 3 | 18 => 4 | 19 => 5 | n => n⟩
theorem Tryd.ita171 : Go.Proofs.LaysM.n171 Tryd.prog Tryd.ita_ren := {
  mixed := by kernel_rfl
  f129 := Tryd.func87.trans (congrArg some (by kernel_rfl))
  f171 := Tryd.func56.trans (congrArg some (by kernel_rfl))
  f243 := Tryd.func65.trans (congrArg some (by kernel_rfl))
  f246 := Tryd.func74.trans (congrArg some (by kernel_rfl))
  f283 := Tryd.func79.trans (congrArg some (by kernel_rfl))
  f284 := Tryd.func80.trans (congrArg some (by kernel_rfl))
  f285 := Tryd.func81.trans (congrArg some (by kernel_rfl))
  f286 := Tryd.func82.trans (congrArg some (by kernel_rfl))
  f317 := Tryd.func86.trans (congrArg some (by kernel_rfl))
  f318 := Tryd.func88.trans (congrArg some (by kernel_rfl))
  f319 := Tryd.func89.trans (congrArg some (by kernel_rfl))
  f320 := Tryd.func90.trans (congrArg some (by kernel_rfl))
  f337 := Tryd.func91.trans (congrArg some (by kernel_rfl))
  f338 := Tryd.func92.trans (congrArg some (by kernel_rfl))
  t0 := Tryd.underlying0
  a0 := Tryd.isAgg0
  z0 := Tryd.sizeOf0
  v0 := Tryd.zeroValue0
  t2 := Tryd.underlying2
  a2 := Tryd.isAgg2
  z2 := Tryd.sizeOf2
  v2 := Tryd.zeroValue2
  t3 := Tryd.underlying3
  a3 := Tryd.isAgg3
  z3 := Tryd.sizeOf3
  v3 := Tryd.zeroValue3
  t4 := Tryd.underlying4
  a4 := Tryd.isAgg4
  z4 := Tryd.sizeOf4
  v4 := Tryd.zeroValue4
  t5 := Tryd.underlying5
  a5 := Tryd.isAgg5
  z5 := Tryd.sizeOf5
  v5 := Tryd.zeroValue5
  t9 := Tryd.underlying9
  a9 := Tryd.isAgg9
  z9 := Tryd.sizeOf9
  v9 := Tryd.zeroValue9
  t20 := Tryd.underlying20
  a20 := Tryd.isAgg20
  z20 := Tryd.sizeOf20
  v20 := Tryd.zeroValue20
  t37 := Tryd.underlying55
  a37 := Tryd.isAgg55
  z37 := Tryd.sizeOf55
  v37 := Tryd.zeroValue55
  t46 := Tryd.underlying93
  a46 := Tryd.isAgg93
  z46 := Tryd.sizeOf93
  v46 := Tryd.zeroValue93
  t51 := Tryd.underlying102
  a51 := Tryd.isAgg102
  z51 := Tryd.sizeOf102
  v51 := Tryd.zeroValue102
  t53 := Tryd.underlying90
  a53 := Tryd.isAgg90
  z53 := Tryd.sizeOf90
  v53 := Tryd.zeroValue90
  t171 := Tryd.underlying97
  a171 := Tryd.isAgg97
  z171 := Tryd.sizeOf97
  v171 := Tryd.zeroValue97
  t173 := Tryd.underlying100
  a173 := Tryd.isAgg100
  z173 := Tryd.sizeOf100
  v173 := Tryd.zeroValue100
  t212 := Tryd.underlying109
  a212 := Tryd.isAgg109
  z212 := Tryd.sizeOf109
  v212 := Tryd.zeroValue109
  t213 := Tryd.underlying110
  a213 := Tryd.isAgg110
  z213 := Tryd.sizeOf110
  t232 := Tryd.underlying114
  a232 := Tryd.isAgg114
  z232 := Tryd.sizeOf114
  v232 := Tryd.zeroValue114
  t233 := Tryd.underlying115
  a233 := Tryd.isAgg115
  z233 := Tryd.sizeOf115
  v233 := Tryd.zeroValue115
  g17 := by kernel_rfl
  g18 := by kernel_rfl
  g19 := by kernel_rfl
  i0 := by kernel_rfl
  i2 := by kernel_rfl
  i3 := by kernel_rfl
  i4 := by kernel_rfl
  i5 := by kernel_rfl
  i9 := by kernel_rfl
  i20 := by kernel_rfl
  i37 := by kernel_rfl
  i46 := by kernel_rfl
  i51 := by kernel_rfl
  i53 := by kernel_rfl
  i171 := by kernel_rfl
  i173 := by kernel_rfl
  i212 := by kernel_rfl
  i232 := by kernel_rfl
  i233 := by kernel_rfl
  m17 := by kernel_rfl
  m18 := by kernel_rfl
  m19 := by kernel_rfl }
namespace YtmpfnokddpbgcaaDoor
open Go.RowKit
/-- the table of powers of ten reads as its initialiser lays it -/
abbrev Pow10 (w : World) : Prop := Lib.TabIs Tryd.prog w "internal/strconv.uint64pow10" .u64 Lib.pow10Tab
/-- it lies below -/
theorem pow10_below {w w' : World} (h : Pow10 w) (hb : Below w.heap.size w w') : Pow10 w' := by
  unfold Pow10 Lib.TabIs World.var? at *
  cases hg : Tryd.prog.globalNamed "internal/strconv.uint64pow10" with
  | none => simp [hg] at h
  | some g =>
    simp only [hg, Option.bind_some] at h ⊢
    have hlt : g < w.heap.size := by
      rcases Nat.lt_or_ge g w.heap.size with h' | h'
      · exact h'
      · rw [Array.getElem?_eq_none h'] at h; simp at h
    rw [hb.block g hlt]
    exact h
theorem itoa_any (n : Int) (h0 : -9223372036854775808 ≤ n) (h1 : n ≤ 9223372036854775807) (w : World) (htab : Pow10 w) :
    Calls Tryd.prog 56 #[.int .i64 n] w fun e w' => e = .returned (.string ⟨(Lib.itoa n).toArray⟩) ∧ Below w.heap.size w w' :=
  (Any.strconv_Itoa Tryd.ita171 n h0 h1 w htab).mono fun _ _ ⟨h, k, os, h2⟩ => ⟨h, by
    subst h2
    refine ⟨rfl, rfl, rfl, by rw [Sort.size_grow]; exact Nat.le_add_right _ _, fun j hj => ?_⟩
    exact Sort.heap_grow_old (w.drewN k) os hj⟩
end YtmpfnokddpbgcaaDoor
end Go.Proofs
