/-
  A region that draws its order: first operations that only read (under a condition S on the world), then some that write and keep S, then last ones that need not keep it; the second and third in one forced order. One walk, in the order of the text.
-/
import Derived.Test.YtlhhecomjhfhjaaBase
import Derived.StillTail
import Derived.OrdersHeld
import Derived.Laws.Tables
namespace Go.Proofs.Ytlhhecomjhfhjaa
open Go.RowKit

section
variable {P : Program} {ops : Array Oper} {md : Region.Mode} {S : World → Prop} {Q : Exit → Act → World → Prop}
/-- operations that only read, one by one -/
def wpYield (P : Program) (ops : Array Oper) (S : World → Prop) (R : Act → Prop) : List Oper → Act → Prop
  | [], a => R a
  | o :: rest, a => ∃ v, YieldsIf P ops S o v a ∧ wpYield P ops S R rest (a.put o.dst v)
/-- operations that keep S, one by one -/
def wpKeep (P : Program) (ops : Array Oper) (S : World → Prop) (Q : Exit → Act → World → Prop) (R : Act → World → Prop) (i : Nat) : Nat → Act → World → Prop
  | 0, a, w => R a w
  | f + 1, a, w => wpOp P ops Q i (fun a' w' => S w' ∧ wpKeep P ops S Q R (i + 1) f a' w') a w
/-- whatever order is picked among the first n, S kept -/
def HeadH (P : Program) (md : Region.Mode) (ops : Array Oper) (S : World → Prop) (Q : Exit → Act → World → Prop) (n : Nat) (L : Array Bool → Act → World → Prop) : Nat → Array Bool → Act → World → Prop
  | 0, listed, a, w => L listed a w
  | f + 1, listed, a, w => Region.ready md ops listed ≠ [] ∧ ∀ i ∈ Region.ready md ops listed, i < n ∧ wpOp P ops Q i (fun a' w' => S w' ∧ HeadH P md ops S Q n L f (listed.setIfInBounds i true) a' w') a w
theorem headH_any {n g : Nat} {L : Array Bool → Act → World → Prop} (hL : ∀ listed a w, L listed a w → wpAny P md ops Q g listed a w) :
    ∀ (f : Nat) (listed : Array Bool) (a : Act) (w : World), HeadH P md ops S Q n L f listed a w → wpAny P md ops Q (f + g) listed a w := by
  intro f
  induction f with
  | zero => intro listed a w h; rw [Nat.zero_add]; exact hL _ _ _ h
  | succ f ih =>
    intro listed a w h
    rw [show f + 1 + g = (f + g) + 1 by omega]
    exact ⟨fun h0 => absurd h0 h.1, fun i hi => wpOp_mono (fun a' w' k => ih _ a' w' k.2) (h.2 i hi).2⟩
theorem headH_first {n i : Nat} {oi : Oper} {v : Value} {L : Array Bool → Act → World → Prop} (hi : ops[i]? = some oi) (hsel : ∀ (j : Nat) (o : Oper) cs b, ops[j]? = some o → o.op ≠ .select cs b)
    (hQ : ∀ c a w, Q (.panic c) (a.put oi.dst v) w → Q (.panic c) a w)
    (hs : Region.sinkB md ops n = true) (hc : Region.chainB md ops n = true) (hn : n < ops.size) (hin : i < n) (hdone : ∀ listed a w, L listed a w → ∀ j ∈ Region.ready md ops listed, n ≤ j) :
    ∀ (f : Nat) (listed : Array Bool) (a : Act) (w : World), HeadInv md ops n listed →
      (∀ j oj, ops[j]? = some oj → j ≠ i → listed.getD j true = false → (∀ e ∈ oj.after, Region.binds md e = true → e.on ≠ i) → oi.apart ops oj = true) →
      i ∈ Region.ready md ops listed → YieldsIf P ops S oi v a → S w → HeadH P md ops S Q n L f (listed.setIfInBounds i true) (a.put oi.dst v) w → HeadH P md ops S Q n L (f + 1) listed a w := by
  intro f
  induction f with
  | zero =>
    intro listed a w inv _ hr hy hS H
    have hun := (mem_ready.1 hr).1
    refine ⟨fun h => (by rw [h] at hr; cases hr), fun j hj => ?_⟩
    have hjn : j < n := Nat.lt_of_not_le fun h => absurd hj (tail_waits hs hc hn inv _ i rfl hin hun j h)
    refine ⟨hjn, ?_⟩
    by_cases hji : j = i
    · subst hji; exact hy.wpOp hi hS ⟨hS, H⟩
    · have := hdone _ _ _ H j (ready_mono hj hji)
      omega
  | succ f ih =>
    intro listed a w inv hfree hr hy hS H
    have hun := (mem_ready.1 hr).1
    refine ⟨fun h => (by rw [h] at hr; cases hr), fun j hj => ?_⟩
    have hjn : j < n := Nat.lt_of_not_le fun h => absurd hj (tail_waits hs hc hn inv _ i rfl hin hun j h)
    refine ⟨hjn, ?_⟩
    by_cases hji : j = i
    · subst hji; exact hy.wpOp hi hS ⟨hS, H⟩
    · have h1 := (H.2 j (ready_mono hj hji)).2
      obtain ⟨hjun, oj, hoj, hall⟩ := mem_ready.1 hj
      have hnot : ∀ e ∈ oj.after, Region.binds md e = true → e.on ≠ i := fun e he hb heq => by
        have h2 := hall e he hb
        rw [heq, getD_both hun] at h2
        cases h2
      have h2 := wpOp_putIf hoj (hfree j oj hoj hji hjun hnot) (fun cs b => hsel i oi cs b hi) (fun cs b => hsel j oj cs b hoj) hQ hy h1
      refine wpOp_mono (fun a' w' h3 => ⟨h3.2.1, ih (listed.setIfInBounds j true) a' w' (inv.set hj hjn) (fun k ok hk hki hunk hno => hfree k ok hk hki ?_ hno) (ready_mono hr (Ne.symm hji)) h3.1 h3.2.1 ?_⟩) h2
      · by_cases hjk : j = k
        · subst hjk; exact hjun
        · rw [getD_set_ne true hjk] at hunk; exact hunk
      · rw [Array.setIfInBounds_comm _ _ hji]
        exact h3.2.2
/-- those that keep S, in their forced order -/
theorem headH_seq {n : Nat} {R : Act → World → Prop} : ∀ (f k : Nat) (g : Nat) (listed : Array Bool) (a : Act) (w : World), k + f = n → Region.seqB md ops (f + g) k listed = true → wpKeep P ops S Q R k f a w →
    HeadH P md ops S Q n (fun listed' a' w' => Region.seqB md ops g n listed' = true ∧ R a' w') f listed a w := by
  intro f
  induction f with
  | zero => intro k g listed a w hk hB h; obtain rfl : k = n := by omega
            exact ⟨by simpa using hB, h⟩
  | succ f ih =>
    intro k g listed a w hk hB h
    rw [show f + 1 + g = (f + g) + 1 by omega] at hB
    simp only [Region.seqB, Bool.and_eq_true, decide_eq_true_eq] at hB
    refine ⟨fun h0 => (by rw [hB.1] at h0; cases h0), fun i hi => ?_⟩
    rw [hB.1] at hi
    obtain rfl : i = k := by simpa using hi
    exact ⟨by omega, wpOp_mono (fun a' w' h3 => ⟨h3.1, ih (i + 1) g _ a' w' (by omega) hB.2 h3.2⟩) h⟩
theorem headH_lex {n g : Nat} {R : Act → World → Prop} {w : World} (hsel : Region.noSelect ops = true) (hQ : ∀ c (d : Option Tmp) v a w, Q (.panic c) (a.put d v) w → Q (.panic c) a w) (hs : Region.sinkB md ops n = true) (hc : Region.chainB md ops n = true) (hn : n < ops.size) (hS : S w) :
    ∀ (l : List Oper) (k f : Nat) (listed : Array Bool) (a : Act), (∀ j, j < l.length → l[j]? = ops[k + j]?) → k + l.length + f = n → HeadInv md ops n listed →
    Region.lexHead md ops (f + g) l.length k listed = true → wpYield P ops S (fun a' => wpKeep P ops S Q R (k + l.length) f a' w) l a →
    HeadH P md ops S Q n (fun listed' a' w' => Region.seqB md ops g n listed' = true ∧ R a' w') (l.length + f) listed a w := by
  intro l
  induction l with
  | nil =>
    intro k f listed a _ hk _ hB h
    rw [List.length_nil, Nat.zero_add]
    exact headH_seq f k g listed a w (by simpa using hk) (by simpa [Region.lexHead] using hB) (by simpa [wpYield] using h)
  | cons o l ih =>
    intro k f listed a hl hk inv hB h
    have h0 : ops[k]? = some o := by simpa using (hl 0 (by simp)).symm
    simp only [List.length_cons, Region.lexHead, Bool.and_eq_true] at hB
    obtain ⟨⟨hr, hf⟩, hB'⟩ := hB
    have hkn : k < n := by simp only [List.length_cons] at hk; omega
    have hr' : k ∈ Region.ready md ops listed := by simpa using hr
    obtain ⟨v, hy, hK⟩ := h
    rw [List.length_cons, show l.length + 1 + f = (l.length + f) + 1 by omega]
    refine headH_first h0 (Region.noSelect_spec hsel) (fun c a w => hQ c o.dst v a w) hs hc hn hkn (fun listed' a' w' hL => seqB_ready hL.1) (l.length + f) listed a w inv (Region.free_spec h0 hf) hr' hy hS
      (ih (k + 1) f _ _ (fun j hj => by have := hl (j + 1) (by simp; omega); simpa [Nat.add_assoc, Nat.add_comm 1 j] using this) (by simp only [List.length_cons] at hk; omega) (inv.set hr' hkn) hB' ?_)
    rw [List.length_cons, show k + (l.length + 1) = k + 1 + l.length by omega] at hK
    exact hK
/-- the law: m that only read, n - m that keep S, the rest -/
theorem wp_region_held_tail {id : Nat} {a : Act} {w : World} {l : List Oper} (m n : Nat) (hmn : m ≤ n) (hm : P.follows .mixedOrders = true) (hQ : ∀ c (d : Option Tmp) v a w, Q (.panic c) (a.put d v) w → Q (.panic c) a w)
    (hB : (Region.noSelect l.toArray && decide (n < l.toArray.size) && Region.sinkB .any l.toArray n && Region.chainB .any l.toArray n && Region.lexHead .any l.toArray (n - m + (l.toArray.size - n)) m 0 (Array.replicate l.toArray.size false)) = true) (hS : S w.drew)
    (h : wpYield P l.toArray S (fun a' => wpKeep P l.toArray S Q (fun a'' w'' => wpList P l.toArray Q (l.drop n) a'' w'') m (n - m) a' w.drew) (l.take m) a) : (Code.region id l.toArray true).wp P Q a w := by
  simp only [Bool.and_eq_true, decide_eq_true_eq] at hB
  obtain ⟨⟨⟨⟨hsel, hn⟩, hs⟩, hc⟩, hlex⟩ := hB
  have hn' : n < l.length := by simpa using hn
  have htl : (l.take m).length = m := by simp; omega
  have hdl : (l.drop n).length = l.toArray.size - n := by simp
  have inv0 : HeadInv .any l.toArray n (Array.replicate l.toArray.size false) :=
    ⟨by simp, fun j oj _ hl => (by rw [getD_replicate_false] at hl; cases hl), fun t _ ht => getD_in (by simpa using ht) (getD_replicate_false _ _)⟩
  have H := headH_lex (md := .any) (g := l.toArray.size - n) hsel hQ hs hc hn hS (l.take m) 0 (n - m) _ a (fun j hj => by
    have hj' : j < m := by rw [htl] at hj; exact hj
    simp [hj']) (by rw [htl]; omega) inv0 (by rw [htl]; exact hlex) (by rw [htl, Nat.zero_add]; exact h)
  refine wp_region_any hm ?_
  have := headH_any (g := l.toArray.size - n) (fun listed a' w' hL => by
    have := wpAny_of_seq (md := .any) (Q' := Q) (l.drop n) n listed a' w' (fun j => by simp [List.getElem?_drop]) (by rw [hdl]; exact hL.1) hL.2
    rwa [hdl] at this) _ _ _ _ H
  rw [htl, show m + (n - m) + (l.toArray.size - n) = l.toArray.size by omega] at this
  exact this
/-- one step that only reads; its value is found by the walk -/
theorem wpYield_step {R : Act → Prop} {o : Oper} {rest : List Oper} {a : Act} (h : ∃ v, (Region.wanted o (yielded ops a.tmps) = true ∧ ∀ w, S w → (execOp a.eval o).run P w = .ok (.value v) w) ∧ wpYield P ops S R rest (a.put o.dst v)) : wpYield P ops S R (o :: rest) a := by
  obtain ⟨v, h1, h2⟩ := h
  exact ⟨v, .inl h1, h2⟩
theorem wpYield_load {R : Act → Prop} {o : Oper} {rest : List Oper} {a : Act} (hgd : o.guard = none) (ty : TypeId) (x : Operand) (ho : o.op = .load ty x) (b off : Nat) (hx : a.eval x = .pointer (some ⟨b, off, none⟩)) (cs : Array Value)
    (hc : ∀ w, S w → (loadVar ty ⟨b, off, none⟩).run P w = .ok (.agg cs) w) (h : wpYield P ops S R rest (a.put o.dst (.agg cs))) : wpYield P ops S R (o :: rest) a := by
  refine ⟨_, .inl ⟨by simp [Region.wanted, hgd], fun w hw => ?_⟩, h⟩
  unfold execOp
  simp only [ho, hx, Instr.loadAt, Instr.sureAddr, Sem.run_bind, Sem.run_pure, Result.andThen_ok, hc w hw]
theorem wpYield_build {R : Act → Prop} {o : Oper} {rest : List Oper} {a : Act} (hgd : o.guard = none) (t : TypeId) (parts : Array (Nat × Operand)) (ho : o.op = .build t parts) (cells : Array Value) (vs : List (Nat × Value)) (hv : (parts.map fun (i, x) => (i, a.eval x)).toList = vs) (hb : P.built t vs = some cells)
    (h : wpYield P ops S R rest (a.put o.dst (.agg cells))) : wpYield P ops S R (o :: rest) a := by
  refine ⟨_, .inl ⟨by simp [Region.wanted, hgd], fun w _ => ?_⟩, h⟩
  subst hv
  unfold execOp
  simp only [ho, Sem.run_bind, run_build w t _ cells hb, Result.andThen_ok, Sem.run_pure]
/-- one step that keeps S -/
theorem wpKeep_step {R : Act → World → Prop} {i f : Nat} {o : Oper} {a : Act} {w : World} (hi : ops[i]? = some o) (hgd : o.guard = none)
    (h : ∀ K : Act → World → Prop, (∀ a' w', S w' → wpKeep P ops S Q R (i + 1) f a' w' → K a' w') → Oper.wp P o a w K Q) : wpKeep P ops S Q R i (f + 1) a w := by
  show wpOp P ops Q i _ a w
  unfold wpOp
  simp only [hi]
  rw [if_pos (by simp [Region.wanted, hgd])]
  exact .inl (h _ fun a' w' h1 h2 => ⟨h1, h2⟩)
end
end Go.Proofs.Ytlhhecomjhfhjaa
