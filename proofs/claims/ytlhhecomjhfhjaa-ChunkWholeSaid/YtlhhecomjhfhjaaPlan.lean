/-
  A region that draws its order, walked in a planned one: operations that only read (under a condition S on the world), each as soon as it is ready; operations that write or call and keep S, each where nothing else is ready; then the last ones in their forced order. One walk.
-/
import Derived.Test.YtlhhecomjhfhjaaHTail
namespace Go.Proofs.Ytlhhecomjhfhjaa
open Go.RowKit
section
variable {P : Program} {ops : Array Oper} {md : Region.Mode} {S : World → Prop} {Q : Exit → Act → World → Prop}
/-- the plan: (true, i): operation i only reads; (false, i): it may write, and keeps S -/
def wpPlan (P : Program) (ops : Array Oper) (S : World → Prop) (Q : Exit → Act → World → Prop) (R : Act → World → Prop) : List (Bool × Nat) → Act → World → Prop
  | [], a, w => R a w
  | (true, i) :: r, a, w => ∃ o v, ops[i]? = some o ∧ YieldsIf P ops S o v a ∧ wpPlan P ops S Q R r (a.put o.dst v) w
  | (false, i) :: r, a, w => wpOp P ops Q i (fun a' w' => S w' ∧ wpPlan P ops S Q R r a' w') a w
def planB (md : Region.Mode) (ops : Array Oper) (g n : Nat) : List (Bool × Nat) → Array Bool → Bool
  | [], listed => Region.seqB md ops g n listed
  | (true, i) :: r, listed => decide (i < n) && (Region.ready md ops listed).contains i && Region.free md ops listed i && planB md ops g n r (listed.setIfInBounds i true)
  | (false, i) :: r, listed => decide (i < n) && decide (Region.ready md ops listed = [i]) && planB md ops g n r (listed.setIfInBounds i true)
theorem headH_plan {n g : Nat} {R : Act → World → Prop} (hsel : Region.noSelect ops = true) (hQ : ∀ c (d : Option Tmp) v a w, Q (.panic c) (a.put d v) w → Q (.panic c) a w) (hs : Region.sinkB md ops n = true) (hc : Region.chainB md ops n = true) (hn : n < ops.size) :
    ∀ (pl : List (Bool × Nat)) (listed : Array Bool) (a : Act) (w : World), HeadInv md ops n listed → planB md ops g n pl listed = true → S w → wpPlan P ops S Q R pl a w →
    HeadH P md ops S Q n (fun listed' a' w' => Region.seqB md ops g n listed' = true ∧ R a' w') pl.length listed a w
  | [], listed, a, w, _, hB, _, h => ⟨hB, h⟩
  | (true, i) :: r, listed, a, w, inv, hB, hS, h => by
    simp only [planB, Bool.and_eq_true, decide_eq_true_eq] at hB
    obtain ⟨⟨⟨hin, hr⟩, hf⟩, hB'⟩ := hB
    have hr' : i ∈ Region.ready md ops listed := by simpa using hr
    obtain ⟨o, v, h0, hy, hK⟩ := h
    rw [List.length_cons]
    exact headH_first h0 (Region.noSelect_spec hsel) (fun c a w => hQ c o.dst v a w) hs hc hn hin (fun listed' a' w' hL => seqB_ready hL.1) r.length listed a w inv (Region.free_spec h0 hf) hr' hy hS
      (headH_plan hsel hQ hs hc hn r _ _ w (inv.set hr' hin) hB' hS hK)
  | (false, i) :: r, listed, a, w, inv, hB, hS, h => by
    simp only [planB, Bool.and_eq_true, decide_eq_true_eq] at hB
    obtain ⟨⟨hin, hr⟩, hB'⟩ := hB
    have hr' : i ∈ Region.ready md ops listed := by rw [hr]; simp
    rw [List.length_cons]
    refine ⟨fun h0 => (by rw [h0] at hr; cases hr), fun j hj => ?_⟩
    rw [hr] at hj
    obtain rfl : j = i := by simpa using hj
    exact ⟨hin, wpOp_mono (fun a' w' h3 => ⟨h3.1, headH_plan hsel hQ hs hc hn r _ _ _ (inv.set hr' hin) hB' h3.1 h3.2⟩) h⟩
theorem wp_region_plan {id : Nat} {a : Act} {w : World} {l : List Oper} (n : Nat) (pl : List (Bool × Nat)) (hm : P.follows .mixedOrders = true) (hQ : ∀ c (d : Option Tmp) v a w, Q (.panic c) (a.put d v) w → Q (.panic c) a w)
    (hB : (Region.noSelect l.toArray && decide (n < l.toArray.size) && decide (pl.length = n) && Region.sinkB .any l.toArray n && Region.chainB .any l.toArray n && planB .any l.toArray (l.toArray.size - n) n pl (Array.replicate l.toArray.size false)) = true) (hS : S w.drew)
    (h : wpPlan P l.toArray S Q (fun a'' w'' => wpList P l.toArray Q (l.drop n) a'' w'') pl a w.drew) : (Code.region id l.toArray true).wp P Q a w := by
  simp only [Bool.and_eq_true, decide_eq_true_eq] at hB
  obtain ⟨⟨⟨⟨⟨hsel, hn⟩, hpl⟩, hs⟩, hc⟩, hplan⟩ := hB
  have hn' : n < l.length := by simpa using hn
  have hdl : (l.drop n).length = l.toArray.size - n := by simp
  have inv0 : HeadInv .any l.toArray n (Array.replicate l.toArray.size false) :=
    ⟨by simp, fun j oj _ hl => (by rw [getD_replicate_false] at hl; cases hl), fun t _ ht => getD_in (by simpa using ht) (getD_replicate_false _ _)⟩
  have H := headH_plan (md := .any) (g := l.toArray.size - n) hsel hQ hs hc hn pl _ a w.drew inv0 hplan hS h
  refine wp_region_any hm ?_
  have := headH_any (g := l.toArray.size - n) (fun listed' a' w' hL => by
    have := wpAny_of_seq (md := .any) (Q' := Q) (l.drop n) n listed' a' w' (fun j => by simp [List.getElem?_drop]) (by rw [hdl]; exact hL.1) hL.2
    rwa [hdl] at this) _ _ _ _ H
  rw [hpl, show n + (l.toArray.size - n) = l.toArray.size by omega] at this
  exact this
section
variable {l : List Oper}
/-- a step that only reads; its value is found by the walk -/
theorem wpPlan_step {R : Act → World → Prop} {i : Nat} {r : List (Bool × Nat)} {o : Oper} {a : Act} {w : World} (hi : l[i]? = some o) (h : ∃ v, (Region.wanted o (yielded l.toArray a.tmps) = true ∧ ∀ w, S w → (execOp a.eval o).run P w = .ok (.value v) w) ∧ wpPlan P l.toArray S Q R r (a.put o.dst v) w) : wpPlan P l.toArray S Q R ((true, i) :: r) a w := by
  obtain ⟨v, h1, h2⟩ := h
  exact ⟨o, v, by rw [List.getElem?_toArray]; exact hi, .inl h1, h2⟩
/-- a step that is passed over -/
theorem wpPlan_skip {R : Act → World → Prop} {i : Nat} {r : List (Bool × Nat)} {o : Oper} {a : Act} {w : World} (hi : l[i]? = some o) (hy : YieldsIf P l.toArray S o undef a) (h : wpPlan P l.toArray S Q R r (a.put o.dst undef) w) : wpPlan P l.toArray S Q R ((true, i) :: r) a w :=
  ⟨o, undef, by rw [List.getElem?_toArray]; exact hi, hy, h⟩
/-- a step that keeps S -/
theorem wpPlan_keep {R : Act → World → Prop} {i : Nat} {r : List (Bool × Nat)} {o : Oper} {a : Act} {w : World} (hi : l[i]? = some o) (hw : Region.wanted o (yielded l.toArray a.tmps) = true)
    (h : ∀ K : Act → World → Prop, (∀ a' w', S w' → wpPlan P l.toArray S Q R r a' w' → K a' w') → Oper.wp P o a w K Q) : wpPlan P l.toArray S Q R ((false, i) :: r) a w := by
  show wpOp P l.toArray Q i _ a w
  have hi' : l.toArray[i]? = some o := by rw [List.getElem?_toArray]; exact hi
  unfold wpOp
  simp only [hi']
  rw [if_pos hw]
  exact .inl (h _ fun a' w' h1 h2 => ⟨h1, h2⟩)
/-- a call of a Go function -/
theorem wpPlan_call {R : Act → World → Prop} {i : Nat} {r : List (Bool × Nat)} {o : Oper} {a : Act} {w : World} (hi : l[i]? = some o) (hw : Region.wanted o (yielded l.toArray a.tmps) = true) (f : FuncId) (args : Array Value) (hrun : (execOp a.eval o).run P w = .ok (.enter f args) w)
    {R' : Ending → World → Prop} (hc : Calls P f args w R') (h : ∀ e w', R' e w' → (∃ v, e = .returned v ∧ S w' ∧ wpPlan P l.toArray S Q R r (a.put o.dst v) w') ∨ (∃ c, e = .panicked c ∧ Q (.panic c) a w')) : wpPlan P l.toArray S Q R ((false, i) :: r) a w := by
  show wpOp P l.toArray Q i _ a w
  have hi' : l.toArray[i]? = some o := by rw [List.getElem?_toArray]; exact hi
  unfold wpOp
  simp only [hi']
  rw [if_pos hw]
  refine .inl ?_
  unfold Oper.wp
  rw [hrun, Oper.upon_enter]
  refine hc.mono fun e w' he => ?_
  rcases h e w' he with ⟨v, rfl, h1, h2⟩ | ⟨c, rfl, h1⟩
  · exact ⟨h1, h2⟩
  · exact h1
end
end
end Go.Proofs.Ytlhhecomjhfhjaa
