/-
  As Rely, for a region that calls Go functions too; and the usual condition: each value as it is told, whatever is made behind.
-/
import Derived.Test.YtpniegglbglbcaaDoorRely
namespace Go.Proofs.YtpniegglbglbcaaDoor
open Go.RowKit
section
variable {P : Program} {ops : Array Oper} {Q : Exit → Act → World → Prop}
/-- the step of one operation, a call among them -/
def StepsC (P : Program) (G : (Nat → Option Value) → World → Prop) (st : Nat → Option Value) (i : Nat) (o : Oper) (a : Act) (w : World) : Prop :=
  (∃ v w', (execOp a.eval o).run P w = .ok (.value v) w' ∧ G (came st i v) w') ∨ (∃ w', (execOp a.eval o).run P w = .ok .skip w' ∧ G (came st i undef) w') ∨
    (∃ f args R, (execOp a.eval o).run P w = .ok (.enter f args) w ∧ Calls P f args w R ∧ ∀ e w', R e w' → ∃ v, e = .returned v ∧ G (came st i v) w')
theorem wpAny_relyC {a0 : Act} {G : (Nat → Option Value) → World → Prop} (hok : RelyOk ops a0.tmps.size)
    (hstep : ∀ st w i o a, ops[i]? = some o → st i = none → (∀ e ∈ o.after, Region.binds .any e = true → (st e.on).isSome = true) → G st w → FrameIs ops a0 st a → StepsC P G st i o a w)
    (hend : ∀ st w a, (∀ i, i < ops.size → (st i).isSome = true) → G st w → FrameIs ops a0 st a → Q .normal a w) :
    ∀ fuel st listed a w, left ops.size st = fuel → Told ops.size st listed → G st w → FrameIs ops a0 st a → wpAny P .any ops Q fuel listed a w := by
  have hmem : ∀ st listed, Told ops.size st listed → ∀ i, i ∈ Region.ready .any ops listed → ∃ o, ops[i]? = some o ∧ i < ops.size ∧ st i = none ∧ ∀ e ∈ o.after, Region.binds .any e = true → (st e.on).isSome = true := by
    intro st listed ht i hi
    unfold Region.ready at hi
    rw [List.mem_filter, List.mem_range] at hi
    obtain ⟨hi1, hi2⟩ := hi
    rw [Bool.and_eq_true] at hi2
    obtain ⟨o, ho⟩ : ∃ o, ops[i]? = some o := ⟨_, Array.getElem?_eq_getElem hi1⟩
    refine ⟨o, ho, hi1, ?_, fun e he hb => ?_⟩
    · have h1 := hi2.1
      rw [Array.getD_eq_getD_getElem?, ht.2 i hi1] at h1
      cases hs : st i with
      | none => rfl
      | some v => rw [hs] at h1; simp at h1
    · have h2 := hi2.2
      rw [ho] at h2
      simp only [Option.map_some, Option.getD_some] at h2
      rw [Array.all_eq_true_iff_forall_mem] at h2
      have h3 := h2 e he
      rw [hb] at h3
      simp only [Bool.not_true, Bool.false_or] at h3
      have hlt : e.on < ops.size := Nat.lt_trans (hok.after i o ho e he) hi1
      rw [Array.getD_eq_getD_getElem?, ht.2 _ hlt] at h3
      exact h3
  intro fuel
  induction fuel with
  | zero =>
    intro st listed a w hl ht hg hf
    have hall := left_zero hl
    refine ⟨?_, hend st w a hall hg hf⟩
    cases hr : Region.ready .any ops listed with
    | nil => rfl
    | cons i r =>
      obtain ⟨o, _, hi, hn, _⟩ := hmem st listed ht i (by rw [hr]; exact List.mem_cons_self ..)
      have := hall i hi
      rw [hn] at this; cases this
  | succ fuel ih =>
    intro st listed a w hl ht hg hf
    refine ⟨fun h0 => ?_, fun i hi => ?_⟩
    · -- the first that has not come up is ready
      exfalso
      have hex : ∃ i, i < ops.size ∧ st i = none := by
        refine Classical.byContradiction fun hc => ?_
        have : left ops.size st = 0 := by
          unfold left
          rw [List.countP_eq_zero]
          intro i hi
          cases hs : st i with
          | none => exact absurd ⟨i, List.mem_range.1 hi, hs⟩ hc
          | some v => simp
        omega
      obtain ⟨i, ⟨hi, hn⟩, hmin⟩ := least_of hex
      obtain ⟨o, ho⟩ : ∃ o, ops[i]? = some o := ⟨_, Array.getElem?_eq_getElem hi⟩
      have : i ∈ Region.ready .any ops listed := by
        unfold Region.ready
        rw [List.mem_filter, List.mem_range]
        refine ⟨hi, ?_⟩
        rw [Bool.and_eq_true]
        refine ⟨by rw [Array.getD_eq_getD_getElem?, ht.2 i hi, hn]; rfl, ?_⟩
        rw [ho]
        simp only [Option.map_some, Option.getD_some]
        rw [Array.all_eq_true_iff_forall_mem]
        intro e he
        have hlt := hok.after i o ho e he
        have hs : (st e.on).isSome = true := by
          cases hs : st e.on with
          | none => exact absurd ⟨Nat.lt_trans hlt hi, hs⟩ (hmin _ hlt)
          | some v => rfl
        rw [Array.getD_eq_getD_getElem?, ht.2 _ (Nat.lt_trans hlt hi), hs]
        simp
      rw [h0] at this
      cases this
    · obtain ⟨o, ho, hi1, hn, haft⟩ := hmem st listed ht i hi
      unfold wpOp
      rw [ho]
      have hw : Region.wanted o (yielded ops a.tmps) = true := by simp [Region.wanted, hok.plain i o ho]
      simp only [hw, if_true]
      have ht2 : ∀ v, Told ops.size (came st i v) (listed.setIfInBounds i true) := fun v => by
        refine ⟨by rw [Array.size_setIfInBounds]; exact ht.1, fun j hj => ?_⟩
        rw [Array.getElem?_setIfInBounds]
        by_cases e : i = j
        · subst e
          rw [if_pos rfl, if_pos (by rw [ht.1]; exact hi1), came_at]; rfl
        · rw [if_neg e, came_far (fun x => e x.symm)]
          exact ht.2 j hj
      have hl2 : ∀ v, left ops.size (came st i v) = fuel := fun v => by have := left_came (v := v) hi1 hn; omega
      left
      unfold Oper.wp
      rcases hstep st w i o a ho hn haft hg hf with ⟨v, w', hrun, hg'⟩ | ⟨w', hrun, hg'⟩ | ⟨f, args, R, hrun, hc, hR⟩
      · rw [hrun]
        exact ih _ _ _ _ (hl2 v) (ht2 v) hg' (frame_put hok ho hf)
      · rw [hrun]
        exact ih _ _ _ _ (hl2 undef) (ht2 undef) hg' (frame_put hok ho hf)
      · rw [hrun, Oper.upon_enter]
        refine hc.mono fun e w' he => ?_
        obtain ⟨v, rfl, hg'⟩ := hR e w' he
        exact ih _ _ _ _ (hl2 v) (ht2 v) hg' (frame_put hok ho hf)
theorem wp_region_relyC {id : Nat} {a0 : Act} {w : World} (G : (Nat → Option Value) → World → Prop) (hm : P.follows .mixedOrders = true) (hok : relyB ops a0.tmps.size = true) (h0 : G (fun _ => none) w.drew)
    (hstep : ∀ st w i o a, ops[i]? = some o → st i = none → (∀ e ∈ o.after, Region.binds .any e = true → (st e.on).isSome = true) → G st w → FrameIs ops a0 st a → StepsC P G st i o a w)
    (hend : ∀ st w a, (∀ i, i < ops.size → (st i).isSome = true) → G st w → FrameIs ops a0 st a → Q .normal a w) : (Code.region id ops true).wp P Q a0 w := by
  refine wp_region_any hm ?_
  refine wpAny_relyC (relyOk_of hok) hstep hend ops.size (fun _ => none) _ a0 w.drew ?_ ?_ h0 ?_
  · show (List.range ops.size).countP (fun _ => true) = ops.size
    rw [List.countP_true, List.length_range]
  · exact ⟨Array.size_replicate, fun i hi => by rw [Array.getElem?_replicate, if_pos hi]; rfl⟩
  · exact ⟨rfl, rfl, (fun _ _ _ _ _ _ h => by cases h), fun _ _ => rfl⟩
end
/-- each value as F tells, and nothing below w0's end was turned -/
def Gr (w0 : World) (F : Nat → Value → World → Prop) (st : Nat → Option Value) (w : World) : Prop := Below w0.heap.size w0 w ∧ ∀ j v, st j = some v → F j v w
theorem gr_pure {w0 w : World} {F : Nat → Value → World → Prop} {st : Nat → Option Value} {i : Nat} {v : Value} (h : Gr w0 F st w) (hv : F i v w) : Gr w0 F (came st i v) w := by
  refine ⟨h.1, fun j u hj => ?_⟩
  by_cases e : j = i
  · subst e; rw [came_at] at hj; cases hj; exact hv
  · rw [came_far e] at hj; exact h.2 j u hj
theorem gr_more {w0 w w' : World} {F : Nat → Value → World → Prop} {st : Nat → Option Value} {i : Nat} {v : Value} (hF : ∀ j u wx wy, Below wx.heap.size wx wy → F j u wx → F j u wy) (h : Gr w0 F st w) (hb : Below w.heap.size w w') (hv : F i v w') : Gr w0 F (came st i v) w' := by
  refine ⟨h.1.trans (hb.mono h.1.size), fun j u hj => ?_⟩
  by_cases e : j = i
  · subst e; rw [came_at] at hj; cases hj; exact hv
  · rw [came_far e] at hj; exact hF _ _ _ _ hb (h.2 j u hj)
end Go.Proofs.YtpniegglbglbcaaDoor
