/-
  A region that draws its order, walked by what each operation leaves behind: whatever order is picked, a condition on the values that have come up so far and on the world is kept by each operation. For regions whose operations make and write memory (an append of an append ..), where the orders are too many to be walked one by one.
-/
import Derived.Test.YtpniegglbglbcaaDoorBase
import Derived.Orders
import Derived.StillTail
namespace Go.Proofs.YtpniegglbglbcaaDoor
open Go.RowKit
section
variable {P : Program} {ops : Array Oper} {Q : Exit → Act → World → Prop}
/-- the values that have come up, one more -/
def came (st : Nat → Option Value) (i : Nat) (v : Value) : Nat → Option Value := fun j => if j = i then some v else st j
theorem came_at (st : Nat → Option Value) (i : Nat) (v : Value) : came st i v i = some v := if_pos rfl
theorem came_far {st : Nat → Option Value} {i j : Nat} {v : Value} (h : j ≠ i) : came st i v j = st j := if_neg h
/-- the frame a is a0, with the values st where the operations put them -/
structure FrameIs (ops : Array Oper) (a0 : Act) (st : Nat → Option Value) (a : Act) : Prop where
  defers : a.defers = a0.defers
  size : a.tmps.size = a0.tmps.size
  come : ∀ i o d v, ops[i]? = some o → o.dst = some d → st i = some v → a.tmps.getD d undef = v
  stay : ∀ d, (∀ i o, ops[i]? = some o → o.dst = some d → st i = none) → a.tmps.getD d undef = a0.tmps.getD d undef
/-- what is asked of the region's text (each by the kernel) -/
structure RelyOk (ops : Array Oper) (n : Nat) : Prop where
  bound : ∀ (i : Nat) (o : Oper) (d : Nat), ops[i]? = some o → o.dst = some d → d < n
  apart : ∀ (i j : Nat) (o p : Oper) (d : Nat), ops[i]? = some o → ops[j]? = some p → o.dst = some d → p.dst = some d → i = j
  after : ∀ (i : Nat) (o : Oper), ops[i]? = some o → ∀ e ∈ o.after, e.on < i
  plain : ∀ (i : Nat) (o : Oper), ops[i]? = some o → o.guard = none
def relyB (ops : Array Oper) (n : Nat) : Bool :=
  (List.range ops.size).all fun i => match ops[i]? with
    | none => true
    | some o => o.guard.isNone && o.after.all (fun e => decide (e.on < i)) && (match o.dst with
      | none => true
      | some d => decide (d < n) && (List.range ops.size).all fun j => match ops[j]? with
        | none => true
        | some p => p.dst != some d || decide (i = j))
theorem relyOk_of {ops : Array Oper} {n : Nat} (h : relyB ops n = true) : RelyOk ops n := by
  unfold relyB at h
  rw [List.all_eq_true] at h
  have key : ∀ (i : Nat) (o : Oper), ops[i]? = some o → o.guard.isNone = true ∧ o.after.all (fun e => decide (e.on < i)) = true ∧ ∀ d, o.dst = some d → d < n ∧ ∀ (j : Nat) (p : Oper), ops[j]? = some p → p.dst = some d → i = j := by
    intro i o ho
    have hi : i < ops.size := (Array.getElem?_eq_some_iff.1 ho).1
    have h1 := h i (List.mem_range.2 hi)
    rw [ho] at h1
    simp only [Bool.and_eq_true] at h1
    refine ⟨h1.1.1, h1.1.2, fun d hd => ?_⟩
    have h2 := h1.2
    rw [hd] at h2
    simp only [Bool.and_eq_true, decide_eq_true_eq] at h2
    refine ⟨h2.1, fun j p hp hpd => ?_⟩
    have hj : j < ops.size := (Array.getElem?_eq_some_iff.1 hp).1
    have h3 := List.all_eq_true.1 h2.2 j (List.mem_range.2 hj)
    rw [hp] at h3
    simp only [hpd, bne_self_eq_false, Bool.false_or, decide_eq_true_eq] at h3
    exact h3
  refine ⟨fun i o d ho hd => ((key i o ho).2.2 d hd).1, fun i j o p d ho hp hd hpd => ((key i o ho).2.2 d hd).2 j p hp hpd, fun i o ho e he => ?_, fun i o ho => ?_⟩
  · have := (key i o ho).2.1
    rw [Array.all_eq_true_iff_forall_mem] at this
    simpa using this e he
  · simpa using (key i o ho).1
theorem frame_put {a0 a : Act} {st : Nat → Option Value} {i : Nat} {o : Oper} {v : Value} (hok : RelyOk ops a0.tmps.size) (ho : ops[i]? = some o) (h : FrameIs ops a0 st a) : FrameIs ops a0 (came st i v) (a.put o.dst v) := by
  cases hd : o.dst with
  | none =>
    refine ⟨h.defers, h.size, fun j p d u hj hpd hu => ?_, fun d hn => ?_⟩
    · have hji : j ≠ i := fun e => by subst e; rw [ho] at hj; cases hj; rw [hd] at hpd; cases hpd
      rw [came_far hji] at hu
      exact h.come j p d u hj hpd hu
    · refine h.stay d fun j p hj hpd => ?_
      have hji : j ≠ i := fun e => by subst e; rw [ho] at hj; cases hj; rw [hd] at hpd; cases hpd
      have := hn j p hj hpd
      rwa [came_far hji] at this
  | some d0 =>
    have hlt := hok.bound i o d0 ho hd
    have hget : ∀ d, (a.tmps.setIfInBounds d0 v).getD d undef = if d0 = d then v else a.tmps.getD d undef := fun d => by
      rw [Array.getD_eq_getD_getElem?, Array.getD_eq_getD_getElem?, Array.getElem?_setIfInBounds]
      by_cases e : d0 = d
      · subst e
        rw [if_pos rfl, if_pos rfl, if_pos (by rw [h.size]; exact hlt)]; rfl
      · rw [if_neg e, if_neg e]
    refine ⟨h.defers, by show (a.tmps.setIfInBounds d0 v).size = _; rw [Array.size_setIfInBounds]; exact h.size, fun j p d u hj hpd hu => ?_, fun d hn => ?_⟩
    · show (a.tmps.setIfInBounds d0 v).getD d undef = u
      rw [hget]
      by_cases e : d0 = d
      · subst e
        have hij := hok.apart i j o p d0 ho hj hd hpd
        subst hij
        rw [came_at] at hu
        rw [if_pos rfl]; exact Option.some.inj hu
      · rw [if_neg e]
        have hji : j ≠ i := fun e2 => by subst e2; rw [ho] at hj; cases hj; rw [hd] at hpd; cases hpd; exact e rfl
        rw [came_far hji] at hu
        exact h.come j p d u hj hpd hu
    · show (a.tmps.setIfInBounds d0 v).getD d undef = _
      rw [hget]
      have e : d0 ≠ d := fun e => by subst e; have := hn i o ho hd; rw [came_at] at this; cases this
      rw [if_neg e]
      refine h.stay d fun j p hj hpd => ?_
      have hji : j ≠ i := fun e2 => by subst e2; rw [ho] at hj; cases hj; rw [hd] at hpd; cases hpd; exact e rfl
      have := hn j p hj hpd
      rwa [came_far hji] at this
theorem least_of {p : Nat → Prop} (h : ∃ i, p i) : ∃ i, p i ∧ ∀ j, j < i → ¬ p j := by
  obtain ⟨i, hi⟩ := h
  induction i using Nat.strongRecOn with
  | _ i ih =>
    by_cases hc : ∃ j, j < i ∧ p j
    · obtain ⟨j, hj, hp⟩ := hc
      exact ih j hj hp
    · exact ⟨i, hi, fun j hj hp => hc ⟨j, hj, hp⟩⟩
/-- a slot that no operation writes -/
theorem frame_stay {a0 a : Act} {st : Nat → Option Value} (h : FrameIs ops a0 st a) {d : Nat} (hd : (ops.all fun o => o.dst != some d) = true) : a.tmps.getD d undef = a0.tmps.getD d undef := by
  refine h.stay d fun i o ho hod => ?_
  rw [Array.all_eq_true_iff_forall_mem] at hd
  have := hd o (Array.mem_of_getElem? ho)
  rw [hod] at this
  simp at this
/-- the frame, written out -/
theorem frame_list {a : Act} {n : Nat} (h : a.tmps.size = n) : a = ⟨((List.range n).map fun i => a.tmps.getD i undef).toArray, a.defers⟩ := by
  obtain ⟨t, d⟩ := a
  have h : t.size = n := h
  congr 1
  apply Array.ext
  · simp [h]
  · intro i h1 h2
    simp only [List.getElem_toArray, List.getElem_map, List.getElem_range]
    rw [Array.getD_eq_getD_getElem?, Array.getElem?_eq_getElem h1]; rfl
/-- listed says which have come up -/
def Told (n : Nat) (st : Nat → Option Value) (listed : Array Bool) : Prop := listed.size = n ∧ ∀ i, i < n → listed[i]? = some (st i).isSome
def left (n : Nat) (st : Nat → Option Value) : Nat := (List.range n).countP fun i => (st i).isNone
theorem left_came {n : Nat} {st : Nat → Option Value} {i : Nat} {v : Value} (hi : i < n) (h : st i = none) : left n st = left n (came st i v) + 1 := by
  unfold left
  induction n with
  | zero => omega
  | succ n ih =>
    rw [List.range_succ, List.countP_append, List.countP_append]
    by_cases e : i = n
    · subst e
      have h1 : (List.range i).countP (fun j => (st j).isNone) = (List.range i).countP (fun j => (came st i v j).isNone) := by
        apply List.countP_congr
        intro j hj
        rw [came_far (by have := List.mem_range.1 hj; omega)]
      rw [h1]
      simp [came_at, h]
    · have := ih (by omega)
      rw [this]
      have h2 : came st i v n = st n := came_far (by omega)
      simp [h2]
      omega
theorem left_zero {n : Nat} {st : Nat → Option Value} (h : left n st = 0) : ∀ i, i < n → (st i).isSome = true := by
  intro i hi
  unfold left at h
  rw [List.countP_eq_zero] at h
  have := h i (List.mem_range.2 hi)
  cases hs : st i with
  | none => rw [hs] at this; simp at this
  | some v => rfl
/-- the step of one operation -/
def Steps (P : Program) (G : (Nat → Option Value) → World → Prop) (st : Nat → Option Value) (i : Nat) (o : Oper) (a : Act) (w : World) : Prop :=
  (∃ v w', (execOp a.eval o).run P w = .ok (.value v) w' ∧ G (came st i v) w') ∨ (∃ w', (execOp a.eval o).run P w = .ok .skip w' ∧ G (came st i undef) w')
theorem wpAny_rely {a0 : Act} {G : (Nat → Option Value) → World → Prop} (hok : RelyOk ops a0.tmps.size)
    (hstep : ∀ st w i o a, ops[i]? = some o → st i = none → (∀ e ∈ o.after, Region.binds .any e = true → (st e.on).isSome = true) → G st w → FrameIs ops a0 st a → Steps P G st i o a w)
    (hend : ∀ st w a, (∀ i, i < ops.size → (st i).isSome = true) → G st w → FrameIs ops a0 st a → Q .normal a w) :
    ∀ fuel st listed a w, left ops.size st = fuel → Told ops.size st listed → G st w → FrameIs ops a0 st a → wpAny P .any ops Q fuel listed a w := by
  have hmem : ∀ st listed, Told ops.size st listed → ∀ i, i ∈ Region.ready .any ops listed → ∃ o, ops[i]? = some o ∧ i < ops.size ∧ st i = none ∧ ∀ e ∈ o.after, Region.binds .any e = true → (st e.on).isSome = true := by
    intro st listed ht i hi
    unfold Region.ready at hi
    rw [List.mem_filter, List.mem_range] at hi
    obtain ⟨hi1, hi2⟩ := hi
    rw [Bool.and_eq_true] at hi2
    obtain ⟨o, ho⟩ : ∃ o, ops[i]? = some o := ⟨_, Array.getElem?_eq_getElem hi1⟩
    refine ⟨o, ho, hi1, ?_, fun e he hb => ?_⟩
    · have h1 := hi2.1
      rw [Array.getD_eq_getD_getElem?, ht.2 i hi1] at h1
      cases hs : st i with
      | none => rfl
      | some v => rw [hs] at h1; simp at h1
    · have h2 := hi2.2
      rw [ho] at h2
      simp only [Option.map_some, Option.getD_some] at h2
      rw [Array.all_eq_true_iff_forall_mem] at h2
      have h3 := h2 e he
      rw [hb] at h3
      simp only [Bool.not_true, Bool.false_or] at h3
      have hlt : e.on < ops.size := Nat.lt_trans (hok.after i o ho e he) hi1
      rw [Array.getD_eq_getD_getElem?, ht.2 _ hlt] at h3
      exact h3
  intro fuel
  induction fuel with
  | zero =>
    intro st listed a w hl ht hg hf
    have hall := left_zero hl
    refine ⟨?_, hend st w a hall hg hf⟩
    cases hr : Region.ready .any ops listed with
    | nil => rfl
    | cons i r =>
      obtain ⟨o, _, hi, hn, _⟩ := hmem st listed ht i (by rw [hr]; exact List.mem_cons_self ..)
      have := hall i hi
      rw [hn] at this; cases this
  | succ fuel ih =>
    intro st listed a w hl ht hg hf
    refine ⟨fun h0 => ?_, fun i hi => ?_⟩
    · -- the first that has not come up is ready
      exfalso
      have hex : ∃ i, i < ops.size ∧ st i = none := by
        refine Classical.byContradiction fun hc => ?_
        have : left ops.size st = 0 := by
          unfold left
          rw [List.countP_eq_zero]
          intro i hi
          cases hs : st i with
          | none => exact absurd ⟨i, List.mem_range.1 hi, hs⟩ hc
          | some v => simp
        omega
      obtain ⟨i, ⟨hi, hn⟩, hmin⟩ := least_of hex
      obtain ⟨o, ho⟩ : ∃ o, ops[i]? = some o := ⟨_, Array.getElem?_eq_getElem hi⟩
      have : i ∈ Region.ready .any ops listed := by
        unfold Region.ready
        rw [List.mem_filter, List.mem_range]
        refine ⟨hi, ?_⟩
        rw [Bool.and_eq_true]
        refine ⟨by rw [Array.getD_eq_getD_getElem?, ht.2 i hi, hn]; rfl, ?_⟩
        rw [ho]
        simp only [Option.map_some, Option.getD_some]
        rw [Array.all_eq_true_iff_forall_mem]
        intro e he
        have hlt := hok.after i o ho e he
        have hs : (st e.on).isSome = true := by
          cases hs : st e.on with
          | none => exact absurd ⟨Nat.lt_trans hlt hi, hs⟩ (hmin _ hlt)
          | some v => rfl
        rw [Array.getD_eq_getD_getElem?, ht.2 _ (Nat.lt_trans hlt hi), hs]
        simp
      rw [h0] at this
      cases this
    · obtain ⟨o, ho, hi1, hn, haft⟩ := hmem st listed ht i hi
      unfold wpOp
      rw [ho]
      have hw : Region.wanted o (yielded ops a.tmps) = true := by simp [Region.wanted, hok.plain i o ho]
      simp only [hw, if_true]
      have ht2 : ∀ v, Told ops.size (came st i v) (listed.setIfInBounds i true) := fun v => by
        refine ⟨by rw [Array.size_setIfInBounds]; exact ht.1, fun j hj => ?_⟩
        rw [Array.getElem?_setIfInBounds]
        by_cases e : i = j
        · subst e
          rw [if_pos rfl, if_pos (by rw [ht.1]; exact hi1), came_at]; rfl
        · rw [if_neg e, came_far (fun x => e x.symm)]
          exact ht.2 j hj
      have hl2 : ∀ v, left ops.size (came st i v) = fuel := fun v => by have := left_came (v := v) hi1 hn; omega
      left
      unfold Oper.wp
      rcases hstep st w i o a ho hn haft hg hf with ⟨v, w', hrun, hg'⟩ | ⟨w', hrun, hg'⟩
      · rw [hrun]
        exact ih _ _ _ _ (hl2 v) (ht2 v) hg' (frame_put hok ho hf)
      · rw [hrun]
        exact ih _ _ _ _ (hl2 undef) (ht2 undef) hg' (frame_put hok ho hf)
theorem wp_region_rely {id : Nat} {a0 : Act} {w : World} (G : (Nat → Option Value) → World → Prop) (hm : P.follows .mixedOrders = true) (hok : relyB ops a0.tmps.size = true) (h0 : G (fun _ => none) w.drew)
    (hstep : ∀ st w i o a, ops[i]? = some o → st i = none → (∀ e ∈ o.after, Region.binds .any e = true → (st e.on).isSome = true) → G st w → FrameIs ops a0 st a → Steps P G st i o a w)
    (hend : ∀ st w a, (∀ i, i < ops.size → (st i).isSome = true) → G st w → FrameIs ops a0 st a → Q .normal a w) : (Code.region id ops true).wp P Q a0 w := by
  refine wp_region_any hm ?_
  refine wpAny_rely (relyOk_of hok) hstep hend ops.size (fun _ => none) _ a0 w.drew ?_ ?_ h0 ?_
  · show (List.range ops.size).countP (fun _ => true) = ops.size
    rw [List.countP_true, List.length_range]
  · exact ⟨Array.size_replicate, fun i hi => by rw [Array.getElem?_replicate, if_pos hi]; rfl⟩
  · exact ⟨rfl, rfl, (fun _ _ _ _ _ _ h => by cases h), fun _ _ => rfl⟩
end
end Go.Proofs.YtpniegglbglbcaaDoor
