/-
  Layer 15 (plain): where a part comes up, the kinds of its parts lie on the stack.
-/
import Derived.Test.YtmkllibfblacfaaDoorPk5
namespace Go.Proofs.YtmkllibfblacfaaDoor
open Sx (X)
namespace Ty
theorem split_of {α : Type} {A B pre rest : List α} {y : α} (h : A ++ B = pre ++ y :: rest) : (∃ r, A = pre ++ y :: r) ∨ (∃ p, pre = A ++ p ∧ B = p ++ y :: rest) := by
  rcases List.append_eq_append_iff.1 h with ⟨p, h1, h2⟩ | ⟨p, h1, h2⟩
  · exact .inr ⟨p, h1, h2⟩
  · cases p with
    | nil => exact .inr ⟨[], by rw [h1]; simp, h2.symm⟩
    | cons z p =>
      injection h2 with h3 h4
      subst h3
      exact .inl ⟨p, h1⟩
mutual
theorem run_room (cs : List Col) : ∀ (x : X) (st : List Int) (pre rest : List X) (y : X), up x = pre ++ y :: rest → (run cs pre st).2 = 0 → y.l.length ≤ (run cs pre st).1.length
  | .mk o v s l, st, pre, rest, y, h, h0 => by
    rw [up] at h
    rcases split_of h with ⟨r, h1⟩ | ⟨p, h1, h2⟩
    · exact run_roomL cs l st pre r y h1 h0
    · cases p with
      | nil =>
        rw [List.append_nil] at h1
        injection h2 with h3 _
        subst h1; subst h3
        rw [run_upL] at h0 ⊢
        by_cases hk : (kdL cs l).2 = 0
        · rw [if_pos hk]
          show l.length ≤ (st ++ (kdL cs l).1).length
          rw [List.length_append, kdL_len cs l hk]; omega
        · rw [if_neg hk] at h0; exact absurd h0 hk
      | cons z p =>
        injection h2 with _ h4
        have := congrArg List.length h4
        simp at this
theorem run_roomL (cs : List Col) : ∀ (l : List X) (st : List Int) (pre rest : List X) (y : X), upL l = pre ++ y :: rest → (run cs pre st).2 = 0 → y.l.length ≤ (run cs pre st).1.length
  | [], st, pre, rest, y, h, _ => by
    rw [upL] at h
    have := congrArg List.length h
    simp at this
  | x :: r, st, pre, rest, y, h, h0 => by
    rw [upL] at h
    rcases split_of h with ⟨q, h1⟩ | ⟨p, h1, h2⟩
    · exact run_room cs x st pre q y h1 h0
    · subst h1
      rw [run_app] at h0 ⊢
      by_cases hx : (run cs (up x) st).2 = 0
      · rw [if_pos hx] at h0 ⊢
        exact run_roomL cs r _ p rest y h2 h0
      · rw [if_neg hx] at h0; exact absurd h0 hx
end
theorem right_sub {o : Int} {v : Vl.V} {s : ByteArray} {l : List X} (h : Sx.right (.mk o v s l) = true) : Sx.rightL l = true ∧ (o = 1 → l = []) := by
  rw [Sx.right_eq] at h
  have hl : (X.mk o v s l).l = l := rfl
  have ho : (X.mk o v s l).op = o := rfl
  rw [hl, ho, Bool.and_eq_true, decide_eq_true_eq] at h
  obtain ⟨h1, h2⟩ := h
  have h0 : o = 1 ∨ o = 2 → l = [] := fun e => by
    have : Sx.count o = 0 := by unfold Sx.count; rw [if_pos e]
    rw [this] at h1
    exact List.eq_nil_of_length_eq_zero (by omega)
  refine ⟨?_, fun e => h0 (.inl e)⟩
  by_cases c1 : o = 1
  · rw [h0 (.inl c1)]; rfl
  by_cases c2 : o = 2
  · rw [h0 (.inr c2)]; rfl
  rw [if_neg c1, if_neg c2, Bool.and_eq_true] at h2
  exact h2.1
theorem right_few {o : Int} {v : Vl.V} {s : ByteArray} {l : List X} (h : Sx.right (.mk o v s l) = true) : l.length ≤ 3 := by
  rw [Sx.right_eq] at h
  have hl : (X.mk o v s l).l = l := rfl
  have ho : (X.mk o v s l).op = o := rfl
  rw [hl, ho, Bool.and_eq_true, decide_eq_true_eq] at h
  have h1 := h.1
  unfold Sx.count at h1
  split at h1
  · omega
  · split at h1
    · omega
    · split at h1
      · omega
      · split at h1 <;> omega
mutual
/-- of a right expression the stack is short -/
theorem run_few (cs : List Col) : ∀ (x : X), Sx.right x = true → ∀ (st : List Int) (pre rest : List X), up x = pre ++ rest → (run cs pre st).2 = 0 → (run cs pre st).1.length ≤ st.length + 3 * Sx.deep x
  | .mk o v s l, hr, st, pre, rest, h, h0 => by
    have h3 := right_few hr
    rw [up] at h
    rw [Sx.deep]
    rcases List.append_eq_append_iff.1 h with ⟨p, h1, h2⟩ | ⟨p, h1, h2⟩
    · cases p with
      | nil =>
        rw [List.append_nil] at h1
        subst h1
        have := run_fewL cs l (right_sub hr).1 st (upL l) [] (by simp) h0
        omega
      | cons z q =>
        injection h2 with h4 h5
        have hq : q = [] := by
          have h6 : [] = q ++ rest := h5
          exact (List.append_eq_nil_iff.1 h6.symm).1
        subst hq; subst h4; subst h1
        have e := run_up cs (.mk o v s l) st
        rw [up] at e
        rw [e] at h0 ⊢
        by_cases hk : (kd cs (.mk o v s l)).2 = 0
        · rw [if_pos hk]
          show (st ++ [_]).length ≤ _
          rw [List.length_append, List.length_singleton]; omega
        · rw [if_neg hk] at h0; exact absurd h0 hk
    · have := run_fewL cs l (right_sub hr).1 st pre p h1 h0
      omega
theorem run_fewL (cs : List Col) : ∀ (l : List X), Sx.rightL l = true → ∀ (st : List Int) (pre rest : List X), upL l = pre ++ rest → (run cs pre st).2 = 0 → (run cs pre st).1.length ≤ st.length + l.length + 3 * Sx.deepL l
  | [], _, st, pre, rest, h, _ => by
    rw [upL] at h
    have h2 : pre = [] := (List.append_eq_nil_iff.1 h.symm).1
    subst h2
    rw [run]; simp
  | x :: r, hr, st, pre, rest, h, h0 => by
    rw [Sx.rightL, Bool.and_eq_true] at hr
    rw [upL] at h
    rw [Sx.deepL, List.length_cons]
    rcases List.append_eq_append_iff.1 h with ⟨p, h1, h2⟩ | ⟨p, h1, h2⟩
    · subst h1
      rw [run_app] at h0 ⊢
      by_cases hx : (run cs (up x) st).2 = 0
      · rw [if_pos hx] at h0 ⊢
        have h4 := run_fewL cs r hr.2 _ p rest h2 h0
        have h5 : (run cs (up x) st).1.length = st.length + 1 := by
          rw [run_up] at hx ⊢
          by_cases hk : (kd cs x).2 = 0
          · rw [if_pos hk]; show (st ++ [_]).length = _; rw [List.length_append]; rfl
          · rw [if_neg hk] at hx; exact absurd hx hk
        omega
      · rw [if_neg hx] at h0; exact absurd h0 hx
    · have := run_few cs x hr.1 st pre p h1 h0
      omega
end
end Ty
end Go.Proofs.YtmkllibfblacfaaDoor
