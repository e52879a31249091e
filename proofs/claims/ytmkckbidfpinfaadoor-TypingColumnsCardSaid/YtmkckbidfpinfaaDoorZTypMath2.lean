/-
  Layer 15 (plain): where a part comes up, the kinds of its parts lie on the stack.
-/
import Derived.Test.YtmkckbidfpinfaaDoorZTypMath
namespace Go.Proofs.YtmkckbidfpinfaaDoor
open Sx (X)
namespace Ty
theorem split_of {α : Type} {A B pre rest : List α} {y : α} (h : A ++ B = pre ++ y :: rest) : (∃ r, A = pre ++ y :: r) ∨ (∃ p, pre = A ++ p ∧ B = p ++ y :: rest) := by
  rcases List.append_eq_append_iff.1 h with ⟨p, h1, h2⟩ | ⟨p, h1, h2⟩
  · exact .inr ⟨p, h1, h2⟩
  · cases p with
    | nil => exact .inr ⟨[], by rw [h1]; simp, h2.symm⟩
    | cons z p =>
      injection h2 with h3 h4
      subst h3
      exact .inl ⟨p, h1⟩
mutual
theorem run_room (cs : List Col) : ∀ (x : X) (st : List Int) (pre rest : List X) (y : X), up x = pre ++ y :: rest → (run cs pre st).2 = 0 → y.l.length ≤ (run cs pre st).1.length
  | .mk o v s l, st, pre, rest, y, h, h0 => by
    rw [up] at h
    rcases split_of h with ⟨r, h1⟩ | ⟨p, h1, h2⟩
    · exact run_roomL cs l st pre r y h1 h0
    · cases p with
      | nil =>
        rw [List.append_nil] at h1
        injection h2 with h3 _
        subst h1; subst h3
        rw [run_upL] at h0 ⊢
        by_cases hk : (kdL cs l).2 = 0
        · rw [if_pos hk]
          show l.length ≤ (st ++ (kdL cs l).1).length
          rw [List.length_append, kdL_len cs l hk]; omega
        · rw [if_neg hk] at h0; exact absurd h0 hk
      | cons z p =>
        injection h2 with _ h4
        have := congrArg List.length h4
        simp at this
theorem run_roomL (cs : List Col) : ∀ (l : List X) (st : List Int) (pre rest : List X) (y : X), upL l = pre ++ y :: rest → (run cs pre st).2 = 0 → y.l.length ≤ (run cs pre st).1.length
  | [], st, pre, rest, y, h, _ => by
    rw [upL] at h
    have := congrArg List.length h
    simp at this
  | x :: r, st, pre, rest, y, h, h0 => by
    rw [upL] at h
    rcases split_of h with ⟨q, h1⟩ | ⟨p, h1, h2⟩
    · exact run_room cs x st pre q y h1 h0
    · subst h1
      rw [run_app] at h0 ⊢
      by_cases hx : (run cs (up x) st).2 = 0
      · rw [if_pos hx] at h0 ⊢
        exact run_roomL cs r _ p rest y h2 h0
      · rw [if_neg hx] at h0; exact absurd h0 hx
end
end Ty
end Go.Proofs.YtmkckbidfpinfaaDoor
