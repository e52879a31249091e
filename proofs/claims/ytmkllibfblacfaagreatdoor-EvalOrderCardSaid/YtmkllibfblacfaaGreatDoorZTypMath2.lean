/-
  Layer 15 (plain): where a part comes up, the kinds of its parts lie on the stack.
-/
import Derived.Test.YtmkllibfblacfaaGreatDoorPk3
namespace Go.Proofs.YtmkllibfblacfaaGreatDoor
open Sx (X)
namespace Ty
theorem right_sub {o : Int} {v : Vl.V} {s : ByteArray} {l : List X} (h : Sx.right (.mk o v s l) = true) : Sx.rightL l = true ∧ (o = 1 → l = []) := by
  rw [Sx.right_eq] at h
  have hl : (X.mk o v s l).l = l := rfl
  have ho : (X.mk o v s l).op = o := rfl
  rw [hl, ho, Bool.and_eq_true, decide_eq_true_eq] at h
  obtain ⟨h1, h2⟩ := h
  have h0 : o = 1 ∨ o = 2 → l = [] := fun e => by
    have : Sx.count o = 0 := by unfold Sx.count; rw [if_pos e]
    rw [this] at h1
    exact List.eq_nil_of_length_eq_zero (by omega)
  refine ⟨?_, fun e => h0 (.inl e)⟩
  by_cases c1 : o = 1
  · rw [h0 (.inl c1)]; rfl
  by_cases c2 : o = 2
  · rw [h0 (.inr c2)]; rfl
  rw [if_neg c1, if_neg c2, Bool.and_eq_true] at h2
  exact h2.1
theorem right_few {o : Int} {v : Vl.V} {s : ByteArray} {l : List X} (h : Sx.right (.mk o v s l) = true) : l.length ≤ 3 := by
  rw [Sx.right_eq] at h
  have hl : (X.mk o v s l).l = l := rfl
  have ho : (X.mk o v s l).op = o := rfl
  rw [hl, ho, Bool.and_eq_true, decide_eq_true_eq] at h
  have h1 := h.1
  unfold Sx.count at h1
  split at h1
  · omega
  · split at h1
    · omega
    · split at h1
      · omega
      · split at h1 <;> omega
end Ty
end Go.Proofs.YtmkllibfblacfaaGreatDoor
