/-
  Layer 14: the document's reader of tokens: read.
-/
import Derived.Test.YtmkllibfblacfaaDoorPk4
namespace Go.Proofs.YtmkllibfblacfaaDoor
open Go.RowKit
open Sx (X toksOf isT)
theorem Sx.ifR_eq (L : List Lx.T) (f p : Nat) (hi : isT (toksOf L p) 1 [105, 102] = true) : Sx.ifR (fun q => Sx.rd (toksOf L) f 0 q) L p = Sx.rd (toksOf L) (f + 1) 0 p := by
  rw [Sx.rd_if hi]
  unfold Sx.ifR
  simp only
  generalize Sx.rd (toksOf L) f 0 (p + 1) = r1
  obtain ⟨o1, q1⟩ := r1
  cases o1 with
  | none => rfl
  | some a =>
    cases ht : isT (toksOf L q1) 1 [116, 104, 101, 110] with
    | false => simp [Sx.stB, Sx.stP, Sx.nx, ht, Sx.ifS]
    | true =>
      simp only [Sx.stB, Sx.stP, Sx.nx, ht, Option.isNone_some, Bool.false_or, Bool.not_true, Bool.false_eq_true, if_false, if_true]
      generalize Sx.rd (toksOf L) f 0 (q1 + 1) = r2
      obtain ⟨o2, q2⟩ := r2
      cases o2 with
      | none => rfl
      | some b =>
        cases he : isT (toksOf L q2) 1 [101, 108, 115, 101] with
        | false => simp [Sx.ifS, he]
        | true =>
          simp only [he, Option.isNone_some, Bool.false_or, Bool.not_true, Bool.false_eq_true, if_false, if_true]
          generalize Sx.rd (toksOf L) f 0 (q2 + 1) = r3
          obtain ⟨o3, q3⟩ := r3
          cases o3 <;> rfl
theorem Sx.negR_eq (L : List Lx.T) (f p : Nat) (hi : isT (toksOf L p) 4 [45] = true) : Sx.negR (Sx.rd (toksOf L) f 6 (p + 1)) = Sx.rd (toksOf L) (f + 1) 6 p := by
  rw [Sx.rd_neg hi]
  generalize Sx.rd (toksOf L) f 6 (p + 1) = r
  obtain ⟨o, q⟩ := r
  cases o <;> rfl
theorem Sx.fst_rd (L : List Lx.T) (f p : Nat) : Sx.fst L p (Sx.rd (toksOf L) f 0 (p + 1)) = Sx.rd (toksOf L) (f + 1) 7 p := by
  rw [Sx.rd_7]; unfold Sx.fst
  cases toksOf L p with
  | none => rfl
  | some t =>
    simp only
    cases Sx.leaf t with
    | some x => rfl
    | none => rfl
end Go.Proofs.YtmkllibfblacfaaDoor
