/-
  Layer 14 (plain): an expression may be where each part may be.
-/
import Derived.Test.YtmkckbidfpinfaaDoorPk5
namespace Go.Proofs.YtmkckbidfpinfaaDoor
open Sx (X)
namespace Sx
theorem cnt_count (op : Int) (h1 : op ≠ 1) (h2 : op ≠ 2) : (0 < cntP op ∧ count op = cntP op) ∨ (cntP op = 0 ∧ count op = -1) := by
  unfold count cntP
  (repeat' split) <;> omega
theorem allR_cons (p : X × Nat) (l : List (X × Nat)) : allR (p :: l) = (rightN p.1 && allR l) := rfl
theorem right_node (x : X) (r : Bool) (hl : rightL x.l = r) (h0 : x.l = [] → r = true) : right x = (rightN x && r) := by
  rw [right_eq, hl]
  unfold rightN
  by_cases h1 : x.op = 1
  · rw [if_pos h1, if_pos h1, show count x.op = 0 by rw [h1]; rfl]
    by_cases hz : x.l.length = 0
    · have e := h0 (List.length_eq_zero_iff.1 hz)
      rw [e, hz]
      by_cases hv : Vl.right x.v
      · have hn : (decide (x.v.kind ≠ 1) || decide (0 ≤ x.v.n)) = decide (0 ≤ x.v.n) := by
          rcases hv with ⟨hk, hn, _⟩ | ⟨hk, _⟩ | ⟨hk, hn, _⟩ | ⟨hk, hn, _⟩
          · rw [hk, hn]; rfl
          · rw [hk]; rfl
          · rw [hk, hn]; rfl
          · rw [hk]; rcases hn with hn | hn <;> rw [hn] <;> rfl
        rw [hn, decide_eq_true hv]
        cases decide (x.s = Vl.mt) <;> cases decide (0 ≤ x.v.n) <;> rfl
      · rw [decide_eq_false hv]
        cases decide (x.s = Vl.mt) <;> rfl
    · rw [decide_eq_false (show ¬ ((x.l.length : Nat) : Int) = 0 by omega), decide_eq_false hz]
      cases decide (Vl.right x.v) <;> cases decide (0 ≤ x.v.n) <;> cases decide (x.s = Vl.mt) <;> rfl
  · rw [if_neg h1, if_neg h1]
    by_cases h2 : x.op = 2
    · rw [if_pos h2, if_pos h2, show count x.op = 0 by rw [h2]; rfl]
      by_cases hz : x.l.length = 0
      · have e := h0 (List.length_eq_zero_iff.1 hz)
        rw [e, hz]
        cases decide (x.v = Vl.no) <;> cases Lx.nameB x.s <;> rfl
      · rw [decide_eq_false (show ¬ ((x.l.length : Nat) : Int) = 0 by omega), decide_eq_false hz]
        cases decide (x.v = Vl.no) <;> cases Lx.nameB x.s <;> rfl
    · rw [if_neg h2, if_neg h2]
      rcases cnt_count x.op h1 h2 with ⟨h3, h4⟩ | ⟨h3, h4⟩
      · rw [h4, decide_eq_true h3]
        cases decide ((x.l.length : Int) = cntP x.op) <;> cases decide (x.v = Vl.no) <;> cases decide (x.s = Vl.mt) <;> cases r <;> rfl
      · rw [h4, h3, decide_eq_false (show ¬ ((x.l.length : Nat) : Int) = -1 by omega)]
        rfl
mutual
theorem right_parts : ∀ (x : X) (d : Nat), right x = allR (po x d)
  | .mk o v s l, d => by
    rw [po, allR_cons]
    exact right_node (.mk o v s l) _ (rightL_parts l (d + 1)) fun e => by
      have e2 : l = [] := e
      rw [e2, poL]; rfl
theorem rightL_parts : ∀ (l : List X) (d : Nat), rightL l = allR (poL l d)
  | [], d => by rw [poL]; rfl
  | x :: r, d => by
    rw [poL, allR_app, rightL, right_parts x d, rightL_parts r d]
end
end Sx
end Go.Proofs.YtmkckbidfpinfaaDoor
