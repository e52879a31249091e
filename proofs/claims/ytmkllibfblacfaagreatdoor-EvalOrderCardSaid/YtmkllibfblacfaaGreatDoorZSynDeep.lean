/-
  Layer 14 (plain): what is read is no deeper than the tokens it took; a right expression's parts are as they may be in memory.
-/
import Derived.Test.YtmkllibfblacfaaGreatDoorZSynPrN
namespace Go.Proofs.YtmkllibfblacfaaGreatDoor
open Go.RowKit
namespace Sx
open Lx (T)
theorem deep_bin (op : Int) (a b : X) : deep (bin op a b) = max (deep a) (deep b) + 1 := by
  show max (deep a) (max (deep b) 0) + 1 = _
  omega
theorem val_ok {v : Vl.V} (h : Vl.right v) (hn : v.kind ≠ 1 ∨ 0 ≤ v.n) (hm : v.n ≤ 9223372036854775807) : (-9223372036854775808 ≤ v.n ∧ v.n ≤ 9223372036854775807) ∧ v.s.size ≤ 40 := by
  refine ⟨⟨?_, hm⟩, Vl.right_size h⟩
  rcases h with h | h | h | h
  · omega
  · rcases hn with h2 | h2
    · exact absurd h.1 h2
    · omega
  · omega
  · omega
theorem name_size {s : ByteArray} (h : Lx.nameB s = true) : s.size ≤ 16 := by
  unfold Lx.nameB at h
  simp only [Bool.and_eq_true, decide_eq_true_eq] at h
  exact h.1.2
/-- a right expression's parts are as they may be in memory -/
theorem fine_right : ∀ (n : Nat) (x : X), deep x ≤ n → right x = true → fit x = true → fine x := by
  intro n
  induction n with
  | zero => intro x hd; have := deep_pos x; omega
  | succ n ih =>
    intro x hd hr hf
    have h0 : Vl.mt.size = 0 := rfl
    have ok1 : ∀ op (l : List X), (∀ y ∈ l, fine y) → l.length ≤ 3 → fine (.mk op Vl.no Vl.mt l) := by
      intro op l hl h3
      have hL : ∀ (l : List X), (∀ y ∈ l, fine y) → okL l ∧ fineL l := by
        intro l
        induction l with
        | nil => intro _; rw [okL, fineL]; exact ⟨trivial, trivial⟩
        | cons y r ihl =>
          intro hy
          rw [okL, fineL]
          have h1 := hy y (List.mem_cons_self ..)
          obtain ⟨h2, h3⟩ := ihl fun z hz => hy z (List.mem_cons_of_mem _ hz)
          exact ⟨⟨(fine_is h1).1, h2⟩, h1, h3⟩
      obtain ⟨h1, h2⟩ := hL l hl
      rw [fine, okX]
      exact ⟨⟨⟨by decide, by decide⟩, Nat.zero_le _, Nat.zero_le _, by unfold maxLen; omega, h1⟩, Nat.zero_le _, h2⟩
    cases form_of hr with
    | val v h hn =>
      have hm : v.n ≤ 9223372036854775807 := by simp only [fit, Bool.and_eq_true, decide_eq_true_eq] at hf; exact hf.1
      obtain ⟨h1, h2⟩ := val_ok h hn hm
      rw [fine, okX, okL, fineL]
      exact ⟨⟨h1, by unfold maxLen; omega, Nat.zero_le _, Nat.zero_le _, trivial⟩, Nat.zero_le _, trivial⟩
    | name s h =>
      have h1 := name_size h
      rw [fine, okX, okL, fineL]
      exact ⟨⟨⟨by decide, by decide⟩, Nat.zero_le _, by unfold maxLen; omega, Nat.zero_le _, trivial⟩, by omega, trivial⟩
    | neg a h =>
      have hfa : fit a = true := by simp only [fit, fitL, Bool.and_eq_true] at hf; exact hf.2.1
      have hdy : deep (.mk 3 Vl.no Vl.mt [a]) = max (deep a) 0 + 1 := rfl
      refine ok1 3 [a] (fun y hy => ?_) (by show (1 : Nat) ≤ 3; omega)
      simp only [List.mem_cons, List.not_mem_nil, or_false] at hy
      subst hy
      exact ih _ (by omega) h hfa
    | bin op a b h4 h15 ha hb =>
      have hfx : fit a = true ∧ fit b = true := by simp only [fit, fitL, Bool.and_eq_true] at hf; exact ⟨hf.2.1, hf.2.2.1⟩
      have hdx := deep_bin op a b
      refine ok1 op [a, b] (fun y hy => ?_) (by show (2 : Nat) ≤ 3; omega)
      simp only [List.mem_cons, List.not_mem_nil, or_false] at hy
      rcases hy with rfl | rfl
      · exact ih _ (by omega) ha hfx.1
      · exact ih _ (by omega) hb hfx.2
    | cond a b c ha hb hc =>
      have hfx : fit a = true ∧ fit b = true ∧ fit c = true := by simp only [fit, fitL, Bool.and_eq_true] at hf; exact ⟨hf.2.1, hf.2.2.1, hf.2.2.2.1⟩
      have hdx : deep (.mk 16 Vl.no Vl.mt [a, b, c]) = max (deep a) (max (deep b) (max (deep c) 0)) + 1 := rfl
      refine ok1 16 [a, b, c] (fun y hy => ?_) (by show (3 : Nat) ≤ 3; omega)
      simp only [List.mem_cons, List.not_mem_nil, or_false] at hy
      rcases hy with rfl | rfl | rfl
      · exact ih _ (by omega) ha hfx.1
      · exact ih _ (by omega) hb hfx.2.1
      · exact ih _ (by omega) hc hfx.2.2
end Sx
end Go.Proofs.YtmkllibfblacfaaGreatDoor
