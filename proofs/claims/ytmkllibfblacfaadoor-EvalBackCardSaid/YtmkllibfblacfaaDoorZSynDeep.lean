/-
  Layer 14 (plain): what is read is no deeper than the tokens it took; a right expression's parts are as they may be in memory.
-/
import Derived.Test.YtmkllibfblacfaaDoorZSynPrN
namespace Go.Proofs.YtmkllibfblacfaaDoor
open Go.RowKit
namespace Sx
open Lx (T)
def Dp (p : Nat) (r : Option X × Nat) : Prop := ∀ x, r.1 = some x → deep x + p ≤ r.2
theorem dp_none (p q : Nat) : Dp p (none, q) := fun _ h => by cases h
theorem dp_some {p q : Nat} {x : X} (h : deep x + p ≤ q) : Dp p (some x, q) := fun y e => by cases e; exact h
theorem dp_then {p p' : Nat} {r : Option X × Nat} (h : Dp p' r) {K : X → Nat → Option X × Nat} (hK : ∀ x q, deep x + p' ≤ q → Dp p (K x q)) :
    Dp p (match (generalizing := false) r with
      | (none, q) => (none, q)
      | (some x, q) => K x q) := by
  obtain ⟨o, q⟩ := r
  cases o with
  | none => exact dp_none _ _
  | some x => exact hK x q (h x rfl)
theorem deep_leaf {t : T} {x : X} (h : leaf t = some x) : deep x = 1 := by
  unfold leaf at h
  repeat' split at h
  all_goals first | (cases h; rfl) | (cases h)
theorem deep_bin (op : Int) (a b : X) : deep (bin op a b) = max (deep a) (deep b) + 1 := by
  show max (deep a) (max (deep b) 0) + 1 = _
  omega
theorem rd_deep (g : Nat → Option T) : ∀ f, (∀ lev p, Dp p (rd g f lev p)) ∧ (∀ lev x p p0, deep x + p0 ≤ p → Dp p0 (go g f lev x p))
  | 0 => ⟨fun lev p => dp_none _ _, fun lev x p p0 h => dp_none _ _⟩
  | f + 1 => by
    obtain ⟨ihr, ihg⟩ := rd_deep g f
    refine ⟨fun lev p => ?_, fun lev x p p0 h => ?_⟩
    · rw [rd]
      split
      · split
        · exact dp_none _ _
        · split
          · rename_i x hx
            exact dp_some (by rw [deep_leaf hx]; omega)
          · split
            · refine dp_then (ihr 0 (p + 1)) fun x q hq => ?_
              split
              · exact dp_some (by omega)
              · exact dp_none _ _
            · exact dp_none _ _
      · split
        · refine dp_then (ihr 0 (p + 1)) fun a q ha => ?_
          split
          · refine dp_then (ihr 0 (q + 1)) fun b q2 hb => ?_
            split
            · refine dp_then (ihr 0 (q2 + 1)) fun c q3 hc => ?_
              refine dp_some ?_
              show max (deep a) (max (deep b) (max (deep c) 0)) + 1 + p ≤ q3
              omega
            · exact dp_none _ _
          · exact dp_none _ _
        · split
          · refine dp_then (ihr 6 (p + 1)) fun a q ha => ?_
            refine dp_some ?_
            show max (deep a) 0 + 1 + p ≤ q
            omega
          · split
            · exact ihr (lev + 1) p
            · exact dp_then (ihr (lev + 1) p) fun x q hq => ihg lev x q p hq
    · rw [go]
      split
      · exact dp_some h
      · refine dp_then (ihr (lev + 1) (p + 1)) fun y q hq => ?_
        split
        · exact dp_some (by rw [deep_bin]; omega)
        · exact ihg lev _ q p0 (by rw [deep_bin]; omega)
theorem val_ok {v : Vl.V} (h : Vl.right v) (hn : v.kind ≠ 1 ∨ 0 ≤ v.n) (hm : v.n ≤ 9223372036854775807) : (-9223372036854775808 ≤ v.n ∧ v.n ≤ 9223372036854775807) ∧ v.s.size ≤ 40 := by
  refine ⟨⟨?_, hm⟩, Vl.right_size h⟩
  rcases h with h | h | h | h
  · omega
  · rcases hn with h2 | h2
    · exact absurd h.1 h2
    · omega
  · omega
  · omega
theorem name_size {s : ByteArray} (h : Lx.nameB s = true) : s.size ≤ 16 := by
  unfold Lx.nameB at h
  simp only [Bool.and_eq_true, decide_eq_true_eq] at h
  exact h.1.2
/-- a right expression's parts are as they may be in memory -/
theorem fine_right : ∀ (n : Nat) (x : X), deep x ≤ n → right x = true → fit x = true → fine x := by
  intro n
  induction n with
  | zero => intro x hd; have := deep_pos x; omega
  | succ n ih =>
    intro x hd hr hf
    have h0 : Vl.mt.size = 0 := rfl
    have ok1 : ∀ op (l : List X), (∀ y ∈ l, fine y) → l.length ≤ 3 → fine (.mk op Vl.no Vl.mt l) := by
      intro op l hl h3
      have hL : ∀ (l : List X), (∀ y ∈ l, fine y) → okL l ∧ fineL l := by
        intro l
        induction l with
        | nil => intro _; rw [okL, fineL]; exact ⟨trivial, trivial⟩
        | cons y r ihl =>
          intro hy
          rw [okL, fineL]
          have h1 := hy y (List.mem_cons_self ..)
          obtain ⟨h2, h3⟩ := ihl fun z hz => hy z (List.mem_cons_of_mem _ hz)
          exact ⟨⟨(fine_is h1).1, h2⟩, h1, h3⟩
      obtain ⟨h1, h2⟩ := hL l hl
      rw [fine, okX]
      exact ⟨⟨⟨by decide, by decide⟩, Nat.zero_le _, Nat.zero_le _, by unfold maxLen; omega, h1⟩, Nat.zero_le _, h2⟩
    cases form_of hr with
    | val v h hn =>
      have hm : v.n ≤ 9223372036854775807 := by simp only [fit, Bool.and_eq_true, decide_eq_true_eq] at hf; exact hf.1
      obtain ⟨h1, h2⟩ := val_ok h hn hm
      rw [fine, okX, okL, fineL]
      exact ⟨⟨h1, by unfold maxLen; omega, Nat.zero_le _, Nat.zero_le _, trivial⟩, Nat.zero_le _, trivial⟩
    | name s h =>
      have h1 := name_size h
      rw [fine, okX, okL, fineL]
      exact ⟨⟨⟨by decide, by decide⟩, Nat.zero_le _, by unfold maxLen; omega, Nat.zero_le _, trivial⟩, by omega, trivial⟩
    | neg a h =>
      have hfa : fit a = true := by simp only [fit, fitL, Bool.and_eq_true] at hf; exact hf.2.1
      have hdy : deep (.mk 3 Vl.no Vl.mt [a]) = max (deep a) 0 + 1 := rfl
      refine ok1 3 [a] (fun y hy => ?_) (by show (1 : Nat) ≤ 3; omega)
      simp only [List.mem_cons, List.not_mem_nil, or_false] at hy
      subst hy
      exact ih _ (by omega) h hfa
    | bin op a b h4 h15 ha hb =>
      have hfx : fit a = true ∧ fit b = true := by simp only [fit, fitL, Bool.and_eq_true] at hf; exact ⟨hf.2.1, hf.2.2.1⟩
      have hdx := deep_bin op a b
      refine ok1 op [a, b] (fun y hy => ?_) (by show (2 : Nat) ≤ 3; omega)
      simp only [List.mem_cons, List.not_mem_nil, or_false] at hy
      rcases hy with rfl | rfl
      · exact ih _ (by omega) ha hfx.1
      · exact ih _ (by omega) hb hfx.2
    | cond a b c ha hb hc =>
      have hfx : fit a = true ∧ fit b = true ∧ fit c = true := by simp only [fit, fitL, Bool.and_eq_true] at hf; exact ⟨hf.2.1, hf.2.2.1, hf.2.2.2.1⟩
      have hdx : deep (.mk 16 Vl.no Vl.mt [a, b, c]) = max (deep a) (max (deep b) (max (deep c) 0)) + 1 := rfl
      refine ok1 16 [a, b, c] (fun y hy => ?_) (by show (3 : Nat) ≤ 3; omega)
      simp only [List.mem_cons, List.not_mem_nil, or_false] at hy
      rcases hy with rfl | rfl | rfl
      · exact ih _ (by omega) ha hfx.1
      · exact ih _ (by omega) hb hfx.2.1
      · exact ih _ (by omega) hc hfx.2.2
/-- what is read of tokens -/
theorem readE_facts {L : List T} (h : ∀ t ∈ L, Lx.right t ∧ t.n ≤ Lx.maxI) : (readE L 0 0).2 ≤ L.length ∧ ∀ x, (readE L 0 0).1 = some x → right x = true ∧ fit x = true ∧ deep x ≤ L.length := by
  have ho := (rd_out (toksOf_right h) (10 * L.length + 8)).1 0 0 (Nat.zero_le _)
  have hd := (rd_deep (toksOf L) (10 * L.length + 8)).1 0 0
  refine ⟨ho.2.1, fun x hx => ?_⟩
  obtain ⟨h1, h2, _⟩ := ho.2.2 x hx
  have h3 := hd x hx
  have h4 := ho.2.1
  exact ⟨h1, h2, by omega⟩
end Sx
end Go.Proofs.YtmkllibfblacfaaDoor
