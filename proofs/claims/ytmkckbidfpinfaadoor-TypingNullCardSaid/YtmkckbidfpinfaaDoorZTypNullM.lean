/-
  Layer 15 (plain): the kind of an expression with a value in place of null.
-/
import Derived.Test.YtmkckbidfpinfaaDoorZTypWith
namespace Go.Proofs.YtmkckbidfpinfaaDoor
open Go.RowKit
open Sx (X)
set_option linter.unusedVariables false
namespace Ty
theorem withX_eq (y x : X) : withX y x = if x.op = 1 ∧ x.v = Vl.no then y else .mk x.op x.v x.s (x.l.map (withX y)) := by
  obtain ⟨o, v, s, l⟩ := x
  rw [withX, withL_map]; rfl
/-- kinds of parts, pointwise -/
def RelL (k : Int) : List Int → List Int → Prop
  | [], [] => True
  | a :: r, b :: t => Rel k a b ∧ RelL k r t
  | _, _ => False
theorem relL_getD {k : Int} : ∀ {p q : List Int}, RelL k p q → ∀ i, Rel k (p.getD i 0) (q.getD i 0)
  | [], [], _, i => .inl rfl
  | a :: r, b :: t, h, 0 => h.1
  | a :: r, b :: t, h, i + 1 => relL_getD h.2 i
  | [], _ :: _, h, _ => h.elim
  | _ :: _, [], h, _ => h.elim
theorem relL_len {k : Int} : ∀ {p q : List Int}, RelL k p q → p.length = q.length
  | [], [], _ => rfl
  | a :: r, b :: t, h => by rw [List.length_cons, List.length_cons, relL_len h.2]
  | [], _ :: _, h => h.elim
  | _ :: _, [], h => h.elim
theorem fits_iff {a b : Int} : fits a b = true ↔ a = b ∨ a = 0 ∨ b = 0 := by
  unfold fits
  simp only [Bool.or_eq_true, decide_eq_true_eq]
/-- texts among the kinds stay texts -/
theorem all_two {k : Int} : ∀ {p q : List Int}, RelL k p q → all 1 p = false → all 2 p = true → all 1 q = false
  | [], [], _, h1, _ => by cases h1
  | a :: r, b :: t, h, h1, h2 => by
    unfold all at h1 h2 ⊢
    rw [List.all_cons] at h1 h2 ⊢
    rw [Bool.and_eq_true] at h2
    rw [Bool.and_eq_false_iff] at h1 ⊢
    rcases h1 with h1 | h1
    · left
      have h3 := fits_iff.1 h2.1
      have h4 : ¬ (a = 1 ∨ a = 0 ∨ (1 : Int) = 0) := fun e => by rw [fits_iff.2 e] at h1; cases h1
      have ha : a = 2 := by omega
      have hb : b = 2 := by
        rcases h.1 with e | ⟨e, _⟩ | ⟨e, _⟩
        · omega
        · omega
        · omega
      cases hf : fits b 1 with
      | false => rfl
      | true => have := fits_iff.1 hf; omega
    · exact .inr (all_two h.2 h1 h2.2)
  | [], _ :: _, h, _, _ => h.elim
  | _ :: _, [], h, _, _ => h.elim
theorem result_rel {k op : Int} {p q : List Int} (h : RelL k p q) (h1 : (result op p).2 = true) (h2 : (result op q).2 = true) : Rel k (result op p).1 (result op q).1 := by
  unfold result at h1 h2 ⊢
  by_cases c4 : op = 4
  · simp only [if_pos c4] at h1 h2 ⊢
    by_cases a1 : all 1 p = true
    · rw [if_pos a1] at h1 ⊢
      by_cases b1 : all 1 q = true
      · rw [if_pos b1]; exact .inl rfl
      · rw [if_neg b1]; exact .inr (.inr ⟨rfl, rfl⟩)
    · rw [if_neg a1] at h1 ⊢
      have := all_two h (by rw [Bool.not_eq_true] at a1; exact a1) h1
      rw [if_neg (by rw [this]; exact Bool.false_ne_true)]
      exact .inl rfl
  · simp only [if_neg c4] at h1 h2 ⊢
    by_cases c8 : op = 8 ∨ op = 9
    · simp only [if_pos c8]; exact .inl rfl
    · simp only [if_neg c8] at h1 h2 ⊢
      by_cases c10 : op = 10 ∨ op = 11 ∨ op = 12 ∨ op = 13
      · simp only [if_pos c10]; exact .inl rfl
      · simp only [if_neg c10] at h1 h2 ⊢
        by_cases c14 : op = 14 ∨ op = 15
        · simp only [if_pos c14]; exact .inl rfl
        · simp only [if_neg c14] at h1 h2 ⊢
          by_cases c16 : op = 16
          · simp only [if_pos c16] at h1 h2 ⊢
            have r1 := relL_getD h 1
            have r2 := relL_getD h 2
            rw [Bool.and_eq_true] at h1 h2
            have f1 := fits_iff.1 h1.2
            have f2 := fits_iff.1 h2.2
            generalize p.getD 1 0 = a1 at *
            generalize p.getD 2 0 = a2 at *
            generalize q.getD 1 0 = b1 at *
            generalize q.getD 2 0 = b2 at *
            unfold some2
            unfold Rel at r1 r2 ⊢
            split <;> split <;> omega
          · simp only [if_neg c16]; exact .inl rfl
/-- what becomes of a kind and an error -/
def Nul (k : Int) (p q : Int × Int) : Prop := (p.2 = 13 → q.2 = 13 ∨ q.2 = 14) ∧ (p.2 = 0 → q.2 = 14 ∨ (q.2 = 0 ∧ Rel k p.1 q.1))
theorem own_nul {cs : List Col} {k : Int} {x : X} {l : List X} {p q : List Int} (h : RelL k p q) : Nul k (own cs x p) (own cs (.mk x.op x.v x.s l) q) := by
  unfold own
  show Nul k _ (if x.op = 1 then (x.v.kind, (0 : Int)) else if x.op = 2 then (match look cs x.s with | some k => (k, (0 : Int)) | none => ((0 : Int), (13 : Int))) else if (result x.op q).2 = true then ((result x.op q).1, (0 : Int)) else ((0 : Int), (14 : Int)))
  by_cases c1 : x.op = 1
  · rw [if_pos c1, if_pos c1]
    exact ⟨fun e => (by cases e), fun _ => .inr ⟨rfl, .inl rfl⟩⟩
  · rw [if_neg c1, if_neg c1]
    by_cases c2 : x.op = 2
    · rw [if_pos c2, if_pos c2]
      cases look cs x.s with
      | some j => exact ⟨fun e => (by cases e), fun _ => .inr ⟨rfl, .inl rfl⟩⟩
      | none => exact ⟨fun _ => .inl rfl, fun e => by cases e⟩
    · rw [if_neg c2, if_neg c2]
      by_cases h1 : (result x.op p).2 = true
      · rw [if_pos h1]
        by_cases h2 : (result x.op q).2 = true
        · rw [if_pos h2]
          exact ⟨fun e => (by cases e), fun _ => .inr ⟨rfl, result_rel h h1 h2⟩⟩
        · rw [if_neg h2]
          exact ⟨fun e => (by cases e), fun _ => .inl rfl⟩
      · rw [if_neg h1]
        exact ⟨fun e => (by cases e), fun e => by cases e⟩
/-- of a list of parts -/
def NulL (k : Int) (p q : List Int × Int) : Prop := (p.2 = 13 → q.2 = 13 ∨ q.2 = 14) ∧ (p.2 = 0 → q.2 = 14 ∨ (q.2 = 0 ∧ RelL k p.1 q.1))
mutual
theorem kd_nul (cs : List Col) (y : X) (k : Int) (hy : kd cs y = (k, 0)) : ∀ x, Sx.right x = true → Nul k (kd cs x) (kd cs (withX y x))
  | .mk o v s l, hr => by
    obtain ⟨hrl, hl1⟩ := right_sub hr
    rw [withX]
    by_cases hn : o = 1 ∧ v = Vl.no
    · rw [if_pos hn, hy]
      have hx : kd cs (.mk o v s l) = if (kdL cs l).2 = 0 then own cs (.mk o v s l) (kdL cs l).1 else (0, (kdL cs l).2) := kd_eq cs _
      rw [hx]
      refine ⟨fun h => ?_, fun h => .inr ⟨rfl, ?_⟩⟩
      · have hl := hl1 hn.1
        subst hl
        rw [kdL] at h
        have e : own cs (.mk o v s []) [] = (v.kind, 0) := if_pos hn.1
        rw [if_pos rfl, e] at h
        cases h
      · by_cases h0 : (kdL cs l).2 = 0
        · rw [if_pos h0]
          have e : own cs (.mk o v s l) (kdL cs l).1 = (v.kind, 0) := if_pos hn.1
          rw [e, hn.2]
          exact .inr (.inl ⟨rfl, rfl⟩)
        · rw [if_neg h0] at h
          exact absurd h h0
    · rw [if_neg hn, kd, kd]
      have ih := kdL_nul cs y k hy l hrl
      by_cases h0 : (kdL cs l).2 = 0
      · rw [if_pos h0]
        rcases ih.2 h0 with h1 | ⟨h1, h2⟩
        · rw [if_neg (by rw [h1]; decide), h1]
          refine ⟨fun _ => .inr rfl, fun _ => .inl rfl⟩
        · rw [if_pos h1]
          exact own_nul (x := .mk o v s l) h2
      · rw [if_neg h0]
        refine ⟨fun h => ?_, fun h => absurd h h0⟩
        rcases ih.1 h with h1 | h1
        · rw [if_neg (by rw [h1]; decide)]; exact .inl h1
        · rw [if_neg (by rw [h1]; decide)]; exact .inr h1
theorem kdL_nul (cs : List Col) (y : X) (k : Int) (hy : kd cs y = (k, 0)) : ∀ l, Sx.rightL l = true → NulL k (kdL cs l) (kdL cs (withL y l))
  | [], _ => by rw [withL]; exact ⟨fun e => (by cases e), fun _ => .inr ⟨rfl, trivial⟩⟩
  | x :: r, hr => by
    rw [Sx.rightL, Bool.and_eq_true] at hr
    rw [withL, kdL, kdL]
    have h1 := kd_nul cs y k hy x hr.1
    have h2 := kdL_nul cs y k hy r hr.2
    by_cases a1 : (kd cs x).2 = 0
    · rw [if_pos a1]
      rcases h1.2 a1 with e | ⟨e, hr⟩
      · have e3 : (if (kd cs (withX y x)).2 = 0 then (if (kdL cs (withL y r)).2 = 0 then ((kd cs (withX y x)).1 :: (kdL cs (withL y r)).1, (0 : Int)) else ([], (kdL cs (withL y r)).2)) else ([], (kd cs (withX y x)).2)) = ([], 14) := by rw [if_neg (by rw [e]; decide), e]
        rw [e3]
        exact ⟨fun _ => .inr rfl, fun _ => .inl rfl⟩
      · rw [if_pos e]
        by_cases a2 : (kdL cs r).2 = 0
        · rw [if_pos a2]
          rcases h2.2 a2 with e2 | ⟨e2, hr2⟩
          · rw [if_neg (by rw [e2]; decide)]
            exact ⟨fun _ => .inr e2, fun _ => .inl e2⟩
          · rw [if_pos e2]
            exact ⟨fun h => (by cases h), fun _ => .inr ⟨rfl, hr, hr2⟩⟩
        · rw [if_neg a2]
          refine ⟨fun h => ?_, fun h => absurd h a2⟩
          rcases h2.1 h with e2 | e2
          · rw [if_neg (by rw [e2]; decide)]; exact .inl e2
          · rw [if_neg (by rw [e2]; decide)]; exact .inr e2
    · rw [if_neg a1]
      refine ⟨fun h => ?_, fun h => absurd h a1⟩
      rcases h1.1 h with e | e
      · rw [if_neg (by rw [e]; decide)]; exact .inl e
      · rw [if_neg (by rw [e]; decide)]; exact .inr e
end
theorem withL_len (y : X) (l : List X) : (withL y l).length = l.length := by rw [withL_map, List.length_map]
mutual
theorem right_with {y : X} (hy : Sx.right y = true) : ∀ x, Sx.right x = true → Sx.right (withX y x) = true
  | .mk o v s l, hr => by
    rw [withX]
    by_cases hn : o = 1 ∧ v = Vl.no
    · rw [if_pos hn]; exact hy
    · rw [if_neg hn]
      have hL := rightL_with hy l (right_sub hr).1
      rw [Sx.right] at hr ⊢
      rw [withL_len]
      rw [Bool.and_eq_true] at hr ⊢
      refine ⟨hr.1, ?_⟩
      have h2 := hr.2
      by_cases c1 : o = 1
      · rw [if_pos c1] at h2 ⊢; exact h2
      · rw [if_neg c1] at h2 ⊢
        by_cases c2 : o = 2
        · rw [if_pos c2] at h2 ⊢; exact h2
        · rw [if_neg c2] at h2 ⊢
          rw [Bool.and_eq_true] at h2 ⊢
          exact ⟨hL, h2.2⟩
theorem rightL_with {y : X} (hy : Sx.right y = true) : ∀ l, Sx.rightL l = true → Sx.rightL (withL y l) = true
  | [], h => by rw [withL]; exact h
  | x :: r, h => by
    rw [Sx.rightL, Bool.and_eq_true] at h
    rw [withL, Sx.rightL, Bool.and_eq_true]
    exact ⟨right_with hy x h.1, rightL_with hy r h.2⟩
end
mutual
theorem fine_with {y : X} (hy : Sx.fine y) : ∀ x, Sx.fine x → Sx.fine (withX y x)
  | .mk o v s l, h => by
    rw [withX]
    by_cases hn : o = 1 ∧ v = Vl.no
    · rw [if_pos hn]; exact hy
    · rw [if_neg hn]
      rw [Sx.fine] at h ⊢
      have hL := fineL_with hy l h.2.2
      refine ⟨?_, h.2.1, hL⟩
      have hk := h.1
      rw [Sx.okX] at hk ⊢
      refine ⟨hk.1, hk.2.1, hk.2.2.1, by rw [withL_len]; exact hk.2.2.2.1, ?_⟩
      exact fineL_ok _ hL
theorem fineL_with {y : X} (hy : Sx.fine y) : ∀ l, Sx.fineL l → Sx.fineL (withL y l)
  | [], h => by rw [withL]; exact h
  | x :: r, h => by
    rw [Sx.fineL] at h
    rw [withL, Sx.fineL]
    exact ⟨fine_with hy x h.1, fineL_with hy r h.2⟩
theorem fineL_ok : ∀ l, Sx.fineL l → Sx.okL l
  | [], _ => by rw [Sx.okL]; trivial
  | x :: r, h => by
    rw [Sx.fineL] at h
    rw [Sx.okL]
    exact ⟨(Sx.fine_is h.1).1, fineL_ok r h.2⟩
end
mutual
theorem deep_with {y : X} (hy : Sx.deep y ≤ 1) : ∀ x, Sx.deep (withX y x) ≤ Sx.deep x
  | .mk o v s l => by
    rw [withX]
    by_cases hn : o = 1 ∧ v = Vl.no
    · rw [if_pos hn, Sx.deep]; omega
    · rw [if_neg hn, Sx.deep, Sx.deep]
      have := deepL_with hy l
      omega
theorem deepL_with {y : X} (hy : Sx.deep y ≤ 1) : ∀ l, Sx.deepL (withL y l) ≤ Sx.deepL l
  | [] => by rw [withL]; exact Nat.le_refl _
  | x :: r => by
    rw [withL, Sx.deepL, Sx.deepL]
    have h1 := deep_with hy x
    have h2 := deepL_with hy r
    omega
end
mutual
theorem up_size : ∀ x : X, (up x).length = Sx.size x
  | .mk o v s l => by rw [up, List.length_append, upL_size l, Sx.size, List.length_singleton]; omega
theorem upL_size : ∀ l : List X, (upL l).length = Sx.sizeL l
  | [] => rfl
  | x :: r => by rw [upL, List.length_append, up_size x, upL_size r, Sx.sizeL]
end
mutual
theorem size_with {y : X} (hy : Sx.size y = 1) : ∀ x, Sx.size (withX y x) ≤ Sx.size x
  | .mk o v s l => by
    rw [withX]
    by_cases hn : o = 1 ∧ v = Vl.no
    · rw [if_pos hn, Sx.size]; omega
    · rw [if_neg hn, Sx.size, Sx.size]
      have := sizeL_with hy l
      omega
theorem sizeL_with {y : X} (hy : Sx.size y = 1) : ∀ l, Sx.sizeL (withL y l) ≤ Sx.sizeL l
  | [] => by rw [withL]; exact Nat.le_refl _
  | x :: r => by
    rw [withL, Sx.sizeL, Sx.sizeL]
    have h1 := size_with hy x
    have h2 := sizeL_with hy r
    omega
end
end Ty
end Go.Proofs.YtmkckbidfpinfaaDoor
