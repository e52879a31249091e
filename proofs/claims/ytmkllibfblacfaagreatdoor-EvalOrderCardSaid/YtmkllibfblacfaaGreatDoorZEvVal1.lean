/-
  Layer 16, the program's: where the loop that tells a value stands.
-/
import Derived.Test.YtmkllibfblacfaaGreatDoorZEvTold
import Derived.Test.YtmkllibfblacfaaGreatDoorPk3
namespace Go.Proofs.YtmkllibfblacfaaGreatDoor
open Go.RowKit Go.Shelf
open Sx (X)
open Vl (V)
attribute [local go_sem] Oper.semAt_some
namespace Evw
theorem step_parts16 : (Tryz.prog.info? 124).map (fun i => (i.zero, i.size, i.bytes)) = some (some (.agg #[.pointer none, .int .i64 0]), 2, 16) := by kernel_rfl
theorem step_elem16 : ElemOk Tryz.prog 124 2 16 := elemOk_of step_parts16 rfl (by decide) (by decide)
/-- how many values wait, of steps from the innermost on -/
def cntR : List St14 → Nat → Prop
  | [], n => n = 1
  | t :: r, n => (∀ s ∈ r, 1 ≤ s.d) ∧ (r.map St14.d).sum + t.d = n + r.length
def Cnt (P : List St14) (n : Nat) : Prop := cntR P.reverse n
theorem cnt_snoc {P : List St14} {t : St14} {n : Nat} : Cnt (P ++ [t]) n ↔ (∀ s ∈ P, 1 ≤ s.d) ∧ (P.map St14.d).sum + t.d = n + P.length := by
  unfold Cnt
  rw [List.reverse_append, List.reverse_singleton, List.singleton_append, cntR, List.map_reverse, List.sum_reverse, List.length_reverse]
  simp only [List.mem_reverse]
theorem sum_ge : ∀ (P : List St14), (∀ s ∈ P, 1 ≤ s.d) → P.length ≤ (P.map St14.d).sum
  | [], _ => Nat.le_refl _
  | t :: P, h => by
    have h1 := h t (by simp)
    have h2 := sum_ge P fun s hs => h s (by simp [hs])
    rw [List.map_cons, List.sum_cons, List.length_cons]; omega
theorem sum_le : ∀ (P : List St14), (∀ s ∈ P, s.d ≤ 3) → (P.map St14.d).sum ≤ 3 * P.length
  | [], _ => Nat.le_refl _
  | t :: P, h => by
    have h1 := h t (by simp)
    have h2 := sum_le P fun s hs => h s (by simp [hs])
    rw [List.map_cons, List.sum_cons, List.length_cons]; omega
theorem cnt_room {P : List St14} {t : St14} {n : Nat} (h : Cnt (P ++ [t]) n) : t.d ≤ n := by
  have h1 := cnt_snoc.1 h
  have h2 := sum_ge P h1.1
  omega
theorem cnt_few {P : List St14} {t : St14} {n : Nat} (h : Cnt (P ++ [t]) n) (h3 : ∀ s ∈ P ++ [t], s.d ≤ 3) : n ≤ 3 * (P.length + 1) := by
  have h1 := cnt_snoc.1 h
  have h2 := sum_le P fun s hs => h3 s (by simp [hs])
  have h4 := h3 t (by simp)
  omega
theorem cnt_push {P : List St14} {t t' u : St14} {n : Nat} (h : Cnt (P ++ [t]) n) (ht : t'.d = t.d + 1) (hu : u.d = 0) : Cnt ((P ++ [t']) ++ [u]) n := by
  have h1 := cnt_snoc.1 h
  refine cnt_snoc.2 ⟨fun s hs => ?_, ?_⟩
  · rw [List.mem_append, List.mem_singleton] at hs
    rcases hs with hs | rfl
    · exact h1.1 s hs
    · omega
  · rw [List.map_append, List.sum_append, List.map_cons, List.map_nil, List.sum_cons, List.sum_nil, List.length_append, List.length_singleton]
    omega
theorem cnt_pick {P : List St14} {t u : St14} {n : Nat} (h : Cnt (P ++ [t]) (n + 1)) (ht : t.d = 1) (hu : u.d = 0) : Cnt (P ++ [u]) n := by
  have h1 := cnt_snoc.1 h
  exact cnt_snoc.2 ⟨h1.1, by omega⟩
theorem cnt_pop {P : List St14} {t : St14} {n k : Nat} (h : Cnt (P ++ [t]) n) (hk : n = k + t.d) : Cnt P (k + 1) := by
  have h1 := cnt_snoc.1 h
  rcases List.eq_nil_or_concat P with rfl | ⟨Q, s, rfl⟩
  · have h2 : 0 + t.d = n + 0 := h1.2
    show k + 1 = 1
    omega
  · rw [List.concat_eq_append] at h1 ⊢
    have h2 := h1.2
    rw [List.map_append, List.sum_append, List.map_cons, List.map_nil, List.sum_cons, List.sum_nil, List.length_append, List.length_singleton] at h2
    exact cnt_snoc.2 ⟨fun u hu => h1.1 u (by simp [hu]), by omega⟩
theorem cnt_one (t : St14) (h : t.d = 0) : Cnt [t] 0 := cnt_snoc (P := []).2 ⟨fun s hs => absurd hs List.not_mem_nil, by rw [h]; rfl⟩
theorem cnt_end {n : Nat} (h : Cnt [] n) : n = 1 := h
/-- the way, the innermost first -/
abbrev mach (P : List St14) : List (X × Nat) := P.reverse.map fun t => (t.x, t.d)
theorem mach_snoc (P : List St14) (t : St14) : mach (P ++ [t]) = (t.x, t.d) :: mach P := by unfold mach; rw [List.reverse_append]; rfl
section
variable {E : Ev.Env} {f : Nat} {P : List St14} {t : St14} {Vs : List V} {Rz : V × Int}
theorem run_none (h : Ev.mrun E 0 (mach (P ++ [t])) Vs.reverse = some Rz) : False := by
  rw [mach_snoc, Ev.mrun] at h; cases h
theorem run_end {v : V} (h : Ev.mrun E f (mach []) [v].reverse = some Rz) : Rz = (v, 0) := by
  have e : Ev.mrun E f [] [v] = some (v, 0) := by cases f <;> rw [Ev.mrun] <;> rfl
  exact Option.some.inj (h.symm.trans e)
theorem run_if {v : V} (h : Ev.mrun E (f + 1) (mach (P ++ [t])) (Vs ++ [v]).reverse = some Rz) (h16 : t.x.op = 16) (hd : 0 < t.d) :
    (Ev.shared 16 [v] = none → Rz = (Vl.no, 14)) ∧ (Ev.shared 16 [v] ≠ none → ∀ u : St14, u.x = t.x.l.getD (Ev.pick v) Sx.no → u.d = 0 → Ev.mrun E f (mach (P ++ [u])) Vs.reverse = some Rz) := by
  rw [mach_snoc, Ev.mrun, if_pos ⟨h16, hd⟩, List.reverse_append, List.reverse_singleton, List.singleton_append] at h
  rw [Ev.headD_cons] at h
  refine ⟨fun h2 => ?_, fun h2 u hu hd0 => ?_⟩
  · rw [if_pos h2] at h
    exact (Option.some.inj h).symm
  · rw [if_neg h2] at h
    rw [mach_snoc, hu, hd0]
    exact h
theorem run_push (h : Ev.mrun E (f + 1) (mach (P ++ [t])) Vs.reverse = some Rz) (h16 : ¬ (t.x.op = 16 ∧ 0 < t.d)) (hd : t.d < t.x.l.length) (t' u : St14) (h1 : t'.x = t.x) (h2 : t'.d = t.d + 1) (h3 : u.x = t.x.l[t.d]) (h4 : u.d = 0) :
    Ev.mrun E f (mach ((P ++ [t']) ++ [u])) Vs.reverse = some Rz := by
  rw [mach_snoc, Ev.mrun, if_neg h16, dif_pos hd] at h
  rw [mach_snoc, mach_snoc, h1, h2, h3, h4]
  exact h
theorem run_told {A B : List V} (h : Ev.mrun E (f + 1) (mach (P ++ [t])) (A ++ B).reverse = some Rz) (h16 : ¬ (t.x.op = 16 ∧ 0 < t.d)) (hd : ¬ t.d < t.x.l.length) (hB : B.length = t.x.l.length) :
    ((Ev.told E t.x B).2 = 0 → Ev.mrun E f (mach P) (A ++ [(Ev.told E t.x B).1]).reverse = some Rz) ∧ ((Ev.told E t.x B).2 ≠ 0 → Rz = (Vl.no, (Ev.told E t.x B).2)) := by
  have hl : B.reverse.length = t.x.l.length := by rw [List.length_reverse, hB]
  rw [mach_snoc, Ev.mrun, if_neg h16, dif_neg hd, List.reverse_append, ← hl, List.take_left, List.drop_left, List.reverse_reverse] at h
  refine ⟨fun h2 => ?_, fun h2 => ?_⟩
  · rw [if_pos h2] at h
    rw [List.reverse_append]
    exact h
  · rw [if_neg h2] at h
    exact (Option.some.inj h).symm
end
theorem fit_num {r : Int × Int} (h : r.2 = 0 → Ev.in64 r.1) (h0 : (Ev.num r).2 = 0) : Fit16 (Ev.num r).1 := by
  unfold Ev.num at h0 ⊢
  by_cases c : r.2 = 0
  · rw [if_pos c]; exact ⟨h c, Nat.zero_le _⟩
  · rw [if_neg c] at h0; exact absurd h0 c
theorem fit_no : Fit16 Vl.no := ⟨by decide, Nat.zero_le _⟩
theorem fit_truth (b : Bool) : Fit16 (Ev.truth b) := by cases b <;> exact ⟨by decide, Nat.zero_le _⟩
theorem in64_if {n : Int} (h : (if Ev.in64 n then (n, (0 : Int)) else (0, 15)).2 = 0) : Ev.in64 (if Ev.in64 n then (n, (0 : Int)) else (0, 15)).1 := by
  by_cases c : Ev.in64 n
  · rw [if_pos c]; exact c
  · rw [if_neg c] at h; exact absurd h (by decide)
theorem in64_reck (op a b : Int) (h : (Ev.reck op a b).2 = 0) : Ev.in64 (Ev.reck op a b).1 := by
  unfold Ev.reck at h ⊢
  by_cases c4 : op = 4
  · rw [if_pos c4] at h ⊢; exact in64_if h
  rw [if_neg c4] at h ⊢
  by_cases c5 : op = 5
  · rw [if_pos c5] at h ⊢; exact in64_if h
  rw [if_neg c5] at h ⊢
  by_cases c6 : op = 6
  · rw [if_pos c6] at h ⊢; exact in64_if h
  rw [if_neg c6] at h ⊢
  by_cases c7 : op = 7
  · rw [if_pos c7] at h ⊢
    unfold Ev.div at h ⊢
    by_cases c : b = 0
    · rw [if_pos c] at h; exact absurd h (by decide)
    · rw [if_neg c] at h ⊢; exact in64_if h
  · rw [if_neg c7]; decide
theorem fit_decided (b : Bool) (l : List V) : Fit16 (Ev.decided b l) := by
  unfold Ev.decided
  split
  · exact fit_truth _
  · split
    · exact fit_no
    · exact fit_truth _
theorem fit_compared (op n : Int) : Fit16 (Ev.compared op n) := by
  unfold Ev.compared
  split
  · exact fit_truth _
  · split
    · exact fit_truth _
    · split <;> exact fit_truth _
theorem fit_joined (a b : ByteArray) (h : (Ev.joined a b).2 = 0) : Fit16 (Ev.joined a b).1 := by
  unfold Ev.joined at h ⊢
  by_cases c : 40 < a.size + b.size
  · rw [if_pos c] at h; exact absurd h (by decide)
  · rw [if_neg c]
    exact ⟨show Ev.in64 0 by decide, by show (a ++ b).size ≤ _; rw [ByteArray.size_append]; omega⟩
theorem fit_done (op : Int) (l : List V) (h : (Ev.done op l).2 = 0) : Fit16 (Ev.done op l).1 := by
  cases hs : Ev.shared op l with
  | none => rw [Ev.done_none hs] at h; exact absurd h (by decide)
  | some k =>
    rw [Ev.done_some hs] at h ⊢
    unfold Ev.doneK at h ⊢
    split
    · exact fit_truth _
    · rename_i h1; rw [if_neg h1] at h
      split
      · exact fit_truth _
      · rename_i h1; rw [if_neg h1] at h
        split
        · exact fit_decided _ _
        · rename_i h1; rw [if_neg h1] at h
          split
          · exact fit_decided _ _
          · rename_i h1; rw [if_neg h1] at h
            split
            · exact fit_no
            · rename_i h1; rw [if_neg h1] at h
              split
              · rename_i h1; rw [if_pos h1] at h
                exact fit_num (in64_reck _ _ _) h
              · rename_i h1; rw [if_neg h1] at h
                split
                · exact fit_compared _ _
                · rename_i h1; rw [if_neg h1] at h
                  split
                  · rename_i h1; rw [if_pos h1] at h
                    exact fit_joined _ _ h
                  · rename_i h1; rw [if_neg h1] at h
                    exact fit_num (in64_reck _ _ _) h
theorem fit_told {E : Ev.Env} (hE : ∀ s v, E s = some v → Fit16 v) (x : X) (hx : x.op = 1 → Fit16 x.v) (l : List V) (h : (Ev.told E x l).2 = 0) : Fit16 (Ev.told E x l).1 := by
  unfold Ev.told at h ⊢
  by_cases c1 : x.op = 1
  · rw [if_pos c1]; exact hx c1
  · rw [if_neg c1] at h ⊢
    by_cases c2 : x.op = 2
    · rw [if_pos c2] at h ⊢
      cases hs : E x.s with
      | none => rw [hs] at h; exact absurd h (by show ¬ (13 : Int) = 0; decide)
      | some v => exact hE _ _ hs
    · rw [if_neg c2] at h ⊢
      exact fit_done _ _ h
end Evw
end Go.Proofs.YtmkllibfblacfaaGreatDoor
