/-
  Layer 16's laws: EvalOrder: what a round's question leaves.
-/
import Derived.Test.YtmkllibfblacfaaGreatDoorZEvLives
import Derived.Test.YtmkllibfblacfaaGreatDoorZEvOrd
import Derived.Test.YtmkllibfblacfaaGreatDoorPk3
import Derived.Test.YtmkllibfblacfaaGreatDoorPk1
import Derived.BigQuiet
namespace Go.Proofs.YtmkllibfblacfaaGreatDoor
open Go.RowKit Go.Shelf
open Sx (X)
open Vl (V)
attribute [local go_sem] Oper.semAt_some
theorem bool_parts : (Tryz.prog.info? 4).map (fun i => (i.zero, i.size, i.bytes)) = some (some (.bool false), 1, 1) := by kernel_rfl
theorem bool_elem : ElemOk Tryz.prog 4 1 1 := elemOk_of bool_parts rfl (by decide) (by decide)
abbrev fBl (b : Bool) : List Value := [.bool b]
set_option maxRecDepth 100000 in
theorem truthW16_any (b : Bool) (w : World) : Calls Tryz.prog 18 #[.agg #[.int .i64 3, .int .i64 (if b then 1 else 0), .string Vl.mt]] w fun e w' => e = .returned (.bool b) ∧ Below w.heap.size w w' := by
  have hb := (Below.refl w.heap.size w).alloc (Nat.le_refl _) (.cells (valC (Ev.truth b)) 31)
  cases b with
  | true =>
    go_enter Tryz.func18, Tryz.ntmps18
    go_wp2_with fail
    go_ret
    exact ⟨rfl, hb⟩
  | false =>
    go_enter Tryz.func18, Tryz.ntmps18
    go_wp2_with fail
    go_ret
    exact ⟨rfl, hb⟩
/-- how many of three say yes -/
def cntO (L : List Bool) : Nat → Int
  | 0 => 0
  | i + 1 => cntO L i + (if L.getD i false = true ∧ (i = 0 ∨ i = 2 ∨ i = 4) then 1 else 0)
/-- two values, in a new row -/
theorem reads_two16 {w : World} {g : Nat} {a b : V} (hr : RowV w g 31 [.int .i64 a.kind, .int .i64 a.n, .string a.s, .int .i64 b.kind, .int .i64 b.n, .string b.s]) : ReadsV w (some ⟨g, 0, none⟩) [a, b] := fun i hi => by
  have h : i < 2 := hi
  have : i = 0 ∨ i = 1 := by omega
  rcases this with rfl | rfl
  · exact ⟨_, 0, rfl, rowV_cell hr 0, rowV_cell hr 1, rowV_cell hr 2⟩
  · exact ⟨_, 0, rfl, rowV_cell hr 3, rowV_cell hr 4, rowV_cell hr 5⟩
/-- what each operation of a round's question leaves: p8: Eval has answered; p13: its answer is laid down -/
def ordF (p8 p13 : Bool) (B k : Nat) (lv va vb : Value) (a b r : V) : Nat → Value → World → Prop
  | 0, v, _ => v = .int .i64 (8 + (k : Int))
  | 1, v, _ => v = xV (ordN 97) none 0
  | 2, v, _ => v = xV (ordN 98) none 0
  | 3, v, w => ∃ g, v = xV (ordX (8 + k)) (some ⟨g, 0, none⟩) 2 ∧ (p8 = false → XU w (ordX (8 + k)) (some ⟨g, 0, none⟩))
  | 4, v, _ => v = lv
  | 5, v, _ => v = va
  | 6, v, _ => v = vb
  | 7, v, w => ∃ g, v = .slice (some ⟨g, 0, none⟩) 2 2 ∧ (p8 = false → ReadsV w (some ⟨g, 0, none⟩) [a, b])
  | 8, v, _ => v = .tuple #[valV r, .int .i64 0]
  | 9, v, _ => v = .tuple #[valV r, .int .i64 0]
  | 10, v, _ => v = valV r
  | 11, v, _ => v = .int .i64 0
  | 12, v, w => ∃ g, v = .pointer (some ⟨g, 0, none⟩) ∧ B ≤ g ∧ RowV w g 31 (if p13 then (valC r).toList else (valC Vl.no).toList)
  | 14, v, _ => v = .int .i64 0
  | _, _, _ => True
def ordG (k : Nat) (lv va vb : Value) (a b r : V) (w0 : World) (st : Nat → Option Value) (w : World) : Prop :=
  Below w0.heap.size w0 w ∧ (∀ j v, st j = some v → ordF (st 8).isSome (st 13).isSome w0.heap.size k lv va vb a b r j v w) ∧ (st 12 = none → st 13 = none)
section
variable {p8 p13 : Bool} {B k : Nat} {lv va vb : Value} {a b r : V} {w0 w w' : World} {st : Nat → Option Value} {i : Nat} {v : Value}
theorem ordF_up {j : Nat} {u : Value} (hb : Below w.heap.size w w') (h : ordF p8 p13 B k lv va vb a b r j u w) : ordF p8 p13 B k lv va vb a b r j u w' := by
  unfold ordF at h ⊢
  split at h
  all_goals first | exact h | skip
  · obtain ⟨g, e, hx⟩ := h; exact ⟨g, e, fun hp => xu_below (hx hp) hb⟩
  · obtain ⟨g, e, hx⟩ := h; exact ⟨g, e, fun hp => readsV_below16 (hx hp) hb⟩
  · obtain ⟨g, e, hg, hr⟩ := h; exact ⟨g, e, hg, rowV_below hr hb (rowV_lt hr)⟩
theorem ordG_more (h8 : i ≠ 8) (h13 : i ≠ 13) (h : ordG k lv va vb a b r w0 st w) (hb : Below w.heap.size w w') (hv : ordF (st 8).isSome (st 13).isSome w0.heap.size k lv va vb a b r i v w') : ordG k lv va vb a b r w0 (came st i v) w' := by
  refine ⟨h.1.trans (hb.mono h.1.size), fun j u hj => ?_, fun e => ?_⟩
  case refine_2 =>
    rw [came_far (fun e => h13 e.symm)]
    by_cases e12 : 12 = i
    · subst e12; rw [came_at] at e; cases e
    · rw [came_far e12] at e; exact h.2.2 e
  rw [came_far (fun e => h8 e.symm), came_far (fun e => h13 e.symm)]
  by_cases e : j = i
  · subst e; rw [came_at] at hj; cases hj; exact hv
  · rw [came_far e] at hj; exact ordF_up hb (h.2.1 j u hj)
theorem ordG_pure (h8 : i ≠ 8) (h13 : i ≠ 13) (h : ordG k lv va vb a b r w0 st w) (hv : ordF (st 8).isSome (st 13).isSome w0.heap.size k lv va vb a b r i v w) : ordG k lv va vb a b r w0 (came st i v) w := ordG_more h8 h13 h (Below.refl _ _) hv
theorem ordG_eval (h : ordG k lv va vb a b r w0 st w) (hb : Below w.heap.size w w') (hv : v = .tuple #[valV r, .int .i64 0]) : ordG k lv va vb a b r w0 (came st 8 v) w' := by
  refine ⟨h.1.trans (hb.mono h.1.size), fun j u hj => ?_, fun e => by rw [came_far (by decide)] at e ⊢; exact h.2.2 e⟩
  rw [came_at, came_far (show (13 : Nat) ≠ 8 by decide)]
  by_cases e : j = 8
  · subst e; rw [came_at] at hj; cases hj; exact hv
  · rw [came_far e] at hj
    have h2 := ordF_up hb (h.2.1 j u hj)
    unfold ordF at h2 ⊢
    split at h2
    all_goals first | exact h2 | skip
    · obtain ⟨g, e, _⟩ := h2; exact ⟨g, e, fun hp => by cases hp⟩
    · obtain ⟨g, e, _⟩ := h2; exact ⟨g, e, fun hp => by cases hp⟩
theorem ordG_store {g : Nat} (h : ordG k lv va vb a b r w0 st w) (h8 : (st 8).isSome = true) (h12 : st 12 = some (.pointer (some ⟨g, 0, none⟩))) (hB : w0.heap.size ≤ g) (hr : RowV w' g 31 (valC r).toList) (ho : Only (fun j => j = g) w w') : ordG k lv va vb a b r w0 (came st 13 v) w' := by
  refine ⟨h.1.trans (ho.below (fun j _ e => by have e : j = g := e; omega) h.1.size), fun j u hj => ?_, fun e => by rw [came_far (by decide), h12] at e; cases e⟩
  rw [came_at, came_far (show (8 : Nat) ≠ 13 by decide), h8]
  by_cases e : j = 13
  · subst e; trivial
  · rw [came_far e] at hj
    have h2 := h.2.1 j u hj
    by_cases e12 : j = 12
    · subst e12
      rw [h12] at hj
      cases hj
      exact ⟨g, rfl, hB, hr⟩
    · unfold ordF at h2 ⊢
      split at h2
      all_goals first | exact h2 | skip
      · obtain ⟨g, e, _⟩ := h2; exact ⟨g, e, fun hp => by cases hp⟩
      · obtain ⟨g, e, _⟩ := h2; exact ⟨g, e, fun hp => by cases hp⟩
      · exact absurd rfl e12
end
end Go.Proofs.YtmkllibfblacfaaGreatDoor
