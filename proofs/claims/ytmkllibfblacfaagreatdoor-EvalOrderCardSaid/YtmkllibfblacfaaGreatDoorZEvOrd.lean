/-
  Layer 16 (plain): what two numbers, or two texts, tell of one another.
-/
import Derived.Test.YtmkllibfblacfaaGreatDoorZEvEval
namespace Go.Proofs.YtmkllibfblacfaaGreatDoor
open Sx (X)
open Vl (V)
def exL2 : List ColV := [⟨⟨#[97]⟩, 0, none, 0, 0⟩, ⟨⟨#[98]⟩, 0, none, 0, 0⟩]
def ordN (c : UInt8) : X := .mk 2 Vl.no ⟨#[c]⟩ []
def ordX (op : Int) : X := .mk op Vl.no Vl.mt [ordN 97, ordN 98]
/-- what each of six ops says -/
def ordL (a b : V) : List Bool := [decide (a = b), !decide (a = b), decide (Vl.cmp a b < 0), decide (Vl.cmp a b ≤ 0), decide (Vl.cmp a b > 0), decide (Vl.cmp a b ≥ 0)]
theorem ord_look : Ev.lookI exL2 ⟨#[97]⟩ = some 0 ∧ Ev.lookI exL2 ⟨#[98]⟩ = some 1 := by decide +kernel
theorem ord_fine (k : Nat) (h : k < 6) : Sx.right (ordX (8 + k)) = true ∧ Sx.fine (ordX (8 + k)) ∧ Sx.deep (ordX (8 + k)) ≤ 1000 := by
  have : k = 0 ∨ k = 1 ∨ k = 2 ∨ k = 3 ∨ k = 4 ∨ k = 5 := by omega
  rcases this with rfl | rfl | rfl | rfl | rfl | rfl <;> exact ⟨by decide +kernel, Sx.fine_right _ _ (Nat.le_refl _) (by decide +kernel) (by decide +kernel), by decide +kernel⟩
theorem ord_ev (k : Nat) (h : k < 6) {a b : V} (hk : a.kind = b.kind) (h1 : a.kind = 1 ∨ a.kind = 2) : Ev.ev (Ev.env exL2 [a, b]) (ordX (8 + k)) = (Ev.truth ((ordL a b).getD k false), 0) := by
  have ea : Ev.env exL2 [a, b] ⟨#[97]⟩ = some a := by unfold Ev.env; rw [ord_look.1]; rfl
  have eb : Ev.env exL2 [a, b] ⟨#[98]⟩ = some b := by unfold Ev.env; rw [ord_look.2]; rfl
  have na : Ev.ev (Ev.env exL2 [a, b]) (ordN 97) = (a, 0) := by
    unfold ordN
    rw [Ev.ev, if_neg (by decide), Ev.evL]
    show (if (0 : Int) = 0 then Ev.told _ _ _ else _) = _
    rw [if_pos rfl, Ev.told, if_neg (by decide)]
    show (if (2 : Int) = 2 then _ else _) = _
    rw [if_pos rfl]
    show (match Ev.env exL2 [a, b] ⟨#[97]⟩ with | some v => (v, (0 : Int)) | none => (Vl.no, 13)) = _
    rw [ea]
  have nb : Ev.ev (Ev.env exL2 [a, b]) (ordN 98) = (b, 0) := by
    unfold ordN
    rw [Ev.ev, if_neg (by decide), Ev.evL]
    show (if (0 : Int) = 0 then Ev.told _ _ _ else _) = _
    rw [if_pos rfl, Ev.told, if_neg (by decide)]
    show (if (2 : Int) = 2 then _ else _) = _
    rw [if_pos rfl]
    show (match Ev.env exL2 [a, b] ⟨#[98]⟩ with | some v => (v, (0 : Int)) | none => (Vl.no, 13)) = _
    rw [eb]
  have hl : Ev.evL (Ev.env exL2 [a, b]) [ordN 97, ordN 98] = ([a, b], 0) := by
    rw [Ev.evL, na, Ev.evL, nb, Ev.evL]; rfl
  have hs : ∀ op : Int, Ev.takes op a.kind = true → Ev.shared op [a, b] = some a.kind := fun op ht => by
    unfold Ev.shared
    have : Ev.shk [a, b] 0 = some a.kind := by
      rw [Ev.shk, if_neg (by omega), if_pos rfl, Ev.shk, if_neg (by omega), if_neg (by omega), if_pos hk, Ev.shk]
    rw [this]
    exact if_pos ht
  have hno : Ev.has [a, b] Vl.no = false := by
    have x1 : ¬ a = Vl.no := fun e => by rw [e] at h1; revert h1; decide
    have x2 : ¬ b = Vl.no := fun e => by rw [hk, e] at h1; revert h1; decide
    simp [Ev.has, x1, x2]
  have hd : Ev.done (8 + k) [a, b] = (Ev.truth ((ordL a b).getD k false), 0) := by
    have : k = 0 ∨ k = 1 ∨ k = 2 ∨ k = 3 ∨ k = 4 ∨ k = 5 := by omega
    rcases this with rfl | rfl | rfl | rfl | rfl | rfl
    all_goals
      unfold Ev.done
      rw [hs _ (by rcases h1 with h | h <;> rw [h] <;> decide)]
      simp [hno, Ev.compared, ordL]
  unfold ordX
  have hk2 : ¬ ((8 : Int) + k) = 16 := by omega
  rw [Ev.ev, if_neg hk2, hl]
  show (if (0 : Int) = 0 then Ev.told _ _ _ else _) = _
  rw [if_pos rfl, Ev.told]
  show (if (8 : Int) + k = 1 then _ else if (8 : Int) + k = 2 then _ else Ev.done (8 + k) [a, b]) = _
  rw [if_neg (by omega), if_neg (by omega), hd]
theorem ord_eval (k : Nat) (h : k < 6) {a b : V} (hk : a.kind = b.kind) (h1 : a.kind = 1 ∨ a.kind = 2) (ha : Vl.right a) (hb : Vl.right b) : Ev.eval exL2 [a, b] (ordX (8 + k)) = (Ev.truth ((ordL a b).getD k false), 0) := by
  have hbad : badRow [a, b] = false := by simp [badRow, ha, hb]
  unfold Ev.eval
  rw [if_pos ⟨(ord_fine k h).1, rfl, hbad⟩, ord_ev k h hk h1]
  exact if_pos rfl
/-- just one of three, and the other three -/
theorem ord_one (a b : V) : ordL a b = [true, false, false, true, false, true] ∨ ordL a b = [false, true, true, true, false, false] ∨ ordL a b = [false, true, false, false, true, true] := by
  have hz : Vl.cmp a b = 0 ↔ a = b := Vl.cmp_zero a b
  unfold ordL
  by_cases h : a = b
  · have h0 := hz.2 h
    rw [h0]
    simp [h]
  · have h0 : ¬ Vl.cmp a b = 0 := fun e => h (hz.1 e)
    rcases Int.lt_or_lt_of_ne h0 with h2 | h2
    · refine .inr (.inl ?_)
      simp [h, h2]; omega
    · refine .inr (.inr ?_)
      simp [h, h2]; omega
end Go.Proofs.YtmkllibfblacfaaGreatDoor
