/-
  Layer 16 (plain): products bit by bit, quotients and rests within 64 bits.
-/
import Derived.Test.YtmkllibfblacfaaGreatDoorZEvNum
namespace Go.Proofs.YtmkllibfblacfaaGreatDoor
open Go.RowKit
namespace Ev
/-- c lies between 0 and b -/
def Betw (c b : Int) : Prop := (0 ≤ c ∧ c ≤ b) ∨ (b ≤ c ∧ c ≤ 0)
theorem betw_mul {b c : Int} (a : Int) (hc : Betw c b) : Betw (a * c) (a * b) := by
  have key : ∀ a : Int, 0 ≤ a → Betw (a * c) (a * b) := fun a ha => by
    rcases hc with ⟨h1, h2⟩ | ⟨h1, h2⟩
    · exact .inl ⟨Int.mul_nonneg ha h1, Int.mul_le_mul_of_nonneg_left h2 ha⟩
    · refine .inr ⟨Int.mul_le_mul_of_nonneg_left h1 ha, ?_⟩
      have := Int.mul_le_mul_of_nonneg_left h2 ha
      rw [Int.mul_zero] at this; exact this
  rcases Int.le_total 0 a with ha | ha
  · exact key a ha
  · have h := key (-a) (by omega)
    rw [Int.neg_mul, Int.neg_mul] at h
    unfold Betw at h ⊢; omega
theorem in64_betw {c b : Int} (hc : Betw c b) (h : in64 b) : in64 c := by unfold Betw in64 at *; omega
def Q (b : Int) (k : Nat) : Int := b.tdiv (2 ^ k)
theorem q_half (b : Int) (k : Nat) : (Q b k).tdiv 2 = Q b (k + 1) := by
  have key : ∀ b : Int, 0 ≤ b → (Q b k).tdiv 2 = Q b (k + 1) := fun b hb => by
    have hp : (0 : Int) < 2 ^ k := Int.pow_pos (by decide)
    unfold Q
    rw [Int.tdiv_eq_ediv_of_nonneg hb, Int.tdiv_eq_ediv_of_nonneg (Int.ediv_nonneg hb (by omega)), Int.tdiv_eq_ediv_of_nonneg hb, Int.ediv_ediv_of_nonneg (by omega), Int.pow_succ]
  rcases Int.le_total 0 b with hb | hb
  · exact key b hb
  · have h := key (-b) (by omega)
    unfold Q at h ⊢
    rw [Int.neg_tdiv, Int.neg_tdiv, Int.neg_tdiv] at h
    omega
theorem q_step (b : Int) (k : Nat) : Q b k = 2 * Q b (k + 1) + (Q b k).tmod 2 := by
  have h := Int.mul_tdiv_add_tmod (Q b k) 2
  rw [q_half] at h; omega
theorem q_zero (b : Int) : Q b 0 = b := by unfold Q; rw [Int.pow_zero, Int.tdiv_one]
theorem q_betw (b : Int) (k : Nat) : Betw (Q b k) b := by
  have key : ∀ b : Int, 0 ≤ b → 0 ≤ Q b k ∧ Q b k ≤ b := fun b hb => ⟨Int.tdiv_nonneg hb (Int.le_of_lt (Int.pow_pos (by decide))), Int.tdiv_le_self _ hb⟩
  rcases Int.le_total 0 b with hb | hb
  · exact .inl (key b hb)
  · have h := key (-b) (by omega)
    unfold Q at h ⊢
    rw [Int.neg_tdiv] at h
    unfold Betw; omega
theorem q_sign (b : Int) (k : Nat) : (0 ≤ b → 0 ≤ Q b k) ∧ (b ≤ 0 → Q b k ≤ 0) := by
  have := q_betw b k
  unfold Betw at this; omega
theorem q_twice (b : Int) (k : Nat) : Betw (2 * Q b (k + 1)) b := by
  have h1 := q_betw b k
  have h2 := q_sign b (k + 1)
  have h3 := q_step b k
  have h4 : (0 ≤ b → 0 ≤ (Q b k).tmod 2) ∧ (b ≤ 0 → (Q b k).tmod 2 ≤ 0) := by
    have key : ∀ q : Int, 0 ≤ q → 0 ≤ q.tmod 2 := fun q hq => Int.tmod_nonneg 2 hq
    refine ⟨fun hb => key _ ((q_sign b k).1 hb), fun hb => ?_⟩
    have := key (-(Q b k)) (by have := (q_sign b k).2 hb; omega)
    rw [Int.neg_tmod] at this; omega
  unfold Betw at *
  omega
theorem q_top {b : Int} (h : in64 b) (hb : b ≠ -9223372036854775808) : Q b 63 = 0 := by
  have key : ∀ b : Int, 0 ≤ b → b ≤ 9223372036854775807 → Q b 63 = 0 := fun b hb h => by
    unfold Q
    rw [Int.tdiv_eq_ediv_of_nonneg hb]
    show b / 9223372036854775808 = 0
    omega
  unfold in64 at h
  rcases Int.le_total 0 b with h0 | h0
  · exact key b h0 h.2
  · have h := key (-b) (by omega) (by omega)
    unfold Q at h ⊢
    rw [Int.neg_tdiv] at h; omega
/-- the sum after the bits from K on: twice it, and one more, or an error -/
theorem mul_twice (a b : Int) (k : Nat) : (in64 (a * Q b (k + 1) + a * Q b (k + 1)) ∧ add (a * Q b (k + 1)) (a * Q b (k + 1)) = (a * Q b (k + 1) + a * Q b (k + 1), 0)) ∨ (add (a * Q b (k + 1)) (a * Q b (k + 1)) = (0, 15) ∧ mul a b = (0, 15)) := by
  have h := betw_mul a (q_twice b k)
  rw [show a * (2 * Q b (k + 1)) = a * Q b (k + 1) + a * Q b (k + 1) by rw [Int.mul_left_comm]; omega] at h
  unfold add mul
  by_cases h1 : in64 (a * Q b (k + 1) + a * Q b (k + 1))
  · exact .inl ⟨h1, if_pos h1⟩
  · exact .inr ⟨if_neg h1, if_neg fun h2 => h1 (in64_betw h h2)⟩
theorem mul_next (a b : Int) (k : Nat) : (in64 (a * Q b k)) ∨ (¬ in64 (a * Q b k) ∧ mul a b = (0, 15)) := by
  by_cases h1 : in64 (a * Q b k)
  · exact .inl h1
  · exact .inr ⟨h1, if_neg fun h2 => h1 (in64_betw (betw_mul a (q_betw b k)) h2)⟩
theorem mul_one {a b : Int} {k : Nat} (h : (Q b k).tmod 2 = 1) : a * Q b (k + 1) + a * Q b (k + 1) + a = a * Q b k := by
  have h3 := q_step b k
  rw [h] at h3
  rw [h3, Int.mul_add, Int.mul_left_comm]; omega
theorem mul_less {a b : Int} {k : Nat} (h : (Q b k).tmod 2 = -1) : a * Q b (k + 1) + a * Q b (k + 1) - a = a * Q b k := by
  have h3 := q_step b k
  rw [h] at h3
  rw [h3, Int.mul_add, Int.mul_left_comm]; omega
theorem mul_same {a b : Int} {k : Nat} (h : (Q b k).tmod 2 = 0) : a * Q b (k + 1) + a * Q b (k + 1) = a * Q b k := by
  have h3 := q_step b k
  rw [h] at h3
  rw [h3, Int.mul_add, Int.mul_left_comm]; omega
/-- a number times the least one -/
theorem mul_least {a : Int} (ha : in64 a) (h0 : a ≠ 0) : mul a (-9223372036854775808) = if a = 1 then (-9223372036854775808, 0) else (0, 15) := by
  unfold mul
  unfold in64 at ha
  by_cases h : a = 1
  · subst h; decide
  · rw [if_neg h, if_neg]; unfold in64; omega
theorem mul_comm (a b : Int) : mul a b = mul b a := by unfold mul; rw [Int.mul_comm]
theorem add_comm (a b : Int) : add a b = add b a := by unfold add; rw [Int.add_comm]
theorem div_out {a b : Int} (ha : in64 a) (h : (div a b).2 ≠ 0) : (div a b = (0, 16) ∧ b = 0) ∨ (div a b = (0, 15) ∧ b = -1) := by
  unfold div at h ⊢
  by_cases h0 : b = 0
  · exact .inl ⟨if_pos h0, h0⟩
  · rw [if_neg h0] at h ⊢
    by_cases h1 : in64 (a.tdiv b)
    · rw [if_pos h1] at h; exact absurd rfl h
    · refine .inr ⟨if_neg h1, ?_⟩
      by_cases hm : b.natAbs = 1
      · have : b = 1 ∨ b = -1 := by omega
        rcases this with rfl | rfl
        · rw [Int.tdiv_one] at h1; exact absurd ha h1
        · rfl
      · exfalso
        apply h1
        have h4 : (a.tdiv b).natAbs = a.natAbs / b.natAbs := Int.natAbs_tdiv a b
        have h5 : a.natAbs / b.natAbs ≤ a.natAbs / 2 := Nat.div_le_div_left (by omega) (by omega)
        unfold in64 at ha ⊢
        omega
/-- a quotient times the divisor, and the rest -/
theorem div_in {a b : Int} (ha : in64 a) (hb : in64 b) (h : (div a b).2 = 0) : div a b = (a.tdiv b, 0) ∧ b ≠ 0 ∧ mul (a.tdiv b) b = (a - a.tmod b, 0) ∧ sub a (a - a.tmod b) = (a.tmod b, 0) ∧ (a.tmod b = 0 ∨ (0 < a.tmod b ↔ 0 < a)) ∧ ((0 < b ∧ a.tmod b < b ∧ -(a.tmod b) < b) ∨ (b < 0 ∧ b < a.tmod b ∧ b < -(a.tmod b))) ∧ in64 (a.tdiv b) ∧ in64 (a - a.tmod b) ∧ in64 (a.tmod b) ∧ in64 (-(a.tmod b)) := by
  unfold div at h ⊢
  by_cases h0 : b = 0
  · rw [if_pos h0] at h; cases h
  rw [if_neg h0] at h ⊢
  by_cases h1 : in64 (a.tdiv b)
  · have hm := Int.mul_tdiv_add_tmod a b
    have hr : (a.tmod b).natAbs < b.natAbs := by
      rw [Int.natAbs_tmod]
      exact Nat.mod_lt _ (by omega)
    have hs : (0 ≤ a → 0 ≤ a.tmod b) ∧ (a ≤ 0 → a.tmod b ≤ 0) := by
      refine ⟨fun h => Int.tmod_nonneg b h, fun h => ?_⟩
      have := Int.tmod_nonneg b (show 0 ≤ -a by omega)
      rw [Int.neg_tmod] at this; omega
    have hl : (a.tmod b).natAbs ≤ a.natAbs := by
      rw [Int.natAbs_tmod]
      exact Nat.mod_le _ _
    have e1 : a.tdiv b * b = a - a.tmod b := by rw [Int.mul_comm]; omega
    have i1 : in64 (a - a.tmod b) := by unfold in64 at ha ⊢; omega
    have i2 : in64 (a.tmod b) := by unfold in64 at ha hb ⊢; omega
    have i3 : in64 (-(a.tmod b)) := by unfold in64 at ha hb ⊢; omega
    refine ⟨if_pos h1, h0, ?_, ?_, by omega, by omega, h1, i1, i2, i3⟩
    · unfold mul
      rw [e1, if_pos i1]
    · unfold sub
      rw [show a - (a - a.tmod b) = a.tmod b by omega, if_pos i2]
  · rw [if_neg h1] at h; cases h
end Ev
end Go.Proofs.YtmkllibfblacfaaGreatDoor
