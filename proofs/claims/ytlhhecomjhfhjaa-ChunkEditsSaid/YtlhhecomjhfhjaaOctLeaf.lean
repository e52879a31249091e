/-
  The leaves of layer 1: what a digit, its worth, a code and its number answer.
-/
import Derived.Test.YtlhhecomjhfhjaaProg
import Derived.Test.YtlhhecomjhfhjaaBase
import Derived.Test.YtlhhecomjhfhjaaOctMath
import Derived.WalkKit
import Derived.WalkSpells
import Derived.WalkLawsBesides
import Derived.Deep.QuietTactic
import Derived.BigQuiet
import Derived.Lib.Hide
import Derived.Laws.DeepNot64
namespace Go.Proofs.Ytlhhecomjhfhjaa
open Go.RowKit


theorem u64_not (x : Int) (h0 : 0 ≤ x) (h1 : x < 18446744073709551616) : bits .xor .u64 IntKind.u64.max x = 18446744073709551615 - x := by
  obtain ⟨a, rfl⟩ := Int.eq_ofNat_of_zero_le h0
  have e : IntKind.u64.max = ((18446744073709551615 : Nat) : Int) := by decide
  rw [e, u64_xor _ _ (by omega) (by omega) (by omega) (by omega)]
  simp only [Int.toNat_natCast]
  have h : (18446744073709551615 ^^^ a : Nat) = 18446744073709551615 - a := by
    have e2 := congrArg BitVec.toNat (BitVec.allOnes_xor (x := BitVec.ofNat 64 a))
    rw [BitVec.toNat_xor, BitVec.toNat_not, BitVec.toNat_allOnes, BitVec.toNat_ofNat, Nat.mod_eq_of_lt (by omega)] at e2
    simpa using e2
  rw [h]; omega

theorem and1 (c : Nat) (h1 : c < 18446744073709551616) : bits .and .u64 (c : Int) 1 = ((c % 2 : Nat) : Int) := by
  rw [u64_and _ _ (by omega) (by omega) (by decide) (by decide)]
  have := nat_mask1 c
  simp only [Int.reduceToNat, Int.toNat_natCast]
  omega

theorem andNot128 (b : UInt8) : bits .andNot .u8 ((b.toNat : Nat) : Int) 128 = ((b.toNat % 128 : Nat) : Int) := by
  have hb := b.toNat_lt
  rw [u8_andNot _ _ (by omega) (by omega) (by decide) (by decide)]
  have := nat_mask7 b.toNat
  simp only [Int.reduceToNat, Int.toNat_natCast, Nat.reduceSub]
  omega
/-- the code so far, with a digit more -/
theorem or_digit (acc d k : Nat) (hk : k ≤ 9) (h : acc < 2 ^ (7 * k)) (hd : d < 128) (h9 : k = 9 → d ≤ 1) :
    bits .or .u64 (acc : Int) (IntKind.u64.wrap ((d : Int) * 2 ^ (k * 7))) = ((acc + 2 ^ (7 * k) * d : Nat) : Int) ∧ acc + 2 ^ (7 * k) * d < 18446744073709551616 := by
  have e : k * 7 = 7 * k := by omega
  have hp : (2 : Nat) ^ (7 * k) * d < 18446744073709551616 ∧ acc + 2 ^ (7 * k) * d < 18446744073709551616 := by
    by_cases hk9 : k = 9
    · subst hk9; have := h9 rfl; omega
    · have h8 : (2 : Nat) ^ (7 * k) ≤ 2 ^ 56 := Nat.pow_le_pow_right (by omega) (by omega)
      have : (2 : Nat) ^ (7 * k) * d ≤ 2 ^ 56 * 127 := Nat.mul_le_mul h8 (by omega)
      omega
  have e2 : ((d : Int) * 2 ^ (7 * k)) = ((2 ^ (7 * k) * d : Nat) : Int) := by push_cast; rw [Int.mul_comm]
  rw [e, e2, IntKind.wrap_u64, Int.emod_eq_of_lt (by omega) (by omega), u64_or _ _ (by omega) (by omega) (by omega) (by omega)]
  refine ⟨?_, hp.2⟩
  simp only [Int.toNat_natCast]
  rw [Oct.or_sum acc d k h]
end Go.Proofs.Ytlhhecomjhfhjaa
