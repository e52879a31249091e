/-
  Layer 13, plain mathematics: what strconv.Atoi makes of digits; names and digits as runs of bytes.
-/
import Derived.Test.YtmpfnokddpbgcaaDoorZLexMath3
import Derived.Lib.AtoiAllCases
namespace Go.Proofs.YtmpfnokddpbgcaaDoor.Lx
open Vl (val)
theorem val_ge : ∀ (l : List UInt8) (a : Nat), a ≤ val l a
  | [], a => Nat.le_refl _
  | b :: l, a => Nat.le_trans (by omega) (val_ge l (a * 10 + (b.toNat - 48)))
theorem pu10 : ∀ (l : List UInt8) (a : Nat), (∀ b ∈ l, digit b = true) → a < 18446744073709551616 → Lib.parseUint10 a l = if 18446744073709551616 ≤ val l a then .range else .ok (val l a)
  | [], a, _, ha => by
    show Lib.NumEnd.ok a = _
    rw [if_neg (by show ¬ 18446744073709551616 ≤ a; omega)]; rfl
  | c :: r, a, h, ha => by
    have hc := (digit_iff c).1 (h c (by simp))
    have hg := val_ge r (a * 10 + (c.toNat - 48))
    have ev : val (c :: r) a = val r (a * 10 + (c.toNat - 48)) := rfl
    rw [Lib.parseUint10, if_pos hc, ev]
    by_cases h1 : 1844674407370955162 ≤ a
    · rw [if_pos h1, if_pos (by omega)]
    · rw [if_neg h1]
      by_cases h2 : 18446744073709551616 ≤ a * 10 + (c.toNat - 48)
      · rw [if_pos h2, if_pos (by omega)]
      · rw [if_neg h2, pu10 r _ (fun b hb => h b (by simp [hb])) (by omega)]
theorem atoi_digits (l : List UInt8) (hne : l ≠ []) (h : ∀ b ∈ l, digit b = true) : Lib.atoiAll l = if maxI < val l 0 then .range else .ok (val l 0 : Nat) := by
  cases l with
  | nil => exact absurd rfl hne
  | cons c r =>
    have hc := (digit_iff c).1 (h c (by simp))
    have e43 : ¬ c.toNat = 43 := by omega
    have e45 : ¬ c.toNat = 45 := by omega
    have e : Lib.parseMag (c :: r) = if 18446744073709551616 ≤ val (c :: r) 0 then .range else .ok (val (c :: r) 0) := by
      unfold Lib.parseMag; rw [if_neg (by simp), pu10 _ 0 h (by omega)]
    unfold Lib.atoiAll
    simp only [e43, e45, or_self, if_false, not_false_eq_true, true_and, false_and, e]
    unfold maxI
    by_cases h1 : 18446744073709551616 ≤ val (c :: r) 0
    · rw [if_pos h1, if_pos (by omega)]
    · rw [if_neg h1]
      by_cases h2 : 9223372036854775808 ≤ val (c :: r) 0
      · simp only [h2, if_true]; rw [if_pos (by omega)]
      · simp only [h2, if_false]; rw [if_neg (by omega)]
/-- a byte that a name may have -/
def inName (c : UInt8) : Bool := letter c || digit c
theorem word_true : ∀ l : List UInt8, word true l = (l.takeWhile inName).length
  | [] => rfl
  | c :: r => by
    have ih := word_true r
    rw [word, List.takeWhile_cons]
    by_cases h : (letter c || digit c) = true
    · rw [if_pos (by simpa using h), if_pos (show inName c = true from h), List.length_cons, ih]
    · rw [if_neg (by simpa using h), if_neg (show ¬ inName c = true from h)]; rfl
theorem word_run {c : UInt8} {r : List UInt8} (h : letter c = true) : word false (c :: r) = ((c :: r).takeWhile inName).length := by
  rw [word, if_pos (by rw [h]; rfl), List.takeWhile_cons, if_pos (show inName c = true by unfold inName; rw [h]; rfl), List.length_cons, word_true]
end Go.Proofs.YtmpfnokddpbgcaaDoor.Lx
