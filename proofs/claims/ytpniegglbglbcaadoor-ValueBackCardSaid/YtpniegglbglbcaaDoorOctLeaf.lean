/-
  The leaves of layer 1: what a digit, its worth, a code and its number answer.
-/
import Derived.Test.YtpniegglbglbcaaDoorProg
import Derived.Test.YtpniegglbglbcaaDoorBase
import Derived.Test.YtpniegglbglbcaaDoorOctMath
import Derived.WalkKit
import Derived.WalkSpells
import Derived.WalkLawsBesides
import Derived.Deep.QuietTactic
import Derived.BigQuiet
import Derived.Lib.Hide
import Derived.Laws.DeepNot64
namespace Go.Proofs.YtpniegglbglbcaaDoor
open Go.RowKit


theorem u64_not (x : Int) (h0 : 0 ≤ x) (h1 : x < 18446744073709551616) : bits .xor .u64 IntKind.u64.max x = 18446744073709551615 - x := by
  obtain ⟨a, rfl⟩ := Int.eq_ofNat_of_zero_le h0
  have e : IntKind.u64.max = ((18446744073709551615 : Nat) : Int) := by decide
  rw [e, u64_xor _ _ (by omega) (by omega) (by omega) (by omega)]
  simp only [Int.toNat_natCast]
  have h : (18446744073709551615 ^^^ a : Nat) = 18446744073709551615 - a := by
    have e2 := congrArg BitVec.toNat (BitVec.allOnes_xor (x := BitVec.ofNat 64 a))
    rw [BitVec.toNat_xor, BitVec.toNat_not, BitVec.toNat_allOnes, BitVec.toNat_ofNat, Nat.mod_eq_of_lt (by omega)] at e2
    simpa using e2
  rw [h]; omega

set_option maxHeartbeats 400000 in
theorem code_any (n : Int) (w : World) (h0 : -9223372036854775808 ≤ n) (h1 : n ≤ 9223372036854775807) :
    Calls Tryd.prog 57 #[.int .i64 n] w fun e w' => e = .returned (.int .u64 (Oct.codeN n)) ∧ w = w' := by
  have L : ∀ m : Int, n = m → n < 0 → bits .xor .u64 IntKind.u64.max (IntKind.u64.wrap (IntKind.u64.wrap n * 2)) = (Oct.codeN n : Int) := by
    intro m _ hn
    rw [IntKind.wrap_u64, IntKind.wrap_u64, u64_not _ (by omega) (by omega), Oct.codeN, if_pos hn]
    omega
  have M : ∀ m : Int, n = m → 0 ≤ n → n * 2 = (Oct.codeN n : Int) := by
    intro m _ hn
    rw [Oct.codeN, if_neg (by omega)]
    omega
  by_cases hn : n < 0
  · have HL := Lib.hid (L n rfl hn); clear L M
    go_enter Tryd.func57, Tryd.ntmps57
    go_wp2
    go_ret
    exact ⟨ret_int HL.out, rfl⟩
  · have HL := Lib.hid (M n rfl (by omega)); clear L M
    go_enter Tryd.func57, Tryd.ntmps57
    go_wp2
    go_ret
    exact ⟨ret_int HL.out, rfl⟩

set_option maxHeartbeats 400000 in
theorem digit7_any (c i : Int) (w : World) (h0 : 0 ≤ c) (h1 : c < 18446744073709551616) (h2 : 0 ≤ i) (h3 : i ≤ 9) :
    Calls Tryd.prog 58 #[.int .u64 c, .int .i64 i, .int .i64 7] w fun e w' => e = .returned (.int .u8 (c / 2 ^ (i * 7).toNat % 128)) ∧ ∃ n, w' = w.drewN n := by
  have H : bits .and .u64 (c / 2 ^ (i * 7).toNat) 127 % 256 = c / 2 ^ (i * 7).toNat % 128 := by
    have e0 : 0 ≤ c / 2 ^ (i * 7).toNat := Int.ediv_nonneg h0 (by exact Int.le_of_lt (Int.pow_pos (by decide)))
    have e1 : c / 2 ^ (i * 7).toNat ≤ c := Int.ediv_le_self _ h0
    rw [u64_and _ _ e0 (by omega) (by decide) (by decide)]
    have := nat_mask7 (c / 2 ^ (i * 7).toNat).toNat
    simp only [Int.reduceToNat]
    omega
  have HH := Lib.hid H; clear H
  go_enter Tryd.func58, Tryd.ntmps58
  go_wp2
  go_quiet (fail)
  go_wp2
  go_ret
  exact ⟨ret_int HH.out, _, rfl⟩

theorem and1 (c : Nat) (h1 : c < 18446744073709551616) : bits .and .u64 (c : Int) 1 = ((c % 2 : Nat) : Int) := by
  rw [u64_and _ _ (by omega) (by omega) (by decide) (by decide)]
  have := nat_mask1 c
  simp only [Int.reduceToNat, Int.toNat_natCast]
  omega

set_option maxHeartbeats 400000 in
theorem decode_any (c : Nat) (w : World) (h1 : c < 18446744073709551616) :
    Calls Tryd.prog 55 #[.int .u64 (c : Int)] w fun e w' => e = .returned (.int .i64 (Oct.decN c)) ∧ w' = w := by
  have h2 := and1 c h1
  by_cases hc : c % 2 = 1
  · have hb : (bits .and .u64 (c : Int) 1 != 0) = true := by rw [h2, hc]; rfl
    have H : bits .xor .i64 (-1) ((c : Int) / 2) = Oct.decN c := by
      have := i64_not (c / 2) (by omega)
      rw [Int.natCast_ediv] at this
      rw [Oct.decN, if_pos hc]; exact this
    have HH := Lib.hid H; clear H hc h2
    go_enter Tryd.func55, Tryd.ntmps55
    go_wp2
    go_ret
    exact ⟨ret_int HH.out, rfl⟩
  · have hb : (bits .and .u64 (c : Int) 1 != 0) = false := by rw [h2, show c % 2 = 0 from by omega]; rfl
    have H : (c : Int) / 2 = Oct.decN c := by
      rw [Oct.decN, if_neg hc]; omega
    have HH := Lib.hid H; clear H hc h2
    go_enter Tryd.func55, Tryd.ntmps55
    go_wp2
    go_ret
    exact ⟨ret_int HH.out, rfl⟩

set_option maxHeartbeats 400000 in
theorem worth7_any (b i : Int) (w : World) (h0 : 0 ≤ b) (h1 : b < 256) (h2 : 0 ≤ i) (h3 : i ≤ 9) :
    Calls Tryd.prog 54 #[.int .u8 b, .int .i64 i, .int .i64 7] w fun e w' => e = .returned (.int .u64 (IntKind.u64.wrap (b * 2 ^ (i * 7).toNat))) ∧ w' = w := by
  go_enter Tryd.func54, Tryd.ntmps54
  go_wp2
  go_ret
  exact ⟨rfl, rfl⟩

set_option maxHeartbeats 400000 in
theorem rcode_any (n : Int) (w : World) (h0 : -9223372036854775808 ≤ n) (h1 : n ≤ 9223372036854775807) :
    Calls Tryd.prog 51 #[.int .i64 n] w fun e w' => e = .returned (.int .u64 (Oct.codeN n)) ∧ w = w' := by
  have H : ∀ m : Int, m = n → (m < 0 → 2 * (-1 - m) + 1 = (Oct.codeN m : Int)) ∧ (0 ≤ m → 2 * m = (Oct.codeN m : Int)) := by
    intro m _
    constructor
    · intro h; rw [Oct.codeN, if_pos h]; omega
    · intro h; rw [Oct.codeN, if_neg (by omega)]; omega
  have HH := Lib.hid (H n rfl); clear H
  go_enter Tryd.func51, Tryd.ntmps51
  go_wp2
  all_goals go_ret
  · exact ⟨ret_int (HH.out.1 (by assumption)), rfl⟩
  · exact ⟨ret_int (HH.out.2 (by assumption)), rfl⟩

set_option maxHeartbeats 400000 in
theorem rnumber_any (c : Nat) (w : World) (h1 : c < 18446744073709551616) :
    Calls Tryd.prog 53 #[.int .u64 (c : Int)] w fun e w' => e = .returned (.int .i64 (Oct.decN c)) ∧ w' = w := by
  have H : ∀ m : Nat, m = c → (((m : Int) % 2 == 1) = true → -1 - (m : Int) / 2 = Oct.decN m) ∧ (((m : Int) % 2 == 1) = false → (m : Int) / 2 = Oct.decN m) := by
    intro m _
    constructor
    · intro h
      have h : (m : Int) % 2 = 1 := by simpa using h
      rw [Oct.decN, if_pos (by omega)]; omega
    · intro h
      have h : ¬ (m : Int) % 2 = 1 := by simpa using h
      rw [Oct.decN, if_neg (by omega)]; omega
  have HH := Lib.hid (H c rfl); clear H
  go_enter Tryd.func53, Tryd.ntmps53
  go_wp2
  all_goals go_ret
  · exact ⟨ret_int (HH.out.1 (by assumption)), rfl⟩
  · exact ⟨ret_int (HH.out.2 (by assumption)), rfl⟩
theorem andNot128 (b : UInt8) : bits .andNot .u8 ((b.toNat : Nat) : Int) 128 = ((b.toNat % 128 : Nat) : Int) := by
  have hb := b.toNat_lt
  rw [u8_andNot _ _ (by omega) (by omega) (by decide) (by decide)]
  have := nat_mask7 b.toNat
  simp only [Int.reduceToNat, Int.toNat_natCast, Nat.reduceSub]
  omega
/-- the code so far, with a digit more -/
theorem or_digit (acc d k : Nat) (hk : k ≤ 9) (h : acc < 2 ^ (7 * k)) (hd : d < 128) (h9 : k = 9 → d ≤ 1) :
    bits .or .u64 (acc : Int) (IntKind.u64.wrap ((d : Int) * 2 ^ (k * 7))) = ((acc + 2 ^ (7 * k) * d : Nat) : Int) ∧ acc + 2 ^ (7 * k) * d < 18446744073709551616 := by
  have e : k * 7 = 7 * k := by omega
  have hp : (2 : Nat) ^ (7 * k) * d < 18446744073709551616 ∧ acc + 2 ^ (7 * k) * d < 18446744073709551616 := by
    by_cases hk9 : k = 9
    · subst hk9; have := h9 rfl; omega
    · have h8 : (2 : Nat) ^ (7 * k) ≤ 2 ^ 56 := Nat.pow_le_pow_right (by omega) (by omega)
      have : (2 : Nat) ^ (7 * k) * d ≤ 2 ^ 56 * 127 := Nat.mul_le_mul h8 (by omega)
      omega
  have e2 : ((d : Int) * 2 ^ (7 * k)) = ((2 ^ (7 * k) * d : Nat) : Int) := by push_cast; rw [Int.mul_comm]
  rw [e, e2, IntKind.wrap_u64, Int.emod_eq_of_lt (by omega) (by omega), u64_or _ _ (by omega) (by omega) (by omega) (by omega)]
  refine ⟨?_, hp.2⟩
  simp only [Int.toNat_natCast]
  rw [Oct.or_sum acc d k h]
end Go.Proofs.YtpniegglbglbcaaDoor
