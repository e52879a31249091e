/-
  Plain mathematics of layer 1, second part: numbers of a fixed length, read.
-/
import Derived.Test.YtpniegglbglbcaaDoorOctMath
import Derived.Laws.BitsAllLaws
import Derived.Laws.BitsLemmas
namespace Go.Proofs.YtpniegglbglbcaaDoor.Oct

/-- the number of bytes, the highest first -/
def be (l : List UInt8) : Nat := l.foldl (fun c b => c * 256 + b.toNat) 0
theorem be_snoc (l : List UInt8) (b : UInt8) : be (l ++ [b]) = be l * 256 + b.toNat := by simp [be]
theorem be_from (l : List UInt8) : ∀ c : Nat, l.foldl (fun c b => c * 256 + b.toNat) c = c * 2 ^ (l.length * 8) + be l := by
  induction l with
  | nil => intro c; simp [be]
  | cons b l ih =>
    intro c
    unfold be
    rw [List.foldl_cons, List.foldl_cons, ih, ih (0 * 256 + b.toNat), List.length_cons, show (l.length + 1) * 8 = l.length * 8 + 8 from by omega, Nat.pow_add]
    simp only [Nat.zero_mul, Nat.zero_add]
    rw [Nat.add_mul, Nat.mul_assoc, Nat.mul_comm (2 ^ (l.length * 8)) (2 ^ 8), Nat.add_assoc]
theorem be_cons (b : UInt8) (l : List UInt8) : be (b :: l) = b.toNat * 2 ^ (l.length * 8) + be l := by
  have := be_from l (0 * 256 + b.toNat)
  unfold be at this ⊢
  rw [List.foldl_cons, this]; simp
theorem be_lt (l : List UInt8) : be l < 2 ^ (l.length * 8) := by
  induction l with
  | nil => simp [be]
  | cons b l ih =>
    rw [be_cons, List.length_cons, show (l.length + 1) * 8 = l.length * 8 + 8 from by omega, Nat.pow_add]
    have hb := b.toNat_lt
    have : b.toNat * 2 ^ (l.length * 8) ≤ 255 * 2 ^ (l.length * 8) := Nat.mul_le_mul_right _ (by omega)
    omega
theorem be_fix (n : Int) (k : Nat) : be (fix n k) = (n % 18446744073709551616).toNat % 2 ^ (k * 8) := by
  induction k with
  | zero => simp [fix, be]; omega
  | succ k ih =>
    rw [fix, be_cons, ih, fix_len, digit, toNat_ofNat _ (by omega), show (k + 1) * 8 = k * 8 + 8 from by omega, Nat.pow_add, Nat.mod_mul, Nat.mul_comm, Nat.add_comm]
/-- what Read answers -/
def rd (s : ByteArray) : Int := IntKind.i64.wrap (be (s.data.toList.take 8))
theorem rd_fix (n : Int) (h0 : -9223372036854775808 ≤ n) (h1 : n ≤ 9223372036854775807) : rd ⟨(fix n 8).toArray⟩ = n := by
  unfold rd
  have e : (ByteArray.mk (fix n 8).toArray).data.toList.take 8 = fix n 8 := by
    simp only
    exact List.take_of_length_le (by rw [fix_len]; omega)
  rw [e, be_fix, IntKind.wrap_i64]; omega

theorem ofInt_wrap (n : Int) : BitVec.ofInt 64 (IntKind.i64.wrap n) = BitVec.ofInt 64 n := by
  apply BitVec.eq_of_toNat_eq
  rw [BitVec.toNat_ofInt, BitVec.toNat_ofInt, IntKind.wrap_i64]
  have e : ((2 ^ 64 : Nat) : Int) = 18446744073709551616 := rfl
  rw [e]
  omega
/-- or, where the lower part lies below: a sum, as 64 bits go -/
theorem or_i64 (a b k : Nat) (ha : a < 2 ^ (k * 8)) (hb : b < 256) (hk : k ≤ 7) :
    bits .or .i64 (IntKind.i64.wrap (a : Int)) (IntKind.i64.wrap ((b : Int) * 2 ^ (k * 8))) = IntKind.i64.wrap ((b * 2 ^ (k * 8) + a : Nat) : Int) := by
  have hp : (2 : Nat) ^ (k * 8) ≤ 2 ^ 56 := Nat.pow_le_pow_right (by omega) (by omega)
  have hm : b * 2 ^ (k * 8) ≤ 255 * 2 ^ 56 := Nat.mul_le_mul (by omega) hp
  have e : ((b : Int) * 2 ^ (k * 8)) = ((b * 2 ^ (k * 8) : Nat) : Int) := by push_cast; rfl
  show IntKind.i64.wrap ((BitVec.ofInt 64 _ ||| BitVec.ofInt 64 _).toNat : Int) = _
  rw [ofInt_wrap, ofInt_wrap, e, BitVec.ofInt_natCast, BitVec.ofInt_natCast, BitVec.toNat_or, BitVec.toNat_ofNat, BitVec.toNat_ofNat, Nat.mod_eq_of_lt (by omega), Nat.mod_eq_of_lt (by omega)]
  have := Nat.two_pow_add_eq_or_of_lt ha b
  rw [Nat.or_comm, Nat.mul_comm b, this]

/-- the last k of the first m bytes -/
def low (s : ByteArray) (m k : Nat) : List UInt8 := (s.data.toList.take m).drop (m - k)
theorem low_none (s : ByteArray) (m : Nat) : low s m 0 = [] := by simp [low]
theorem low_all (s : ByteArray) (m : Nat) : low s m m = s.data.toList.take m := by simp [low]
theorem low_len (s : ByteArray) (m k : Nat) (hm : m ≤ s.size) (hk : k ≤ m) : (low s m k).length = k := by
  have e : s.data.size = s.size := rfl
  simp [low]; omega
theorem low_step (s : ByteArray) (m k : Nat) (hm : m ≤ s.size) (hk : k < m) : low s m (k + 1) = s[m - 1 - k] :: low s m k := by
  have e : s.data.toList.length = s.size := by simp
  unfold low
  have h1 : m - (k + 1) < (s.data.toList.take m).length := by rw [List.length_take]; omega
  have hg : (s.data.toList.take m)[m - (k + 1)] = s[m - 1 - k] := by
    rw [List.getElem_take]
    simp only [show m - (k + 1) = m - 1 - k from by omega]
    rfl
  rw [List.drop_eq_getElem_cons h1, hg, show m - (k + 1) + 1 = m - k from by omega]
theorem be_low (s : ByteArray) (m k : Nat) (hm : m ≤ s.size) (hk : k < m) (h8 : m ≤ 8) :
    bits .or .i64 (IntKind.i64.wrap (be (low s m k) : Int)) (IntKind.i64.wrap (((s[m - 1 - k]).toNat : Int) * 2 ^ (k * 8))) = IntKind.i64.wrap (be (low s m (k + 1)) : Int) := by
  have h := be_lt (low s m k)
  rw [low_len s m k hm (by omega)] at h
  rw [or_i64 _ _ _ h (UInt8.toNat_lt _) (by omega), low_step s m k hm hk, be_cons, low_len s m k hm (by omega)]
theorem rd_low (s : ByteArray) (m : Nat) (h : m = min s.size 8) : rd s = IntKind.i64.wrap (be (low s m m) : Int) := by
  rw [low_all, rd, h]
  congr 2
  rcases Nat.le_total s.size 8 with h8 | h8
  · have e : s.data.toList.length = s.size := by simp
    rw [Nat.min_eq_left h8, List.take_of_length_le (by omega), List.take_of_length_le (by omega)]
  · rw [Nat.min_eq_right h8]
/-- the first k bytes, as a number -/
theorem be_take (s : ByteArray) (k : Nat) (hk : k < s.size) : be (s.data.toList.take (k + 1)) = be (s.data.toList.take k) * 256 + s[k].toNat := by
  have h : k < s.data.toList.length := by simpa using hk
  rw [List.take_succ_eq_append_getElem h, be_snoc]; rfl
theorem be_take_lt (s : ByteArray) (k : Nat) (h8 : k ≤ 8) : be (s.data.toList.take k) < 18446744073709551616 := by
  have h := be_lt (s.data.toList.take k)
  have hl : (s.data.toList.take k).length ≤ k := List.length_take_le _ _
  have : (2 : Nat) ^ ((s.data.toList.take k).length * 8) ≤ 2 ^ 64 := Nat.pow_le_pow_right (by omega) (by omega)
  omega

theorem cnt_step (k : Nat) (b : Int) (h1 : (k : Int) < b) (h2 : k < 8) : k + 1 ≤ cnt b := by
  unfold cnt; split
  · omega
  · split <;> omega
theorem cnt_end (k : Nat) (b : Int) (h : ¬ ((k : Int) < b ∧ k < 8)) (hk : k ≤ 8) (h2 : k ≤ cnt b) : k = cnt b := by
  unfold cnt at h2 ⊢
  by_cases h0 : b < 0
  · rw [if_pos h0] at h2 ⊢; omega
  · rw [if_neg h0] at h2 ⊢
    by_cases h8 : 8 < b
    · rw [if_pos h8] at h2 ⊢; omega
    · rw [if_neg h8] at h2 ⊢; omega
theorem wrap_none : 0 = Go.RowKit.wrap64 ((be [] : Nat) : Int) := by
  have e : be [] = 0 := rfl
  rw [e]; unfold Go.RowKit.wrap64; omega

end Go.Proofs.YtpniegglbglbcaaDoor.Oct
