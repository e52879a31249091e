/-
  The plain mathematics of layer 2 (crc): sums bit by bit, as natural numbers; nothing of any program.
-/
import Derived.WalkKit
import Derived.PlainAid
namespace Go.Proofs.YtpniegglbglbcaaDoor.Crc
/-- a bit shifted out -/
def stp (c : Nat) : Nat := if c % 2 = 1 then (c / 2) ^^^ 2197175160 else c / 2
def stps : Nat → Nat → Nat
  | 0, c => c
  | k + 1, c => stp (stps k c)
def byt (c : Nat) (b : UInt8) : Nat := stps 8 (c ^^^ b.toNat)
def run (c : Nat) (l : List UInt8) : Nat := l.foldl byt c
def sum (l : List UInt8) : Nat := run 4294967295 l ^^^ 4294967295

theorem stp_lt (c : Nat) (h : c < 4294967296) : stp c < 4294967296 := by
  unfold stp; split
  · exact Nat.xor_lt_two_pow (n := 32) (by omega) (by omega)
  · omega
theorem stps_lt : ∀ (k c : Nat), c < 4294967296 → stps k c < 4294967296
  | 0, _, h => h
  | k + 1, c, h => stp_lt _ (stps_lt k c h)
theorem byt_lt (c : Nat) (b : UInt8) (h : c < 4294967296) : byt c b < 4294967296 :=
  stps_lt 8 _ (Nat.xor_lt_two_pow (n := 32) h (by have := b.toNat_lt; omega))
theorem run_lt : ∀ (l : List UInt8) (c : Nat), c < 4294967296 → run c l < 4294967296
  | [], _, h => h
  | b :: l, c, h => run_lt l (byt c b) (byt_lt c b h)
theorem sum_lt (l : List UInt8) : sum l < 4294967296 := Nat.xor_lt_two_pow (n := 32) (run_lt l _ (by omega)) (by omega)
theorem run_append (c : Nat) (l m : List UInt8) : run c (l ++ m) = run (run c l) m := by unfold run; rw [List.foldl_append]
theorem run_snoc (c : Nat) (l : List UInt8) (b : UInt8) : run c (l ++ [b]) = byt (run c l) b := by rw [run_append]; rfl

theorem stp_xor (a b : Nat) : stp (a ^^^ b) = stp a ^^^ stp b := by
  have h1 : (a ^^^ b) / 2 = (a / 2) ^^^ (b / 2) := Nat.xor_div_two
  have h2 : (a ^^^ b) % 2 = (a + b) % 2 := by
    have e : (a ^^^ b) % 2 = (a % 2) ^^^ (b % 2) := Nat.xor_mod_two_pow (n := 1)
    rw [e]
    rcases Nat.mod_two_eq_zero_or_one a with ha | ha <;> rcases Nat.mod_two_eq_zero_or_one b with hb | hb <;> rw [ha, hb, Nat.add_mod, ha, hb] <;> rfl
  unfold stp
  rw [h1, h2]
  by_cases ha : a % 2 = 1 <;> by_cases hb : b % 2 = 1
  · rw [if_neg (by omega), if_pos ha, if_pos hb]
    rw [Nat.xor_assoc, Nat.xor_comm (b / 2), ← Nat.xor_assoc 2197175160, Nat.xor_self, Nat.zero_xor]
  · rw [if_pos (by omega), if_pos ha, if_neg hb, Nat.xor_assoc, Nat.xor_assoc, Nat.xor_comm (b / 2)]
  · rw [if_pos (by omega), if_neg ha, if_pos hb, Nat.xor_assoc]
  · rw [if_neg (by omega), if_neg ha, if_neg hb]
theorem stps_xor : ∀ (k a b : Nat), stps k (a ^^^ b) = stps k a ^^^ stps k b
  | 0, _, _ => rfl
  | k + 1, a, b => by simp only [stps]; rw [stps_xor k a b, stp_xor]
theorem stp_two (y : Nat) : stp (2 * y) = y := by unfold stp; rw [if_neg (by omega)]; omega
theorem stps4_16 (y : Nat) : stps 4 (16 * y) = y := by
  simp only [stps]
  rw [show 16 * y = 2 * (8 * y) by omega, stp_two, show 8 * y = 2 * (4 * y) by omega, stp_two, show 4 * y = 2 * (2 * y) by omega, stp_two, stp_two]
theorem split16 (c : Nat) : c = 16 * (c / 16) ^^^ c % 16 := by
  apply Nat.eq_of_testBit_eq
  intro i
  rw [Nat.testBit_xor, show 16 * (c / 16) = 2 ^ 4 * (c / 2 ^ 4) from rfl, show c % 16 = c % 2 ^ 4 from rfl, Nat.testBit_two_pow_mul, Nat.testBit_mod_two_pow, Nat.testBit_div_two_pow]
  by_cases h : i < 4
  · simp [h, show ¬ 4 ≤ i by omega]
  · simp [h, show 4 ≤ i by omega, show i - 4 + 4 = i by omega]
/-- half a byte at once -/
theorem half (c : Nat) : stps 4 c = (c / 16) ^^^ stps 4 (c % 16) := by
  conv => lhs; rw [split16 c]
  rw [stps_xor, stps4_16]
theorem stps_add (j : Nat) : ∀ k c, stps (j + k) c = stps j (stps k c) := by
  intro k c
  induction j with
  | zero => simp [stps]
  | succ j ih => rw [show j + 1 + k = j + k + 1 by omega]; simp only [stps]; rw [ih]
theorem byt_halves (c : Nat) (b : UInt8) : byt c b = stps 4 (stps 4 (c ^^^ b.toNat)) := stps_add 4 4 _

theorem stp_high (c : Nat) (h : c < 4294967296) : (stp c).testBit 31 = decide (c % 2 = 1) := by
  unfold stp
  split
  · rename_i h1
    rw [Nat.testBit_xor, Nat.testBit_lt_two_pow (x := c / 2) (i := 31) (by omega)]
    simp [h1]; decide
  · rename_i h1
    rw [Nat.testBit_lt_two_pow (x := c / 2) (i := 31) (by omega)]; simp [h1]
theorem xor_inj {a b c : Nat} (h : a ^^^ c = b ^^^ c) : a = b := by
  have := congrArg (· ^^^ c) h
  simpa [Nat.xor_assoc, Nat.xor_self] using this
theorem stp_inj (a b : Nat) (ha : a < 4294967296) (hb : b < 4294967296) (h : stp a = stp b) : a = b := by
  have h1 := stp_high a ha
  have h2 := stp_high b hb
  rw [h, h2] at h1
  have h3 : (b % 2 = 1) ↔ (a % 2 = 1) := by simpa using h1
  unfold stp at h
  by_cases hp : a % 2 = 1
  · rw [if_pos hp, if_pos (h3.2 hp)] at h
    have := xor_inj h; omega
  · rw [if_neg hp, if_neg (fun x => hp (h3.1 x))] at h
    have : ¬ b % 2 = 1 := fun x => hp (h3.1 x)
    omega
theorem stps_inj : ∀ (k a b : Nat), a < 4294967296 → b < 4294967296 → stps k a = stps k b → a = b
  | 0, _, _, _, _, h => h
  | k + 1, a, b, ha, hb, h => stps_inj k a b ha hb (stp_inj _ _ (stps_lt k a ha) (stps_lt k b hb) h)
theorem byt_injl (c d : Nat) (b : UInt8) (hc : c < 4294967296) (hd : d < 4294967296) (h : byt c b = byt d b) : c = d :=
  xor_inj (stps_inj 8 _ _ (Nat.xor_lt_two_pow (n := 32) hc (by have := b.toNat_lt; omega)) (Nat.xor_lt_two_pow (n := 32) hd (by have := b.toNat_lt; omega)) h)
theorem byt_injr (c : Nat) (a b : UInt8) (hc : c < 4294967296) (h : byt c a = byt c b) : a = b := by
  have h1 := stps_inj 8 _ _ (Nat.xor_lt_two_pow (n := 32) hc (by have := a.toNat_lt; omega)) (Nat.xor_lt_two_pow (n := 32) hc (by have := b.toNat_lt; omega)) h
  rw [Nat.xor_comm c, Nat.xor_comm c] at h1
  exact UInt8.toNat_inj.1 (xor_inj h1)
theorem run_inj : ∀ (l : List UInt8) (c d : Nat), c < 4294967296 → d < 4294967296 → run c l = run d l → c = d
  | [], _, _, _, _, h => h
  | b :: l, c, d, hc, hd, h => byt_injl c d b hc hd (run_inj l _ _ (byt_lt c b hc) (byt_lt d b hd) h)
/-- one byte turned, and the sum is another -/
theorem sum_set (l : List UInt8) (i : Nat) (h : i < l.length) (b : UInt8) (hb : b ≠ l[i]) : sum (l.set i b) ≠ sum l := by
  intro he
  have h1 := xor_inj he
  have e1 : l = l.take i ++ l[i] :: l.drop (i + 1) := by simp
  have e2 : l.set i b = l.take i ++ b :: l.drop (i + 1) := by
    rw [List.set_eq_take_append_cons_drop, if_pos h]
  rw [e2] at h1
  conv at h1 => rhs; rw [e1]
  rw [run_append, run_append] at h1
  have hl := run_lt (l.take i) 4294967295 (by omega)
  have h2 := run_inj _ _ _ (byt_lt _ _ hl) (byt_lt _ _ hl) h1
  exact hb (byt_injr _ _ _ hl h2)

/-- three by xor -/
def xor3 : List UInt8 → List UInt8 → List UInt8 → List UInt8
  | a :: l, b :: m, c :: n => (a ^^^ b ^^^ c) :: xor3 l m n
  | _, _, _ => []
theorem byt_xor3 (c d e : Nat) (x y z : UInt8) : byt (c ^^^ d ^^^ e) (x ^^^ y ^^^ z) = byt c x ^^^ byt d y ^^^ byt e z := by
  unfold byt
  rw [UInt8.toNat_xor, UInt8.toNat_xor, ← stps_xor, ← stps_xor]
  congr 1
  ac_rfl
theorem run_xor3 : ∀ (l m n : List UInt8) (c d e : Nat), m.length = l.length → n.length = l.length → run (c ^^^ d ^^^ e) (xor3 l m n) = run c l ^^^ run d m ^^^ run e n
  | [], [], [], _, _, _, _, _ => rfl
  | x :: l, y :: m, z :: n, c, d, e, h1, h2 => by
    have := run_xor3 l m n (byt c x) (byt d y) (byt e z) (by simpa using h1) (by simpa using h2)
    rw [← byt_xor3] at this
    exact this
theorem sum_xor3 (l m n : List UInt8) (h1 : m.length = l.length) (h2 : n.length = l.length) : sum (xor3 l m n) = sum l ^^^ sum m ^^^ sum n := by
  unfold sum
  have := run_xor3 l m n 4294967295 4294967295 4294967295 h1 h2
  rw [Nat.xor_self, Nat.zero_xor] at this
  rw [this]
  have e : ∀ a b c d : Nat, a ^^^ d ^^^ (b ^^^ d) ^^^ (c ^^^ d) = a ^^^ b ^^^ c ^^^ d := by
    intro a b c d
    have : a ^^^ d ^^^ (b ^^^ d) ^^^ (c ^^^ d) = a ^^^ b ^^^ c ^^^ d ^^^ (d ^^^ d) := by ac_rfl
    rw [this, Nat.xor_self, Nat.xor_zero]
  rw [e]
theorem sum_check : sum [49, 50, 51, 52, 53, 54, 55, 56, 57] = 3808858755 := by decide +kernel

/-- a sum's four bytes, the highest first -/
def wr (n : Nat) : List UInt8 := [UInt8.ofNat (n / 16777216 % 256), UInt8.ofNat (n / 65536 % 256), UInt8.ofNat (n / 256 % 256), UInt8.ofNat (n % 256)]
def seal4 (l : List UInt8) : List UInt8 := l ++ wr (sum l)
def right (l : List UInt8) : Bool := decide (4 ≤ l.length) && (l.drop (l.length - 4) == wr (sum (l.take (l.length - 4))))
theorem wr_len (n : Nat) : (wr n).length = 4 := rfl
theorem seal_len (l : List UInt8) : (seal4 l).length = l.length + 4 := by unfold seal4; rw [List.length_append, wr_len]
theorem u8_inj (a b : Nat) (ha : a < 256) (hb : b < 256) (h : UInt8.ofNat a = UInt8.ofNat b) : a = b := by
  have := congrArg UInt8.toNat h
  simp at this; omega
theorem wr_inj (a b : Nat) (ha : a < 4294967296) (hb : b < 4294967296) (h : wr a = wr b) : a = b := by
  unfold wr at h
  simp only [List.cons.injEq, and_true] at h
  obtain ⟨h1, h2, h3, h4⟩ := h
  have h1 := u8_inj _ _ (by omega) (by omega) h1
  have h2 := u8_inj _ _ (by omega) (by omega) h2
  have h3 := u8_inj _ _ (by omega) (by omega) h3
  have h4 := u8_inj _ _ (by omega) (by omega) h4
  omega
theorem right_seal (l : List UInt8) : right (seal4 l) = true := by
  have h := seal_len l
  unfold right
  rw [h]
  have e : seal4 l = l ++ wr (sum l) := rfl
  rw [show l.length + 4 - 4 = l.length by omega, e, List.drop_left, List.take_left]
  simp
/-- a byte turned, and what was sealed is not right -/
theorem right_set (l : List UInt8) (i : Nat) (h : i < (seal4 l).length) (b : UInt8) (hb : b ≠ (seal4 l)[i]) : right ((seal4 l).set i b) = false := by
  have hl := seal_len l
  have e : seal4 l = l ++ wr (sum l) := rfl
  unfold right
  rw [List.length_set, hl, show l.length + 4 - 4 = l.length by omega]
  by_cases hi : i < l.length
  · have e2 : (seal4 l).set i b = l.set i b ++ wr (sum l) := by rw [e, List.set_append_left _ _ hi]
    have e3 : (seal4 l)[i] = l[i] := by simp only [e]; rw [List.getElem_append_left hi]
    rw [e3] at hb
    have hs := sum_set l i hi b hb
    have d1 : ((l.set i b) ++ wr (sum l)).drop l.length = wr (sum l) := List.drop_left' (by simp)
    have d2 : ((l.set i b) ++ wr (sum l)).take l.length = l.set i b := List.take_left' (by simp)
    rw [e2, d1, d2]
    have : ¬ wr (sum l) = wr (sum (l.set i b)) := fun h => hs (wr_inj _ _ (sum_lt _) (sum_lt _) h.symm)
    simp [this]
  · have e2 : (seal4 l).set i b = l ++ (wr (sum l)).set (i - l.length) b := by rw [e, List.set_append_right _ _ (by omega)]
    have e3 : (seal4 l)[i] = (wr (sum l))[i - l.length]'(by rw [wr_len]; omega) := by simp only [e]; rw [List.getElem_append_right (by omega)]
    rw [e2, List.drop_left, List.take_left]
    have : ¬ (wr (sum l)).set (i - l.length) b = wr (sum l) := by
      intro h
      rw [e3] at hb
      have h2 := congrArg (fun m : List UInt8 => m[i - l.length]?) h
      simp only [List.getElem?_set_self (show i - l.length < (wr (sum l)).length by rw [wr_len]; omega)] at h2
      rw [List.getElem?_eq_getElem (by rw [wr_len]; omega)] at h2
      exact hb (Option.some.inj h2)
    simp [this]
end Go.Proofs.YtpniegglbglbcaaDoor.Crc
