/-
  Texts of the layers, part 1: OctMath, OctMath2, OctMath3, CrcMath, SealMath, LabelMath, Base, RowV, Only, Bits, Dump, DskArr, CopyStr, OctLeaf, OctOwn, OctNum, OctFix, OctRead, CrcHalf.
-/
import Derived.WalkKit
import Derived.PlainAid
import Derived.Laws.BitsAllLaws
import Derived.Laws.BitsLemmas
import Derived.WideShapes
import Derived.WalkSpells
import Derived.WalkLawsBesides
import Derived.Deep.Draws
import Derived.Deep.QuietTactic
import Derived.BigQuiet
import Derived.OpenShut
import Derived.Lib.Hide
import Derived.Below
import Derived.Deep.WholeRow
import Derived.Laws.CopyOwn
import Derived.IntWalk
import Derived.Test.YtedemehlccmkpaaProg
import Derived.Deep.MidRow
import Derived.ChangeKeysEq
import Derived.Laws.MakeOwn
import Derived.Deep.AppendSrc
import Derived.ArgAppend
import Derived.Laws.DeepNot64
import Derived.Laws.BytesArg
import Derived.WalkSmall
/-
  The plain mathematics of layer 1 (octet): numbers as digits to the base 128, lists of bytes; nothing of any program.
-/
namespace Go.Proofs.Ytedemehlccmkpaa.Oct

/-- a code's bytes -/
def num (c : Nat) : List UInt8 :=
  if c < 128 then [UInt8.ofNat c] else UInt8.ofNat (128 + c % 128) :: num (c / 128)
termination_by c
decreasing_by omega

/-- a number's code -/
def codeN (n : Int) : Nat := if n < 0 then (-2 * n - 1).toNat else (2 * n).toNat
/-- a code's number -/
def decN (c : Nat) : Int := if c % 2 = 1 then -1 - ((c / 2 : Nat) : Int) else ((c / 2 : Nat) : Int)

/-- what is taken off the front, from the byte number i on: the error, the code, what stands behind -/
def take (i : Nat) : List UInt8 → Nat × Nat × List UInt8
  | [] => (3, 0, [])
  | b :: r =>
    if (i = 9 ∧ 1 < b.toNat) ∨ (0 < i ∧ b.toNat = 0) then (4, 0, [])
    else if b.toNat < 128 then (0, b.toNat, r)
    else if (take (i + 1) r).1 = 0 then (0, b.toNat - 128 + 128 * (take (i + 1) r).2.1, (take (i + 1) r).2.2) else ((take (i + 1) r).1, 0, [])

theorem dec_code (n : Int) : decN (codeN n) = n := by
  unfold decN codeN; split <;> split <;> omega
theorem code_dec (c : Nat) : codeN (decN c) = c := by
  unfold decN codeN; split <;> split <;> omega
theorem code_lt (n : Int) (h0 : -9223372036854775808 ≤ n) (h1 : n ≤ 9223372036854775807) : codeN n < 18446744073709551616 := by
  unfold codeN; split <;> omega

theorem num_small (c : Nat) (h : c < 128) : num c = [UInt8.ofNat c] := by rw [num, if_pos h]
theorem num_great (c : Nat) (h : 128 ≤ c) : num c = UInt8.ofNat (128 + c % 128) :: num (c / 128) := by rw [num, if_neg (by omega)]
theorem num_ne (c : Nat) : num c ≠ [] := by
  rw [num]; split <;> simp

theorem num_len : ∀ (k c : Nat), c < 128 ^ k → 0 < k → (num c).length ≤ k
  | 0, _, _, h => by omega
  | k + 1, c, hc, _ => by
    by_cases h : c < 128
    · rw [num_small c h]; simp
    · rw [num_great c (by omega)]
      have hk : 0 < k := by
        rcases Nat.eq_zero_or_pos k with rfl | h'
        · simp at hc; omega
        · exact h'
      have : c / 128 < 128 ^ k := by rw [Nat.pow_succ] at hc; omega
      have := num_len k (c / 128) this hk
      simp; omega
theorem num_len10 (c : Nat) (h : c < 18446744073709551616) : (num c).length ≤ 10 := num_len 10 c (by omega) (by omega)

theorem toNat_ofNat (c : Nat) (h : c < 256) : (UInt8.ofNat c).toNat = c := by simp; omega

/-- what was written is read, with whatever stands behind -/
theorem take_num : ∀ (j i c : Nat) (l : List UInt8), i + j = 10 → 0 < j → c * 2 ^ (7 * i) < 18446744073709551616 → (0 < i → 0 < c) → take i (num c ++ l) = (0, c, l)
  | 0, _, _, _, _, h, _, _ => by omega
  | j + 1, i, c, l, hij, _, hc, hi => by
    by_cases h : c < 128
    · rw [num_small c h]
      simp only [List.cons_append, List.nil_append, take, toNat_ofNat c (by omega)]
      rw [if_neg, if_pos h]
      rintro (⟨rfl, h1⟩ | ⟨h1, h2⟩)
      · omega
      · have := hi h1; omega
    · rw [num_great c (by omega)]
      simp only [List.cons_append, take, toNat_ofNat (128 + c % 128) (by omega)]
      have h9 : i ≠ 9 := by rintro rfl; omega
      have hc' : c / 128 * 2 ^ (7 * (i + 1)) < 18446744073709551616 := by
        have e : 2 ^ (7 * (i + 1)) = 128 * 2 ^ (7 * i) := by rw [show 7 * (i + 1) = 7 + 7 * i from by omega, Nat.pow_add]
        rw [e, ← Nat.mul_assoc]
        have : c / 128 * 128 * 2 ^ (7 * i) ≤ c * 2 ^ (7 * i) := Nat.mul_le_mul_right _ (by omega)
        omega
      have ih := take_num j (i + 1) (c / 128) l (by omega) (by omega) hc' (fun _ => by omega)
      rw [if_neg (by omega), if_neg (by omega), ih]
      simp; omega

/-- a code's bytes are read back, whatever stands behind -/
theorem take_back (c : Nat) (l : List UInt8) (h : c < 18446744073709551616) : take 0 (num c ++ l) = (0, c, l) :=
  take_num 10 0 c l rfl (by omega) (by omega) (by omega)

/-- what is read has just these bytes, and is no greater than can be -/
theorem take_only : ∀ (l : List UInt8) (i c : Nat) (r : List UInt8), i ≤ 9 → take i l = (0, c, r) →
    num c ++ r = l ∧ c * 2 ^ (7 * i) < 18446744073709551616 ∧ (0 < i → 0 < c)
  | [], i, c, r, _, h => by simp [take] at h
  | b :: t, i, c, r, hi, h => by
    have hb : b.toNat < 256 := b.toNat_lt
    have h2 : (2 : Nat) ^ (7 * i) ≤ 2 ^ 63 := Nat.pow_le_pow_right (by omega) (by omega)
    rw [take] at h
    split at h
    · simp at h
    · rename_i hn
      split at h
      · rename_i hs
        simp only [Prod.mk.injEq, true_and] at h
        obtain ⟨rfl, rfl⟩ := h
        refine ⟨by rw [num_small _ hs]; simp, ?_, fun h => by omega⟩
        by_cases h9 : i = 9
        · subst h9; omega
        · have h8 : (2 : Nat) ^ (7 * i) ≤ 2 ^ 56 := Nat.pow_le_pow_right (by omega) (by omega)
          have : b.toNat * 2 ^ (7 * i) ≤ 128 * 2 ^ 56 := Nat.mul_le_mul (by omega) h8
          omega
      · rename_i hs
        split at h
        · rename_i h0
          have h9 : i ≤ 8 := by omega
          obtain ⟨c', r', ht⟩ : ∃ c' r', take (i + 1) t = (0, c', r') := ⟨(take (i + 1) t).2.1, (take (i + 1) t).2.2, by rw [← h0]⟩
          rw [ht] at h
          simp only [Prod.mk.injEq, true_and] at h
          obtain ⟨hc, hr⟩ := h
          have ih := take_only t (i + 1) c' r' (by omega) ht
          have hp : 0 < c' := ih.2.2 (by omega)
          have e : 2 ^ (7 * (i + 1)) = 128 * 2 ^ (7 * i) := by rw [show 7 * (i + 1) = 7 + 7 * i from by omega, Nat.pow_add]
          refine ⟨?_, ?_, fun _ => by omega⟩
          · rw [num_great c (by omega), show c / 128 = c' from by omega, ← hr, List.cons_append, ih.1, show 128 + c % 128 = b.toNat from by omega]
            simp
          · have h1 := ih.2.1
            rw [e, ← Nat.mul_assoc] at h1
            -- c = d + 128 c', d < 128; (c' * 128) * P < 2 ^ 64, P divides 2 ^ 64
            obtain ⟨q, hq⟩ : ∃ q, 18446744073709551616 = q * 2 ^ (7 * i) := ⟨2 ^ (64 - 7 * i), by rw [← Nat.pow_add, show 64 - 7 * i + 7 * i = 64 from by omega]⟩
            rw [hq] at h1 ⊢
            have hlt := Nat.lt_of_mul_lt_mul_right h1
            have hq2 : 128 * (q / 128) = q := by
              have e2 : q = 2 ^ (64 - 7 * i) := by
                have : q * 2 ^ (7 * i) = 2 ^ (64 - 7 * i) * 2 ^ (7 * i) := by rw [← hq, ← Nat.pow_add, show 64 - 7 * i + 7 * i = 64 from by omega]
                exact Nat.eq_of_mul_eq_mul_right (Nat.two_pow_pos _) this
              have : q = 128 * 2 ^ (57 - 7 * i) := by rw [e2, show 64 - 7 * i = 7 + (57 - 7 * i) from by omega, Nat.pow_add]
              omega
            exact Nat.mul_lt_mul_of_pos_right (by omega) (Nat.two_pow_pos _)
        · rename_i h0
          simp only [Prod.mk.injEq] at h
          omega

theorem take_lt (l : List UInt8) (c : Nat) (r : List UInt8) (h : take 0 l = (0, c, r)) : c < 18446744073709551616 := by
  have := (take_only l 0 c r (by omega) h).2.1; omega

/-- an error has no number, and nothing behind -/
theorem take_err (l : List UInt8) (i : Nat) (h : (take i l).1 ≠ 0) : (take i l).2 = (0, []) := by
  cases l with
  | nil => rfl
  | cons b t => rw [take] at h ⊢; split; · rfl
                · split
                  · rename_i h1 h2; rw [if_neg h1, if_pos h2] at h; simp at h
                  · split
                    · rename_i h1 h2 h3; rw [if_neg h1, if_neg h2, if_pos h3] at h; simp at h
                    · rfl
theorem take_codes : ∀ (l : List UInt8) (i : Nat), (take i l).1 = 0 ∨ (take i l).1 = 3 ∨ (take i l).1 = 4
  | [], _ => by simp [take]
  | b :: t, i => by
    rw [take]; split
    · simp
    · split
      · simp
      · split
        · simp
        · exact take_codes t (i + 1)

/-! ### the loops: what is known when the bytes ahead of the place k are read -/
def lift (k acc : Nat) (t : Nat × Nat × List UInt8) : Nat × Nat × List UInt8 := if t.1 = 0 then (0, acc + 2 ^ (7 * k) * t.2.1, t.2.2) else (t.1, 0, [])
def Inv (l : List UInt8) (k acc : Nat) : Prop := acc < 2 ^ (7 * k) ∧ take 0 l = lift k acc (take k (l.drop k))

theorem inv_start (l : List UInt8) : Inv l 0 0 := by
  refine ⟨by simp, ?_⟩
  unfold lift
  split
  · rename_i h; simp; exact Prod.ext h rfl
  · rename_i h; have := take_err l 0 h; exact Prod.ext rfl this
theorem inv_end {l : List UInt8} {k acc : Nat} (h : Inv l k acc) (hk : k = l.length) : take 0 l = (3, 0, []) := by
  rw [h.2, hk, List.drop_length]; rfl
theorem drop_at (l : List UInt8) (k : Nat) (hk : k < l.length) : l.drop k = l[k] :: l.drop (k + 1) := by simp
theorem inv_form {l : List UInt8} {k acc : Nat} (h : Inv l k acc) (hk : k < l.length) (hb : (k = 9 ∧ 1 < l[k].toNat) ∨ (0 < k ∧ l[k].toNat = 0)) : take 0 l = (4, 0, []) := by
  rw [h.2, drop_at l k hk, take, if_pos hb]; rfl
theorem inv_last {l : List UInt8} {k acc : Nat} (h : Inv l k acc) (hk : k < l.length) (hb : ¬ ((k = 9 ∧ 1 < l[k].toNat) ∨ (0 < k ∧ l[k].toNat = 0))) (h2 : l[k].toNat < 128) :
    take 0 l = (0, acc + 2 ^ (7 * k) * l[k].toNat, l.drop (k + 1)) := by
  rw [h.2, drop_at l k hk, take, if_neg hb, if_pos h2]; rfl
theorem inv_more {l : List UInt8} {k acc : Nat} (h : Inv l k acc) (hk : k < l.length) (hb : k ≠ 9) (h2 : 128 ≤ l[k].toNat) :
    Inv l (k + 1) (acc + 2 ^ (7 * k) * (l[k].toNat - 128)) := by
  have e : 2 ^ (7 * (k + 1)) = 128 * 2 ^ (7 * k) := by rw [show 7 * (k + 1) = 7 + 7 * k from by omega, Nat.pow_add]
  have hlt := l[k].toNat_lt
  constructor
  · have h1 := h.1
    rw [e]
    have : 2 ^ (7 * k) * (l[k].toNat - 128) ≤ 2 ^ (7 * k) * 127 := Nat.mul_le_mul_left _ (by omega)
    omega
  · rw [h.2, drop_at l k hk, take, if_neg (by omega), if_neg (by omega)]
    unfold lift
    by_cases h0 : (take (k + 1) (l.drop (k + 1))).1 = 0
    · rw [if_pos h0, if_pos rfl, if_pos h0]
      simp only [Prod.mk.injEq, true_and, and_true]
      rw [e, Nat.mul_add, Nat.add_assoc, ← Nat.mul_assoc, Nat.mul_comm (2 ^ (7 * k)) 128]
    · rw [if_neg h0, if_neg h0, if_neg h0]

/-- or, where the lower part lies below: a sum -/
theorem or_sum (acc b k : Nat) (h : acc < 2 ^ (7 * k)) : acc ||| 2 ^ (7 * k) * b = acc + 2 ^ (7 * k) * b := by
  rw [Nat.or_comm, ← Nat.two_pow_add_eq_or_of_lt h, Nat.add_comm]

/-! ### writing: the digits ahead of the place k are p -/
def Wrote (c k : Nat) (p : List UInt8) : Prop := p.length = k ∧ num c = p ++ num (c / 2 ^ (k * 7)) ∧ (0 < k → 0 < c / 2 ^ (k * 7))
theorem wrote_start (c : Nat) : Wrote c 0 [] := ⟨rfl, by simp, fun h => by omega⟩
theorem div_step (c k : Nat) : c / 2 ^ ((k + 1) * 7) = c / 2 ^ (k * 7) / 128 := by
  rw [show (k + 1) * 7 = k * 7 + 7 from by omega, Nat.pow_add, Nat.div_div_eq_div_mul]
theorem wrote_more {c k : Nat} {p : List UInt8} (h : Wrote c k p) (hm : 128 ≤ c / 2 ^ (k * 7)) : Wrote c (k + 1) (p ++ [UInt8.ofNat (128 + c / 2 ^ (k * 7) % 128)]) := by
  refine ⟨by simp [h.1], ?_, fun _ => by rw [div_step]; omega⟩
  rw [h.2.1, num_great _ hm, div_step]; simp
theorem wrote_last {c k : Nat} {p : List UInt8} (h : Wrote c k p) (hm : c / 2 ^ (k * 7) < 128) : p ++ [UInt8.ofNat (c / 2 ^ (k * 7))] = num c := by
  rw [h.2.1, num_small _ hm]
theorem wrote_lt {c k : Nat} {p : List UInt8} (h : Wrote c k p) (hc : c < 18446744073709551616) (hk : k ≤ 10) : k ≤ 9 := by
  by_cases h9 : k = 10
  · subst h9
    have := h.2.2 (by omega)
    have : c / 2 ^ (10 * 7) = 0 := Nat.div_eq_of_lt (by omega)
    omega
  · omega

theorem wrote_lt' {c k : Nat} {p : List UInt8} (h : Wrote c k p) (hc : c < 18446744073709551616) : k ≤ 9 := by
  by_cases h9 : 10 ≤ k
  · have := h.2.2 (by omega)
    have h2 : 2 ^ (10 * 7) ≤ 2 ^ (k * 7) := Nat.pow_le_pow_right (by omega) (by omega)
    have : c / 2 ^ (k * 7) = 0 := Nat.div_eq_of_lt (by omega)
    omega
  · omega

/-! what the calls answer -/
def numB (n : Int) : ByteArray := ⟨(num (codeN n)).toArray⟩
def tN (s : ByteArray) : Int := if (take 0 s.data.toList).1 = 0 then decN (take 0 s.data.toList).2.1 else 0
def tR (s : ByteArray) : ByteArray := ⟨(take 0 s.data.toList).2.2.toArray⟩
def tE (s : ByteArray) : Int := (take 0 s.data.toList).1

theorem t_err {s : ByteArray} {e : Nat} (he : e ≠ 0) (h : take 0 s.data.toList = (e, 0, [])) : 0 = tN s ∧ (⟨#[]⟩ : ByteArray) = tR s ∧ (e : Int) = tE s := by
  unfold tN tR tE; rw [h]; exact ⟨by rw [if_neg he], rfl, rfl⟩
theorem t_ok {s : ByteArray} {c : Nat} {r : ByteArray} (h : take 0 s.data.toList = (0, c, r.data.toList)) : decN c = tN s ∧ r = tR s ∧ 0 = tE s := by
  unfold tN tR tE; rw [h]; exact ⟨rfl, rfl, rfl⟩

theorem extract_drop (s : ByteArray) (k : Nat) : (s.extract k s.size).data.toList = s.data.toList.drop k := by
  rw [ByteArray.data_extract, Array.toList_extract, List.extract_eq_take_drop]; exact List.take_of_length_le (by simp)
theorem t_last {s : ByteArray} {c k : Nat} (h : take 0 s.data.toList = (0, c, s.data.toList.drop k)) : decN c = tN s ∧ s.extract k s.size = tR s ∧ 0 = tE s :=
  t_ok (by rw [h, extract_drop])

theorem numB_len (n : Int) (h0 : -9223372036854775808 ≤ n) (h1 : n ≤ 9223372036854775807) : (numB n).size ≤ 10 := by
  have := num_len10 _ (code_lt n h0 h1)
  simpa [numB, ByteArray.size] using this

/-! ### numbers of a fixed length -/
/-- the byte at the place k (0 is the lowest) -/
def digit (n : Int) (k : Nat) : UInt8 := UInt8.ofNat ((n % 18446744073709551616).toNat / 2 ^ (k * 8) % 256)
/-- the lowest k bytes, the highest first -/
def fix (n : Int) : Nat → List UInt8
  | 0 => []
  | k + 1 => digit n k :: fix n k
def cnt (bytes : Int) : Nat := if bytes < 0 then 0 else if 8 < bytes then 8 else bytes.toNat
theorem fix_len (n : Int) (k : Nat) : (fix n k).length = k := by
  induction k with
  | zero => rfl
  | succ k ih => simp [fix, ih]
theorem cnt_le (b : Int) : cnt b ≤ 8 := by unfold cnt; split; omega; split <;> omega

theorem cnt_cases (b : Int) : ∃ m : Nat, m ≤ 8 ∧ Go.RowKit.Hid (cnt b = m) ∧ ((b < 0 ∧ m ≤ 0) ∨ (8 < b ∧ 8 ≤ m) ∨ b = m) := by
  refine ⟨cnt b, cnt_le b, rfl, ?_⟩
  unfold cnt; split
  · exact .inl ⟨by assumption, by omega⟩
  · split
    · exact .inr (.inl ⟨by assumption, by omega⟩)
    · exact .inr (.inr (by omega))
/-- what a row of m zeros holds when k of its bytes are laid, from the back -/
def laid (n : Int) (m k : Nat) : List UInt8 := List.replicate (m - k) 0 ++ fix n k
theorem laid_len (n : Int) (m k : Nat) (h : k ≤ m) : (laid n m k).length = m := by simp [laid, fix_len]; omega
theorem laid_all (n : Int) (m : Nat) : laid n m m = fix n m := by simp [laid]
theorem laid_none (n : Int) (m : Nat) : laid n m 0 = List.replicate m 0 := by simp [laid, fix]
theorem laid_step (n : Int) (m k : Nat) (h : k < m) : (laid n m k).set (m - 1 - k) (digit n k) = laid n m (k + 1) := by
  unfold laid
  have e : List.replicate (m - k) (0 : UInt8) = List.replicate (m - 1 - k) 0 ++ [0] := by
    rw [show m - k = (m - 1 - k) + 1 from by omega, List.replicate_succ']
  rw [e, List.append_assoc, List.set_append_right _ _ (by simp)]
  simp [fix, show m - (k + 1) = m - 1 - k from by omega]

/-! ### what TakeNum answers, in three cases -/
theorem t_cases (s : ByteArray) :
    (tN s = 0 ∧ tR s = ⟨#[]⟩ ∧ (tE s = 3 ∨ tE s = 4)) ∨
    (∃ (n : Int) (r : ByteArray), -9223372036854775808 ≤ n ∧ n ≤ 9223372036854775807 ∧ r.size ≤ s.size ∧ tN s = n ∧ tR s = r ∧ tE s = 0 ∧ numB n ++ r = s) := by
  by_cases h0 : (take 0 s.data.toList).1 = 0
  · right
    obtain ⟨c, r, hr⟩ : ∃ c r, take 0 s.data.toList = (0, c, r) := ⟨(take 0 s.data.toList).2.1, (take 0 s.data.toList).2.2, Prod.ext h0 rfl⟩
    have hlt := take_lt _ _ _ hr
    have ho := (take_only _ 0 c r (by omega) hr).1
    refine ⟨decN c, ⟨r.toArray⟩, ?_, ?_, ?_, ?_, ?_, ?_, ?_⟩
    · unfold decN; split <;> omega
    · unfold decN; split <;> omega
    · have := congrArg List.length ho
      simp only [List.length_append, Array.length_toList] at this
      have e : s.data.size = s.size := rfl
      show r.toArray.size ≤ s.size
      simp; omega
    · unfold tN; rw [hr]; rfl
    · unfold tR; rw [hr]
    · unfold tE; rw [hr]; rfl
    · unfold numB; rw [code_dec, ByteArray.mk_append_mk, ho]
  · left
    have he := take_err _ 0 h0
    refine ⟨by unfold tN; rw [if_neg h0], by unfold tR; rw [he], ?_⟩
    unfold tE
    rcases take_codes s.data.toList 0 with h | h | h
    · exact absurd h h0
    · rw [h]; left; rfl
    · rw [h]; right; rfl

/-- no number's bytes are the beginning of another one's -/
theorem first (n m : Int) (hn0 : -9223372036854775808 ≤ n) (hn1 : n ≤ 9223372036854775807) (hm0 : -9223372036854775808 ≤ m) (hm1 : m ≤ 9223372036854775807)
    (t : List UInt8) (h : num (codeN m) = num (codeN n) ++ t) : n = m := by
  have h1 := take_back (codeN m) [] (code_lt m hm0 hm1)
  have h2 := take_back (codeN n) t (code_lt n hn0 hn1)
  rw [List.append_nil, h] at h1
  rw [h1] at h2
  have : codeN m = codeN n := by simpa using congrArg (fun x => x.2.1) h2
  rw [← dec_code n, ← this, dec_code]
theorem first_ne (n m : Int) (hn0 : -9223372036854775808 ≤ n) (hn1 : n ≤ 9223372036854775807) (hm0 : -9223372036854775808 ≤ m) (hm1 : m ≤ 9223372036854775807)
    (hne : n ≠ m) (_hl : (numB n).size ≤ (numB m).size) : (numB m).extract 0 (numB n).size ≠ numB n := by
  intro h
  refine hne (first n m hn0 hn1 hm0 hm1 ((num (codeN m)).drop (num (codeN n)).length) ?_)
  have h2 := congrArg (fun b => b.data.toList) h
  simp only [ByteArray.data_extract, Array.toList_extract, List.extract_eq_take_drop, numB, List.drop_zero, Nat.sub_zero] at h2
  have e : (ByteArray.mk (num (codeN n)).toArray).size = (num (codeN n)).length := by simp [ByteArray.size]
  rw [e] at h2
  conv => lhs; rw [← List.take_append_drop (num (codeN n)).length (num (codeN m)), h2]
theorem numB_pos (n : Int) : 0 < (numB n).size := by
  have := num_ne (codeN n)
  have h : 0 < (num (codeN n)).length := List.length_pos_iff.2 this
  simpa [numB, ByteArray.size] using h

end Go.Proofs.Ytedemehlccmkpaa.Oct

/-
  Plain mathematics of layer 1, second part: numbers of a fixed length, read.
-/
namespace Go.Proofs.Ytedemehlccmkpaa.Oct

/-- the number of bytes, the highest first -/
def be (l : List UInt8) : Nat := l.foldl (fun c b => c * 256 + b.toNat) 0
theorem be_snoc (l : List UInt8) (b : UInt8) : be (l ++ [b]) = be l * 256 + b.toNat := by simp [be]
theorem be_from (l : List UInt8) : ∀ c : Nat, l.foldl (fun c b => c * 256 + b.toNat) c = c * 2 ^ (l.length * 8) + be l := by
  induction l with
  | nil => intro c; simp [be]
  | cons b l ih =>
    intro c
    unfold be
    rw [List.foldl_cons, List.foldl_cons, ih, ih (0 * 256 + b.toNat), List.length_cons, show (l.length + 1) * 8 = l.length * 8 + 8 from by omega, Nat.pow_add]
    simp only [Nat.zero_mul, Nat.zero_add]
    rw [Nat.add_mul, Nat.mul_assoc, Nat.mul_comm (2 ^ (l.length * 8)) (2 ^ 8), Nat.add_assoc]
theorem be_cons (b : UInt8) (l : List UInt8) : be (b :: l) = b.toNat * 2 ^ (l.length * 8) + be l := by
  have := be_from l (0 * 256 + b.toNat)
  unfold be at this ⊢
  rw [List.foldl_cons, this]; simp
theorem be_lt (l : List UInt8) : be l < 2 ^ (l.length * 8) := by
  induction l with
  | nil => simp [be]
  | cons b l ih =>
    rw [be_cons, List.length_cons, show (l.length + 1) * 8 = l.length * 8 + 8 from by omega, Nat.pow_add]
    have hb := b.toNat_lt
    have : b.toNat * 2 ^ (l.length * 8) ≤ 255 * 2 ^ (l.length * 8) := Nat.mul_le_mul_right _ (by omega)
    omega
theorem be_fix (n : Int) (k : Nat) : be (fix n k) = (n % 18446744073709551616).toNat % 2 ^ (k * 8) := by
  induction k with
  | zero => simp [fix, be]; omega
  | succ k ih =>
    rw [fix, be_cons, ih, fix_len, digit, toNat_ofNat _ (by omega), show (k + 1) * 8 = k * 8 + 8 from by omega, Nat.pow_add, Nat.mod_mul, Nat.mul_comm, Nat.add_comm]
/-- what Read answers -/
def rd (s : ByteArray) : Int := IntKind.i64.wrap (be (s.data.toList.take 8))
theorem rd_fix (n : Int) (h0 : -9223372036854775808 ≤ n) (h1 : n ≤ 9223372036854775807) : rd ⟨(fix n 8).toArray⟩ = n := by
  unfold rd
  have e : (ByteArray.mk (fix n 8).toArray).data.toList.take 8 = fix n 8 := by
    simp only
    exact List.take_of_length_le (by rw [fix_len]; omega)
  rw [e, be_fix, IntKind.wrap_i64]; omega

theorem ofInt_wrap (n : Int) : BitVec.ofInt 64 (IntKind.i64.wrap n) = BitVec.ofInt 64 n := by
  apply BitVec.eq_of_toNat_eq
  rw [BitVec.toNat_ofInt, BitVec.toNat_ofInt, IntKind.wrap_i64]
  have e : ((2 ^ 64 : Nat) : Int) = 18446744073709551616 := rfl
  rw [e]
  omega
/-- or, where the lower part lies below: a sum, as 64 bits go -/
theorem or_i64 (a b k : Nat) (ha : a < 2 ^ (k * 8)) (hb : b < 256) (hk : k ≤ 7) :
    bits .or .i64 (IntKind.i64.wrap (a : Int)) (IntKind.i64.wrap ((b : Int) * 2 ^ (k * 8))) = IntKind.i64.wrap ((b * 2 ^ (k * 8) + a : Nat) : Int) := by
  have hp : (2 : Nat) ^ (k * 8) ≤ 2 ^ 56 := Nat.pow_le_pow_right (by omega) (by omega)
  have hm : b * 2 ^ (k * 8) ≤ 255 * 2 ^ 56 := Nat.mul_le_mul (by omega) hp
  have e : ((b : Int) * 2 ^ (k * 8)) = ((b * 2 ^ (k * 8) : Nat) : Int) := by push_cast; rfl
  show IntKind.i64.wrap ((BitVec.ofInt 64 _ ||| BitVec.ofInt 64 _).toNat : Int) = _
  rw [ofInt_wrap, ofInt_wrap, e, BitVec.ofInt_natCast, BitVec.ofInt_natCast, BitVec.toNat_or, BitVec.toNat_ofNat, BitVec.toNat_ofNat, Nat.mod_eq_of_lt (by omega), Nat.mod_eq_of_lt (by omega)]
  have := Nat.two_pow_add_eq_or_of_lt ha b
  rw [Nat.or_comm, Nat.mul_comm b, this]

/-- the last k of the first m bytes -/
def low (s : ByteArray) (m k : Nat) : List UInt8 := (s.data.toList.take m).drop (m - k)
theorem low_none (s : ByteArray) (m : Nat) : low s m 0 = [] := by simp [low]
theorem low_all (s : ByteArray) (m : Nat) : low s m m = s.data.toList.take m := by simp [low]
theorem low_len (s : ByteArray) (m k : Nat) (hm : m ≤ s.size) (hk : k ≤ m) : (low s m k).length = k := by
  have e : s.data.size = s.size := rfl
  simp [low]; omega
theorem low_step (s : ByteArray) (m k : Nat) (hm : m ≤ s.size) (hk : k < m) : low s m (k + 1) = s[m - 1 - k] :: low s m k := by
  have e : s.data.toList.length = s.size := by simp
  unfold low
  have h1 : m - (k + 1) < (s.data.toList.take m).length := by rw [List.length_take]; omega
  have hg : (s.data.toList.take m)[m - (k + 1)] = s[m - 1 - k] := by
    rw [List.getElem_take]
    simp only [show m - (k + 1) = m - 1 - k from by omega]
    rfl
  rw [List.drop_eq_getElem_cons h1, hg, show m - (k + 1) + 1 = m - k from by omega]
theorem be_low (s : ByteArray) (m k : Nat) (hm : m ≤ s.size) (hk : k < m) (h8 : m ≤ 8) :
    bits .or .i64 (IntKind.i64.wrap (be (low s m k) : Int)) (IntKind.i64.wrap (((s[m - 1 - k]).toNat : Int) * 2 ^ (k * 8))) = IntKind.i64.wrap (be (low s m (k + 1)) : Int) := by
  have h := be_lt (low s m k)
  rw [low_len s m k hm (by omega)] at h
  rw [or_i64 _ _ _ h (UInt8.toNat_lt _) (by omega), low_step s m k hm hk, be_cons, low_len s m k hm (by omega)]
theorem rd_low (s : ByteArray) (m : Nat) (h : m = min s.size 8) : rd s = IntKind.i64.wrap (be (low s m m) : Int) := by
  rw [low_all, rd, h]
  congr 2
  rcases Nat.le_total s.size 8 with h8 | h8
  · have e : s.data.toList.length = s.size := by simp
    rw [Nat.min_eq_left h8, List.take_of_length_le (by omega), List.take_of_length_le (by omega)]
  · rw [Nat.min_eq_right h8]
/-- the first k bytes, as a number -/
theorem be_take (s : ByteArray) (k : Nat) (hk : k < s.size) : be (s.data.toList.take (k + 1)) = be (s.data.toList.take k) * 256 + s[k].toNat := by
  have h : k < s.data.toList.length := by simpa using hk
  rw [List.take_succ_eq_append_getElem h, be_snoc]; rfl
theorem be_take_lt (s : ByteArray) (k : Nat) (h8 : k ≤ 8) : be (s.data.toList.take k) < 18446744073709551616 := by
  have h := be_lt (s.data.toList.take k)
  have hl : (s.data.toList.take k).length ≤ k := List.length_take_le _ _
  have : (2 : Nat) ^ ((s.data.toList.take k).length * 8) ≤ 2 ^ 64 := Nat.pow_le_pow_right (by omega) (by omega)
  omega

theorem cnt_step (k : Nat) (b : Int) (h1 : (k : Int) < b) (h2 : k < 8) : k + 1 ≤ cnt b := by
  unfold cnt; split
  · omega
  · split <;> omega
theorem cnt_end (k : Nat) (b : Int) (h : ¬ ((k : Int) < b ∧ k < 8)) (hk : k ≤ 8) (h2 : k ≤ cnt b) : k = cnt b := by
  unfold cnt at h2 ⊢
  by_cases h0 : b < 0
  · rw [if_pos h0] at h2 ⊢; omega
  · rw [if_neg h0] at h2 ⊢
    by_cases h8 : 8 < b
    · rw [if_pos h8] at h2 ⊢; omega
    · rw [if_neg h8] at h2 ⊢; omega
theorem wrap_none : 0 = Go.RowKit.wrap64 ((be [] : Nat) : Int) := by
  have e : be [] = 0 := rfl
  rw [e]; unfold Go.RowKit.wrap64; omega

end Go.Proofs.Ytedemehlccmkpaa.Oct

/-
  Plain mathematics of layer 1, third part: texts and lists, taken.
-/
namespace Go.Proofs.Ytedemehlccmkpaa.Oct

/-- a length, or how many: what is taken -/
def cnt3 (s : ByteArray) (lim : Int) : Int × ByteArray × Int :=
  if tE s ≠ 0 then (0, ⟨#[]⟩, tE s) else if tN s < 0 then (0, ⟨#[]⟩, 4) else if lim < tN s then (0, ⟨#[]⟩, 5) else (tN s, tR s, 0)
/-- a text, taken -/
def txt (s : ByteArray) (most : Int) : ByteArray × ByteArray × Int :=
  if (cnt3 s most).2.2 ≠ 0 then (⟨#[]⟩, ⟨#[]⟩, (cnt3 s most).2.2) else
    if ((cnt3 s most).2.1.size : Int) < (cnt3 s most).1 then (⟨#[]⟩, ⟨#[]⟩, 3)
    else ((cnt3 s most).2.1.extract 0 (cnt3 s most).1.toNat, (cnt3 s most).2.1.extract (cnt3 s most).1.toNat (cnt3 s most).2.1.size, 0)
/-- so many texts, taken one behind the other -/
def lst (most : Int) : Nat → ByteArray → List ByteArray × ByteArray × Int
  | 0, s => ([], s, 0)
  | n + 1, s => if (txt s most).2.2 ≠ 0 then ([], ⟨#[]⟩, (txt s most).2.2) else
      if (lst most n (txt s most).2.1).2.2 ≠ 0 then ([], ⟨#[]⟩, (lst most n (txt s most).2.1).2.2)
      else ((txt s most).1 :: (lst most n (txt s most).2.1).1, (lst most n (txt s most).2.1).2.1, 0)
/-- a list, taken -/
def txts (s : ByteArray) (count most : Int) : List ByteArray × ByteArray × Int :=
  if (cnt3 s count).2.2 ≠ 0 then ([], ⟨#[]⟩, (cnt3 s count).2.2) else lst most (cnt3 s count).1.toNat (cnt3 s count).2.1

theorem cnt3_err {s : ByteArray} {lim : Int} (e : Int) (h : tE s = e) (he : e ≠ 0) : cnt3 s lim = (0, ⟨#[]⟩, e) := by
  unfold cnt3; rw [if_pos (by rw [h]; exact he), h]
theorem cnt3_neg {s : ByteArray} {lim n : Int} (h : tE s = 0) (hn : tN s = n) (h0 : n < 0) : cnt3 s lim = (0, ⟨#[]⟩, 4) := by
  unfold cnt3; rw [if_neg (by rw [h]; simp), hn, if_pos h0]
theorem cnt3_big {s : ByteArray} {lim n : Int} (h : tE s = 0) (hn : tN s = n) (h0 : ¬ n < 0) (h1 : lim < n) : cnt3 s lim = (0, ⟨#[]⟩, 5) := by
  unfold cnt3; rw [if_neg (by rw [h]; simp), hn, if_neg h0, if_pos h1]
theorem cnt3_ok {s r : ByteArray} {lim n : Int} (h : tE s = 0) (hn : tN s = n) (hr : tR s = r) (h0 : ¬ n < 0) (h1 : ¬ lim < n) : cnt3 s lim = (n, r, 0) := by
  unfold cnt3; rw [if_neg (by rw [h]; simp), hn, if_neg h0, if_neg h1, hr]

/-- what is taken as a length: an error, or a number in its bounds with less behind it than there was -/
theorem cnt3_cases (s : ByteArray) (lim : Int) :
    (∃ e : Int, e ≠ 0 ∧ cnt3 s lim = (0, ⟨#[]⟩, e)) ∨
    (∃ (n : Nat) (r : ByteArray), (n : Int) ≤ 9223372036854775807 ∧ (n : Int) ≤ lim ∧ r.size < s.size ∧ cnt3 s lim = ((n : Int), r, 0) ∧ numB n ++ r = s) := by
  rcases t_cases s with ⟨_, _, h | h⟩ | ⟨n, r, h1, h2, h3, e1, e2, e3, e4⟩
  · exact .inl ⟨3, by decide, cnt3_err 3 h (by decide)⟩
  · exact .inl ⟨4, by decide, cnt3_err 4 h (by decide)⟩
  · by_cases h0 : n < 0
    · exact .inl ⟨4, by decide, cnt3_neg e3 e1 h0⟩
    · by_cases hl : lim < n
      · exact .inl ⟨5, by decide, cnt3_big e3 e1 h0 hl⟩
      · obtain ⟨m, rfl⟩ := Int.eq_ofNat_of_zero_le (show 0 ≤ n by omega)
        refine .inr ⟨m, r, h2, by omega, ?_, cnt3_ok e3 e1 e2 h0 hl, e4⟩
        have hp := numB_pos (m : Int)
        have : (numB m).size + r.size = s.size := by rw [← e4, ByteArray.size_append]
        omega

theorem txt_err {s : ByteArray} {most e : Int} (he : e ≠ 0) (h : cnt3 s most = (0, ⟨#[]⟩, e)) : txt s most = (⟨#[]⟩, ⟨#[]⟩, e) := by
  unfold txt; rw [h]; exact if_pos he
theorem txt_short {s r : ByteArray} {most : Int} {n : Nat} (h : cnt3 s most = ((n : Int), r, 0)) (h1 : r.size < n) : txt s most = (⟨#[]⟩, ⟨#[]⟩, 3) := by
  unfold txt; rw [h]; simp only [ne_eq, not_true_eq_false, if_false]; exact if_pos (by omega)
theorem txt_ok {s r : ByteArray} {most : Int} {n : Nat} (h : cnt3 s most = ((n : Int), r, 0)) (h1 : ¬ r.size < n) : txt s most = (r.extract 0 n, r.extract n r.size, 0) := by
  unfold txt; rw [h]; simp only [ne_eq, not_true_eq_false, if_false, Int.toNat_natCast]; exact if_neg (by omega)
/-- what is taken as a text: an error, or a text with less behind it than there was -/
theorem txt_cases (s : ByteArray) (most : Int) :
    (∃ e : Int, e ≠ 0 ∧ txt s most = (⟨#[]⟩, ⟨#[]⟩, e)) ∨
    (∃ (a r : ByteArray), txt s most = (a, r, 0) ∧ r.size < s.size ∧ a.size < s.size) := by
  rcases cnt3_cases s most with ⟨e, he, h⟩ | ⟨n, r, _, _, h3, h, _⟩
  · exact .inl ⟨e, he, txt_err he h⟩
  · by_cases h1 : r.size < n
    · exact .inl ⟨3, by decide, txt_short h h1⟩
    · refine .inr ⟨_, _, txt_ok h h1, ?_, ?_⟩
      · rw [ByteArray.size_extract]; omega
      · rw [ByteArray.size_extract]; omega

/-- the texts so far, ahead of what is taken next -/
def glue (acc : List ByteArray) (t : List ByteArray × ByteArray × Int) : List ByteArray × ByteArray × Int :=
  if t.2.2 ≠ 0 then ([], ⟨#[]⟩, t.2.2) else (acc ++ t.1, t.2.1, 0)
theorem lst_form (most : Int) : ∀ (n : Nat) (s : ByteArray), lst most n s = glue [] (lst most n s)
  | 0, s => rfl
  | n + 1, s => by
    unfold glue lst
    split
    · simp
    · split
      · simp
      · simp
theorem glue_step (most : Int) (acc : List ByteArray) (n : Nat) (s : ByteArray) {a r : ByteArray} (h : txt s most = (a, r, 0)) :
    glue acc (lst most (n + 1) s) = glue (acc ++ [a]) (lst most n r) := by
  rw [lst, h]
  simp only [ne_eq, not_true_eq_false, if_false]
  obtain ⟨l, r', e⟩ := lst most n r
  by_cases he : e = 0
  · subst he; simp [glue]
  · simp [glue, he]
theorem glue_err (most : Int) (acc : List ByteArray) (n : Nat) (s : ByteArray) {e : Int} (he : e ≠ 0) (h : txt s most = (⟨#[]⟩, ⟨#[]⟩, e)) :
    glue acc (lst most (n + 1) s) = ([], ⟨#[]⟩, e) := by
  rw [lst, h]
  simp only [ne_eq, he, not_false_eq_true, if_true]
  unfold glue; exact if_pos he
theorem glue_end (most : Int) (acc : List ByteArray) (s : ByteArray) : glue acc (lst most 0 s) = (acc, s, 0) := by
  unfold glue lst; simp

/-! ### lists, written -/
def one (s : ByteArray) : List UInt8 := (numB s.size).data.toList ++ s.data.toList
def all : List ByteArray → List UInt8
  | [] => []
  | s :: l => one s ++ all l
def total : List ByteArray → Nat
  | [] => 0
  | s :: l => s.size + total l
theorem all_append (a b : List ByteArray) : all (a ++ b) = all a ++ all b := by
  induction a with
  | nil => rfl
  | cons s a ih => simp [all, ih]
theorem total_append (a b : List ByteArray) : total (a ++ b) = total a + total b := by
  induction a with
  | nil => simp [total]
  | cons s a ih => simp [total, ih]; omega
theorem all_take (l : List ByteArray) (k : Nat) (h : k < l.length) : all (l.take (k + 1)) = all (l.take k) ++ one l[k] := by
  rw [List.take_succ_eq_append_getElem h, all_append]; simp [all]
theorem total_take (l : List ByteArray) (k : Nat) (h : k < l.length) : total (l.take (k + 1)) = total (l.take k) + l[k].size := by
  rw [List.take_succ_eq_append_getElem h, total_append]; simp [total]
theorem total_take_le (l : List ByteArray) (k : Nat) : total (l.take k) ≤ total l := by
  have := total_append (l.take k) (l.drop k)
  rw [List.take_append_drop] at this; omega
theorem total_at (l : List ByteArray) (k : Nat) (h : k < l.length) : total (l.take k) + l[k].size ≤ total l := by
  rw [← total_take l k h]; exact total_take_le l _
/-- the bytes of a list -/
def txtsB (l : List ByteArray) : ByteArray := ⟨((numB l.length).data.toList ++ all l).toArray⟩

theorem list_len (s : ByteArray) : s.data.toList.length = s.size := by simp
theorem one_len (s : ByteArray) (h : s.size ≤ 9223372036854775807) : (one s).length ≤ 10 + s.size := by
  have := numB_len (s.size : Int) (by omega) (by omega)
  unfold one; rw [List.length_append, list_len, list_len]; omega
theorem all_len : ∀ (l : List ByteArray), total l ≤ 9223372036854775807 → (all l).length ≤ 10 * l.length + total l
  | [], _ => by simp [all]
  | s :: l, h => by
    have h1 := one_len s (by simp [total] at h; omega)
    have h2 := all_len l (by simp [total] at h; omega)
    simp [all, total]; omega

/-! ### what was written is taken -/
theorem tE_back (n : Int) (r : ByteArray) (h0 : -9223372036854775808 ≤ n) (h1 : n ≤ 9223372036854775807) : tN (numB n ++ r) = n ∧ tR (numB n ++ r) = r ∧ tE (numB n ++ r) = 0 := by
  have e : (numB n ++ r).data.toList = num (codeN n) ++ r.data.toList := by simp [numB, ByteArray.data_append]
  have h := take_back (codeN n) r.data.toList (code_lt n h0 h1)
  have := t_ok (s := numB n ++ r) (c := codeN n) (r := r) (by rw [e]; exact h)
  rw [dec_code] at this
  exact ⟨this.1.symm, this.2.1.symm, this.2.2.symm⟩
theorem cnt3_back (n : Nat) (r : ByteArray) (lim : Int) (h1 : (n : Int) ≤ 9223372036854775807) (h2 : (n : Int) ≤ lim) : cnt3 (numB n ++ r) lim = ((n : Int), r, 0) := by
  obtain ⟨a, b, c⟩ := tE_back (n : Int) r (by omega) h1
  exact cnt3_ok c a b (by omega) (by omega)
theorem mk_list (l : List UInt8) : (⟨l.toArray⟩ : ByteArray).data.toList = l := rfl
theorem txt_back (s r : ByteArray) (most : Int) (h1 : (s.size : Int) ≤ 9223372036854775807) (h2 : (s.size : Int) ≤ most) : txt (numB s.size ++ s ++ r) most = (s, r, 0) := by
  have hc := cnt3_back s.size (s ++ r) most h1 h2
  rw [← ByteArray.append_assoc] at hc
  rw [txt_ok hc (by rw [ByteArray.size_append]; omega)]
  have e1 : (s ++ r).extract 0 s.size = s := by
    apply Go.WideShapes.bytes_inj
    rw [ByteArray.data_extract, Array.toList_extract, List.extract_eq_take_drop, ByteArray.data_append]
    simp
  have e2 : (s ++ r).extract s.size (s ++ r).size = r := by
    apply Go.WideShapes.bytes_inj
    rw [extract_drop, ByteArray.data_append]
    simp
  rw [e1, e2]
theorem mk_append (a b : List UInt8) : (⟨(a ++ b).toArray⟩ : ByteArray) = ⟨a.toArray⟩ ++ ⟨b.toArray⟩ := by
  apply Go.WideShapes.bytes_inj; simp [ByteArray.data_append]
theorem mk_data (s : ByteArray) : (⟨s.data.toList.toArray⟩ : ByteArray) = s := rfl
theorem lst_back (most : Int) : ∀ (l : List ByteArray) (r : ByteArray), total l ≤ 9223372036854775807 → (∀ s ∈ l, (s.size : Int) ≤ most) → lst most l.length (⟨(all l).toArray⟩ ++ r) = (l, r, 0)
  | [], r, _, _ => by
    have e : (⟨(all []).toArray⟩ ++ r : ByteArray) = r := by apply Go.WideShapes.bytes_inj; simp [all, ByteArray.data_append]
    rw [e]; rfl
  | s :: l, r, ht, hm => by
    have e : (⟨(all (s :: l)).toArray⟩ ++ r : ByteArray) = numB s.size ++ s ++ (⟨(all l).toArray⟩ ++ r) := by
      apply Go.WideShapes.bytes_inj
      simp [all, one, ByteArray.data_append]
    have h1 := txt_back s (⟨(all l).toArray⟩ ++ r) most (by simp [total] at ht; omega) (hm s (by simp))
    have h2 := lst_back most l r (by simp [total] at ht; omega) (fun x hx => hm x (by simp [hx]))
    rw [List.length_cons, e, lst, h1, h2]; simp
theorem txts_back (l : List ByteArray) (r : ByteArray) (count most : Int) (hn : (l.length : Int) ≤ 9223372036854775807) (hc : (l.length : Int) ≤ count) (ht : total l ≤ 9223372036854775807) (hm : ∀ s ∈ l, (s.size : Int) ≤ most) :
    txts (txtsB l ++ r) count most = (l, r, 0) := by
  have e : txtsB l ++ r = numB l.length ++ (⟨(all l).toArray⟩ ++ r) := by
    apply Go.WideShapes.bytes_inj
    simp [txtsB, ByteArray.data_append]
  have h := cnt3_back l.length (⟨(all l).toArray⟩ ++ r) count hn hc
  unfold txts
  rw [e, h]
  simp only [ne_eq, not_true_eq_false, if_false, Int.toNat_natCast]
  exact lst_back most l r ht hm
theorem mem_le (l : List ByteArray) (s : ByteArray) (h : s ∈ l) : s.size ≤ total l := by
  induction l with
  | nil => simp at h
  | cons a l ih =>
    simp only [total]
    rcases List.mem_cons.1 h with rfl | h
    · omega
    · have := ih h; omega

end Go.Proofs.Ytedemehlccmkpaa.Oct

/-
  The plain mathematics of layer 2 (crc): sums bit by bit, as natural numbers; nothing of any program.
-/
namespace Go.Proofs.Ytedemehlccmkpaa.Crc
/-- a bit shifted out -/
def stp (c : Nat) : Nat := if c % 2 = 1 then (c / 2) ^^^ 2197175160 else c / 2
def stps : Nat → Nat → Nat
  | 0, c => c
  | k + 1, c => stp (stps k c)
def byt (c : Nat) (b : UInt8) : Nat := stps 8 (c ^^^ b.toNat)
def run (c : Nat) (l : List UInt8) : Nat := l.foldl byt c
def sum (l : List UInt8) : Nat := run 4294967295 l ^^^ 4294967295

theorem stp_lt (c : Nat) (h : c < 4294967296) : stp c < 4294967296 := by
  unfold stp; split
  · exact Nat.xor_lt_two_pow (n := 32) (by omega) (by omega)
  · omega
theorem stps_lt : ∀ (k c : Nat), c < 4294967296 → stps k c < 4294967296
  | 0, _, h => h
  | k + 1, c, h => stp_lt _ (stps_lt k c h)
theorem byt_lt (c : Nat) (b : UInt8) (h : c < 4294967296) : byt c b < 4294967296 :=
  stps_lt 8 _ (Nat.xor_lt_two_pow (n := 32) h (by have := b.toNat_lt; omega))
theorem run_lt : ∀ (l : List UInt8) (c : Nat), c < 4294967296 → run c l < 4294967296
  | [], _, h => h
  | b :: l, c, h => run_lt l (byt c b) (byt_lt c b h)
theorem sum_lt (l : List UInt8) : sum l < 4294967296 := Nat.xor_lt_two_pow (n := 32) (run_lt l _ (by omega)) (by omega)
theorem run_append (c : Nat) (l m : List UInt8) : run c (l ++ m) = run (run c l) m := by unfold run; rw [List.foldl_append]
theorem run_snoc (c : Nat) (l : List UInt8) (b : UInt8) : run c (l ++ [b]) = byt (run c l) b := by rw [run_append]; rfl

theorem stp_xor (a b : Nat) : stp (a ^^^ b) = stp a ^^^ stp b := by
  have h1 : (a ^^^ b) / 2 = (a / 2) ^^^ (b / 2) := Nat.xor_div_two
  have h2 : (a ^^^ b) % 2 = (a + b) % 2 := by
    have e : (a ^^^ b) % 2 = (a % 2) ^^^ (b % 2) := Nat.xor_mod_two_pow (n := 1)
    rw [e]
    rcases Nat.mod_two_eq_zero_or_one a with ha | ha <;> rcases Nat.mod_two_eq_zero_or_one b with hb | hb <;> rw [ha, hb, Nat.add_mod, ha, hb] <;> rfl
  unfold stp
  rw [h1, h2]
  by_cases ha : a % 2 = 1 <;> by_cases hb : b % 2 = 1
  · rw [if_neg (by omega), if_pos ha, if_pos hb]
    rw [Nat.xor_assoc, Nat.xor_comm (b / 2), ← Nat.xor_assoc 2197175160, Nat.xor_self, Nat.zero_xor]
  · rw [if_pos (by omega), if_pos ha, if_neg hb, Nat.xor_assoc, Nat.xor_assoc, Nat.xor_comm (b / 2)]
  · rw [if_pos (by omega), if_neg ha, if_pos hb, Nat.xor_assoc]
  · rw [if_neg (by omega), if_neg ha, if_neg hb]
theorem stps_xor : ∀ (k a b : Nat), stps k (a ^^^ b) = stps k a ^^^ stps k b
  | 0, _, _ => rfl
  | k + 1, a, b => by simp only [stps]; rw [stps_xor k a b, stp_xor]
theorem stp_two (y : Nat) : stp (2 * y) = y := by unfold stp; rw [if_neg (by omega)]; omega
theorem stps4_16 (y : Nat) : stps 4 (16 * y) = y := by
  simp only [stps]
  rw [show 16 * y = 2 * (8 * y) by omega, stp_two, show 8 * y = 2 * (4 * y) by omega, stp_two, show 4 * y = 2 * (2 * y) by omega, stp_two, stp_two]
theorem split16 (c : Nat) : c = 16 * (c / 16) ^^^ c % 16 := by
  apply Nat.eq_of_testBit_eq
  intro i
  rw [Nat.testBit_xor, show 16 * (c / 16) = 2 ^ 4 * (c / 2 ^ 4) from rfl, show c % 16 = c % 2 ^ 4 from rfl, Nat.testBit_two_pow_mul, Nat.testBit_mod_two_pow, Nat.testBit_div_two_pow]
  by_cases h : i < 4
  · simp [h, show ¬ 4 ≤ i by omega]
  · simp [h, show 4 ≤ i by omega, show i - 4 + 4 = i by omega]
/-- half a byte at once -/
theorem half (c : Nat) : stps 4 c = (c / 16) ^^^ stps 4 (c % 16) := by
  conv => lhs; rw [split16 c]
  rw [stps_xor, stps4_16]
theorem stps_add (j : Nat) : ∀ k c, stps (j + k) c = stps j (stps k c) := by
  intro k c
  induction j with
  | zero => simp [stps]
  | succ j ih => rw [show j + 1 + k = j + k + 1 by omega]; simp only [stps]; rw [ih]
theorem byt_halves (c : Nat) (b : UInt8) : byt c b = stps 4 (stps 4 (c ^^^ b.toNat)) := stps_add 4 4 _

theorem stp_high (c : Nat) (h : c < 4294967296) : (stp c).testBit 31 = decide (c % 2 = 1) := by
  unfold stp
  split
  · rename_i h1
    rw [Nat.testBit_xor, Nat.testBit_lt_two_pow (x := c / 2) (i := 31) (by omega)]
    simp [h1]; decide
  · rename_i h1
    rw [Nat.testBit_lt_two_pow (x := c / 2) (i := 31) (by omega)]; simp [h1]
theorem xor_inj {a b c : Nat} (h : a ^^^ c = b ^^^ c) : a = b := by
  have := congrArg (· ^^^ c) h
  simpa [Nat.xor_assoc, Nat.xor_self] using this
theorem stp_inj (a b : Nat) (ha : a < 4294967296) (hb : b < 4294967296) (h : stp a = stp b) : a = b := by
  have h1 := stp_high a ha
  have h2 := stp_high b hb
  rw [h, h2] at h1
  have h3 : (b % 2 = 1) ↔ (a % 2 = 1) := by simpa using h1
  unfold stp at h
  by_cases hp : a % 2 = 1
  · rw [if_pos hp, if_pos (h3.2 hp)] at h
    have := xor_inj h; omega
  · rw [if_neg hp, if_neg (fun x => hp (h3.1 x))] at h
    have : ¬ b % 2 = 1 := fun x => hp (h3.1 x)
    omega
theorem stps_inj : ∀ (k a b : Nat), a < 4294967296 → b < 4294967296 → stps k a = stps k b → a = b
  | 0, _, _, _, _, h => h
  | k + 1, a, b, ha, hb, h => stps_inj k a b ha hb (stp_inj _ _ (stps_lt k a ha) (stps_lt k b hb) h)
theorem byt_injl (c d : Nat) (b : UInt8) (hc : c < 4294967296) (hd : d < 4294967296) (h : byt c b = byt d b) : c = d :=
  xor_inj (stps_inj 8 _ _ (Nat.xor_lt_two_pow (n := 32) hc (by have := b.toNat_lt; omega)) (Nat.xor_lt_two_pow (n := 32) hd (by have := b.toNat_lt; omega)) h)
theorem byt_injr (c : Nat) (a b : UInt8) (hc : c < 4294967296) (h : byt c a = byt c b) : a = b := by
  have h1 := stps_inj 8 _ _ (Nat.xor_lt_two_pow (n := 32) hc (by have := a.toNat_lt; omega)) (Nat.xor_lt_two_pow (n := 32) hc (by have := b.toNat_lt; omega)) h
  rw [Nat.xor_comm c, Nat.xor_comm c] at h1
  exact UInt8.toNat_inj.1 (xor_inj h1)
theorem run_inj : ∀ (l : List UInt8) (c d : Nat), c < 4294967296 → d < 4294967296 → run c l = run d l → c = d
  | [], _, _, _, _, h => h
  | b :: l, c, d, hc, hd, h => byt_injl c d b hc hd (run_inj l _ _ (byt_lt c b hc) (byt_lt d b hd) h)
/-- one byte turned, and the sum is another -/
theorem sum_set (l : List UInt8) (i : Nat) (h : i < l.length) (b : UInt8) (hb : b ≠ l[i]) : sum (l.set i b) ≠ sum l := by
  intro he
  have h1 := xor_inj he
  have e1 : l = l.take i ++ l[i] :: l.drop (i + 1) := by simp
  have e2 : l.set i b = l.take i ++ b :: l.drop (i + 1) := by
    rw [List.set_eq_take_append_cons_drop, if_pos h]
  rw [e2] at h1
  conv at h1 => rhs; rw [e1]
  rw [run_append, run_append] at h1
  have hl := run_lt (l.take i) 4294967295 (by omega)
  have h2 := run_inj _ _ _ (byt_lt _ _ hl) (byt_lt _ _ hl) h1
  exact hb (byt_injr _ _ _ hl h2)

/-- three by xor -/
def xor3 : List UInt8 → List UInt8 → List UInt8 → List UInt8
  | a :: l, b :: m, c :: n => (a ^^^ b ^^^ c) :: xor3 l m n
  | _, _, _ => []
theorem byt_xor3 (c d e : Nat) (x y z : UInt8) : byt (c ^^^ d ^^^ e) (x ^^^ y ^^^ z) = byt c x ^^^ byt d y ^^^ byt e z := by
  unfold byt
  rw [UInt8.toNat_xor, UInt8.toNat_xor, ← stps_xor, ← stps_xor]
  congr 1
  ac_rfl
theorem run_xor3 : ∀ (l m n : List UInt8) (c d e : Nat), m.length = l.length → n.length = l.length → run (c ^^^ d ^^^ e) (xor3 l m n) = run c l ^^^ run d m ^^^ run e n
  | [], [], [], _, _, _, _, _ => rfl
  | x :: l, y :: m, z :: n, c, d, e, h1, h2 => by
    have := run_xor3 l m n (byt c x) (byt d y) (byt e z) (by simpa using h1) (by simpa using h2)
    rw [← byt_xor3] at this
    exact this
theorem sum_xor3 (l m n : List UInt8) (h1 : m.length = l.length) (h2 : n.length = l.length) : sum (xor3 l m n) = sum l ^^^ sum m ^^^ sum n := by
  unfold sum
  have := run_xor3 l m n 4294967295 4294967295 4294967295 h1 h2
  rw [Nat.xor_self, Nat.zero_xor] at this
  rw [this]
  have e : ∀ a b c d : Nat, a ^^^ d ^^^ (b ^^^ d) ^^^ (c ^^^ d) = a ^^^ b ^^^ c ^^^ d := by
    intro a b c d
    have : a ^^^ d ^^^ (b ^^^ d) ^^^ (c ^^^ d) = a ^^^ b ^^^ c ^^^ d ^^^ (d ^^^ d) := by ac_rfl
    rw [this, Nat.xor_self, Nat.xor_zero]
  rw [e]
theorem sum_check : sum [49, 50, 51, 52, 53, 54, 55, 56, 57] = 3808858755 := by decide +kernel

/-- a sum's four bytes, the highest first -/
def wr (n : Nat) : List UInt8 := [UInt8.ofNat (n / 16777216 % 256), UInt8.ofNat (n / 65536 % 256), UInt8.ofNat (n / 256 % 256), UInt8.ofNat (n % 256)]
def seal4 (l : List UInt8) : List UInt8 := l ++ wr (sum l)
def right (l : List UInt8) : Bool := decide (4 ≤ l.length) && (l.drop (l.length - 4) == wr (sum (l.take (l.length - 4))))
theorem wr_len (n : Nat) : (wr n).length = 4 := rfl
theorem seal_len (l : List UInt8) : (seal4 l).length = l.length + 4 := by unfold seal4; rw [List.length_append, wr_len]
theorem u8_inj (a b : Nat) (ha : a < 256) (hb : b < 256) (h : UInt8.ofNat a = UInt8.ofNat b) : a = b := by
  have := congrArg UInt8.toNat h
  simp at this; omega
theorem wr_inj (a b : Nat) (ha : a < 4294967296) (hb : b < 4294967296) (h : wr a = wr b) : a = b := by
  unfold wr at h
  simp only [List.cons.injEq, and_true] at h
  obtain ⟨h1, h2, h3, h4⟩ := h
  have h1 := u8_inj _ _ (by omega) (by omega) h1
  have h2 := u8_inj _ _ (by omega) (by omega) h2
  have h3 := u8_inj _ _ (by omega) (by omega) h3
  have h4 := u8_inj _ _ (by omega) (by omega) h4
  omega
theorem right_seal (l : List UInt8) : right (seal4 l) = true := by
  have h := seal_len l
  unfold right
  rw [h]
  have e : seal4 l = l ++ wr (sum l) := rfl
  rw [show l.length + 4 - 4 = l.length by omega, e, List.drop_left, List.take_left]
  simp
/-- a byte turned, and what was sealed is not right -/
theorem right_set (l : List UInt8) (i : Nat) (h : i < (seal4 l).length) (b : UInt8) (hb : b ≠ (seal4 l)[i]) : right ((seal4 l).set i b) = false := by
  have hl := seal_len l
  have e : seal4 l = l ++ wr (sum l) := rfl
  unfold right
  rw [List.length_set, hl, show l.length + 4 - 4 = l.length by omega]
  by_cases hi : i < l.length
  · have e2 : (seal4 l).set i b = l.set i b ++ wr (sum l) := by rw [e, List.set_append_left _ _ hi]
    have e3 : (seal4 l)[i] = l[i] := by simp only [e]; rw [List.getElem_append_left hi]
    rw [e3] at hb
    have hs := sum_set l i hi b hb
    have d1 : ((l.set i b) ++ wr (sum l)).drop l.length = wr (sum l) := List.drop_left' (by simp)
    have d2 : ((l.set i b) ++ wr (sum l)).take l.length = l.set i b := List.take_left' (by simp)
    rw [e2, d1, d2]
    have : ¬ wr (sum l) = wr (sum (l.set i b)) := fun h => hs (wr_inj _ _ (sum_lt _) (sum_lt _) h.symm)
    simp [this]
  · have e2 : (seal4 l).set i b = l ++ (wr (sum l)).set (i - l.length) b := by rw [e, List.set_append_right _ _ (by omega)]
    have e3 : (seal4 l)[i] = (wr (sum l))[i - l.length]'(by rw [wr_len]; omega) := by simp only [e]; rw [List.getElem_append_right (by omega)]
    rw [e2, List.drop_left, List.take_left]
    have : ¬ (wr (sum l)).set (i - l.length) b = wr (sum l) := by
      intro h
      rw [e3] at hb
      have h2 := congrArg (fun m : List UInt8 => m[i - l.length]?) h
      simp only [List.getElem?_set_self (show i - l.length < (wr (sum l)).length by rw [wr_len]; omega)] at h2
      rw [List.getElem?_eq_getElem (by rw [wr_len]; omega)] at h2
      exact hb (Option.some.inj h2)
    simp [this]
end Go.Proofs.Ytedemehlccmkpaa.Crc

/-
  The plain mathematics of layer 5 (seal): blocks as lists of bytes; nothing of any program.
-/
namespace Go.Proofs.Ytedemehlccmkpaa.Sl
open Oct (be fix rd)
/-- the text, and zeros behind it -/
def body (s : List UInt8) : List UInt8 := s ++ List.replicate (490 - s.length) 0
/-- what is sealed -/
def pre (n : Int) (s : List UInt8) : List UInt8 := fix n 8 ++ (fix s.length 2 ++ ((body s).take 246 ++ (fix n 8 ++ (body s).drop 246)))
def blk (n : Int) (s : List UInt8) : List UInt8 := Crc.seal4 (pre n s)
theorem body_len (s : List UInt8) (h : s.length ≤ 490) : (body s).length = 490 := by unfold body; rw [List.length_append, List.length_replicate]; omega
theorem body_take (s : List UInt8) : (body s).take s.length = s := by unfold body; exact List.take_left
/-- the document's front, and its back -/
theorem front_short (s : List UInt8) (h : s.length ≤ 246) : s ++ List.replicate (246 - s.length) 0 = (body s).take 246 := by
  unfold body
  rw [List.take_append, List.take_of_length_le h, List.take_replicate, show min (246 - s.length) (490 - s.length) = 246 - s.length by omega]
theorem back_short (s : List UInt8) (h : s.length ≤ 246) : List.replicate 244 0 = (body s).drop 246 := by
  unfold body
  rw [List.drop_append, List.drop_of_length_le h, List.drop_replicate, List.nil_append, show 490 - s.length - (246 - s.length) = 244 by omega]
theorem front_long (s : List UInt8) (h : 246 < s.length) : s.take 246 = (body s).take 246 := by
  unfold body
  rw [List.take_append, show 246 - s.length = 0 by omega, List.take_zero, List.append_nil]
theorem back_long (s : List UInt8) (h : 246 < s.length) : s.drop 246 ++ List.replicate (244 - (s.length - 246)) 0 = (body s).drop 246 := by
  unfold body
  rw [List.drop_append, show 246 - s.length = 0 by omega, List.drop_zero, show 490 - s.length = 244 - (s.length - 246) by omega]
theorem cut_at {a r : List UInt8} {k : Nat} (h : a.length = k) : (a ++ r).take k = a ∧ (a ++ r).drop k = r := by
  subst h; exact ⟨List.take_left, List.drop_left⟩
/-- a block's parts -/
structure Parts (l : List UInt8) (n : Int) (s : List UInt8) : Prop where
  len : l.length = 512
  num : l.take 8 = fix n 8
  size : (l.drop 8).take 2 = fix s.length 2
  front : (l.drop 10).take 246 = (body s).take 246
  again : (l.drop 256).take 8 = fix n 8
  back : (l.drop 264).take 244 = (body s).drop 246
theorem pre_len (n : Int) (s : List UInt8) (h : s.length ≤ 490) : (pre n s).length = 508 := by
  unfold pre
  simp only [List.length_append, Oct.fix_len, List.length_take, List.length_drop, body_len s h]
  omega
theorem blk_len (n : Int) (s : List UInt8) (h : s.length ≤ 490) : (blk n s).length = 512 := by unfold blk; rw [Crc.seal_len, pre_len n s h]
theorem blk_parts (n : Int) (s : List UInt8) (h : s.length ≤ 490) : Parts (blk n s) n s := by
  have e : blk n s = fix n 8 ++ (fix s.length 2 ++ ((body s).take 246 ++ (fix n 8 ++ ((body s).drop 246 ++ Crc.wr (Crc.sum (pre n s)))))) := by
    unfold blk Crc.seal4 pre; simp only [List.append_assoc]
  have l2 : ((body s).take 246).length = 246 := by rw [List.length_take, body_len s h]; omega
  have l3 : ((body s).drop 246).length = 244 := by rw [List.length_drop, body_len s h]
  have hl := blk_len n s h
  generalize Crc.wr (Crc.sum (pre n s)) = c at e
  generalize ht : (body s).take 246 = t at *
  generalize hd : (body s).drop 246 = d at *
  generalize blk n s = l at *
  obtain ⟨c1, c2⟩ := cut_at (r := fix s.length 2 ++ (t ++ (fix n 8 ++ (d ++ c)))) (Oct.fix_len n 8)
  obtain ⟨c3, c4⟩ := cut_at (r := t ++ (fix n 8 ++ (d ++ c))) (Oct.fix_len s.length 2)
  obtain ⟨c5, c6⟩ := cut_at (r := fix n 8 ++ (d ++ c)) l2
  obtain ⟨c7, c8⟩ := cut_at (r := d ++ c) (Oct.fix_len n 8)
  obtain ⟨c9, _⟩ := cut_at (r := c) l3
  have d8 : l.drop 8 = fix s.length 2 ++ (t ++ (fix n 8 ++ (d ++ c))) := by rw [e]; exact c2
  have d10 : l.drop 10 = t ++ (fix n 8 ++ (d ++ c)) := by rw [show 10 = 8 + 2 from rfl, ← List.drop_drop, d8]; exact c4
  have d256 : l.drop 256 = fix n 8 ++ (d ++ c) := by rw [show 256 = 10 + 246 from rfl, ← List.drop_drop, d10]; exact c6
  have d264 : l.drop 264 = d ++ c := by rw [show 264 = 256 + 8 from rfl, ← List.drop_drop, d256]; exact c8
  exact ⟨hl, by rw [e]; exact c1, by rw [d8]; exact c3, by rw [d10]; exact c5.trans ht.symm, by rw [d256]; exact c7, by rw [d264]; exact c9.trans hd.symm⟩
/-! ### as texts -/
theorem ext_list (b : ByteArray) (i j : Nat) : (b.extract i j).data.toList = (b.data.toList.drop i).take (j - i) := by
  rw [ByteArray.data_extract, Array.toList_extract, List.extract]
theorem rd_eq (b : ByteArray) (l : List UInt8) (h : b.data.toList = l) : rd b = IntKind.i64.wrap (be (l.take 8) : Int) := by unfold rd; rw [h]
def zeros : ByteArray := ⟨(List.replicate 512 0).toArray⟩
def one (b : ByteArray) : Int := rd (b.extract 0 8)
def two (b : ByteArray) : Int := rd (b.extract 256 264)
def len (b : ByteArray) : Int := rd (b.extract 8 10)
def all (b : ByteArray) : ByteArray := b.extract 10 256 ++ b.extract 264 508
def putE (n : Int) (s : ByteArray) : Int := if n < 1 ∨ 4611686018427387904 < n then 2 else if 490 < s.size then 5 else 0
def putB (n : Int) (s : ByteArray) : ByteArray := if putE n s = 0 then ⟨(blk n s.data.toList).toArray⟩ else ByteArray.empty
def halves (b : ByteArray) : Int × Int := if b.size = 512 then (one b, two b) else (0, 0)
def take (b : ByteArray) : Int × ByteArray × Int :=
  if b.size ≠ 512 then (0, ByteArray.empty, 4) else if b = zeros then (0, ByteArray.empty, 6) else if one b ≠ two b then (0, ByteArray.empty, 10) else if 490 < len b then (0, ByteArray.empty, 9)
  else if putE (one b) ((all b).extract 0 (len b).toNat) = 0 ∧ putB (one b) ((all b).extract 0 (len b).toNat) = b then (one b, (all b).extract 0 (len b).toNat, 0) else (0, ByteArray.empty, 9)
theorem ba_ext {a b : ByteArray} (h : a.data.toList = b.data.toList) : a = b := by
  cases a; cases b; congr; exact Array.toList_inj.1 h
theorem size_list (b : ByteArray) : b.size = b.data.toList.length := by simp
theorem putE_ok {n : Int} {s : ByteArray} : putE n s = 0 ↔ (1 ≤ n ∧ n ≤ 4611686018427387904 ∧ s.size ≤ 490) := by
  unfold putE
  split
  · constructor <;> intro h <;> omega
  · split
    · constructor <;> intro h <;> omega
    · constructor <;> intro h <;> omega
theorem putB_ok {n : Int} {s : ByteArray} (h : putE n s = 0) : putB n s = ⟨(blk n s.data.toList).toArray⟩ := by unfold putB; rw [if_pos h]
theorem putB_err {n : Int} {s : ByteArray} (h : putE n s ≠ 0) : putB n s = ByteArray.empty := by unfold putB; rw [if_neg h]
/-- what reads as a number of eight bytes -/
theorem rd_of (b : ByteArray) (n : Int) (h0 : -9223372036854775808 ≤ n) (h1 : n ≤ 9223372036854775807) (h : b.data.toList = fix n 8) : rd b = n := by
  have := Oct.rd_fix n h0 h1
  rwa [show (⟨(fix n 8).toArray⟩ : ByteArray) = b from ba_ext h.symm] at this
theorem rd_two (b : ByteArray) (k : Nat) (hk : k < 65536) (h : b.data.toList = fix k 2) : rd b = (k : Int) := by
  rw [rd_eq b _ h, List.take_of_length_le (by rw [Oct.fix_len]; omega), Oct.be_fix, IntKind.wrap_i64]
  omega
theorem put_parts {n : Int} {s : ByteArray} (h : putE n s = 0) : Parts (putB n s).data.toList n s.data.toList := by
  rw [putB_ok h]
  exact blk_parts n _ (by rw [← size_list]; exact (putE_ok.1 h).2.2)
theorem put_size {n : Int} {s : ByteArray} (h : putE n s = 0) : (putB n s).size = 512 := by rw [size_list]; exact (put_parts h).len
theorem put_one {n : Int} {s : ByteArray} (h : putE n s = 0) : one (putB n s) = n := by
  obtain ⟨h1, h2, _⟩ := putE_ok.1 h
  exact rd_of _ n (by omega) (by omega) (by rw [ext_list, List.drop_zero]; exact (put_parts h).num)
theorem put_two {n : Int} {s : ByteArray} (h : putE n s = 0) : two (putB n s) = n := by
  obtain ⟨h1, h2, _⟩ := putE_ok.1 h
  exact rd_of _ n (by omega) (by omega) (by rw [ext_list]; exact (put_parts h).again)
theorem put_len {n : Int} {s : ByteArray} (h : putE n s = 0) : len (putB n s) = (s.size : Int) := by
  obtain ⟨_, _, h3⟩ := putE_ok.1 h
  exact rd_two _ _ (by omega) (by rw [ext_list, size_list]; exact (put_parts h).size)
theorem put_all {n : Int} {s : ByteArray} (h : putE n s = 0) : (all (putB n s)).extract 0 s.size = s := by
  apply ba_ext
  have e : (all (putB n s)).data.toList = body s.data.toList := by
    unfold all
    rw [ByteArray.data_append, Array.toList_append, ext_list, ext_list, show 256 - 10 = 246 from rfl, show 508 - 264 = 244 from rfl, (put_parts h).front, (put_parts h).back, List.take_append_drop]
  rw [ext_list, List.drop_zero, e, Nat.sub_zero, size_list]
  exact body_take _
/-- a block that begins with a number is not all zeros -/
theorem one_zeros {b : ByteArray} (h : b = zeros) : one b = 0 ∧ two b = 0 := by subst h; exact ⟨by decide +kernel, by decide +kernel⟩
theorem take_put {n : Int} {s : ByteArray} (h : putE n s = 0) : take (putB n s) = (n, s, 0) ∧ halves (putB n s) = (n, n) := by
  obtain ⟨h1, h2, h3⟩ := putE_ok.1 h
  have hz : putB n s ≠ zeros := fun e => by have := (one_zeros e).1; rw [put_one h] at this; omega
  constructor
  · unfold take
    rw [if_neg (by rw [put_size h]; simp), if_neg hz, put_one h, put_two h, put_len h, if_neg (by simp), if_neg (by omega), Int.toNat_natCast, put_all h, if_pos ⟨h, rfl⟩]
  · unfold halves
    rw [if_pos (put_size h), put_one h, put_two h]
theorem take_ok {b : ByteArray} (h : (take b).2.2 = 0) : putE (take b).1 (take b).2.1 = 0 ∧ putB (take b).1 (take b).2.1 = b := by
  unfold take at h ⊢
  split at h
  · simp at h
  · split at h
    · simp at h
    · split at h
      · simp at h
      · split at h
        · simp at h
        · split at h
          · rename_i h1 h2 h3 h4 h5
            rw [if_neg h1, if_neg h2, if_neg h3, if_neg h4, if_pos h5]; exact h5
          · simp at h
theorem take_err {b : ByteArray} (h : (take b).2.2 ≠ 0) : (take b).1 = 0 ∧ (take b).2.1 = ByteArray.empty := by
  unfold take at h ⊢
  split at h
  · rename_i h1; rw [if_pos h1]; exact ⟨rfl, rfl⟩
  · rename_i h1; rw [if_neg h1]
    split at h
    · rename_i h2; rw [if_pos h2]; exact ⟨rfl, rfl⟩
    · rename_i h2; rw [if_neg h2]
      split at h
      · rename_i h3; rw [if_pos h3]; exact ⟨rfl, rfl⟩
      · rename_i h3; rw [if_neg h3]
        split at h
        · rename_i h4; rw [if_pos h4]; exact ⟨rfl, rfl⟩
        · rename_i h4; rw [if_neg h4]
          split at h
          · simp at h
          · rename_i h5; rw [if_neg h5]; exact ⟨rfl, rfl⟩
/-! ### torn ones -/
/-- the front of one and the back of another -/
def mix (a b : ByteArray) : ByteArray := a.extract 0 256 ++ b.extract 256 512
theorem mix_size {a b : ByteArray} (ha : a.size = 512) (hb : b.size = 512) : (mix a b).size = 512 := by
  unfold mix; rw [ByteArray.size_append, ByteArray.size_extract, ByteArray.size_extract]; omega
theorem mix_list (a b : ByteArray) : (mix a b).data.toList = a.data.toList.take 256 ++ (b.data.toList.drop 256).take 256 := by
  unfold mix; rw [ByteArray.data_append, Array.toList_append, ext_list, ext_list, List.drop_zero]
theorem rd_list {a b : ByteArray} (h : a.data.toList = b.data.toList) : rd a = rd b := by rw [ba_ext h]
theorem ext_first (b : ByteArray) (k : Nat) : (b.extract 0 k).data.toList = b.data.toList.take k := by rw [ext_list, List.drop_zero, Nat.sub_zero]
theorem mix_one {a b : ByteArray} (ha : a.size = 512) : one (mix a b) = one a := by
  have hl : 8 ≤ (a.data.toList.take 256).length := by rw [List.length_take, ← size_list]; omega
  refine rd_list ?_
  rw [ext_first, ext_first, mix_list]
  generalize (b.data.toList.drop 256).take 256 = r
  rw [List.take_append_of_le_length hl, List.take_take, show min 8 256 = 8 from rfl]
theorem mix_two {a b : ByteArray} (ha : a.size = 512) : two (mix a b) = two b := by
  have hl : (a.data.toList.take 256).length = 256 := by rw [List.length_take, ← size_list]; omega
  refine rd_list ?_
  rw [ext_list, ext_list, mix_list]
  generalize a.data.toList.take 256 = r at hl
  rw [(cut_at hl).2, List.take_take, show min (264 - 256) 256 = 264 - 256 from rfl]
theorem take_torn {b : ByteArray} (hs : b.size = 512) (h : one b ≠ two b) : take b = (0, ByteArray.empty, 10) := by
  have hz : b ≠ zeros := fun e => h (by rw [(one_zeros e).1, (one_zeros e).2])
  unfold take
  rw [if_neg (by simp [hs]), if_neg hz, if_pos h]
theorem zeros_size : zeros.size = 512 := by rw [size_list]; exact List.length_replicate
/-- SealTorn's whole claim -/
theorem torn {n m : Int} {s t : ByteArray} (h1 : putE n s = 0) (h2 : putE m t = 0) (hn : n ≠ m) :
    take (mix (putB n s) (putB m t)) = (0, ByteArray.empty, 10) ∧ take (mix (putB n s) zeros) = (0, ByteArray.empty, 10) ∧ take (mix zeros (putB m t)) = (0, ByteArray.empty, 10) ∧ halves (mix (putB n s) (putB m t)) = (n, m) := by
  have a1 := put_size h1
  have a2 := put_size h2
  have z := zeros_size
  obtain ⟨p1, _, _⟩ := putE_ok.1 h1
  obtain ⟨p2, _, _⟩ := putE_ok.1 h2
  have z1 := one_zeros (b := zeros) rfl
  refine ⟨take_torn (mix_size a1 a2) ?_, take_torn (mix_size a1 z) ?_, take_torn (mix_size z a2) ?_, ?_⟩
  · rw [mix_one a1, mix_two a1, put_one h1, put_two h2]; exact hn
  · rw [mix_one a1, mix_two a1, put_one h1, z1.2]; omega
  · rw [mix_one z, mix_two z, put_two h2, z1.1]; omega
  · unfold halves
    rw [if_pos (mix_size a1 a2), mix_one a1, mix_two a1, put_one h1, put_two h2]
/-! ### the document's example -/
def ab : ByteArray := ⟨#[97, 98]⟩
theorem ab_ok : putE 7 ab = 0 := by decide +kernel
theorem ab_cut : (putB 7 ab).extract 7 12 = ⟨#[7, 0, 2, 97, 98]⟩ := by
  apply ba_ext
  rw [ext_list, putB_ok ab_ok]
  decide +kernel
theorem ab_at : (putB 7 ab).data.toList[263]? = some 7 := by
  rw [putB_ok ab_ok]
  decide +kernel
theorem ab_take : take (putB 7 ab) = (7, ab, 0) := (take_put ab_ok).1
end Go.Proofs.Ytedemehlccmkpaa.Sl

/-
  The plain mathematics of layer 6 (label): a label's bytes, and what bytes are parsed as; nothing of any program.
-/
namespace Go.Proofs.Ytedemehlccmkpaa.Lb
open Oct (numB tN tR tE txt)
structure Label where
  turn : Int
  tail : Int
  head : Int
  note : ByteArray
def no : Label := ⟨0, 0, 0, ⟨#[]⟩⟩
def right (l : Label) : Prop := 1 ≤ l.turn ∧ l.turn ≤ 4611686018427387904 ∧ 0 ≤ l.tail ∧ l.tail ≤ l.head ∧ l.head ≤ 1125899906842624 ∧ l.note.size ≤ 400
instance (l : Label) : Decidable (right l) := by unfold right; infer_instance
def text (l : Label) : ByteArray := numB l.tail ++ numB l.head ++ (numB l.note.size ++ l.note)
def bytesE (l : Label) : Int := if right l then 0 else 2
def bytes (l : Label) : ByteArray := if right l then text l else ⟨#[]⟩
/-- the label that the bytes tell, if they tell one -/
def told (turn : Int) (s : ByteArray) : Label := ⟨turn, tN s, tN (tR s), (txt (tR (tR s)) 400).1⟩
def parse (turn : Int) (s : ByteArray) : Label × Int :=
  if tE s ≠ 0 ∨ tE (tR s) ≠ 0 ∨ (txt (tR (tR s)) 400).2.2 ≠ 0 ∨ (txt (tR (tR s)) 400).2.1 ≠ ⟨#[]⟩ ∨ ¬ right (told turn s) then (no, 4) else (told turn s, 0)
/-- what is taken as a text has just those bytes -/
theorem txt_only {s a r : ByteArray} {most : Int} (h : txt s most = (a, r, 0)) : numB a.size ++ a ++ r = s := by
  rcases Oct.cnt3_cases s most with ⟨e, he, h1⟩ | ⟨n, r', _, _, _, h1, h2⟩
  · rw [Oct.txt_err he h1] at h
    exact absurd (congrArg (fun x => x.2.2) h) he
  · by_cases h3 : r'.size < n
    · rw [Oct.txt_short h1 h3] at h
      have h4 : (3 : Int) = 0 := congrArg (fun x => x.2.2) h
      exact absurd h4 (by decide)
    · rw [Oct.txt_ok h1 h3] at h
      obtain ⟨rfl, rfl⟩ : r'.extract 0 n = a ∧ r'.extract n r'.size = r := ⟨congrArg (fun x => x.1) h, congrArg (fun x => x.2.1) h⟩
      have hn : (r'.extract 0 n).size = n := by rw [ByteArray.size_extract]; omega
      rw [hn, ByteArray.append_assoc, ← h2]
      congr 1
      apply Sl.ba_ext
      rw [ByteArray.data_append, Array.toList_append, Oct.extract_drop, Sl.ext_first, List.take_append_drop]
theorem num_only {s : ByteArray} (h : tE s = 0) : numB (tN s) ++ tR s = s := by
  rcases Oct.t_cases s with ⟨_, _, h1 | h1⟩ | ⟨n, r, _, _, _, e1, e2, _, e4⟩
  · rw [h] at h1; exact absurd h1 (by decide)
  · rw [h] at h1; exact absurd h1 (by decide)
  · rw [e1, e2]; exact e4
theorem empty_right (a : ByteArray) : a ++ (⟨#[]⟩ : ByteArray) = a := by
  apply Sl.ba_ext; rw [ByteArray.data_append, Array.toList_append]; exact List.append_nil _
theorem parse_text {l : Label} (h : right l) : parse l.turn (text l) = (l, 0) := by
  obtain ⟨h1, h2, h3, h4, h5, h6⟩ := h
  obtain ⟨a1, a2, a3⟩ := Oct.tE_back l.tail (numB l.head ++ (numB l.note.size ++ l.note)) (by omega) (by omega)
  obtain ⟨b1, b2, b3⟩ := Oct.tE_back l.head (numB l.note.size ++ l.note) (by omega) (by omega)
  have c := Oct.txt_back l.note ⟨#[]⟩ 400 (by omega) (by omega)
  rw [empty_right] at c
  have e : text l = numB l.tail ++ (numB l.head ++ (numB l.note.size ++ l.note)) := by unfold text; rw [ByteArray.append_assoc]
  have ht : told l.turn (text l) = l := by unfold told; rw [e, a1, a2, b1, b2, c]
  unfold parse
  rw [ht, e, a3, a2, b3, b2, c]
  rw [if_neg]
  rintro (h | h | h | h | h)
  · exact h rfl
  · exact h rfl
  · exact h rfl
  · exact h rfl
  · exact h ⟨h1, h2, h3, h4, h5, h6⟩
theorem parse_ok {t : Int} {s : ByteArray} (h : (parse t s).2 = 0) : right (parse t s).1 ∧ (parse t s).1.turn = t ∧ text (parse t s).1 = s := by
  unfold parse at h ⊢
  split at h
  · exact absurd h (by decide)
  · rename_i hc
    rw [if_neg hc]
    have e1 : tE s = 0 := Classical.byContradiction fun x => hc (.inl x)
    have e2 : tE (tR s) = 0 := Classical.byContradiction fun x => hc (.inr (.inl x))
    have e3 : (txt (tR (tR s)) 400).2.2 = 0 := Classical.byContradiction fun x => hc (.inr (.inr (.inl x)))
    have e4 : (txt (tR (tR s)) 400).2.1 = ⟨#[]⟩ := Classical.byContradiction fun x => hc (.inr (.inr (.inr (.inl x))))
    have e5 : right (told t s) := Classical.byContradiction fun x => hc (.inr (.inr (.inr (.inr x))))
    refine ⟨e5, rfl, ?_⟩
    have n1 := num_only e1
    have n2 := num_only e2
    have n3 := txt_only (s := tR (tR s)) (most := 400) (a := (txt (tR (tR s)) 400).1) (r := ⟨#[]⟩) (by rw [← e4, ← e3])
    rw [empty_right] at n3
    show numB (tN s) ++ numB (tN (tR s)) ++ (numB ((txt (tR (tR s)) 400).1.size : Nat) ++ (txt (tR (tR s)) 400).1) = s
    rw [n3, ByteArray.append_assoc, n2, n1]
theorem parse_err {t : Int} {s : ByteArray} (h : (parse t s).2 ≠ 0) : (parse t s).1 = no := by
  unfold parse at h ⊢
  split
  · rfl
  · rename_i hc; rw [if_neg hc] at h; exact absurd rfl h
theorem bytes_ok {l : Label} (h : bytesE l = 0) : right l ∧ bytes l = text l := by
  unfold bytesE at h
  split at h
  · rename_i hr; exact ⟨hr, by unfold bytes; rw [if_pos hr]⟩
  · exact absurd h (by decide)
end Go.Proofs.Ytedemehlccmkpaa.Lb

/-
  Small words that every layer uses: ends of a walk, strings unlike, slices that read as strings, blocks above.
-/
namespace Go.Proofs.Ytedemehlccmkpaa
open Go.RowKit

theorem ret_int {k : IntKind} {a b : Int} (h : a = b) : Ending.returned (.int k a) = .returned (.int k b) := by rw [h]
theorem ret_str {a b : ByteArray} (h : a = b) : Ending.returned (.string a) = .returned (.string b) := by rw [h]
theorem str_ne (A : ByteArray) (h : 0 < A.size) : ¬ A.toList = [] ∧ (!A.toList.isEmpty) = true := by
  have h1 : ¬ A.toList = [] := by
    rw [ByteArray.toList_eq]; intro h2
    have := congrArg List.length h2
    have e : A.data.size = A.size := rfl
    rw [Array.length_toList, List.length_nil] at this; omega
  refine ⟨h1, ?_⟩
  cases hA : A.toList with
  | nil => exact absurd hA h1
  | cons a l => rfl
theorem str_neq {A B : ByteArray} (h : A ≠ B) : ¬ A.toList = B.toList := by
  rw [ByteArray.toList_eq, ByteArray.toList_eq]; exact fun h2 => h (Go.WideShapes.bytes_inj h2)
theorem str_beq {A B : ByteArray} (h : ¬ A.toList = B.toList) : (A.toList == B.toList) = false := by simpa using h
theorem below_two {w w1 w2 : World} (h1 : Below w.heap.size w w1) (h2 : Below w1.heap.size w1 w2) : Below w.heap.size w w2 := h1.trans (h2.mono h1.size)
/-- the slice at a reads as the strings l -/
def ReadsS (w : World) (a : Option Addr) (l : List ByteArray) : Prop := ∀ i (h : i < l.length), ∃ b off, a = some ⟨b, off, none⟩ ∧ w.cell? ⟨b, off + i, none⟩ = some (.string (l[i]))
theorem readsS_none (w : World) (a : Option Addr) : ReadsS w a [] := by intro i hi; simp at hi
theorem readsS_open {w : World} {a : Addr} {len cap : Nat} {ss : List ByteArray} (hl : len ≤ cap) (hm : cap ≤ maxLen) (hz : ss.length = cap)
    (hcell : ∀ i, i < ss.length → w.cell? (a.add i) = some (.string (ss.getD i ByteArray.empty))) (hws : ∀ s ∈ ss, s.size ≤ maxLen) :
    ∃ l : List ByteArray, l.length = len ∧ l.length ≤ maxLen ∧ (∀ x ∈ l, x.size ≤ maxLen) ∧ ReadsS w (some a) l := by
  refine ⟨ss.take len, by rw [List.length_take]; omega, by rw [List.length_take]; omega, fun x hx => hws x (List.mem_of_mem_take hx), ?_⟩
  intro i hi
  have hi2 : i < ss.length := by rw [List.length_take] at hi; omega
  obtain ⟨b, off, spot⟩ := a
  have hc := hcell i hi2
  have hs : spot = none := by
    have h0 := hcell 0 (by omega)
    simpa [Addr.add] using World.cell?_spot h0
  subst hs
  refine ⟨b, off, rfl, ?_⟩
  have e : (⟨b, off, none⟩ : Addr).add i = ⟨b, off + i, none⟩ := by unfold Addr.add; split <;> simp_all
  rw [e] at hc
  rw [hc, List.getElem_take]
  simp [List.getD, List.getElem?_eq_getElem hi2]
theorem readsS_below {w w' : World} {a : Option Addr} {l : List ByteArray} (h : ReadsS w a l) (hb : Below w.heap.size w w') : ReadsS w' a l := by
  intro i hi
  obtain ⟨b, off, h1, h2⟩ := h i hi
  exact ⟨b, off, h1, by rw [hb.cell (World.block_lt_of_cell? w _ h2)]; exact h2⟩
end Go.Proofs.Ytedemehlccmkpaa

/-
  Rows of cells that a call makes and writes (arrays, structs): what a block holds, as a list; words and bytes as cells; an array laid cell by cell.
-/
namespace Go.Proofs.Ytedemehlccmkpaa
open Go.RowKit

theorem run_index_arr {P : Program} (w : World) (t e : TypeId) (n : Nat) (cs : Array Value) (k : IntKind) (i : Nat) (v : Value) (hu : P.underlying t = some (.array n e)) (he : P.underlying e = some (.int .u32)) (hs : (P.info? e).map (·.size) = some 1) (hi : i < n) (hv : cs[i]? = some v) :
    (Instr.index t (.agg cs) (.int k (i : Int))).run P w = .ok v w := by
  obtain ⟨i0, hi0, hz⟩ := Option.map_eq_some_iff.1 hs
  have hi3 : 0 ≤ (i : Int) := by omega
  simp [Instr.index, run_underlying hu, asIntOf, hi3, go_sem, sizeOf, typeInfo, hi0, hz, part, isAgg, run_underlying he, hv]
  intro h; omega
/-- words as cells -/
def vals (l : List Nat) : List Value := l.map fun x : Nat => Value.int .u32 (x : Int)
theorem vals_len (l : List Nat) : (vals l).length = l.length := by simp [vals]
theorem vals_at (l : List Nat) (i : Nat) (h : i < l.length) : (vals l)[i]? = some (.int .u32 (l.getD i 0 : Int)) := by
  simp [vals, List.getElem?_eq_getElem h, List.getD]
/-- block g holds just the cells l (type T) -/
def RowV (w : World) (g T : Nat) (l : List Value) : Prop := w.heap[g]? = some (.cells l.toArray T)
theorem rowV_cell {w : World} {g T : Nat} {l : List Value} (h : RowV w g T l) (i : Nat) : w.cell? ⟨g, i, none⟩ = l[i]? := by
  rw [cell_of_row w g i l.toArray T (0, 0) h, List.getElem?_toArray]
theorem rowV_frozen {w : World} {g T : Nat} {l : List Value} (h : RowV w g T l) (i : Nat) : w.frozen? ⟨g, i, none⟩ = false := by
  have h : w.heap[g]? = some (.cells l.toArray T) := h
  simp [World.frozen?, h]
theorem rowV_lt {w : World} {g T : Nat} {l : List Value} (h : RowV w g T l) : g < w.heap.size := (Array.getElem?_eq_some_iff.1 h).1
theorem rowV_stored {w : World} {g T : Nat} {l : List Value} (h : RowV w g T l) (i : Nat) (v : Value) : RowV (w.setCell ⟨g, i, none⟩ v) g T (l.set i v) := by
  unfold RowV at h ⊢
  rw [setCell_eq_setRow w g i l.toArray T _ _ h, setRow_heap w g l.toArray _ T _ h]
  simp
theorem rowV_below {w w' : World} {g T B : Nat} {l : List Value} (h : RowV w g T l) (hb : Below B w w') (hg : g < B) : RowV w' g T l := (hb.block g hg).trans h
theorem rowV_new (w : World) (T : Nat) (l : List Value) : RowV (w.alloc (.cells l.toArray T)) w.heap.size T l := heap_alloc_new w _
theorem rowV_alloc {w : World} {g T : Nat} {l : List Value} (h : RowV w g T l) (o : Obj) : RowV (w.alloc o) g T l := by
  have := rowV_lt h
  exact (Below.heap_alloc w o g this).trans h
theorem rowV_far {w : World} {g T g' i : Nat} {l : List Value} (h : RowV w g T l) (hg : g ≠ g') (v : Value) : RowV (w.setCell ⟨g', i, none⟩ v) g T l := (Below.heap_setCell w ⟨g', i, none⟩ v g hg).trans h
theorem rowV_row {w : World} {g T : Nat} {l : List Value} (h : RowV w g T l) (l' : List Value) : RowV (w.setRow g l'.toArray) g T l' := setRow_heap w g l.toArray l'.toArray T _ h
theorem rowV_rowFar {w : World} {g T g' : Nat} {l : List Value} (h : RowV w g T l) (hg : g ≠ g') (c : Array Value) : RowV (w.setRow g' c) g T l := by
  unfold RowV at h ⊢
  rw [← h]
  simp only [World.setRow, Array.getElem?_modify]
  rw [if_neg (by omega)]
theorem vals_set (l : List Nat) (i x : Nat) : (vals l).set i (.int .u32 (x : Int)) = vals (l.set i x) := by simp [vals, List.map_set]
theorem vals_arr (l : List Nat) (i : Nat) (h : i < l.length) : (vals l).toArray[i]? = some (.int .u32 (l.getD i 0 : Int)) := by
  rw [List.getElem?_toArray]; exact vals_at l i h
theorem vals_size (L : List Nat) (n : Nat) (h : L.length = n) : (vals L).toArray.size = n := by rw [List.size_toArray, vals_len, h]
theorem vals_one (L : List Nat) : (vals L).toArray.all (·.oneCell') = true := by
  rw [Array.all_eq_true_iff_forall_mem]
  intro x hx
  rw [List.mem_toArray] at hx
  obtain ⟨y, _, rfl⟩ := List.mem_map.1 hx; rfl
theorem eight_one (a b c d e f g h : Int) : (#[.int .u32 a, .int .u32 b, .int .u32 c, .int .u32 d, .int .u32 e, .int .u32 f, .int .u32 g, .int .u32 h] : Array Value).all (·.oneCell') = true := by
  rw [Array.all_eq_true_iff_forall_mem]
  intro x hx
  simp at hx
  rcases hx with rfl | rfl | rfl | rfl | rfl | rfl | rfl | rfl <;> rfl
theorem setRow_far (w : World) (g i : Nat) (c : Array Value) (h : i ≠ g) : (w.setRow g c).heap[i]? = w.heap[i]? := by
  simp only [World.setRow, Array.getElem?_modify]
  rw [if_neg (by omega)]
/-- bytes as cells -/
def valB (l : List UInt8) : List Value := l.map fun b => Value.int .u8 (b.toNat : Int)
theorem getD_take (l : List Nat) (n i : Nat) (h : i < n) : (l.take n).getD i 0 = l.getD i 0 := by
  rw [List.getD_eq_getElem?_getD, List.getD_eq_getElem?_getD, List.getElem?_take, if_pos h]
/-- n cells of which the first k are laid -/
def lay (n : Nat) (L : List Nat) (k : Nat) : List Nat := L.take k ++ List.replicate (n - k) 0
theorem lay_len (n : Nat) (L : List Nat) (k : Nat) (hL : L.length = n) (hk : k ≤ n) : (lay n L k).length = n := by
  unfold lay; rw [List.length_append, List.length_take, List.length_replicate]; omega
theorem lay_end (n : Nat) (L : List Nat) (hL : L.length = n) : lay n L n = L := by unfold lay; rw [List.take_of_length_le (by omega)]; simp
theorem lay_low (n : Nat) (L : List Nat) (k i : Nat) (hL : L.length = n) (hk : k ≤ n) (hi : i < k) : (lay n L k).getD i 0 = L.getD i 0 := by
  unfold lay
  rw [List.getD_eq_getElem?_getD, List.getElem?_append_left (by rw [List.length_take]; omega), ← List.getD_eq_getElem?_getD, getD_take _ _ _ hi]
theorem lay_succ (n : Nat) (L : List Nat) (k : Nat) (hL : L.length = n) (hk : k < n) : (vals (lay n L k)).set k (.int .u32 (L.getD k 0 : Int)) = vals (lay n L (k + 1)) := by
  have hk2 : k < L.length := by omega
  have e : L[k] = L.getD k 0 := by rw [List.getD_eq_getElem?_getD, List.getElem?_eq_getElem hk2]; rfl
  rw [vals_set]
  congr 1
  unfold lay
  rw [List.set_append_right _ _ (by rw [List.length_take]; omega), List.length_take, show k - min k L.length = 0 by omega, List.take_succ_eq_append_getElem hk2, e, List.append_assoc,
    show n - k = (n - (k + 1)) + 1 by omega, List.replicate_succ, List.set_cons_zero]
  rfl
end Go.Proofs.Ytedemehlccmkpaa

/-
  What a call may have turned, said by a set of blocks ('Only F w w''): for calls that write into objects that were there before them. Objects whose blocks are apart go their own ways.
-/
namespace Go.Proofs.Ytedemehlccmkpaa
open Go.RowKit

/-- of the blocks that were there only those of F may have turned; the streams are as they were -/
structure Only (F : Nat → Prop) (w w' : World) : Prop where
  os : w'.os = w.os
  tape : w'.tape = w.tape
  output : w'.output = w.output
  size : w.heap.size ≤ w'.heap.size
  block : ∀ k, k < w.heap.size → ¬ F k → w'.heap[k]? = w.heap[k]?
namespace Only
theorem refl (F : Nat → Prop) (w : World) : Only F w w := ⟨rfl, rfl, rfl, Nat.le_refl _, fun _ _ _ => rfl⟩
theorem mono {F G : Nat → Prop} {w w' : World} (h : Only F w w') (hs : ∀ k, k < w.heap.size → F k → G k) : Only G w w' := ⟨h.os, h.tape, h.output, h.size, fun k hk hn => h.block k hk fun hf => hn (hs k hk hf)⟩
theorem trans {F G : Nat → Prop} {a b c : World} (h : Only F a b) (k : Only G b c) (hs : ∀ i, i < a.heap.size → G i → F i) : Only F a c :=
  ⟨k.os.trans h.os, k.tape.trans h.tape, k.output.trans h.output, Nat.le_trans h.size k.size, fun i hi hn => (k.block i (Nat.lt_of_lt_of_le hi h.size) fun hg => hn (hs i hi hg)).trans (h.block i hi hn)⟩
/-- the same set again -/
theorem more {F : Nat → Prop} {a b c : World} (h : Only F a b) (k : Only F b c) : Only F a c := h.trans k fun _ _ x => x
theorem of_below {B : Nat} {w w' : World} (h : Below B w w') : Only (fun k => B ≤ k) w w' := ⟨h.os, h.tape, h.output, h.size, fun k _ hn => h.block k (by omega)⟩
/-- nothing that was there has turned -/
theorem of_none {F : Nat → Prop} {w w' : World} (h : Below w.heap.size w w') : Only F w w' := (of_below h).mono fun k hk hf => by omega
theorem below {F : Nat → Prop} {B : Nat} {w w' : World} (h : Only F w w') (hF : ∀ k, k < w.heap.size → F k → B ≤ k) (hB : B ≤ w.heap.size) : Below B w w' :=
  ⟨h.os, h.tape, h.output, h.size, fun k hk => h.block k (by omega) fun hf => by have := hF k (by omega) hf; omega⟩
theorem drewN {F : Nat → Prop} {a w : World} (h : Only F a w) (n : Nat) : Only F a (w.drewN n) := ⟨h.os, h.tape, h.output, h.size, h.block⟩
theorem drew {F : Nat → Prop} {a w : World} (h : Only F a w) : Only F a w.drew := ⟨h.os, h.tape, h.output, h.size, h.block⟩
theorem alloc {F : Nat → Prop} {a w : World} (h : Only F a w) (o : Obj) : Only F a (w.alloc o) :=
  h.trans (of_none (F := F) ((Below.refl _ w).alloc (Nat.le_refl _) o)) fun _ _ x => x
theorem setCell {F : Nat → Prop} {a w : World} (h : Only F a w) {g i : Nat} (hg : g < a.heap.size → F g) (v : Value) : Only F a (w.setCell ⟨g, i, none⟩ v) :=
  h.trans (G := fun k => k = g) ⟨rfl, rfl, rfl, by simp [World.setCell], fun k _ hk => Below.heap_setCell _ _ _ _ hk⟩ fun k hk e => by subst e; exact hg hk
theorem setRow {F : Nat → Prop} {a w : World} (h : Only F a w) {g : Nat} (hg : g < a.heap.size → F g) (c : Array Value) : Only F a (w.setRow g c) :=
  h.trans (G := fun k => k = g) ⟨rfl, rfl, rfl, by simp [World.setRow], fun k _ hk => setRow_far w g k c hk⟩ fun k hk e => by subst e; exact hg hk
/-- behind an append or a make -/
theorem grown {F : Nat → Prop} {a w w' : World} {row : Option Nat} (h : Only F a w) (hg : w.grownBy w' row) (hr : ∀ k, k < a.heap.size → row = some k → F k) : Only F a w' :=
  h.trans (G := fun k => row = some k) ⟨hg.os, hg.tape, hg.output, hg.size, fun k hk hn => hg.block k hk fun e => hn e.symm⟩ hr
theorem cell {F : Nat → Prop} {w w' : World} (h : Only F w w') {p : Addr} (hp : p.block < w.heap.size) (hn : ¬ F p.block) : w'.cell? p = w.cell? p := World.cell?_of_block (w := w) (h.block p.block hp hn)
theorem frozen {F : Nat → Prop} {w w' : World} (h : Only F w w') {p : Addr} (hp : p.block < w.heap.size) (hn : ¬ F p.block) : w'.frozen? p = w.frozen? p := World.frozen?_of_block (w := w) (h.block p.block hp hn)
end Only
theorem rowV_only {F : Nat → Prop} {w w' : World} {g T : Nat} {l : List Value} (h : RowV w g T l) (ho : Only F w w') (hn : ¬ F g) : RowV w' g T l := (ho.block g (rowV_lt h) hn).trans h
/-- a row that the call owns stays, if its block is not of F -/
theorem ownsRow_only {F : Nat → Prop} {w w' : World} {B E size n : Nat} {v : Value} {xs : List Value} (h : w.ownsRow B E size v n xs) (ho : Only F w w') (hn : ∀ k, v.ownBlock = some k → ¬ F k) : w'.ownsRow B E size v n xs := by
  refine ⟨h.1, ?_⟩
  rcases h.2 with hv | ⟨g, cap, cur, rfl, hg, hh, r⟩
  · exact .inl hv
  · exact .inr ⟨g, cap, cur, rfl, hg, by rw [ho.block g (Array.getElem?_eq_some_iff.1 hh).1 (hn g rfl)]; exact hh, r⟩
theorem readsS_only {F : Nat → Prop} {w w' : World} {a : Option Addr} {l : List ByteArray} (h : ReadsS w a l) (ho : Only F w w') (hn : ∀ b, a = some b → ¬ F b.block) : ReadsS w' a l := by
  intro i hi
  obtain ⟨b, off, h1, h2⟩ := h i hi
  exact ⟨b, off, h1, (ho.cell (World.block_lt_of_cell? w _ h2) (show ¬ F b from hn _ h1)).trans h2⟩
end Go.Proofs.Ytedemehlccmkpaa

/-
  Words of 32 bits as natural numbers: or, and, xor, not, shifts; a byte of a number; a rest of a division; a bool's end.
-/
namespace Go.Proofs.Ytedemehlccmkpaa
open Go.RowKit

theorem or_32 (a b : Nat) (h1 : a < 4294967296) (h2 : b < 4294967296) : bits .or .u32 (a : Int) (b : Int) = ((a ||| b : Nat) : Int) := by
  rw [u32_or _ _ (by omega) (by omega) (by omega) (by omega)]
  simp only [Int.toNat_natCast]
theorem and_32 (a b : Nat) (h1 : a < 4294967296) (h2 : b < 4294967296) : bits .and .u32 (a : Int) (b : Int) = ((a &&& b : Nat) : Int) := by
  rw [u32_and _ _ (by omega) (by omega) (by omega) (by omega)]
  simp only [Int.toNat_natCast]
theorem xor_32 (a b : Nat) (h1 : a < 4294967296) (h2 : b < 4294967296) : bits .xor .u32 (a : Int) (b : Int) = ((a ^^^ b : Nat) : Int) := by
  rw [u32_xor _ _ (by omega) (by omega) (by omega) (by omega)]
  simp only [Int.toNat_natCast]
theorem cast_div (x n : Nat) : ((x / 2 ^ n : Nat) : Int) = (x : Int) / 2 ^ n := by rw [Int.natCast_ediv, Int.natCast_pow]; rfl
theorem cast_shl (x n : Nat) : ((x * 2 ^ n % 4294967296 : Nat) : Int) = (x : Int) * 2 ^ n % 4294967296 := by rw [Int.natCast_emod, Int.natCast_mul, Int.natCast_pow]; rfl
theorem not_32 (e : Nat) (he : e < 4294967296) : 4294967295 ^^^ e = 4294967295 - e := by
  have h1 : 4294967295 - e = 2 ^ 32 - (e + 1) := by omega
  have h2 : (4294967295 : Nat) = 2 ^ 32 - 1 := by decide
  rw [h1]
  apply Nat.eq_of_testBit_eq
  intro i
  rw [Nat.testBit_xor, Nat.testBit_two_pow_sub_succ (by omega), h2, Nat.testBit_two_pow_sub_one]
  by_cases hi : i < 32
  · simp [hi]
  · have : e.testBit i = false := Nat.testBit_lt_two_pow (Nat.lt_of_lt_of_le he (by
      have : 2 ^ 32 ≤ 2 ^ i := Nat.pow_le_pow_right (by omega) (by omega)
      omega))
    simp [hi, this]
theorem ofNat_int (x : Nat) : ((UInt8.ofNat x).toNat : Int) = (x : Int) % 256 := by simp
theorem u64_rem (x : Int) (n : Nat) (h : 0 < n) : ∃ j : Nat, j < n ∧ (IntKind.u64.wrap x).tmod (n : Int) = (j : Int) := by
  refine ⟨((IntKind.u64.wrap x).tmod (n : Int)).toNat, ?_, ?_⟩
  all_goals
    rw [IntKind.wrap_u64, Int.tmod_eq_emod_of_nonneg (by omega)]
    have h1 := Int.emod_nonneg (x % 18446744073709551616) (show (n : Int) ≠ 0 by omega)
    have h2 := Int.emod_lt_of_pos (x % 18446744073709551616) (show (0 : Int) < (n : Int) by omega)
    omega
theorem ret_bool {a b : Bool} (h : a = b) : Ending.returned (.bool a) = .returned (.bool b) := by rw [h]
end Go.Proofs.Ytedemehlccmkpaa

/-
  Closed facts of the translation that more than one text uses.
-/
namespace Go.Proofs.Ytedemehlccmkpaa
open Go.RowKit
theorem Try.info5 : (Try.prog.info? 5).map (fun i => (i.zero, i.size, i.bytes)) = some (some (.int .u8 0), 1, 1) := by kernel_rfl
end Go.Proofs.Ytedemehlccmkpaa

/-
  Layer 4: blocks as arrays of 512 bytes: their cells; elements of many cells in a row; two arrays held against one another.
-/
namespace Go.Proofs.Ytedemehlccmkpaa
open Go.RowKit

/-- a text's bytes as cells -/
def bv (b : ByteArray) : List Value := valB b.data.toList
theorem ba_len (b : ByteArray) : b.data.toList.length = b.size := by rw [Array.length_toList]; rfl
theorem bv_len (b : ByteArray) : (bv b).length = b.size := by unfold bv valB; rw [List.length_map, ba_len]
theorem bv_at (b : ByteArray) (i : Nat) (h : i < b.size) : (bv b)[i]? = some (.int .u8 ((b.data.toList[i]'(by rw [ba_len]; exact h)).toNat : Int)) := by
  unfold bv valB
  rw [List.getElem?_map, List.getElem?_eq_getElem (by rw [ba_len]; exact h)]; rfl
theorem valB_inj {a b : List UInt8} (h : valB a = valB b) : a = b := by
  unfold valB at h
  refine List.map_inj_right (fun x y hxy => ?_) |>.1 h
  simp only [Value.int.injEq, true_and] at hxy
  have : x.toNat = y.toNat := by omega
  exact UInt8.toNat_inj.1 this
theorem bv_inj {a b : ByteArray} (h : bv a = bv b) : a = b := by
  have h2 := valB_inj h
  cases a; cases b
  simp at h2
  rw [h2]
theorem valB_one (l : List UInt8) : ∀ v ∈ valB l, v.oneCell' = true := by
  intro v hv
  obtain ⟨x, _, rfl⟩ := List.mem_map.1 hv; rfl
theorem bv_one (b : ByteArray) : ∀ v ∈ bv b, v.oneCell' = true := valB_one _

/-! elements of k cells each, one behind the other -/
section
variable {α : Type} (f : α → List Value) (k : Nat)
theorem flat_len (bs : List α) (h : ∀ b ∈ bs, (f b).length = k) : (bs.flatMap f).length = bs.length * k := by
  induction bs with
  | nil => simp
  | cons b bs ih =>
    rw [List.flatMap_cons, List.length_append, h b (by simp), ih fun x hx => h x (by simp [hx]), List.length_cons, Nat.add_mul]; omega
theorem flat_at (bs : List α) (h : ∀ b ∈ bs, (f b).length = k) (i : Nat) (hi : i < bs.length) (j : Nat) (hj : j < k) : (bs.flatMap f)[i * k + j]? = (f bs[i])[j]? := by
  induction bs generalizing i with
  | nil => simp at hi
  | cons b bs ih =>
    have hb := h b (by simp)
    rw [List.flatMap_cons]
    cases i with
    | zero => rw [List.getElem?_append_left (by omega)]; simp
    | succ i =>
      rw [List.getElem?_append_right (by rw [hb, Nat.add_mul]; omega), hb, show (i + 1) * k + j - k = i * k + j by rw [Nat.add_mul]; omega]
      exact ih (fun x hx => h x (by simp [hx])) i (by simpa using hi)
theorem flat_set (bs : List α) (h : ∀ b ∈ bs, (f b).length = k) (i : Nat) (hi : i < bs.length) (x : α) (r : List Value) :
    (bs.flatMap f ++ r).take (i * k) ++ f x ++ (bs.flatMap f ++ r).drop (i * k + k) = (bs.set i x).flatMap f ++ r := by
  induction bs generalizing i with
  | nil => simp at hi
  | cons b bs ih =>
    have hb := h b (by simp)
    cases i with
    | zero =>
      simp only [List.flatMap_cons, List.set_cons_zero, Nat.zero_mul, Nat.zero_add, List.take_zero, List.nil_append, List.append_assoc]
      congr 1
      rw [List.drop_append, hb, Nat.sub_self, List.drop_zero, List.drop_of_length_le (by omega), List.nil_append]
    | succ i =>
      have e := ih (fun x hx => h x (by simp [hx])) i (by simpa using hi)
      simp only [List.flatMap_cons, List.set_cons_succ, List.append_assoc] at e ⊢
      rw [← e, List.take_append, List.drop_append, hb, List.take_of_length_le (by rw [hb, Nat.add_mul]; omega), List.drop_of_length_le (by rw [hb, Nat.add_mul]; omega),
        show (i + 1) * k - k = i * k by rw [Nat.add_mul]; omega, show (i + 1) * k + k - k = i * k + k by rw [Nat.add_mul]; omega, List.nil_append, List.append_assoc]
end
/-- what a store of many cells makes of a row -/
theorem rowV_setCells (vs : List Value) : ∀ (o : Nat) {w : World} {g T : Nat} {l : List Value}, RowV w g T l → o + vs.length ≤ l.length → RowV (w.setCells g o vs) g T (l.take o ++ vs ++ l.drop (o + vs.length)) := by
  induction vs with
  | nil => intro o w g T l h _; simpa [World.setCells] using h
  | cons v r ih =>
    intro o w g T l h ho
    rw [World.setCells]
    have h2 := ih (o + 1) (rowV_stored h o v) (by rw [List.length_set]; simp at ho; omega)
    have e : (l.set o v).take (o + 1) ++ r ++ (l.set o v).drop (o + 1 + r.length) = l.take o ++ (v :: r) ++ l.drop (o + (v :: r).length) := by
      have ho2 : o < l.length := by simp at ho; omega
      rw [List.take_set, List.drop_set_of_lt (by omega), List.take_succ_eq_append_getElem ho2, List.set_append_right _ _ (by rw [List.length_take]; omega), List.length_take, show o - min o l.length = 0 by omega, List.set_cons_zero]
      simp [Nat.add_assoc, Nat.add_comm 1]
    rw [e] at h2
    exact h2
theorem setCells_far (g : Nat) (vs : List Value) : ∀ (o : Nat) (w : World) (i : Nat), i ≠ g → (w.setCells g o vs).heap[i]? = w.heap[i]? := by
  induction vs with
  | nil => intro o w i _; rfl
  | cons v r ih => intro o w i h; rw [World.setCells, ih _ _ _ h]; exact Below.heap_setCell w ⟨g, o, none⟩ v i h
theorem setCells_size (g : Nat) (vs : List Value) : ∀ (o : Nat) (w : World), (w.setCells g o vs).heap.size = w.heap.size := by
  induction vs with
  | nil => intro o w; rfl
  | cons v r ih => intro o w; rw [World.setCells, ih]; simp [World.setCell]
theorem setCells_rest (g : Nat) (vs : List Value) : ∀ (o : Nat) (w : World), (w.setCells g o vs).os = w.os ∧ (w.setCells g o vs).tape = w.tape ∧ (w.setCells g o vs).output = w.output := by
  induction vs with
  | nil => intro o w; exact ⟨rfl, rfl, rfl⟩
  | cons v r ih => intro o w; rw [World.setCells]; exact ih _ _
theorem Only.setCells {F : Nat → Prop} {a w : World} (h : Only F a w) {g : Nat} (hg : g < a.heap.size → F g) (o : Nat) (vs : List Value) : Only F a (w.setCells g o vs) :=
  h.trans (G := fun k => k = g) ⟨(setCells_rest _ _ _ _).1, (setCells_rest _ _ _ _).2.1, (setCells_rest _ _ _ _).2.2, by rw [setCells_size]; exact Nat.le_refl _, fun k _ hk => setCells_far g vs o w k hk⟩ fun k hk e => by subst e; exact hg hk
theorem rowV_cellsFar {w : World} {g T g' : Nat} {l : List Value} (h : RowV w g T l) (hg : g ≠ g') (o : Nat) (vs : List Value) : RowV (w.setCells g' o vs) g T l := (setCells_far g' vs o w g hg).trans h
/-- the cells of a row from o on -/
theorem rowV_range {w : World} {g T : Nat} {l : List Value} (h : RowV w g T l) (o : Nat) (cs : List Value) (hc : ∀ j, j < cs.length → l[o + j]? = cs[j]?) : w.rangeAt g o cs := by
  intro j v hv
  have hj : j < cs.length := (List.getElem?_eq_some_iff.1 hv).1
  rw [rowV_cell h, hc j hj, hv]
theorem rowV_there {w : World} {g T : Nat} {l : List Value} (h : RowV w g T l) (o n : Nat) (hn : o + n ≤ l.length) : w.there g o n := by
  intro j hj
  refine ⟨?_, rowV_frozen h _⟩
  rw [rowV_cell h, List.getElem?_eq_getElem (by omega)]; rfl

/-! two arrays of bytes held against one another -/
theorem info_block : (Try.prog.info? 91).map (fun i => (i.zero.isSome, i.size, i.bytes)) = some (true, 512, 512) := by kernel_rfl
theorem info_byte : (Try.prog.info? 5).map (fun i => (i.zero, i.size, i.bytes)) = some (some (.int .u8 0), 1, 1) := by kernel_rfl
theorem eqItems_int {P : Program} (w : World) (e : TypeId) (k : IntKind) (he : P.underlying e = some (.int k)) (d : Nat) (is : List Nat) : ∀ (X Y : List Int), (∀ i ∈ is, i < X.length ∧ i < Y.length) →
    (Op.eqItems (d + 1) e 1 (X.map (Value.int k)).toArray (Y.map (Value.int k)).toArray is).run P w = .ok (is.all fun i => X.getD i 0 == Y.getD i 0) w := by
  induction is with
  | nil => intro X Y _; simp [Op.eqItems]
  | cons i is ih =>
    intro X Y h
    obtain ⟨h1, h2⟩ := h i (by simp)
    have hag : (isAgg e).run P w = .ok false w := by unfold isAgg; rw [Sem.run_bind, run_underlying he w]; rfl
    have hx : (part e (X.map (Value.int k)).toArray (i * 1)).run P w = .ok (.int k (X.getD i 0)) w := by
      simp [part, hag, List.getElem?_eq_getElem h1, List.getD]
    have hy : (part e (Y.map (Value.int k)).toArray (i * 1)).run P w = .ok (.int k (Y.getD i 0)) w := by
      simp [part, hag, List.getElem?_eq_getElem h2, List.getD]
    simp only [Op.eqItems, Sem.run_bind, hx, hy, Result.andThen_ok, run_equalIn_int w d e k k _ _ he]
    by_cases hq : X.getD i 0 = Y.getD i 0
    · rw [List.all_cons]
      have : (X.getD i 0 == Y.getD i 0) = true := by simpa using hq
      rw [this]
      simpa using ih X Y fun j hj => h j (by simp [hj])
    · have : (X.getD i 0 == Y.getD i 0) = false := by simpa using hq
      rw [List.all_cons, this]
      simp
theorem all_getD {X Y : List Int} {n : Nat} (hX : X.length = n) (hY : Y.length = n) : ((List.range n).all fun i => X.getD i 0 == Y.getD i 0) = decide (X = Y) := by
  rw [Bool.eq_iff_iff, List.all_eq_true, decide_eq_true_iff]
  constructor
  · intro h
    apply List.ext_getElem (by omega)
    intro i h1 h2
    have := h i (List.mem_range.2 (by omega))
    simpa [List.getD, List.getElem?_eq_getElem h1, List.getElem?_eq_getElem h2] using this
  · rintro rfl i _; simp
theorem valB_int (l : List UInt8) : valB l = (l.map fun b => (b.toNat : Int)).map (Value.int .u8) := by unfold valB; rw [List.map_map]; rfl
set_option maxRecDepth 100000 in
/-- two blocks held against one another -/
theorem run_equal_bv (w : World) (a b : ByteArray) (ha : a.size = 512) (hb : b.size = 512) :
    (Op.equal 91 (.agg (bv a).toArray) (.agg (bv b).toArray)).run Try.prog w = .ok (decide (a = b)) w := by
  obtain ⟨i, hi, hi2⟩ := Option.map_eq_some_iff.1 info_byte
  simp only [Prod.mk.injEq] at hi2
  have hc : Try.prog.cellsOf 5 = 1 := by kernel_rfl
  unfold Op.equal
  rw [show Op.maxDepth = 9998 + 1 + 1 from rfl, run_equalIn_array w (9998 + 1) _ _ Try.underlying91 hi, hc]
  unfold bv
  rw [valB_int, valB_int, eqItems_int w 5 .u8 Try.underlying5 9998 _ _ _ (fun j hj => by
    have := List.mem_range.1 hj
    have ea := ba_len a
    have eb := ba_len b
    rw [List.length_map, List.length_map]; omega)]
  rw [all_getD (by rw [List.length_map, ba_len]; exact ha) (by rw [List.length_map, ba_len]; exact hb)]
  congr 1
  rw [Bool.eq_iff_iff, decide_eq_true_iff, decide_eq_true_iff]
  constructor
  · intro h
    apply bv_inj
    unfold bv
    rw [valB_int, valB_int, h]
  · rintro rfl; rfl
end Go.Proofs.Ytedemehlccmkpaa

/-
  A text copied into a row of bytes that the call made: what the row holds, as a list of bytes.
-/
namespace Go.Proofs.Ytedemehlccmkpaa
open Go.RowKit

theorem one_byte : (Try.prog.info? 5).map (·.size) = some 1 := by kernel_rfl
/-- a text copied into a row that is as long, or longer -/
theorem wpList_copy_str {P : Program} {w : World} {ops : Array Oper} {rest : List Oper} {o : Oper} {a : Act} {Q : Exit → Act → World → Prop} (hgd : o.guard = none) (d s : Operand) (dT sT : TypeId)
    (ho : o.op = .call { callee := .builtin .copy, args := #[d, s], argTypes := #[dT, sT] }) (elem : TypeId) (hu : P.underlying dT = some (.slice elem)) (hsz : (P.info? elem).map (·.size) = some 1)
    (g off dLen dCap : Nat) (hd : a.eval d = .slice (some ⟨g, off, none⟩) dLen dCap) (str : ByteArray) (hs : a.eval s = .string str) (hn : str.size ≤ dLen) (ht : w.there g off dLen)
    (h : wpList P ops Q rest (a.put o.dst (goInt str.size)) (w.setCells g off (bv str))) : wpList P ops Q (o :: rest) a w := by
  refine wpList_plain hgd fun K hK => ?_
  have hst := run_storeCells_cells (P := P) g off (bv str) 0 w (fun j hj => by rw [bv_len] at hj; simpa using (ht j (by omega)).1) (fun j hj => by rw [bv_len] at hj; simpa using (ht j (by omega)).2) (bv_one str)
  obtain ⟨i, hi, hi2⟩ := Option.map_eq_some_iff.1 hsz
  have hf := firstCells_string (P := P) str w
  have hrun : (Builtin.copy_ #[dT, sT] o.type #[.slice (some ⟨g, off, none⟩) dLen dCap, .string str]).run P w = .ok (goInt str.size) (w.setCells g off (bv str)) := by
    rw [Nat.add_zero] at hst
    have e : (byteCells str) = bv str := rfl
    rw [e] at hf
    have em : str.size.min dLen = str.size := Nat.min_eq_left hn
    simp [Builtin.copy_, run_underlying hu, Builtin.lenOf, sizeOf, typeInfo, hi, hi2, hf, hst, em]
  unfold Oper.wp
  simp [execOp, ho, resolve, invoke, builtin, hd, hs, hrun, Result.andThen]
  exact hK _ _ h
/-- bytes, over which from o on others are written -/
def spl (l : List UInt8) (o : Nat) (x : List UInt8) : List UInt8 := l.take o ++ x ++ l.drop (o + x.length)
theorem spl_len (l : List UInt8) (o : Nat) (x : List UInt8) (h : o + x.length ≤ l.length) : (spl l o x).length = l.length := by
  unfold spl; rw [List.length_append, List.length_append, List.length_take, List.length_drop]; omega
theorem spl_end (a x : List UInt8) (o m : Nat) (ha : a.length = o) (_h : x.length ≤ m) : spl (a ++ List.replicate m 0) o x = a ++ x ++ List.replicate (m - x.length) 0 := by
  subst ha
  unfold spl
  rw [List.take_left' rfl, List.drop_append, List.drop_of_length_le (by omega), List.nil_append, show a.length + x.length - a.length = x.length by omega, List.drop_replicate]
theorem valB_app (a b : List UInt8) : valB (a ++ b) = valB a ++ valB b := by unfold valB; rw [List.map_append]
theorem valB_len (l : List UInt8) : (valB l).length = l.length := by unfold valB; rw [List.length_map]
theorem valB_spl (l x : List UInt8) (o : Nat) : (valB l).take o ++ valB x ++ (valB l).drop (o + (valB x).length) = valB (spl l o x) := by
  rw [valB_len]; unfold spl valB
  rw [List.map_append, List.map_append, List.map_take, List.map_drop]
/-- the block that the call made first holds these n bytes -/
structure Laid (w0 w : World) (g T n : Nat) (p : List UInt8) : Prop where
  row : RowV w g T (valB p)
  len : p.length = n
  below : Below w0.heap.size w0 w
  new : w0.heap.size ≤ g
theorem laid_drewN {w0 w : World} {g T n : Nat} {p : List UInt8} (h : Laid w0 w g T n p) (k : Nat) : Laid w0 (w.drewN k) g T n p := ⟨h.row, h.len, h.below.trans (below_drewN (Below.refl _ _) k), h.new⟩
theorem laid_drew {w0 w : World} {g T n : Nat} {p : List UInt8} (h : Laid w0 w g T n p) : Laid w0 w.drew g T n p := laid_drewN h 1
theorem laid_below {w0 w w' : World} {g T n : Nat} {p : List UInt8} (h : Laid w0 w g T n p) (hb : Below w.heap.size w w') : Laid w0 w' g T n p :=
  ⟨rowV_below h.row hb (rowV_lt h.row), h.len, below_two h.below hb, h.new⟩
theorem laid_there {w0 w : World} {g T n : Nat} {p : List UInt8} (h : Laid w0 w g T n p) (o k : Nat) (hk : o + k ≤ n) : w.there g o k := rowV_there h.row o k (by rw [valB_len, h.len]; exact hk)
theorem laid_put {w0 w : World} {g T n : Nat} {p : List UInt8} (h : Laid w0 w g T n p) (o : Nat) (s : ByteArray) (hk : o + s.size ≤ n) : Laid w0 (w.setCells g o (bv s)) g T n (spl p o s.data.toList) := by
  have hl := h.len
  have hs : s.data.toList.length = s.size := ba_len s
  have hlt := rowV_lt h.row
  refine ⟨?_, by rw [spl_len _ _ _ (by omega)]; exact hl, ?_, h.new⟩
  · rw [← valB_spl]
    exact rowV_setCells (valB s.data.toList) o h.row (by rw [valB_len, valB_len]; omega)
  · have hn := h.new
    exact ((Only.of_below h.below).setCells (fun _ => hn) o (bv s)).below (fun k _ hf => hf) (Nat.le_refl _)
theorem laid_conv {w0 w : World} {g T n : Nat} {p : List UInt8} (h : Laid w0 w g T n p) :
    (convert 84 9 (.slice (some ⟨g, 0, none⟩) n n)).run Try.prog w = .ok (.string ⟨p.toArray⟩) w := by
  have hl := h.len
  have e := run_convert_bytes_back (P := Try.prog) w 84 9 5 ⟨g, 0, none⟩ n p Try.underlying84 Try.underlying5 Try.underlying9 (fun j hj => by
    rw [Addr.add_mid, Nat.zero_add, rowV_cell h.row]
    unfold valB
    rw [List.getElem?_map, List.getElem?_eq_getElem hj]; rfl)
  rw [hl] at e
  exact e
theorem laid_new (w : World) (T n : Nat) (p : List UInt8) (h : p.length = n) : Laid w (w.alloc (.cells (valB p).toArray T)) w.heap.size T n p :=
  ⟨rowV_new w T (valB p), h, (Below.refl _ w).alloc (Nat.le_refl _) _, Nat.le_refl _⟩
end Go.Proofs.Ytedemehlccmkpaa

/-
  The leaves of layer 1: what a digit, its worth, a code and its number answer.
-/
namespace Go.Proofs.Ytedemehlccmkpaa
open Go.RowKit


theorem u64_not (x : Int) (h0 : 0 ≤ x) (h1 : x < 18446744073709551616) : bits .xor .u64 IntKind.u64.max x = 18446744073709551615 - x := by
  obtain ⟨a, rfl⟩ := Int.eq_ofNat_of_zero_le h0
  have e : IntKind.u64.max = ((18446744073709551615 : Nat) : Int) := by decide
  rw [e, u64_xor _ _ (by omega) (by omega) (by omega) (by omega)]
  simp only [Int.toNat_natCast]
  have h : (18446744073709551615 ^^^ a : Nat) = 18446744073709551615 - a := by
    have e2 := congrArg BitVec.toNat (BitVec.allOnes_xor (x := BitVec.ofNat 64 a))
    rw [BitVec.toNat_xor, BitVec.toNat_not, BitVec.toNat_allOnes, BitVec.toNat_ofNat, Nat.mod_eq_of_lt (by omega)] at e2
    simpa using e2
  rw [h]; omega

set_option maxHeartbeats 400000 in
theorem code_any (n : Int) (w : World) (h0 : -9223372036854775808 ≤ n) (h1 : n ≤ 9223372036854775807) :
    Calls Try.prog 54 #[.int .i64 n] w fun e w' => e = .returned (.int .u64 (Oct.codeN n)) ∧ w = w' := by
  have L : ∀ m : Int, n = m → n < 0 → bits .xor .u64 IntKind.u64.max (IntKind.u64.wrap (IntKind.u64.wrap n * 2)) = (Oct.codeN n : Int) := by
    intro m _ hn
    rw [IntKind.wrap_u64, IntKind.wrap_u64, u64_not _ (by omega) (by omega), Oct.codeN, if_pos hn]
    omega
  have M : ∀ m : Int, n = m → 0 ≤ n → n * 2 = (Oct.codeN n : Int) := by
    intro m _ hn
    rw [Oct.codeN, if_neg (by omega)]
    omega
  by_cases hn : n < 0
  · have HL := Lib.hid (L n rfl hn); clear L M
    go_enter Try.func54, Try.ntmps54
    go_wp2
    go_ret
    exact ⟨ret_int HL.out, rfl⟩
  · have HL := Lib.hid (M n rfl (by omega)); clear L M
    go_enter Try.func54, Try.ntmps54
    go_wp2
    go_ret
    exact ⟨ret_int HL.out, rfl⟩

set_option maxHeartbeats 400000 in
theorem digit7_any (c i : Int) (w : World) (h0 : 0 ≤ c) (h1 : c < 18446744073709551616) (h2 : 0 ≤ i) (h3 : i ≤ 9) :
    Calls Try.prog 55 #[.int .u64 c, .int .i64 i, .int .i64 7] w fun e w' => e = .returned (.int .u8 (c / 2 ^ (i * 7).toNat % 128)) ∧ ∃ n, w' = w.drewN n := by
  have H : bits .and .u64 (c / 2 ^ (i * 7).toNat) 127 % 256 = c / 2 ^ (i * 7).toNat % 128 := by
    have e0 : 0 ≤ c / 2 ^ (i * 7).toNat := Int.ediv_nonneg h0 (by exact Int.le_of_lt (Int.pow_pos (by decide)))
    have e1 : c / 2 ^ (i * 7).toNat ≤ c := Int.ediv_le_self _ h0
    rw [u64_and _ _ e0 (by omega) (by decide) (by decide)]
    have := nat_mask7 (c / 2 ^ (i * 7).toNat).toNat
    simp only [Int.reduceToNat]
    omega
  have HH := Lib.hid H; clear H
  go_enter Try.func55, Try.ntmps55
  go_wp2
  go_quiet (fail)
  go_wp2
  go_ret
  exact ⟨ret_int HH.out, _, rfl⟩

theorem and1 (c : Nat) (h1 : c < 18446744073709551616) : bits .and .u64 (c : Int) 1 = ((c % 2 : Nat) : Int) := by
  rw [u64_and _ _ (by omega) (by omega) (by decide) (by decide)]
  have := nat_mask1 c
  simp only [Int.reduceToNat, Int.toNat_natCast]
  omega

set_option maxHeartbeats 400000 in
theorem decode_any (c : Nat) (w : World) (h1 : c < 18446744073709551616) :
    Calls Try.prog 59 #[.int .u64 (c : Int)] w fun e w' => e = .returned (.int .i64 (Oct.decN c)) ∧ w' = w := by
  have h2 := and1 c h1
  by_cases hc : c % 2 = 1
  · have hb : (bits .and .u64 (c : Int) 1 != 0) = true := by rw [h2, hc]; rfl
    have H : bits .xor .i64 (-1) ((c : Int) / 2) = Oct.decN c := by
      have := i64_not (c / 2) (by omega)
      rw [Int.natCast_ediv] at this
      rw [Oct.decN, if_pos hc]; exact this
    have HH := Lib.hid H; clear H hc h2
    go_enter Try.func59, Try.ntmps59
    go_wp2
    go_ret
    exact ⟨ret_int HH.out, rfl⟩
  · have hb : (bits .and .u64 (c : Int) 1 != 0) = false := by rw [h2, show c % 2 = 0 from by omega]; rfl
    have H : (c : Int) / 2 = Oct.decN c := by
      rw [Oct.decN, if_neg hc]; omega
    have HH := Lib.hid H; clear H hc h2
    go_enter Try.func59, Try.ntmps59
    go_wp2
    go_ret
    exact ⟨ret_int HH.out, rfl⟩

set_option maxHeartbeats 400000 in
theorem worth7_any (b i : Int) (w : World) (h0 : 0 ≤ b) (h1 : b < 256) (h2 : 0 ≤ i) (h3 : i ≤ 9) :
    Calls Try.prog 58 #[.int .u8 b, .int .i64 i, .int .i64 7] w fun e w' => e = .returned (.int .u64 (IntKind.u64.wrap (b * 2 ^ (i * 7).toNat))) ∧ w' = w := by
  go_enter Try.func58, Try.ntmps58
  go_wp2
  go_ret
  exact ⟨rfl, rfl⟩

set_option maxHeartbeats 400000 in
theorem rcode_any (n : Int) (w : World) (h0 : -9223372036854775808 ≤ n) (h1 : n ≤ 9223372036854775807) :
    Calls Try.prog 72 #[.int .i64 n] w fun e w' => e = .returned (.int .u64 (Oct.codeN n)) ∧ w = w' := by
  have H : ∀ m : Int, m = n → (m < 0 → 2 * (-1 - m) + 1 = (Oct.codeN m : Int)) ∧ (0 ≤ m → 2 * m = (Oct.codeN m : Int)) := by
    intro m _
    constructor
    · intro h; rw [Oct.codeN, if_pos h]; omega
    · intro h; rw [Oct.codeN, if_neg (by omega)]; omega
  have HH := Lib.hid (H n rfl); clear H
  go_enter Try.func72, Try.ntmps72
  go_wp2
  all_goals go_ret
  · exact ⟨ret_int (HH.out.1 (by assumption)), rfl⟩
  · exact ⟨ret_int (HH.out.2 (by assumption)), rfl⟩

set_option maxHeartbeats 400000 in
theorem rnumber_any (c : Nat) (w : World) (h1 : c < 18446744073709551616) :
    Calls Try.prog 61 #[.int .u64 (c : Int)] w fun e w' => e = .returned (.int .i64 (Oct.decN c)) ∧ w' = w := by
  have H : ∀ m : Nat, m = c → (((m : Int) % 2 == 1) = true → -1 - (m : Int) / 2 = Oct.decN m) ∧ (((m : Int) % 2 == 1) = false → (m : Int) / 2 = Oct.decN m) := by
    intro m _
    constructor
    · intro h
      have h : (m : Int) % 2 = 1 := by simpa using h
      rw [Oct.decN, if_pos (by omega)]; omega
    · intro h
      have h : ¬ (m : Int) % 2 = 1 := by simpa using h
      rw [Oct.decN, if_neg (by omega)]; omega
  have HH := Lib.hid (H c rfl); clear H
  go_enter Try.func61, Try.ntmps61
  go_wp2
  all_goals go_ret
  · exact ⟨ret_int (HH.out.1 (by assumption)), rfl⟩
  · exact ⟨ret_int (HH.out.2 (by assumption)), rfl⟩
theorem andNot128 (b : UInt8) : bits .andNot .u8 ((b.toNat : Nat) : Int) 128 = ((b.toNat % 128 : Nat) : Int) := by
  have hb := b.toNat_lt
  rw [u8_andNot _ _ (by omega) (by omega) (by decide) (by decide)]
  have := nat_mask7 b.toNat
  simp only [Int.reduceToNat, Int.toNat_natCast, Nat.reduceSub]
  omega
/-- the code so far, with a digit more -/
theorem or_digit (acc d k : Nat) (hk : k ≤ 9) (h : acc < 2 ^ (7 * k)) (hd : d < 128) (h9 : k = 9 → d ≤ 1) :
    bits .or .u64 (acc : Int) (IntKind.u64.wrap ((d : Int) * 2 ^ (k * 7))) = ((acc + 2 ^ (7 * k) * d : Nat) : Int) ∧ acc + 2 ^ (7 * k) * d < 18446744073709551616 := by
  have e : k * 7 = 7 * k := by omega
  have hp : (2 : Nat) ^ (7 * k) * d < 18446744073709551616 ∧ acc + 2 ^ (7 * k) * d < 18446744073709551616 := by
    by_cases hk9 : k = 9
    · subst hk9; have := h9 rfl; omega
    · have h8 : (2 : Nat) ^ (7 * k) ≤ 2 ^ 56 := Nat.pow_le_pow_right (by omega) (by omega)
      have : (2 : Nat) ^ (7 * k) * d ≤ 2 ^ 56 * 127 := Nat.mul_le_mul h8 (by omega)
      omega
  have e2 : ((d : Int) * 2 ^ (7 * k)) = ((2 ^ (7 * k) * d : Nat) : Int) := by push_cast; rw [Int.mul_comm]
  rw [e, e2, IntKind.wrap_u64, Int.emod_eq_of_lt (by omega) (by omega), u64_or _ _ (by omega) (by omega) (by omega) (by omega)]
  refine ⟨?_, hp.2⟩
  simp only [Int.toNat_natCast]
  rw [Oct.or_sum acc d k h]
end Go.Proofs.Ytedemehlccmkpaa

/-
  Slices of bytes that a call makes itself: what they hold, as lists; how they become strings.
-/
namespace Go.Proofs.Ytedemehlccmkpaa
open Go.RowKit

/-- the slice v of bytes (element type E), from block B on, holds l -/
def OwnsB (w : World) (B E : Nat) (v : Value) (l : List UInt8) : Prop := w.ownsRow B E 1 v l.length (l.map fun b => Value.int .u8 (b.toNat : Int))

theorem ownsB_nil (w : World) (B E : Nat) : OwnsB w B E (.slice none 0 0) [] := World.ownsRow_nil _ _ _ _

theorem ownsB_conv {P : Program} {w : World} {B E : Nat} {v : Value} {l : List UInt8} (h : OwnsB w B E v l) {src dst : TypeId}
    (hs : P.underlying src = some (.slice E)) (he : P.underlying E = some (.int .u8)) (hd : P.underlying dst = some .string) :
    (convert src dst v).run P w = .ok (.string ⟨l.toArray⟩) w := by
  obtain ⟨hlen, ⟨rfl, h0⟩ | ⟨g, cap, cur, rfl, hBg, hg, hnc, hcm, hcs, htake⟩⟩ := h
  · have hl : l = [] := List.eq_nil_of_length_eq_zero h0
    subst hl
    exact run_convert_bytes_nil w src E hs he 0 0 dst hd
  · have hc := run_convert_bytes_arg w src E hs he g 0 l.length cap (l.map fun b => (b.toNat : Int)) (by simp) (fun i hi => by
      rw [Nat.zero_add, cell_of_row w g i cur E (0, 0) hg]
      have h1 : cur.toList[i]? = (cur.toList.take (l.length * 1))[i]? := by rw [List.getElem?_take, if_pos (by omega)]
      have h2 : cur[i]? = cur.toList[i]? := by simp
      rw [h2, h1, htake]
      simp [List.getElem?_eq_getElem hi, List.getD]) dst hd
    rw [hc]
    have e : strOfNums (l.map fun b => (b.toNat : Int)) = ⟨l.toArray⟩ := by
      unfold strOfNums
      rw [List.map_map]
      have : ∀ l : List UInt8, l.map ((fun n : Int => UInt8.ofNat n.toNat) ∘ fun b : UInt8 => (b.toNat : Int)) = l := fun l => by
        induction l with
        | nil => rfl
        | cons b l ih => rw [List.map_cons, ih]; simp
      rw [this]
    rw [e]

theorem ownsB_row {w : World} {B E : Nat} {v : Value} {l : List UInt8} (h : OwnsB w B E v l) (n : Nat) (o : Obj) :
    ((w.drewN n).alloc o).ownsRow B E 1 v l.length (l.map fun b => Value.int .u8 (b.toNat : Int)) := World.ownsRow.alloc (w := w.drewN n) h o
theorem ownsB_row0 {w : World} {B E : Nat} {v : Value} {l : List UInt8} (h : OwnsB w B E v l) (o : Obj) :
    (w.alloc o).ownsRow B E 1 v l.length (l.map fun b => Value.int .u8 (b.toNat : Int)) := World.ownsRow.alloc h o
theorem cell_one {w : World} {x : Value} {t : TypeId} : ∀ (j : Nat) (u : Value), [x][j]? = some u → (w.alloc (.cells #[x] t)).cell? ((⟨w.heap.size, 0, none⟩ : Addr).add j) = some u := by
  intro j u hj
  match j, hj with
  | 0, hj => simp at hj; subst hj; show (w.alloc (.cells #[x] t)).cell? ⟨w.heap.size, 0, none⟩ = some x; rw [World.cell?_alloc_at _ _ _ _ rfl]; rfl

/-- what an append of one byte leaves -/
theorem ownsB_snoc {w : World} {B E : Nat} {v : Value} {l : List UInt8} {n : Int} (b : UInt8)
    (h : w.ownsRow B E 1 v (l.length + 1) ((l.map fun b => Value.int .u8 (b.toNat : Int)) ++ [.int .u8 n])) (hb : n = (b.toNat : Int)) : OwnsB w B E v (l ++ [b]) := by
  subst hb
  unfold OwnsB; simpa using h

theorem one_cell {k : IntKind} {n : Int} : ∀ u ∈ [Value.int k n], u.oneCell' = true := by intro u hu; simp at hu; subst hu; rfl

/-- what a call makes above what was there, and grows, stays above -/
theorem below_grown {B E : Nat} {w wr w1 : World} {v : Value} {l : List UInt8} {o : Obj} (hb : Below B w wr) (hB : B ≤ wr.heap.size) (hown : OwnsB wr B E v l) (hg : (wr.alloc o).grownBy w1 v.ownBlock) : Below B w w1 :=
  (hb.alloc hB o).grown hg (by simp; omega) (fun j hj => (hown.lt j hj).1)

theorem ownsB_made {w : World} {B E m : Nat} {v : Value} (h : w.ownsRow B E 1 v m (madeCells #[Value.int .u8 0] m).toList) : OwnsB w B E v (List.replicate m 0) := by
  unfold OwnsB
  rw [toList_madeCells_one] at h
  simpa using h
theorem ownsB_cell {w : World} {B E g n cap : Nat} {l : List UInt8} (h : OwnsB w B E (.slice (some ⟨g, 0, none⟩) n cap) l) (hn : l.length = n) (j : Nat) (hj : j < n) :
    ∃ x, w.cell? ⟨g, j, none⟩ = some (.int .u8 x) ∧ w.frozen? ⟨g, j, none⟩ = false := by
  unfold OwnsB at h; rw [hn] at h
  exact ⟨_, by rw [h.cellAt j (by omega), List.getElem?_map, List.getElem?_eq_getElem (by omega)]; rfl, h.frozenAt j⟩
theorem ownsB_stored {w : World} {B E g n cap : Nat} {l l' : List UInt8} (h : OwnsB w B E (.slice (some ⟨g, 0, none⟩) n cap) l) (hn : l.length = n) (j : Nat) (b : UInt8) (he : l.set j b = l') :
    OwnsB (w.setCell ⟨g, j, none⟩ (.int .u8 (b.toNat : Int))) B E (.slice (some ⟨g, 0, none⟩) n cap) l' := by
  subst he
  unfold OwnsB at h ⊢; rw [hn] at h
  have := (h.stored j (.int .u8 (b.toNat : Int))).1
  rw [List.length_set, hn, List.map_set]; exact this
theorem ownsB_ge {w : World} {B E g n cap : Nat} {l : List UInt8} (h : OwnsB w B E (.slice (some ⟨g, 0, none⟩) n cap) l) : B ≤ g := (h.lt g rfl).1
/-- one byte in a new block, as a string -/
theorem conv_one {P : Program} (w : World) (b : UInt8) {src dst E : TypeId}
    (hs : P.underlying src = some (.slice E)) (he : P.underlying E = some (.int .u8)) (hd : P.underlying dst = some .string) :
    (convert src dst (.slice (some ⟨w.heap.size, 0, none⟩) 1 1)).run P (w.alloc (.cells #[.int .u8 (b.toNat : Int)] E)) = .ok (.string ⟨#[b]⟩) (w.alloc (.cells #[.int .u8 (b.toNat : Int)] E)) := by
  have ho : OwnsB (w.alloc (.cells #[.int .u8 (b.toNat : Int)] E)) 0 E (.slice (some ⟨w.heap.size, 0, none⟩) 1 1) [b] :=
    ⟨rfl, .inr ⟨w.heap.size, 1, #[.int .u8 (b.toNat : Int)], rfl, Nat.zero_le _, heap_alloc_new w _, Nat.le_refl 1, by unfold maxLen; omega, rfl, rfl⟩⟩
  exact ownsB_conv ho hs he hd
end Go.Proofs.Ytedemehlccmkpaa

/-
  Layer 1: what Num answers (the program's and the document's).
-/
namespace Go.Proofs.Ytedemehlccmkpaa
open Go.RowKit


theorem or128 (d : Nat) (h : d < 128) : bits .or .u8 (d : Int) 128 = ((128 + d : Nat) : Int) := by
  rw [u8_or _ _ (by omega) (by omega) (by decide) (by decide)]
  simp only [Int.toNat_natCast, Int.reduceToNat]
  have := Nat.two_pow_add_eq_or_of_lt (i := 7) (b := d) (by omega) 1
  rw [Nat.or_comm]
  have h2 : (2 ^ 7 * 1 : Nat) = 128 := rfl
  rw [h2] at this; rw [this]

set_option maxRecDepth 100000 in
set_option maxHeartbeats 800000 in
theorem num_any (n : Int) (w : World) (h0 : -9223372036854775808 ≤ n) (h1 : n ≤ 9223372036854775807) :
    Calls Try.prog 29 #[.int .i64 n] w fun e w' => e = .returned (.string (Oct.numB n)) ∧ Below w.heap.size w w' := by
  obtain ⟨i0, hi, hz0, hz1, hz2⟩ := info_parts Try.info5
  go_enter Try.func29, Try.ntmps29
  go_wp2_with (go_at_call 54; refine (code_any n _ h0 h1).mono ?_; rintro e w' ⟨rfl, rfl⟩)
  have hcl := Oct.code_lt n h0 h1
  obtain ⟨c, hc⟩ : ∃ c, c = Oct.codeN n := ⟨_, rfl⟩
  rw [← hc] at hcl ⊢
  have HC := Lib.hid hc; clear hc
  go_loopw [4, 9] (fun v i wr => ∃ (k : Nat) (p : List UInt8), k ≤ 10 ∧ i = .int .i64 k ∧ OwnsB wr w.heap.size 5 v p ∧ Below w.heap.size w wr ∧ Oct.Wrote c k p)
    (fun _ i _ => 10 - (intOf i).toNat)
  case atStart => exact ⟨0, [], by omega, rfl, ownsB_nil _ _ _, Below.refl _ _, Oct.wrote_start c⟩
  case round =>
    obtain ⟨k, p, hk, rfl, hown, hb, hw⟩ := hrel
    have hk9 := Oct.wrote_lt hw hcl hk
    have hsz := hb.size
    have hlen : p.length ≤ 9 := by rw [hw.1]; exact hk9
    have hd : 0 ≤ (c : Int) / 2 ^ (k * 7) := Int.ediv_nonneg (by omega) (Int.le_of_lt (Int.pow_pos (by decide)))
    have hcast : ((c / 2 ^ (k * 7) : Nat) : Int) = (c : Int) / 2 ^ (k * 7) := by push_cast; rfl
    by_cases hlt : c / 2 ^ (k * 7) < 128
    · have hI : (c : Int) / 2 ^ (k * 7) < 128 := by omega
      have HL := Lib.hid (Oct.wrote_last hw hlt)
      have HB : Hid ((c : Int) / 2 ^ (k * 7) % 128 = ((UInt8.ofNat (c / 2 ^ (k * 7))).toNat : Int)) := Lib.hid (by rw [Oct.toNat_ofNat _ (by omega)]; omega)
      clear hcast hw
      go_wp2_with (first
        | (go_at_call 55; refine (digit7_any _ _ _ (by omega) (by omega) (by omega) (by omega)).mono ?_; rintro e w' ⟨rfl, nd, rfl⟩)
        | (at_builtin; refine wpList_append_own _ rfl _ _ 84 rfl w.heap.size 5 i0 (.int .u8 0) 1 1 Try.underlying84 hi hz0 hz1 hz2 rfl (by decide) _ _ _ rfl (ownsB_row hown _ _) ⟨wr.heap.size, 0, none⟩ 1 1 [.int .u8 ((c : Int) / 2 ^ (k * 7) % 128)] rfl rfl cell_one one_cell (by unfold maxLen; omega) (by omega) (by simp; omega) ?_))
      intro v' w1 hown' hgrow _
      have ho := ownsB_snoc _ hown' HB.out
      rw [HL.out] at ho
      have hconv := ownsB_conv (P := Try.prog) (src := 84) (dst := 9) ho Try.underlying84 Try.underlying5 Try.underlying9
      have hb1 : Below w.heap.size w w1 := below_grown (wr := wr.drewN nd) (hb.trans (below_drewN (Below.refl _ _) nd)) (by simpa using hsz) hown hgrow
      have HF := Lib.hid hb1
      clear hown' hgrow ho hb1 hown hb
      go_wp2
      go_ret
      exact ⟨ret_str (by unfold Oct.numB; rw [HC.out]), HF.out⟩
    · have hI : ¬ (c : Int) / 2 ^ (k * 7) < 128 := by omega
      have HW := Lib.hid (Oct.wrote_more hw (by omega))
      have HB : Hid (bits .or .u8 ((c : Int) / 2 ^ (k * 7) % 128) 128 = ((UInt8.ofNat (128 + c / 2 ^ (k * 7) % 128)).toNat : Int)) := Lib.hid (by
        rw [Oct.toNat_ofNat _ (by omega), ← hcast]
        have := or128 (c / 2 ^ (k * 7) % 128) (by omega)
        push_cast at this ⊢; exact this)
      clear hcast hw
      go_wp2_with (first
        | (go_at_call 55; refine (digit7_any _ _ _ (by omega) (by omega) (by omega) (by omega)).mono ?_; rintro e w' ⟨rfl, nd, rfl⟩)
        | (at_builtin; refine wpList_append_own _ rfl _ _ 84 rfl w.heap.size 5 i0 (.int .u8 0) 1 1 Try.underlying84 hi hz0 hz1 hz2 rfl (by decide) _ _ _ rfl (ownsB_row hown _ _) ⟨wr.heap.size, 0, none⟩ 1 1 [.int .u8 (bits .or .u8 ((c : Int) / 2 ^ (k * 7) % 128) 128)] rfl rfl cell_one one_cell (by unfold maxLen; omega) (by omega) (by simp; omega) ?_))
      intro v' w1 hown' hgrow _
      have ho := ownsB_snoc _ hown' HB.out
      have hb1 : Below w.heap.size w w1 := below_grown (wr := wr.drewN nd) (hb.trans (below_drewN (Below.refl _ _) nd)) (by simpa using hsz) hown hgrow
      have HF := Lib.hid hb1
      clear hown' hgrow hb1 hown hb
      go_wp2
      go_roundw
      case rel => exact ⟨k + 1, _, by omega, by go_num, ho, HF.out, HW.out⟩
      case measure => simp [intOf]; omega

set_option maxRecDepth 100000 in
set_option maxHeartbeats 800000 in
theorem rnum_any (n : Int) (w : World) (h0 : -9223372036854775808 ≤ n) (h1 : n ≤ 9223372036854775807) :
    Calls Try.prog 56 #[.int .i64 n] w fun e w' => e = .returned (.string (Oct.numB n)) ∧ Below w.heap.size w w' := by
  obtain ⟨i0, hi, hz0, hz1, hz2⟩ := info_parts Try.info5
  go_enter Try.func56, Try.ntmps56
  go_wp2_with (go_at_call 72; refine (rcode_any n _ h0 h1).mono ?_; rintro e w' ⟨rfl, rfl⟩)
  have hcl := Oct.code_lt n h0 h1
  obtain ⟨c, hc⟩ : ∃ c, c = Oct.codeN n := ⟨_, rfl⟩
  rw [← hc] at hcl ⊢
  have HC := Lib.hid hc; clear hc
  go_loopw [3, 4] (fun c' v wr => ∃ (k C : Nat) (p : List UInt8), c' = .int .u64 (C : Int) ∧ OwnsB wr w.heap.size 5 v p ∧ Below w.heap.size w wr ∧ Oct.Wrote c k p ∧ Hid (C = c / 2 ^ (k * 7)))
    (fun c' _ _ => (intOf c').toNat)
  case atStart => exact ⟨0, c, [], rfl, ownsB_nil _ _ _, Below.refl _ _, Oct.wrote_start c, Lib.hid (by simp)⟩
  case round =>
    obtain ⟨k, C, p, rfl, hown, hb, hw, HK⟩ := hrel
    have hk9 := Oct.wrote_lt' hw hcl
    have hsz := hb.size
    have hlen : p.length ≤ 9 := by rw [hw.1]; exact hk9
    have hCl : C < 18446744073709551616 := by
      have : c / 2 ^ (k * 7) ≤ c := Nat.div_le_self _ _
      have := HK.out; omega
    by_cases hlt : C < 128
    · have hI : (C : Int) < 128 := by omega
      have HL := Lib.hid (Oct.wrote_last hw (by rw [← HK.out]; exact hlt))
      have HB : Hid ((C : Int) = ((UInt8.ofNat (c / 2 ^ (k * 7))).toNat : Int)) := Lib.hid (by rw [← HK.out, Oct.toNat_ofNat _ (by omega)])
      clear hw
      go_wp2_with (at_builtin; go_loud (refine wpList_append_own _ rfl _ _ 84 rfl w.heap.size 5 i0 (.int .u8 0) 1 1 Try.underlying84 hi hz0 hz1 hz2 rfl (by decide) _ _ _ rfl (ownsB_row0 hown _) ⟨wr.heap.size, 0, none⟩ 1 1 [.int .u8 (C : Int)] rfl rfl cell_one one_cell (by unfold maxLen; omega) (by omega) (by simp; omega) ?_))
      intro v' w1 hown' hgrow _
      have ho := ownsB_snoc _ hown' HB.out
      rw [HL.out] at ho
      have hconv := ownsB_conv (P := Try.prog) (src := 84) (dst := 9) ho Try.underlying84 Try.underlying5 Try.underlying9
      have hb1 : Below w.heap.size w w1 := below_grown hb hsz hown hgrow
      have HF := Lib.hid hb1
      clear hown' hgrow ho hb1 hown hb
      go_wp2
      go_ret
      exact ⟨ret_str (by unfold Oct.numB; rw [HC.out]), HF.out⟩
    · have hI : ¬ (C : Int) < 128 := by omega
      have HW := Lib.hid (Oct.wrote_more hw (by rw [← HK.out]; omega))
      have HB : Hid (128 + (C : Int) % 128 = ((UInt8.ofNat (128 + c / 2 ^ (k * 7) % 128)).toNat : Int)) := Lib.hid (by
        rw [Oct.toNat_ofNat _ (by omega), ← HK.out]; push_cast; rfl)
      have HS : Hid (C / 128 = c / 2 ^ ((k + 1) * 7)) := Lib.hid (by rw [Oct.div_step, ← HK.out])
      clear hw
      go_wp2_with (at_builtin; go_loud (refine wpList_append_own _ rfl _ _ 84 rfl w.heap.size 5 i0 (.int .u8 0) 1 1 Try.underlying84 hi hz0 hz1 hz2 rfl (by decide) _ _ _ rfl (ownsB_row0 hown _) ⟨wr.heap.size, 0, none⟩ 1 1 [.int .u8 (128 + (C : Int) % 128)] rfl rfl cell_one one_cell (by unfold maxLen; omega) (by omega) (by simp; omega) ?_))
      intro v' w1 hown' hgrow _
      have ho := ownsB_snoc _ hown' HB.out
      have hb1 : Below w.heap.size w w1 := below_grown hb hsz hown hgrow
      have HF := Lib.hid hb1
      clear hown' hgrow hb1 hown hb
      go_wp2
      go_roundw
      case rel => exact ⟨k + 1, C / 128, _, by go_num, ho, HF.out, HW.out, HS⟩
      case measure => simp [intOf]; omega
end Go.Proofs.Ytedemehlccmkpaa

/-
  Layer 1: what Fixed and Text answer (the program's and the document's).
-/
namespace Go.Proofs.Ytedemehlccmkpaa
open Go.RowKit

set_option maxRecDepth 100000 in
set_option maxHeartbeats 800000 in
theorem text_any (s : ByteArray) (w : World) (hs : s.size ≤ 140737488355328) :
    Calls Try.prog 30 #[.string s] w fun e w' => e = .returned (.string (Oct.numB s.size ++ s)) ∧ Below w.heap.size w w' := by
  have hl := Oct.numB_len (s.size : Int) (by omega) (by omega)
  go_enter Try.func30, Try.ntmps30
  go_wp2_with (go_at_call 29; refine (num_any _ _ (by omega) (by omega)).mono ?_; rintro e w' ⟨rfl, hb⟩; have HB := Lib.hid hb; clear hb)
  go_ret
  exact ⟨rfl, HB.out⟩

set_option maxHeartbeats 400000 in
theorem digit8_any (n i : Int) (w : World) (h2 : 0 ≤ i) (h3 : i ≤ 7) :
    Calls Try.prog 83 #[.int .i64 n, .int .i64 i, .int .i64 8] w fun e w' => e = .returned (.int .u8 (Oct.digit n i.toNat).toNat) ∧ ∃ n, w' = w.drewN n := by
  have H : bits .and .u64 (IntKind.u64.wrap n / 2 ^ (i * 8).toNat) 255 % 256 = ((Oct.digit n i.toNat).toNat : Int) := by
    rw [IntKind.wrap_u64]
    obtain ⟨c, hc⟩ : ∃ c : Nat, n % 18446744073709551616 = (c : Int) := ⟨_, (Int.toNat_of_nonneg (by omega)).symm⟩
    have hcl : c < 18446744073709551616 := by omega
    have e1 : (i * 8).toNat = i.toNat * 8 := by omega
    have e2 : (c : Int) / 2 ^ (i.toNat * 8) = ((c / 2 ^ (i.toNat * 8) : Nat) : Int) := by push_cast; rfl
    have e3 : c / 2 ^ (i.toNat * 8) ≤ c := Nat.div_le_self _ _
    obtain ⟨d, hd⟩ : ∃ d, d = c / 2 ^ (i.toNat * 8) := ⟨_, rfl⟩
    rw [← hd] at e2 e3
    rw [Oct.digit, hc, e1, e2, Int.toNat_natCast, ← hd, u64_and _ _ (by omega) (by omega) (by decide) (by decide), Oct.toNat_ofNat _ (by omega)]
    have := nat_mask8 d
    simp only [Int.reduceToNat, Int.toNat_natCast]
    omega
  have HH := Lib.hid H; clear H
  go_enter Try.func83, Try.ntmps83
  go_wp2
  go_quiet (fail)
  go_wp2
  go_ret
  exact ⟨ret_int HH.out, _, rfl⟩

set_option maxRecDepth 100000 in
set_option maxHeartbeats 800000 in
theorem fixed_any (n : Int) (bytes : Int) (w : World) :
    Calls Try.prog 73 #[.int .i64 n, .int .i64 bytes] w fun e w' => e = .returned (.string ⟨(Oct.fix n (Oct.cnt bytes)).toArray⟩) ∧ Below w.heap.size w w' := by
  obtain ⟨i0, hi, hz0, hz1, hz2⟩ := info_parts Try.info5
  obtain ⟨m, hm8, HM, hcase⟩ := Oct.cnt_cases bytes
  have hmb : i0.bytes * m ≤ 281474976710656 := by rw [hz2]; omega
  have hml : m ≤ maxLen := by unfold maxLen; omega
  have HI := Lib.hid (And.intro hi (And.intro hz0 (And.intro hz1 hz2)))
  clear hi hz0 hz1 hz2
  have HMB := Lib.hid (And.intro hmb hml); clear hmb hml
  rcases hcase with ⟨h1, h2⟩ | ⟨h1, h2⟩ | rfl
  · obtain rfl : m = 0 := by omega
    go_enter Try.func73, Try.ntmps73
    go_wp2_with (at_make; go_loud (refine wpList_make_full _ rfl _ _ 84 rfl w.heap.size 5 i0 (.int .u8 0) 1 Try.underlying84 HI.out.1 HI.out.2.1 HI.out.2.2.1 .i64 .i64 _ _ 0 rfl rfl (by omega) (by omega) HMB.out.1 HMB.out.2 (Nat.le_refl _) ?_))
    intro w1 hown hgrow
    have ho : OwnsB w1 w.heap.size 5 _ (List.replicate 0 0) := ownsB_made hown
    have hb : Below w.heap.size w w1 := (Below.refl _ w).grown hgrow (Nat.le_refl _) (by simp)
    rw [← Oct.laid_none n 0] at ho
    have HO := Lib.hid ho
    have HBL := Lib.hid hb
    clear hown hgrow ho hb
    go_wp2
    go_loopw [14] (fun i wr => ∃ k : Nat, k ≤ 0 ∧ i = .int .i64 k ∧ OwnsB wr w.heap.size 5 (.slice (some ⟨w.heap.size, 0, none⟩) 0 0) (Oct.laid n 0 k) ∧ Below w.heap.size w wr)
      (fun i _ => 0 - (intOf i).toNat)
    case atStart => exact ⟨0, by omega, rfl, HO.out, HBL.out⟩
    case round =>
      obtain ⟨k, hk, rfl, ho, hb⟩ := hrel
      clear HO HBL
      by_cases hlt : k < 0
      · omega
      · have hkm : k = 0 := by omega
        subst hkm
        rw [Oct.laid_all] at ho
        have hconv := ownsB_conv (P := Try.prog) (src := 84) (dst := 9) ho Try.underlying84 Try.underlying5 Try.underlying9
        have HF := Lib.hid hb
        clear ho hb
        go_wp2
        go_ret
        exact ⟨ret_str (by rw [HM.out]), HF.out⟩
  · obtain rfl : m = 8 := by omega
    go_enter Try.func73, Try.ntmps73
    go_wp2_with (at_make; go_loud (refine wpList_make_full _ rfl _ _ 84 rfl w.heap.size 5 i0 (.int .u8 0) 1 Try.underlying84 HI.out.1 HI.out.2.1 HI.out.2.2.1 .i64 .i64 _ _ 8 rfl rfl (by omega) (by omega) HMB.out.1 HMB.out.2 (Nat.le_refl _) ?_))
    intro w1 hown hgrow
    have ho : OwnsB w1 w.heap.size 5 _ (List.replicate 8 0) := ownsB_made hown
    have hb : Below w.heap.size w w1 := (Below.refl _ w).grown hgrow (Nat.le_refl _) (by simp)
    rw [← Oct.laid_none n 8] at ho
    have HO := Lib.hid ho
    have HBL := Lib.hid hb
    clear hown hgrow ho hb
    go_wp2
    go_loopw [14] (fun i wr => ∃ k : Nat, k ≤ 8 ∧ i = .int .i64 k ∧ OwnsB wr w.heap.size 5 (.slice (some ⟨w.heap.size, 0, none⟩) 8 8) (Oct.laid n 8 k) ∧ Below w.heap.size w wr)
      (fun i _ => 8 - (intOf i).toNat)
    case atStart => exact ⟨0, by omega, rfl, HO.out, HBL.out⟩
    case round =>
      obtain ⟨k, hk, rfl, ho, hb⟩ := hrel
      clear HO HBL
      by_cases hlt : k < 8
      · have HS := ownsB_stored ho (Oct.laid_len n 8 k hk) (8 - 1 - k) (Oct.digit n k) (Oct.laid_step n 8 k hlt)
        have hbs := hb.setCell (p := ⟨w.heap.size, 8 - 1 - k, none⟩) (Nat.le_refl _) (.int .u8 ((Oct.digit n k).toNat : Int))
        obtain ⟨x, hc, hf⟩ := ownsB_cell ho (Oct.laid_len n 8 k hk) (8 - 1 - k) (by omega)
        have e : 8 - 1 - k = 7 - k := by omega
        rw [e] at HS hbs hc hf
        clear ho hb e
        have HS := Lib.hid HS
        have hbs := Lib.hid hbs
        go_wp2_with (go_at_call 83; refine (digit8_any n _ _ (by omega) (by omega)).mono ?_; rintro e w' ⟨rfl, nd, rfl⟩)
        go_roundw
        case rel => exact ⟨k + 1, by omega, by go_num, HS.out, ⟨hbs.out.os, hbs.out.tape, hbs.out.output, hbs.out.size, hbs.out.block⟩⟩
        case measure => simp [intOf]; omega
      · have hkm : k = 8 := by omega
        subst hkm
        rw [Oct.laid_all] at ho
        have hconv := ownsB_conv (P := Try.prog) (src := 84) (dst := 9) ho Try.underlying84 Try.underlying5 Try.underlying9
        have HF := Lib.hid hb
        clear ho hb
        go_wp2
        go_ret
        exact ⟨ret_str (by rw [HM.out]), HF.out⟩
  · go_enter Try.func73, Try.ntmps73
    go_wp2_with (at_make; go_loud (refine wpList_make_full _ rfl _ _ 84 rfl w.heap.size 5 i0 (.int .u8 0) 1 Try.underlying84 HI.out.1 HI.out.2.1 HI.out.2.2.1 .i64 .i64 _ _ m rfl rfl (by omega) (by omega) HMB.out.1 HMB.out.2 (Nat.le_refl _) ?_))
    intro w1 hown hgrow
    have ho : OwnsB w1 w.heap.size 5 _ (List.replicate m 0) := ownsB_made hown
    have hb : Below w.heap.size w w1 := (Below.refl _ w).grown hgrow (Nat.le_refl _) (by simp)
    rw [← Oct.laid_none n m] at ho
    have HO := Lib.hid ho
    have HBL := Lib.hid hb
    clear hown hgrow ho hb
    go_wp2
    go_loopw [14] (fun i wr => ∃ k : Nat, k ≤ m ∧ i = .int .i64 k ∧ OwnsB wr w.heap.size 5 (.slice (some ⟨w.heap.size, 0, none⟩) m m) (Oct.laid n m k) ∧ Below w.heap.size w wr)
      (fun i _ => m - (intOf i).toNat)
    case atStart => exact ⟨0, by omega, rfl, HO.out, HBL.out⟩
    case round =>
      obtain ⟨k, hk, rfl, ho, hb⟩ := hrel
      clear HO HBL
      by_cases hlt : k < m
      · have HS := ownsB_stored ho (Oct.laid_len n m k hk) (m - 1 - k) (Oct.digit n k) (Oct.laid_step n m k hlt)
        have hbs := hb.setCell (p := ⟨w.heap.size, m - 1 - k, none⟩) (Nat.le_refl _) (.int .u8 ((Oct.digit n k).toNat : Int))
        obtain ⟨x, hc, hf⟩ := ownsB_cell ho (Oct.laid_len n m k hk) (m - 1 - k) (by omega)
        have e : m - 1 - k = m - 1 - k := by omega
        rw [e] at HS hbs hc hf
        clear ho hb e
        have HS := Lib.hid HS
        have hbs := Lib.hid hbs
        go_wp2_with (go_at_call 83; refine (digit8_any n _ _ (by omega) (by omega)).mono ?_; rintro e w' ⟨rfl, nd, rfl⟩)
        go_roundw
        case rel => exact ⟨k + 1, by omega, by go_num, HS.out, ⟨hbs.out.os, hbs.out.tape, hbs.out.output, hbs.out.size, hbs.out.block⟩⟩
        case measure => simp [intOf]; omega
      · have hkm : k = m := by omega
        subst hkm
        rw [Oct.laid_all] at ho
        have hconv := ownsB_conv (P := Try.prog) (src := 84) (dst := 9) ho Try.underlying84 Try.underlying5 Try.underlying9
        have HF := Lib.hid hb
        clear ho hb
        go_wp2
        go_ret
        exact ⟨ret_str (by rw [HM.out]), HF.out⟩
end Go.Proofs.Ytedemehlccmkpaa

/-
  Layer 1: what Read answers (the program's and the document's), and the document's Fixed.
-/
namespace Go.Proofs.Ytedemehlccmkpaa
open Go.RowKit

set_option maxHeartbeats 400000 in
theorem worth8_any (b i : Int) (w : World) (h0 : 0 ≤ b) (h1 : b < 256) (h2 : 0 ≤ i) (h3 : i ≤ 7) :
    Calls Try.prog 91 #[.int .u8 b, .int .i64 i, .int .i64 8] w fun e w' => e = .returned (.int .i64 (wrap64 (b * 2 ^ (i * 8).toNat))) ∧ w = w' := by
  go_enter Try.func91, Try.ntmps91
  go_wp2
  go_ret
  exact ⟨rfl, rfl⟩

set_option maxRecDepth 100000 in
set_option maxHeartbeats 800000 in
theorem roread_any (s : ByteArray) (w : World) (hs : s.size ≤ maxLen) :
    Calls Try.prog 76 #[.string s] w fun e w' => e = .returned (.int .i64 (Oct.rd s)) ∧ w = w' := by
  unfold maxLen at hs
  go_enter Try.func76, Try.ntmps76
  go_wp2
  go_loop [3, 4] (fun c i => ∃ k C : Nat, k ≤ 8 ∧ k ≤ s.size ∧ i = .int .i64 k ∧ c = .int .u64 (C : Int) ∧ Hid (C = Oct.be (s.data.toList.take k)))
    (fun _ i => 8 - (intOf i).toNat)
  case atStart => exact ⟨0, 0, by omega, by omega, rfl, rfl, Lib.hid (by simp [Oct.be])⟩
  case round =>
    obtain ⟨k, C, hk8, hks, rfl, rfl, HC⟩ := hrel
    by_cases hlt : k < s.size ∧ k < 8
    · obtain ⟨h1, h2⟩ := hlt
      have hb := Oct.be_take s k h1
      have hl := Oct.be_take_lt s (k + 1) (by omega)
      rw [hb, ← HC.out] at hl
      have HB : Hid (C * 256 + s[k].toNat = Oct.be (s.data.toList.take (k + 1))) := Lib.hid (by rw [hb, ← HC.out])
      have hx : s[k].toNat < 256 := s[k].toNat_lt
      clear hb
      go_wp2
      go_round
      case rel => exact ⟨k + 1, _, by omega, by omega, by go_num, by go_num, HB⟩
      case measure => simp [intOf]; omega
    · have HF : Hid (wrap64 (C : Int) = Oct.rd s) := Lib.hid (by
        rw [← IntWalk.i64_left, Oct.rd, HC.out]
        have e : s.data.toList.length = s.size := by simp
        by_cases h8 : k = 8
        · rw [h8]
        · rw [List.take_of_length_le (by omega), List.take_of_length_le (by omega)])
      by_cases h1 : k < s.size
      all_goals
        go_wp2
        go_ret
        exact ⟨ret_int HF.out, rfl⟩

theorem be_low64 (s : ByteArray) (m k : Nat) (hm : m ≤ s.size) (hk : k < m) (h8 : m ≤ 8) :
    bits .or .i64 (wrap64 (Oct.be (Oct.low s m k) : Int)) (wrap64 (((s[m - 1 - k]).toNat : Int) * 2 ^ (k * 8))) = wrap64 (Oct.be (Oct.low s m (k + 1)) : Int) := by
  have := Oct.be_low s m k hm hk h8
  rw [IntWalk.i64_left, IntWalk.i64_left, IntWalk.i64_left] at this; exact this

set_option maxRecDepth 100000 in
set_option maxHeartbeats 800000 in
theorem read_small (s : ByteArray) (w : World) (hs : s.size ≤ maxLen) (hm : s.size ≤ 8) :
    Calls Try.prog 82 #[.string s] w fun e w' => e = .returned (.int .i64 (Oct.rd s)) ∧ w = w' := by
  unfold maxLen at hs
  go_enter Try.func82, Try.ntmps82
  go_wp2
  go_loop [4, 10] (fun n i => ∃ (k : Nat) (N : Int), k ≤ s.size ∧ i = .int .i64 k ∧ n = .int .i64 N ∧ Hid (N = wrap64 (Oct.be (Oct.low s (s.size) k) : Int)))
    (fun _ i => s.size - (intOf i).toNat)
  case atStart => exact ⟨0, 0, by omega, rfl, rfl, Lib.hid (by rw [Oct.low_none]; exact Oct.wrap_none)⟩
  case round =>
    obtain ⟨k, N, hk, rfl, rfl, HN⟩ := hrel
    by_cases hlt : k < s.size
    · have hi : s.size - 1 - k < s.size := by omega
      have e : s.size - 1 - k = s.size - 1 - k := by omega
      have hx : (s[s.size - 1 - k]'hi).toNat < 256 := (s[s.size - 1 - k]'hi).toNat_lt
      have HB : Hid (bits .or .i64 N (wrap64 (((s[s.size - 1 - k]'hi).toNat : Int) * 2 ^ (k * 8))) = wrap64 (Oct.be (Oct.low s (s.size) (k + 1)) : Int)) := Lib.hid (by
        rw [HN.out]
        exact be_low64 s (s.size) k (by omega) hlt (by omega))
      clear e
      go_wp2_with (go_at_call 91; refine (worth8_any _ _ _ (by omega) (by omega) (by omega) (by omega)).mono ?_; rintro e w' ⟨rfl, rfl⟩)
      go_round
      case rel => exact ⟨k + 1, _, by omega, by go_num, rfl, HB⟩
      case measure => simp [intOf]; omega
    · have HF : Hid (N = Oct.rd s) := Lib.hid (by rw [HN.out, Oct.rd_low s (s.size) (by omega), IntWalk.i64_left, show k = s.size from by omega])
      go_wp2
      go_ret
      exact ⟨ret_int HF.out, rfl⟩

set_option maxRecDepth 100000 in
set_option maxHeartbeats 800000 in
theorem read_great (s : ByteArray) (w : World) (hs : s.size ≤ maxLen) (hm : 8 < s.size) :
    Calls Try.prog 82 #[.string s] w fun e w' => e = .returned (.int .i64 (Oct.rd s)) ∧ w = w' := by
  unfold maxLen at hs
  go_enter Try.func82, Try.ntmps82
  go_wp2
  go_loop [4, 10] (fun n i => ∃ (k : Nat) (N : Int), k ≤ 8 ∧ i = .int .i64 k ∧ n = .int .i64 N ∧ Hid (N = wrap64 (Oct.be (Oct.low s (8) k) : Int)))
    (fun _ i => 8 - (intOf i).toNat)
  case atStart => exact ⟨0, 0, by omega, rfl, rfl, Lib.hid (by rw [Oct.low_none]; exact Oct.wrap_none)⟩
  case round =>
    obtain ⟨k, N, hk, rfl, rfl, HN⟩ := hrel
    by_cases hlt : k < 8
    · have hi : 7 - k < s.size := by omega
      have e : 8 - 1 - k = 7 - k := by omega
      have hx : (s[7 - k]'hi).toNat < 256 := (s[7 - k]'hi).toNat_lt
      have HB : Hid (bits .or .i64 N (wrap64 (((s[7 - k]'hi).toNat : Int) * 2 ^ (k * 8))) = wrap64 (Oct.be (Oct.low s (8) (k + 1)) : Int)) := Lib.hid (by
        rw [HN.out]
        exact be_low64 s (8) k (by omega) hlt (by omega))
      clear e
      go_wp2_with (go_at_call 91; refine (worth8_any _ _ _ (by omega) (by omega) (by omega) (by omega)).mono ?_; rintro e w' ⟨rfl, rfl⟩)
      go_round
      case rel => exact ⟨k + 1, _, by omega, by go_num, rfl, HB⟩
      case measure => simp [intOf]; omega
    · have HF : Hid (N = Oct.rd s) := Lib.hid (by rw [HN.out, Oct.rd_low s (8) (by omega), IntWalk.i64_left, show k = 8 from by omega])
      go_wp2
      go_ret
      exact ⟨ret_int HF.out, rfl⟩

theorem oread_any (s : ByteArray) (w : World) (hs : s.size ≤ maxLen) :
    Calls Try.prog 82 #[.string s] w fun e w' => e = .returned (.int .i64 (Oct.rd s)) ∧ w = w' := by
  by_cases h : s.size ≤ 8
  · exact read_small s w hs h
  · exact read_great s w hs (by omega)

theorem digit_div (n : Int) (k : Nat) : (UInt8.ofNat ((n % 18446744073709551616).toNat / 2 ^ (k * 8) % 256)) = Oct.digit n k := rfl

set_option maxRecDepth 100000 in
set_option maxHeartbeats 800000 in
theorem rfixed_any (n bytes : Int) (w : World) :
    Calls Try.prog 77 #[.int .i64 n, .int .i64 bytes] w fun e w' => e = .returned (.string ⟨(Oct.fix n (Oct.cnt bytes)).toArray⟩) ∧ Below w.heap.size w w' := by
  obtain ⟨c, hc⟩ : ∃ c : Nat, c = (n % 18446744073709551616).toNat := ⟨_, rfl⟩
  have hcl : c < 18446744073709551616 := by omega
  have hw : IntKind.u64.wrap n = (c : Int) := by rw [IntKind.wrap_u64]; omega
  have HC := Lib.hid hc; clear hc
  go_enter Try.func77, Try.ntmps77
  go_wp2
  go_loopw [5, 6, 7] (fun c' v i wr => ∃ (k C : Nat) (r : ByteArray), k ≤ 8 ∧ i = .int .i64 k ∧ c' = .int .u64 (C : Int) ∧ C < 18446744073709551616 ∧ v = .string r ∧ r.size ≤ 8 ∧ Below w.heap.size w wr ∧ Hid (C = c / 2 ^ (k * 8) ∧ r = ⟨(Oct.fix n k).toArray⟩ ∧ k ≤ Oct.cnt bytes))
    (fun _ _ i _ => 8 - (intOf i).toNat)
  case atStart => exact ⟨0, c, ⟨#[]⟩, by omega, rfl, rfl, hcl, rfl, by decide, Below.refl _ _, Lib.hid ⟨by simp, rfl, by omega⟩⟩
  case round =>
    obtain ⟨k, C, r, hk8, rfl, rfl, hC, rfl, hr, hb, HK⟩ := hrel
    clear hw
    have hsz := hb.size
    by_cases hlt : (k : Int) < bytes ∧ k < 8
    · obtain ⟨h1, h2⟩ := hlt
      have HB : Hid ((C : Int) % 256 = ((Oct.digit n k).toNat : Int)) := Lib.hid (by
        have := HK.out.1
        rw [HC.out] at this
        rw [Oct.digit, Oct.toNat_ofNat _ (by omega), ← this]; omega)
      have hconv : (convert 84 9 (.slice (some ⟨wr.heap.size, 0, none⟩) 1 1)).run Try.prog (wr.alloc (.cells #[.int .u8 ((C : Int) % 256)] 5)) = .ok (.string ⟨#[Oct.digit n k]⟩) (wr.alloc (.cells #[.int .u8 ((C : Int) % 256)] 5)) := by
        rw [HB.out]; exact conv_one _ _ Try.underlying84 Try.underlying5 Try.underlying9
      have h9 : (⟨#[Oct.digit n k]⟩ : ByteArray).size ≤ 1 := Nat.le_refl _
      have hr9 : (⟨#[Oct.digit n k]⟩ ++ r : ByteArray).size ≤ 8 := by
        rw [ByteArray.size_append, HK.out.2.1]
        have := Oct.fix_len n k
        show 1 + (Oct.fix n k).toArray.size ≤ 8
        simp; omega
      have HK2 : Hid (C / 256 = c / 2 ^ ((k + 1) * 8) ∧ (⟨#[Oct.digit n k]⟩ ++ r : ByteArray) = ⟨(Oct.fix n (k + 1)).toArray⟩ ∧ k + 1 ≤ Oct.cnt bytes) := Lib.hid ⟨by
        rw [HK.out.1, Nat.div_div_eq_div_mul, show (k + 1) * 8 = k * 8 + 8 from by omega, Nat.pow_add], by
        rw [HK.out.2.1]; exact ByteArray.mk_append_mk [Oct.digit n k] (Oct.fix n k), Oct.cnt_step k bytes h1 h2⟩
      have hb2 := Lib.hid (hb.alloc hsz (.cells #[.int .u8 ((C : Int) % 256)] 5))
      clear hb
      go_wp2
      go_roundw
      case rel => exact ⟨k + 1, C / 256, _, by omega, by go_num, by go_num, by omega, rfl, hr9, hb2.out, HK2⟩
      case measure => simp [intOf]; omega
    · have hkc : k = Oct.cnt bytes := Oct.cnt_end k bytes hlt hk8 HK.out.2.2
      have HF := Lib.hid hb
      have HR : Hid (r = ⟨(Oct.fix n (Oct.cnt bytes)).toArray⟩) := Lib.hid (by rw [← hkc]; exact HK.out.2.1)
      clear hb hkc
      by_cases h1 : (k : Int) < bytes
      all_goals
        go_wp2
        go_ret
        exact ⟨ret_str HR.out, HF.out⟩
end Go.Proofs.Ytedemehlccmkpaa

/-
  Layer 2: what the array of the half bytes' sums holds.
-/
namespace Go.Proofs.Ytedemehlccmkpaa
open Go.RowKit

/-- the array's cells, k of them laid -/
def tabK (k : Nat) : Array Value := ((List.range 16).map fun i => Value.int .u32 (if i < k then (Crc.stps 4 i : Int) else 0)).toArray
theorem tabK_size (k : Nat) : (tabK k).size = 16 := by simp [tabK]
theorem tabK_zero : tabK 0 = #[.int .u32 0, .int .u32 0, .int .u32 0, .int .u32 0, .int .u32 0, .int .u32 0, .int .u32 0, .int .u32 0, .int .u32 0, .int .u32 0, .int .u32 0, .int .u32 0, .int .u32 0, .int .u32 0, .int .u32 0, .int .u32 0] := rfl
theorem tabK_at (k i : Nat) (h : i < 16) : (tabK k)[i]? = some (.int .u32 (if i < k then (Crc.stps 4 i : Int) else 0)) := by simp [tabK, h]
theorem tabK_succ (k : Nat) (_h : k < 16) : (tabK k).setIfInBounds k (.int .u32 (Crc.stps 4 k : Int)) = tabK (k + 1) := by
  apply Array.ext_getElem?
  intro i
  rw [Array.getElem?_setIfInBounds]
  by_cases hi : i < 16
  · by_cases hk : k = i
    · subst hk; simp [tabK, hi]
    · have : (i < k + 1) ↔ (i < k) := by omega
      simp [tabK, hk, hi, this]
  · have : ¬ k = i := by omega
    simp [tabK, this, hi]
theorem and1_32 (c : Nat) (h1 : c < 4294967296) : bits .and .u32 (c : Int) 1 = ((c % 2 : Nat) : Int) := by
  rw [u32_and _ _ (by omega) (by omega) (by decide) (by decide)]
  have := Nat.and_one_is_mod c
  simp only [Int.reduceToNat, Int.toNat_natCast]
  omega
theorem tabK_one (k : Nat) : (tabK k).all (·.oneCell') = true := by
  rw [Array.all_eq_true_iff_forall_mem]
  intro x hx
  simp only [tabK, List.mem_toArray, List.mem_map] at hx
  obtain ⟨i, _, rfl⟩ := hx; rfl
theorem arr_info : (Try.prog.info? 138).map (·.size) = some 16 := by kernel_rfl

set_option maxRecDepth 100000 in
set_option maxHeartbeats 800000 in
theorem halfSums_any (w : World) :
    Calls Try.prog 94 #[] w fun e w' => e = .returned (.agg (tabK 16)) ∧ Below w.heap.size w w' := by
  go_enter Try.func94, Try.ntmps94
  go_wp2
  rw [← tabK_zero]
  go_loopw [2, 3, 4, 5, 10] (fun _ _ _ i _ wr => ∃ k : Nat, k ≤ 16 ∧ i = .int .i64 k ∧ wr = (w.alloc (.cells (tabK 0) 138)).alloc (.cells (tabK k) 138))
    (fun _ _ _ i _ _ => 16 - (intOf i).toNat)
  case atStart => exact ⟨0, by omega, rfl, rfl⟩
  case round =>
    obtain ⟨k, hk, rfl, rfl⟩ := hrel
    by_cases hlt : k < 16
    · go_wp2
      go_loop [3, 4, 10] (fun c _ j => ∃ J C : Nat, J ≤ 4 ∧ j = .int .i64 J ∧ c = .int .u32 (C : Int) ∧ C < 4294967296 ∧ Hid (C = Crc.stps J k))
        (fun _ _ j => 4 - (intOf j).toNat)
      case atStart => exact ⟨0, k, by omega, rfl, rfl, by omega, Lib.hid rfl⟩
      case round =>
        obtain ⟨J, C, hJ, rfl, rfl, hC, HC⟩ := hrel
        by_cases hj : J < 4
        · have h2 := and1_32 C hC
          have HL : Crc.stp C < 4294967296 := Crc.stp_lt C hC
          have HS : Hid (Crc.stp C = Crc.stps (J + 1) k) := Lib.hid (by rw [HC.out]; rfl)
          by_cases hc : C % 2 = 1
          · have hb : (bits .and .u32 (C : Int) 1 != 0) = true := by rw [h2, hc]; rfl
            have HX : Hid (bits .xor .u32 ((C : Int) / 2) 2197175160 = (Crc.stp C : Int)) := Lib.hid (by
              have := xor_32 (C / 2) 2197175160 (by omega) (by omega)
              rw [Crc.stp, if_pos hc]; exact this)
            clear h2 hc
            go_wp2
            go_round
            case rel => exact ⟨J + 1, Crc.stp C, by omega, by go_num, by rw [HX.out], HL, HS⟩
            case measure => simp [intOf]; omega
          · have hb : (bits .and .u32 (C : Int) 1 != 0) = false := by rw [h2, show C % 2 = 0 from by omega]; rfl
            have HX : Hid ((C : Int) / 2 = (Crc.stp C : Int)) := Lib.hid (by rw [Crc.stp, if_neg hc]; omega)
            clear h2 hc
            go_wp2
            go_round
            case rel => exact ⟨J + 1, Crc.stp C, by omega, by go_num, by rw [HX.out], HL, HS⟩
            case measure => simp [intOf]; omega
        · have hJ4 : J = 4 := by omega
          subst hJ4
          have HT := Lib.hid (tabK_succ k hlt)
          have hcell := tabK_at k k hlt
          rw [if_neg (by omega)] at hcell
          have HE := HC.out
          subst HE
          clear HC
          go_wp2
          go_roundw
          case rel => exact ⟨k + 1, by omega, by go_num, by rw [← HT.out]⟩
          case measure => simp [intOf]; omega
    · have hg1 : ((w.alloc (.cells (tabK 0) 138)).alloc (.cells (tabK k) 138)).heap[w.heap.size + 1]? = some (.cells (tabK k) 138) := heap_alloc2_new w _ _
      have hg0 : ((w.alloc (.cells (tabK 0) 138)).alloc (.cells (tabK k) 138)).heap[w.heap.size]? = some (.cells (tabK 0) 138) := heap_alloc2_old w _ _
      have HG := Lib.hid (And.intro hg0 hg1)
      have hT0 : tabK k = tabK 16 := by rw [show k = 16 by omega]
      clear hg0 hg1
      generalize hT : tabK k = T at *
      generalize hZ : tabK 0 = Z at *
      have HZ := Lib.hid (And.intro hT0 hZ)
      have hs1 := tabK_size 16
      have hs2 := tabK_size 0
      rw [← hT0] at hs1; rw [hZ] at hs2
      have ho := tabK_one 16
      rw [← hT0] at ho
      have HS := Lib.hid (And.intro hs1 (And.intro hs2 ho))
      clear hT hZ hT0 hs1 hs2 ho
      go_wp2_with (first
        | (refine wpList_load_row rfl 138 _ rfl (w.heap.size + 1) rfl _ _ _ _ HG.out.2 Try.underlying138 rfl (by rw [HS.out.1]; exact arr_info) ?_)
        | (refine wpList_store_row rfl 138 _ _ rfl w.heap.size T rfl rfl _ _ HG.out.1 (by rw [HS.out.1]; exact arr_info) (by rw [HS.out.1, HS.out.2.1]) HS.out.2.2 ?_))
      have hr := setRow_heap _ w.heap.size Z T 138 (0, 0) HG.out.1
      refine bodyPost_ret (v := .agg T) (results_cell_row rfl _ _ w.heap.size _ _ _ _ rfl hr Try.underlying138 rfl (by rw [HS.out.1]; exact arr_info)) rfl ⟨by rw [HZ.out.1], ?_⟩
      exact below_setRow (((Below.refl _ w).alloc (Nat.le_refl _) _).alloc (by simp) _) (Nat.le_refl _) _
end Go.Proofs.Ytedemehlccmkpaa
