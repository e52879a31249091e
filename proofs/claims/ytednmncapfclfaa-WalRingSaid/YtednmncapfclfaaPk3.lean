/-
  Texts of the layers, part 3: OctMath, OctMath2, CrcMath, SealMath, CopyStr, OctLeaf, OctNum, OctFix, OctRead, CrcHalf, CrcThru, CrcSum, CrcSeal, SealLeaf, Cat, SealBlk, SealRblk.
-/
import Derived.WalkKit
import Derived.PlainAid
import Derived.Laws.BitsAllLaws
import Derived.Laws.BitsLemmas
import Derived.Test.YtednmncapfclfaaPk1
import Derived.Deep.AppendSrc
import Derived.ArgAppend
import Derived.Test.YtednmncapfclfaaProg
import Derived.WalkSpells
import Derived.WalkLawsBesides
import Derived.Deep.QuietTactic
import Derived.BigQuiet
import Derived.Lib.Hide
import Derived.Laws.DeepNot64
import Derived.Test.YtednmncapfclfaaPk2
import Derived.WalkSmall
import Derived.IntWalk
import Derived.Deep.WholeRow
import Derived.Laws.CopyOwn
import Derived.Below
import Derived.Deep.RegionHeld3
import Derived.OwnWalk
import Derived.Sort.AtCall
import Derived.BigRegion
import Derived.StillTailTactics
/-
  The plain mathematics of layer 1 (octet): numbers as digits to the base 128, lists of bytes; nothing of any program.
-/
namespace Go.Proofs.Ytednmncapfclfaa.Oct

/-- a code's bytes -/
def num (c : Nat) : List UInt8 :=
  if c < 128 then [UInt8.ofNat c] else UInt8.ofNat (128 + c % 128) :: num (c / 128)
termination_by c
decreasing_by omega

/-- a number's code -/
def codeN (n : Int) : Nat := if n < 0 then (-2 * n - 1).toNat else (2 * n).toNat
/-- a code's number -/
def decN (c : Nat) : Int := if c % 2 = 1 then -1 - ((c / 2 : Nat) : Int) else ((c / 2 : Nat) : Int)

/-- what is taken off the front, from the byte number i on: the error, the code, what stands behind -/
def take (i : Nat) : List UInt8 → Nat × Nat × List UInt8
  | [] => (3, 0, [])
  | b :: r =>
    if (i = 9 ∧ 1 < b.toNat) ∨ (0 < i ∧ b.toNat = 0) then (4, 0, [])
    else if b.toNat < 128 then (0, b.toNat, r)
    else if (take (i + 1) r).1 = 0 then (0, b.toNat - 128 + 128 * (take (i + 1) r).2.1, (take (i + 1) r).2.2) else ((take (i + 1) r).1, 0, [])

theorem dec_code (n : Int) : decN (codeN n) = n := by
  unfold decN codeN; split <;> split <;> omega
theorem code_dec (c : Nat) : codeN (decN c) = c := by
  unfold decN codeN; split <;> split <;> omega
theorem code_lt (n : Int) (h0 : -9223372036854775808 ≤ n) (h1 : n ≤ 9223372036854775807) : codeN n < 18446744073709551616 := by
  unfold codeN; split <;> omega

theorem num_small (c : Nat) (h : c < 128) : num c = [UInt8.ofNat c] := by rw [num, if_pos h]
theorem num_great (c : Nat) (h : 128 ≤ c) : num c = UInt8.ofNat (128 + c % 128) :: num (c / 128) := by rw [num, if_neg (by omega)]
theorem num_ne (c : Nat) : num c ≠ [] := by
  rw [num]; split <;> simp

theorem num_len : ∀ (k c : Nat), c < 128 ^ k → 0 < k → (num c).length ≤ k
  | 0, _, _, h => by omega
  | k + 1, c, hc, _ => by
    by_cases h : c < 128
    · rw [num_small c h]; simp
    · rw [num_great c (by omega)]
      have hk : 0 < k := by
        rcases Nat.eq_zero_or_pos k with rfl | h'
        · simp at hc; omega
        · exact h'
      have : c / 128 < 128 ^ k := by rw [Nat.pow_succ] at hc; omega
      have := num_len k (c / 128) this hk
      simp; omega
theorem num_len10 (c : Nat) (h : c < 18446744073709551616) : (num c).length ≤ 10 := num_len 10 c (by omega) (by omega)

theorem toNat_ofNat (c : Nat) (h : c < 256) : (UInt8.ofNat c).toNat = c := by simp; omega

/-- what was written is read, with whatever stands behind -/
theorem take_num : ∀ (j i c : Nat) (l : List UInt8), i + j = 10 → 0 < j → c * 2 ^ (7 * i) < 18446744073709551616 → (0 < i → 0 < c) → take i (num c ++ l) = (0, c, l)
  | 0, _, _, _, _, h, _, _ => by omega
  | j + 1, i, c, l, hij, _, hc, hi => by
    by_cases h : c < 128
    · rw [num_small c h]
      simp only [List.cons_append, List.nil_append, take, toNat_ofNat c (by omega)]
      rw [if_neg, if_pos h]
      rintro (⟨rfl, h1⟩ | ⟨h1, h2⟩)
      · omega
      · have := hi h1; omega
    · rw [num_great c (by omega)]
      simp only [List.cons_append, take, toNat_ofNat (128 + c % 128) (by omega)]
      have h9 : i ≠ 9 := by rintro rfl; omega
      have hc' : c / 128 * 2 ^ (7 * (i + 1)) < 18446744073709551616 := by
        have e : 2 ^ (7 * (i + 1)) = 128 * 2 ^ (7 * i) := by rw [show 7 * (i + 1) = 7 + 7 * i from by omega, Nat.pow_add]
        rw [e, ← Nat.mul_assoc]
        have : c / 128 * 128 * 2 ^ (7 * i) ≤ c * 2 ^ (7 * i) := Nat.mul_le_mul_right _ (by omega)
        omega
      have ih := take_num j (i + 1) (c / 128) l (by omega) (by omega) hc' (fun _ => by omega)
      rw [if_neg (by omega), if_neg (by omega), ih]
      simp; omega

/-- a code's bytes are read back, whatever stands behind -/
theorem take_back (c : Nat) (l : List UInt8) (h : c < 18446744073709551616) : take 0 (num c ++ l) = (0, c, l) :=
  take_num 10 0 c l rfl (by omega) (by omega) (by omega)

/-- what is read has just these bytes, and is no greater than can be -/
theorem take_only : ∀ (l : List UInt8) (i c : Nat) (r : List UInt8), i ≤ 9 → take i l = (0, c, r) →
    num c ++ r = l ∧ c * 2 ^ (7 * i) < 18446744073709551616 ∧ (0 < i → 0 < c)
  | [], i, c, r, _, h => by simp [take] at h
  | b :: t, i, c, r, hi, h => by
    have hb : b.toNat < 256 := b.toNat_lt
    have h2 : (2 : Nat) ^ (7 * i) ≤ 2 ^ 63 := Nat.pow_le_pow_right (by omega) (by omega)
    rw [take] at h
    split at h
    · simp at h
    · rename_i hn
      split at h
      · rename_i hs
        simp only [Prod.mk.injEq, true_and] at h
        obtain ⟨rfl, rfl⟩ := h
        refine ⟨by rw [num_small _ hs]; simp, ?_, fun h => by omega⟩
        by_cases h9 : i = 9
        · subst h9; omega
        · have h8 : (2 : Nat) ^ (7 * i) ≤ 2 ^ 56 := Nat.pow_le_pow_right (by omega) (by omega)
          have : b.toNat * 2 ^ (7 * i) ≤ 128 * 2 ^ 56 := Nat.mul_le_mul (by omega) h8
          omega
      · rename_i hs
        split at h
        · rename_i h0
          have h9 : i ≤ 8 := by omega
          obtain ⟨c', r', ht⟩ : ∃ c' r', take (i + 1) t = (0, c', r') := ⟨(take (i + 1) t).2.1, (take (i + 1) t).2.2, by rw [← h0]⟩
          rw [ht] at h
          simp only [Prod.mk.injEq, true_and] at h
          obtain ⟨hc, hr⟩ := h
          have ih := take_only t (i + 1) c' r' (by omega) ht
          have hp : 0 < c' := ih.2.2 (by omega)
          have e : 2 ^ (7 * (i + 1)) = 128 * 2 ^ (7 * i) := by rw [show 7 * (i + 1) = 7 + 7 * i from by omega, Nat.pow_add]
          refine ⟨?_, ?_, fun _ => by omega⟩
          · rw [num_great c (by omega), show c / 128 = c' from by omega, ← hr, List.cons_append, ih.1, show 128 + c % 128 = b.toNat from by omega]
            simp
          · have h1 := ih.2.1
            rw [e, ← Nat.mul_assoc] at h1
            -- c = d + 128 c', d < 128; (c' * 128) * P < 2 ^ 64, P divides 2 ^ 64
            obtain ⟨q, hq⟩ : ∃ q, 18446744073709551616 = q * 2 ^ (7 * i) := ⟨2 ^ (64 - 7 * i), by rw [← Nat.pow_add, show 64 - 7 * i + 7 * i = 64 from by omega]⟩
            rw [hq] at h1 ⊢
            have hlt := Nat.lt_of_mul_lt_mul_right h1
            have hq2 : 128 * (q / 128) = q := by
              have e2 : q = 2 ^ (64 - 7 * i) := by
                have : q * 2 ^ (7 * i) = 2 ^ (64 - 7 * i) * 2 ^ (7 * i) := by rw [← hq, ← Nat.pow_add, show 64 - 7 * i + 7 * i = 64 from by omega]
                exact Nat.eq_of_mul_eq_mul_right (Nat.two_pow_pos _) this
              have : q = 128 * 2 ^ (57 - 7 * i) := by rw [e2, show 64 - 7 * i = 7 + (57 - 7 * i) from by omega, Nat.pow_add]
              omega
            exact Nat.mul_lt_mul_of_pos_right (by omega) (Nat.two_pow_pos _)
        · rename_i h0
          simp only [Prod.mk.injEq] at h
          omega

theorem take_lt (l : List UInt8) (c : Nat) (r : List UInt8) (h : take 0 l = (0, c, r)) : c < 18446744073709551616 := by
  have := (take_only l 0 c r (by omega) h).2.1; omega

/-- an error has no number, and nothing behind -/
theorem take_err (l : List UInt8) (i : Nat) (h : (take i l).1 ≠ 0) : (take i l).2 = (0, []) := by
  cases l with
  | nil => rfl
  | cons b t => rw [take] at h ⊢; split; · rfl
                · split
                  · rename_i h1 h2; rw [if_neg h1, if_pos h2] at h; simp at h
                  · split
                    · rename_i h1 h2 h3; rw [if_neg h1, if_neg h2, if_pos h3] at h; simp at h
                    · rfl
theorem take_codes : ∀ (l : List UInt8) (i : Nat), (take i l).1 = 0 ∨ (take i l).1 = 3 ∨ (take i l).1 = 4
  | [], _ => by simp [take]
  | b :: t, i => by
    rw [take]; split
    · simp
    · split
      · simp
      · split
        · simp
        · exact take_codes t (i + 1)

/-! ### the loops: what is known when the bytes ahead of the place k are read -/
def lift (k acc : Nat) (t : Nat × Nat × List UInt8) : Nat × Nat × List UInt8 := if t.1 = 0 then (0, acc + 2 ^ (7 * k) * t.2.1, t.2.2) else (t.1, 0, [])
def Inv (l : List UInt8) (k acc : Nat) : Prop := acc < 2 ^ (7 * k) ∧ take 0 l = lift k acc (take k (l.drop k))

theorem inv_start (l : List UInt8) : Inv l 0 0 := by
  refine ⟨by simp, ?_⟩
  unfold lift
  split
  · rename_i h; simp; exact Prod.ext h rfl
  · rename_i h; have := take_err l 0 h; exact Prod.ext rfl this
theorem inv_end {l : List UInt8} {k acc : Nat} (h : Inv l k acc) (hk : k = l.length) : take 0 l = (3, 0, []) := by
  rw [h.2, hk, List.drop_length]; rfl
theorem drop_at (l : List UInt8) (k : Nat) (hk : k < l.length) : l.drop k = l[k] :: l.drop (k + 1) := by simp
theorem inv_form {l : List UInt8} {k acc : Nat} (h : Inv l k acc) (hk : k < l.length) (hb : (k = 9 ∧ 1 < l[k].toNat) ∨ (0 < k ∧ l[k].toNat = 0)) : take 0 l = (4, 0, []) := by
  rw [h.2, drop_at l k hk, take, if_pos hb]; rfl
theorem inv_last {l : List UInt8} {k acc : Nat} (h : Inv l k acc) (hk : k < l.length) (hb : ¬ ((k = 9 ∧ 1 < l[k].toNat) ∨ (0 < k ∧ l[k].toNat = 0))) (h2 : l[k].toNat < 128) :
    take 0 l = (0, acc + 2 ^ (7 * k) * l[k].toNat, l.drop (k + 1)) := by
  rw [h.2, drop_at l k hk, take, if_neg hb, if_pos h2]; rfl
theorem inv_more {l : List UInt8} {k acc : Nat} (h : Inv l k acc) (hk : k < l.length) (hb : k ≠ 9) (h2 : 128 ≤ l[k].toNat) :
    Inv l (k + 1) (acc + 2 ^ (7 * k) * (l[k].toNat - 128)) := by
  have e : 2 ^ (7 * (k + 1)) = 128 * 2 ^ (7 * k) := by rw [show 7 * (k + 1) = 7 + 7 * k from by omega, Nat.pow_add]
  have hlt := l[k].toNat_lt
  constructor
  · have h1 := h.1
    rw [e]
    have : 2 ^ (7 * k) * (l[k].toNat - 128) ≤ 2 ^ (7 * k) * 127 := Nat.mul_le_mul_left _ (by omega)
    omega
  · rw [h.2, drop_at l k hk, take, if_neg (by omega), if_neg (by omega)]
    unfold lift
    by_cases h0 : (take (k + 1) (l.drop (k + 1))).1 = 0
    · rw [if_pos h0, if_pos rfl, if_pos h0]
      simp only [Prod.mk.injEq, true_and, and_true]
      rw [e, Nat.mul_add, Nat.add_assoc, ← Nat.mul_assoc, Nat.mul_comm (2 ^ (7 * k)) 128]
    · rw [if_neg h0, if_neg h0, if_neg h0]

/-- or, where the lower part lies below: a sum -/
theorem or_sum (acc b k : Nat) (h : acc < 2 ^ (7 * k)) : acc ||| 2 ^ (7 * k) * b = acc + 2 ^ (7 * k) * b := by
  rw [Nat.or_comm, ← Nat.two_pow_add_eq_or_of_lt h, Nat.add_comm]

/-! ### writing: the digits ahead of the place k are p -/
def Wrote (c k : Nat) (p : List UInt8) : Prop := p.length = k ∧ num c = p ++ num (c / 2 ^ (k * 7)) ∧ (0 < k → 0 < c / 2 ^ (k * 7))
theorem wrote_start (c : Nat) : Wrote c 0 [] := ⟨rfl, by simp, fun h => by omega⟩
theorem div_step (c k : Nat) : c / 2 ^ ((k + 1) * 7) = c / 2 ^ (k * 7) / 128 := by
  rw [show (k + 1) * 7 = k * 7 + 7 from by omega, Nat.pow_add, Nat.div_div_eq_div_mul]
theorem wrote_more {c k : Nat} {p : List UInt8} (h : Wrote c k p) (hm : 128 ≤ c / 2 ^ (k * 7)) : Wrote c (k + 1) (p ++ [UInt8.ofNat (128 + c / 2 ^ (k * 7) % 128)]) := by
  refine ⟨by simp [h.1], ?_, fun _ => by rw [div_step]; omega⟩
  rw [h.2.1, num_great _ hm, div_step]; simp
theorem wrote_last {c k : Nat} {p : List UInt8} (h : Wrote c k p) (hm : c / 2 ^ (k * 7) < 128) : p ++ [UInt8.ofNat (c / 2 ^ (k * 7))] = num c := by
  rw [h.2.1, num_small _ hm]
theorem wrote_lt {c k : Nat} {p : List UInt8} (h : Wrote c k p) (hc : c < 18446744073709551616) (hk : k ≤ 10) : k ≤ 9 := by
  by_cases h9 : k = 10
  · subst h9
    have := h.2.2 (by omega)
    have : c / 2 ^ (10 * 7) = 0 := Nat.div_eq_of_lt (by omega)
    omega
  · omega

theorem wrote_lt' {c k : Nat} {p : List UInt8} (h : Wrote c k p) (hc : c < 18446744073709551616) : k ≤ 9 := by
  by_cases h9 : 10 ≤ k
  · have := h.2.2 (by omega)
    have h2 : 2 ^ (10 * 7) ≤ 2 ^ (k * 7) := Nat.pow_le_pow_right (by omega) (by omega)
    have : c / 2 ^ (k * 7) = 0 := Nat.div_eq_of_lt (by omega)
    omega
  · omega

/-! what the calls answer -/
def numB (n : Int) : ByteArray := ⟨(num (codeN n)).toArray⟩
def tN (s : ByteArray) : Int := if (take 0 s.data.toList).1 = 0 then decN (take 0 s.data.toList).2.1 else 0
def tR (s : ByteArray) : ByteArray := ⟨(take 0 s.data.toList).2.2.toArray⟩
def tE (s : ByteArray) : Int := (take 0 s.data.toList).1

theorem t_err {s : ByteArray} {e : Nat} (he : e ≠ 0) (h : take 0 s.data.toList = (e, 0, [])) : 0 = tN s ∧ (⟨#[]⟩ : ByteArray) = tR s ∧ (e : Int) = tE s := by
  unfold tN tR tE; rw [h]; exact ⟨by rw [if_neg he], rfl, rfl⟩
theorem t_ok {s : ByteArray} {c : Nat} {r : ByteArray} (h : take 0 s.data.toList = (0, c, r.data.toList)) : decN c = tN s ∧ r = tR s ∧ 0 = tE s := by
  unfold tN tR tE; rw [h]; exact ⟨rfl, rfl, rfl⟩

theorem extract_drop (s : ByteArray) (k : Nat) : (s.extract k s.size).data.toList = s.data.toList.drop k := by
  rw [ByteArray.data_extract, Array.toList_extract, List.extract_eq_take_drop]; exact List.take_of_length_le (by simp)
theorem t_last {s : ByteArray} {c k : Nat} (h : take 0 s.data.toList = (0, c, s.data.toList.drop k)) : decN c = tN s ∧ s.extract k s.size = tR s ∧ 0 = tE s :=
  t_ok (by rw [h, extract_drop])

theorem numB_len (n : Int) (h0 : -9223372036854775808 ≤ n) (h1 : n ≤ 9223372036854775807) : (numB n).size ≤ 10 := by
  have := num_len10 _ (code_lt n h0 h1)
  simpa [numB, ByteArray.size] using this

/-! ### numbers of a fixed length -/
/-- the byte at the place k (0 is the lowest) -/
def digit (n : Int) (k : Nat) : UInt8 := UInt8.ofNat ((n % 18446744073709551616).toNat / 2 ^ (k * 8) % 256)
/-- the lowest k bytes, the highest first -/
def fix (n : Int) : Nat → List UInt8
  | 0 => []
  | k + 1 => digit n k :: fix n k
def cnt (bytes : Int) : Nat := if bytes < 0 then 0 else if 8 < bytes then 8 else bytes.toNat
theorem fix_len (n : Int) (k : Nat) : (fix n k).length = k := by
  induction k with
  | zero => rfl
  | succ k ih => simp [fix, ih]
theorem cnt_le (b : Int) : cnt b ≤ 8 := by unfold cnt; split; omega; split <;> omega

theorem cnt_cases (b : Int) : ∃ m : Nat, m ≤ 8 ∧ Go.RowKit.Hid (cnt b = m) ∧ ((b < 0 ∧ m ≤ 0) ∨ (8 < b ∧ 8 ≤ m) ∨ b = m) := by
  refine ⟨cnt b, cnt_le b, rfl, ?_⟩
  unfold cnt; split
  · exact .inl ⟨by assumption, by omega⟩
  · split
    · exact .inr (.inl ⟨by assumption, by omega⟩)
    · exact .inr (.inr (by omega))
/-- what a row of m zeros holds when k of its bytes are laid, from the back -/
def laid (n : Int) (m k : Nat) : List UInt8 := List.replicate (m - k) 0 ++ fix n k
theorem laid_len (n : Int) (m k : Nat) (h : k ≤ m) : (laid n m k).length = m := by simp [laid, fix_len]; omega
theorem laid_all (n : Int) (m : Nat) : laid n m m = fix n m := by simp [laid]
theorem laid_none (n : Int) (m : Nat) : laid n m 0 = List.replicate m 0 := by simp [laid, fix]
theorem laid_step (n : Int) (m k : Nat) (h : k < m) : (laid n m k).set (m - 1 - k) (digit n k) = laid n m (k + 1) := by
  unfold laid
  have e : List.replicate (m - k) (0 : UInt8) = List.replicate (m - 1 - k) 0 ++ [0] := by
    rw [show m - k = (m - 1 - k) + 1 from by omega, List.replicate_succ']
  rw [e, List.append_assoc, List.set_append_right _ _ (by simp)]
  simp [fix, show m - (k + 1) = m - 1 - k from by omega]

/-! ### what TakeNum answers, in three cases -/
theorem t_cases (s : ByteArray) :
    (tN s = 0 ∧ tR s = ⟨#[]⟩ ∧ (tE s = 3 ∨ tE s = 4)) ∨
    (∃ (n : Int) (r : ByteArray), -9223372036854775808 ≤ n ∧ n ≤ 9223372036854775807 ∧ r.size ≤ s.size ∧ tN s = n ∧ tR s = r ∧ tE s = 0 ∧ numB n ++ r = s) := by
  by_cases h0 : (take 0 s.data.toList).1 = 0
  · right
    obtain ⟨c, r, hr⟩ : ∃ c r, take 0 s.data.toList = (0, c, r) := ⟨(take 0 s.data.toList).2.1, (take 0 s.data.toList).2.2, Prod.ext h0 rfl⟩
    have hlt := take_lt _ _ _ hr
    have ho := (take_only _ 0 c r (by omega) hr).1
    refine ⟨decN c, ⟨r.toArray⟩, ?_, ?_, ?_, ?_, ?_, ?_, ?_⟩
    · unfold decN; split <;> omega
    · unfold decN; split <;> omega
    · have := congrArg List.length ho
      simp only [List.length_append, Array.length_toList] at this
      have e : s.data.size = s.size := rfl
      show r.toArray.size ≤ s.size
      simp; omega
    · unfold tN; rw [hr]; rfl
    · unfold tR; rw [hr]
    · unfold tE; rw [hr]; rfl
    · unfold numB; rw [code_dec, ByteArray.mk_append_mk, ho]
  · left
    have he := take_err _ 0 h0
    refine ⟨by unfold tN; rw [if_neg h0], by unfold tR; rw [he], ?_⟩
    unfold tE
    rcases take_codes s.data.toList 0 with h | h | h
    · exact absurd h h0
    · rw [h]; left; rfl
    · rw [h]; right; rfl

/-- no number's bytes are the beginning of another one's -/
theorem first (n m : Int) (hn0 : -9223372036854775808 ≤ n) (hn1 : n ≤ 9223372036854775807) (hm0 : -9223372036854775808 ≤ m) (hm1 : m ≤ 9223372036854775807)
    (t : List UInt8) (h : num (codeN m) = num (codeN n) ++ t) : n = m := by
  have h1 := take_back (codeN m) [] (code_lt m hm0 hm1)
  have h2 := take_back (codeN n) t (code_lt n hn0 hn1)
  rw [List.append_nil, h] at h1
  rw [h1] at h2
  have : codeN m = codeN n := by simpa using congrArg (fun x => x.2.1) h2
  rw [← dec_code n, ← this, dec_code]
theorem first_ne (n m : Int) (hn0 : -9223372036854775808 ≤ n) (hn1 : n ≤ 9223372036854775807) (hm0 : -9223372036854775808 ≤ m) (hm1 : m ≤ 9223372036854775807)
    (hne : n ≠ m) (_hl : (numB n).size ≤ (numB m).size) : (numB m).extract 0 (numB n).size ≠ numB n := by
  intro h
  refine hne (first n m hn0 hn1 hm0 hm1 ((num (codeN m)).drop (num (codeN n)).length) ?_)
  have h2 := congrArg (fun b => b.data.toList) h
  simp only [ByteArray.data_extract, Array.toList_extract, List.extract_eq_take_drop, numB, List.drop_zero, Nat.sub_zero] at h2
  have e : (ByteArray.mk (num (codeN n)).toArray).size = (num (codeN n)).length := by simp [ByteArray.size]
  rw [e] at h2
  conv => lhs; rw [← List.take_append_drop (num (codeN n)).length (num (codeN m)), h2]
theorem numB_pos (n : Int) : 0 < (numB n).size := by
  have := num_ne (codeN n)
  have h : 0 < (num (codeN n)).length := List.length_pos_iff.2 this
  simpa [numB, ByteArray.size] using h

end Go.Proofs.Ytednmncapfclfaa.Oct

/-
  Plain mathematics of layer 1, second part: numbers of a fixed length, read.
-/
namespace Go.Proofs.Ytednmncapfclfaa.Oct

/-- the number of bytes, the highest first -/
def be (l : List UInt8) : Nat := l.foldl (fun c b => c * 256 + b.toNat) 0
theorem be_snoc (l : List UInt8) (b : UInt8) : be (l ++ [b]) = be l * 256 + b.toNat := by simp [be]
theorem be_from (l : List UInt8) : ∀ c : Nat, l.foldl (fun c b => c * 256 + b.toNat) c = c * 2 ^ (l.length * 8) + be l := by
  induction l with
  | nil => intro c; simp [be]
  | cons b l ih =>
    intro c
    unfold be
    rw [List.foldl_cons, List.foldl_cons, ih, ih (0 * 256 + b.toNat), List.length_cons, show (l.length + 1) * 8 = l.length * 8 + 8 from by omega, Nat.pow_add]
    simp only [Nat.zero_mul, Nat.zero_add]
    rw [Nat.add_mul, Nat.mul_assoc, Nat.mul_comm (2 ^ (l.length * 8)) (2 ^ 8), Nat.add_assoc]
theorem be_cons (b : UInt8) (l : List UInt8) : be (b :: l) = b.toNat * 2 ^ (l.length * 8) + be l := by
  have := be_from l (0 * 256 + b.toNat)
  unfold be at this ⊢
  rw [List.foldl_cons, this]; simp
theorem be_lt (l : List UInt8) : be l < 2 ^ (l.length * 8) := by
  induction l with
  | nil => simp [be]
  | cons b l ih =>
    rw [be_cons, List.length_cons, show (l.length + 1) * 8 = l.length * 8 + 8 from by omega, Nat.pow_add]
    have hb := b.toNat_lt
    have : b.toNat * 2 ^ (l.length * 8) ≤ 255 * 2 ^ (l.length * 8) := Nat.mul_le_mul_right _ (by omega)
    omega
theorem be_fix (n : Int) (k : Nat) : be (fix n k) = (n % 18446744073709551616).toNat % 2 ^ (k * 8) := by
  induction k with
  | zero => simp [fix, be]; omega
  | succ k ih =>
    rw [fix, be_cons, ih, fix_len, digit, toNat_ofNat _ (by omega), show (k + 1) * 8 = k * 8 + 8 from by omega, Nat.pow_add, Nat.mod_mul, Nat.mul_comm, Nat.add_comm]
/-- what Read answers -/
def rd (s : ByteArray) : Int := IntKind.i64.wrap (be (s.data.toList.take 8))
theorem rd_fix (n : Int) (h0 : -9223372036854775808 ≤ n) (h1 : n ≤ 9223372036854775807) : rd ⟨(fix n 8).toArray⟩ = n := by
  unfold rd
  have e : (ByteArray.mk (fix n 8).toArray).data.toList.take 8 = fix n 8 := by
    simp only
    exact List.take_of_length_le (by rw [fix_len]; omega)
  rw [e, be_fix, IntKind.wrap_i64]; omega

theorem ofInt_wrap (n : Int) : BitVec.ofInt 64 (IntKind.i64.wrap n) = BitVec.ofInt 64 n := by
  apply BitVec.eq_of_toNat_eq
  rw [BitVec.toNat_ofInt, BitVec.toNat_ofInt, IntKind.wrap_i64]
  have e : ((2 ^ 64 : Nat) : Int) = 18446744073709551616 := rfl
  rw [e]
  omega
/-- or, where the lower part lies below: a sum, as 64 bits go -/
theorem or_i64 (a b k : Nat) (ha : a < 2 ^ (k * 8)) (hb : b < 256) (hk : k ≤ 7) :
    bits .or .i64 (IntKind.i64.wrap (a : Int)) (IntKind.i64.wrap ((b : Int) * 2 ^ (k * 8))) = IntKind.i64.wrap ((b * 2 ^ (k * 8) + a : Nat) : Int) := by
  have hp : (2 : Nat) ^ (k * 8) ≤ 2 ^ 56 := Nat.pow_le_pow_right (by omega) (by omega)
  have hm : b * 2 ^ (k * 8) ≤ 255 * 2 ^ 56 := Nat.mul_le_mul (by omega) hp
  have e : ((b : Int) * 2 ^ (k * 8)) = ((b * 2 ^ (k * 8) : Nat) : Int) := by push_cast; rfl
  show IntKind.i64.wrap ((BitVec.ofInt 64 _ ||| BitVec.ofInt 64 _).toNat : Int) = _
  rw [ofInt_wrap, ofInt_wrap, e, BitVec.ofInt_natCast, BitVec.ofInt_natCast, BitVec.toNat_or, BitVec.toNat_ofNat, BitVec.toNat_ofNat, Nat.mod_eq_of_lt (by omega), Nat.mod_eq_of_lt (by omega)]
  have := Nat.two_pow_add_eq_or_of_lt ha b
  rw [Nat.or_comm, Nat.mul_comm b, this]

/-- the last k of the first m bytes -/
def low (s : ByteArray) (m k : Nat) : List UInt8 := (s.data.toList.take m).drop (m - k)
theorem low_none (s : ByteArray) (m : Nat) : low s m 0 = [] := by simp [low]
theorem low_all (s : ByteArray) (m : Nat) : low s m m = s.data.toList.take m := by simp [low]
theorem low_len (s : ByteArray) (m k : Nat) (hm : m ≤ s.size) (hk : k ≤ m) : (low s m k).length = k := by
  have e : s.data.size = s.size := rfl
  simp [low]; omega
theorem low_step (s : ByteArray) (m k : Nat) (hm : m ≤ s.size) (hk : k < m) : low s m (k + 1) = s[m - 1 - k] :: low s m k := by
  have e : s.data.toList.length = s.size := by simp
  unfold low
  have h1 : m - (k + 1) < (s.data.toList.take m).length := by rw [List.length_take]; omega
  have hg : (s.data.toList.take m)[m - (k + 1)] = s[m - 1 - k] := by
    rw [List.getElem_take]
    simp only [show m - (k + 1) = m - 1 - k from by omega]
    rfl
  rw [List.drop_eq_getElem_cons h1, hg, show m - (k + 1) + 1 = m - k from by omega]
theorem be_low (s : ByteArray) (m k : Nat) (hm : m ≤ s.size) (hk : k < m) (h8 : m ≤ 8) :
    bits .or .i64 (IntKind.i64.wrap (be (low s m k) : Int)) (IntKind.i64.wrap (((s[m - 1 - k]).toNat : Int) * 2 ^ (k * 8))) = IntKind.i64.wrap (be (low s m (k + 1)) : Int) := by
  have h := be_lt (low s m k)
  rw [low_len s m k hm (by omega)] at h
  rw [or_i64 _ _ _ h (UInt8.toNat_lt _) (by omega), low_step s m k hm hk, be_cons, low_len s m k hm (by omega)]
theorem rd_low (s : ByteArray) (m : Nat) (h : m = min s.size 8) : rd s = IntKind.i64.wrap (be (low s m m) : Int) := by
  rw [low_all, rd, h]
  congr 2
  rcases Nat.le_total s.size 8 with h8 | h8
  · have e : s.data.toList.length = s.size := by simp
    rw [Nat.min_eq_left h8, List.take_of_length_le (by omega), List.take_of_length_le (by omega)]
  · rw [Nat.min_eq_right h8]
/-- the first k bytes, as a number -/
theorem be_take (s : ByteArray) (k : Nat) (hk : k < s.size) : be (s.data.toList.take (k + 1)) = be (s.data.toList.take k) * 256 + s[k].toNat := by
  have h : k < s.data.toList.length := by simpa using hk
  rw [List.take_succ_eq_append_getElem h, be_snoc]; rfl
theorem be_take_lt (s : ByteArray) (k : Nat) (h8 : k ≤ 8) : be (s.data.toList.take k) < 18446744073709551616 := by
  have h := be_lt (s.data.toList.take k)
  have hl : (s.data.toList.take k).length ≤ k := List.length_take_le _ _
  have : (2 : Nat) ^ ((s.data.toList.take k).length * 8) ≤ 2 ^ 64 := Nat.pow_le_pow_right (by omega) (by omega)
  omega

theorem cnt_step (k : Nat) (b : Int) (h1 : (k : Int) < b) (h2 : k < 8) : k + 1 ≤ cnt b := by
  unfold cnt; split
  · omega
  · split <;> omega
theorem cnt_end (k : Nat) (b : Int) (h : ¬ ((k : Int) < b ∧ k < 8)) (hk : k ≤ 8) (h2 : k ≤ cnt b) : k = cnt b := by
  unfold cnt at h2 ⊢
  by_cases h0 : b < 0
  · rw [if_pos h0] at h2 ⊢; omega
  · rw [if_neg h0] at h2 ⊢
    by_cases h8 : 8 < b
    · rw [if_pos h8] at h2 ⊢; omega
    · rw [if_neg h8] at h2 ⊢; omega
theorem wrap_none : 0 = Go.RowKit.wrap64 ((be [] : Nat) : Int) := by
  have e : be [] = 0 := rfl
  rw [e]; unfold Go.RowKit.wrap64; omega

end Go.Proofs.Ytednmncapfclfaa.Oct

/-
  The plain mathematics of layer 2 (crc): sums bit by bit, as natural numbers; nothing of any program.
-/
namespace Go.Proofs.Ytednmncapfclfaa.Crc
/-- a bit shifted out -/
def stp (c : Nat) : Nat := if c % 2 = 1 then (c / 2) ^^^ 2197175160 else c / 2
def stps : Nat → Nat → Nat
  | 0, c => c
  | k + 1, c => stp (stps k c)
def byt (c : Nat) (b : UInt8) : Nat := stps 8 (c ^^^ b.toNat)
def run (c : Nat) (l : List UInt8) : Nat := l.foldl byt c
def sum (l : List UInt8) : Nat := run 4294967295 l ^^^ 4294967295

theorem stp_lt (c : Nat) (h : c < 4294967296) : stp c < 4294967296 := by
  unfold stp; split
  · exact Nat.xor_lt_two_pow (n := 32) (by omega) (by omega)
  · omega
theorem stps_lt : ∀ (k c : Nat), c < 4294967296 → stps k c < 4294967296
  | 0, _, h => h
  | k + 1, c, h => stp_lt _ (stps_lt k c h)
theorem byt_lt (c : Nat) (b : UInt8) (h : c < 4294967296) : byt c b < 4294967296 :=
  stps_lt 8 _ (Nat.xor_lt_two_pow (n := 32) h (by have := b.toNat_lt; omega))
theorem run_lt : ∀ (l : List UInt8) (c : Nat), c < 4294967296 → run c l < 4294967296
  | [], _, h => h
  | b :: l, c, h => run_lt l (byt c b) (byt_lt c b h)
theorem sum_lt (l : List UInt8) : sum l < 4294967296 := Nat.xor_lt_two_pow (n := 32) (run_lt l _ (by omega)) (by omega)
theorem run_append (c : Nat) (l m : List UInt8) : run c (l ++ m) = run (run c l) m := by unfold run; rw [List.foldl_append]
theorem run_snoc (c : Nat) (l : List UInt8) (b : UInt8) : run c (l ++ [b]) = byt (run c l) b := by rw [run_append]; rfl

theorem stp_xor (a b : Nat) : stp (a ^^^ b) = stp a ^^^ stp b := by
  have h1 : (a ^^^ b) / 2 = (a / 2) ^^^ (b / 2) := Nat.xor_div_two
  have h2 : (a ^^^ b) % 2 = (a + b) % 2 := by
    have e : (a ^^^ b) % 2 = (a % 2) ^^^ (b % 2) := Nat.xor_mod_two_pow (n := 1)
    rw [e]
    rcases Nat.mod_two_eq_zero_or_one a with ha | ha <;> rcases Nat.mod_two_eq_zero_or_one b with hb | hb <;> rw [ha, hb, Nat.add_mod, ha, hb] <;> rfl
  unfold stp
  rw [h1, h2]
  by_cases ha : a % 2 = 1 <;> by_cases hb : b % 2 = 1
  · rw [if_neg (by omega), if_pos ha, if_pos hb]
    rw [Nat.xor_assoc, Nat.xor_comm (b / 2), ← Nat.xor_assoc 2197175160, Nat.xor_self, Nat.zero_xor]
  · rw [if_pos (by omega), if_pos ha, if_neg hb, Nat.xor_assoc, Nat.xor_assoc, Nat.xor_comm (b / 2)]
  · rw [if_pos (by omega), if_neg ha, if_pos hb, Nat.xor_assoc]
  · rw [if_neg (by omega), if_neg ha, if_neg hb]
theorem stps_xor : ∀ (k a b : Nat), stps k (a ^^^ b) = stps k a ^^^ stps k b
  | 0, _, _ => rfl
  | k + 1, a, b => by simp only [stps]; rw [stps_xor k a b, stp_xor]
theorem stp_two (y : Nat) : stp (2 * y) = y := by unfold stp; rw [if_neg (by omega)]; omega
theorem stps4_16 (y : Nat) : stps 4 (16 * y) = y := by
  simp only [stps]
  rw [show 16 * y = 2 * (8 * y) by omega, stp_two, show 8 * y = 2 * (4 * y) by omega, stp_two, show 4 * y = 2 * (2 * y) by omega, stp_two, stp_two]
theorem split16 (c : Nat) : c = 16 * (c / 16) ^^^ c % 16 := by
  apply Nat.eq_of_testBit_eq
  intro i
  rw [Nat.testBit_xor, show 16 * (c / 16) = 2 ^ 4 * (c / 2 ^ 4) from rfl, show c % 16 = c % 2 ^ 4 from rfl, Nat.testBit_two_pow_mul, Nat.testBit_mod_two_pow, Nat.testBit_div_two_pow]
  by_cases h : i < 4
  · simp [h, show ¬ 4 ≤ i by omega]
  · simp [h, show 4 ≤ i by omega, show i - 4 + 4 = i by omega]
/-- half a byte at once -/
theorem half (c : Nat) : stps 4 c = (c / 16) ^^^ stps 4 (c % 16) := by
  conv => lhs; rw [split16 c]
  rw [stps_xor, stps4_16]
theorem stps_add (j : Nat) : ∀ k c, stps (j + k) c = stps j (stps k c) := by
  intro k c
  induction j with
  | zero => simp [stps]
  | succ j ih => rw [show j + 1 + k = j + k + 1 by omega]; simp only [stps]; rw [ih]
theorem byt_halves (c : Nat) (b : UInt8) : byt c b = stps 4 (stps 4 (c ^^^ b.toNat)) := stps_add 4 4 _

theorem stp_high (c : Nat) (h : c < 4294967296) : (stp c).testBit 31 = decide (c % 2 = 1) := by
  unfold stp
  split
  · rename_i h1
    rw [Nat.testBit_xor, Nat.testBit_lt_two_pow (x := c / 2) (i := 31) (by omega)]
    simp [h1]; decide
  · rename_i h1
    rw [Nat.testBit_lt_two_pow (x := c / 2) (i := 31) (by omega)]; simp [h1]
theorem xor_inj {a b c : Nat} (h : a ^^^ c = b ^^^ c) : a = b := by
  have := congrArg (· ^^^ c) h
  simpa [Nat.xor_assoc, Nat.xor_self] using this
theorem stp_inj (a b : Nat) (ha : a < 4294967296) (hb : b < 4294967296) (h : stp a = stp b) : a = b := by
  have h1 := stp_high a ha
  have h2 := stp_high b hb
  rw [h, h2] at h1
  have h3 : (b % 2 = 1) ↔ (a % 2 = 1) := by simpa using h1
  unfold stp at h
  by_cases hp : a % 2 = 1
  · rw [if_pos hp, if_pos (h3.2 hp)] at h
    have := xor_inj h; omega
  · rw [if_neg hp, if_neg (fun x => hp (h3.1 x))] at h
    have : ¬ b % 2 = 1 := fun x => hp (h3.1 x)
    omega
theorem stps_inj : ∀ (k a b : Nat), a < 4294967296 → b < 4294967296 → stps k a = stps k b → a = b
  | 0, _, _, _, _, h => h
  | k + 1, a, b, ha, hb, h => stps_inj k a b ha hb (stp_inj _ _ (stps_lt k a ha) (stps_lt k b hb) h)
theorem byt_injl (c d : Nat) (b : UInt8) (hc : c < 4294967296) (hd : d < 4294967296) (h : byt c b = byt d b) : c = d :=
  xor_inj (stps_inj 8 _ _ (Nat.xor_lt_two_pow (n := 32) hc (by have := b.toNat_lt; omega)) (Nat.xor_lt_two_pow (n := 32) hd (by have := b.toNat_lt; omega)) h)
theorem byt_injr (c : Nat) (a b : UInt8) (hc : c < 4294967296) (h : byt c a = byt c b) : a = b := by
  have h1 := stps_inj 8 _ _ (Nat.xor_lt_two_pow (n := 32) hc (by have := a.toNat_lt; omega)) (Nat.xor_lt_two_pow (n := 32) hc (by have := b.toNat_lt; omega)) h
  rw [Nat.xor_comm c, Nat.xor_comm c] at h1
  exact UInt8.toNat_inj.1 (xor_inj h1)
theorem run_inj : ∀ (l : List UInt8) (c d : Nat), c < 4294967296 → d < 4294967296 → run c l = run d l → c = d
  | [], _, _, _, _, h => h
  | b :: l, c, d, hc, hd, h => byt_injl c d b hc hd (run_inj l _ _ (byt_lt c b hc) (byt_lt d b hd) h)
/-- one byte turned, and the sum is another -/
theorem sum_set (l : List UInt8) (i : Nat) (h : i < l.length) (b : UInt8) (hb : b ≠ l[i]) : sum (l.set i b) ≠ sum l := by
  intro he
  have h1 := xor_inj he
  have e1 : l = l.take i ++ l[i] :: l.drop (i + 1) := by simp
  have e2 : l.set i b = l.take i ++ b :: l.drop (i + 1) := by
    rw [List.set_eq_take_append_cons_drop, if_pos h]
  rw [e2] at h1
  conv at h1 => rhs; rw [e1]
  rw [run_append, run_append] at h1
  have hl := run_lt (l.take i) 4294967295 (by omega)
  have h2 := run_inj _ _ _ (byt_lt _ _ hl) (byt_lt _ _ hl) h1
  exact hb (byt_injr _ _ _ hl h2)

/-- three by xor -/
def xor3 : List UInt8 → List UInt8 → List UInt8 → List UInt8
  | a :: l, b :: m, c :: n => (a ^^^ b ^^^ c) :: xor3 l m n
  | _, _, _ => []
theorem byt_xor3 (c d e : Nat) (x y z : UInt8) : byt (c ^^^ d ^^^ e) (x ^^^ y ^^^ z) = byt c x ^^^ byt d y ^^^ byt e z := by
  unfold byt
  rw [UInt8.toNat_xor, UInt8.toNat_xor, ← stps_xor, ← stps_xor]
  congr 1
  ac_rfl
theorem run_xor3 : ∀ (l m n : List UInt8) (c d e : Nat), m.length = l.length → n.length = l.length → run (c ^^^ d ^^^ e) (xor3 l m n) = run c l ^^^ run d m ^^^ run e n
  | [], [], [], _, _, _, _, _ => rfl
  | x :: l, y :: m, z :: n, c, d, e, h1, h2 => by
    have := run_xor3 l m n (byt c x) (byt d y) (byt e z) (by simpa using h1) (by simpa using h2)
    rw [← byt_xor3] at this
    exact this
theorem sum_xor3 (l m n : List UInt8) (h1 : m.length = l.length) (h2 : n.length = l.length) : sum (xor3 l m n) = sum l ^^^ sum m ^^^ sum n := by
  unfold sum
  have := run_xor3 l m n 4294967295 4294967295 4294967295 h1 h2
  rw [Nat.xor_self, Nat.zero_xor] at this
  rw [this]
  have e : ∀ a b c d : Nat, a ^^^ d ^^^ (b ^^^ d) ^^^ (c ^^^ d) = a ^^^ b ^^^ c ^^^ d := by
    intro a b c d
    have : a ^^^ d ^^^ (b ^^^ d) ^^^ (c ^^^ d) = a ^^^ b ^^^ c ^^^ d ^^^ (d ^^^ d) := by ac_rfl
    rw [this, Nat.xor_self, Nat.xor_zero]
  rw [e]
theorem sum_check : sum [49, 50, 51, 52, 53, 54, 55, 56, 57] = 3808858755 := by decide +kernel

/-- a sum's four bytes, the highest first -/
def wr (n : Nat) : List UInt8 := [UInt8.ofNat (n / 16777216 % 256), UInt8.ofNat (n / 65536 % 256), UInt8.ofNat (n / 256 % 256), UInt8.ofNat (n % 256)]
def seal4 (l : List UInt8) : List UInt8 := l ++ wr (sum l)
def right (l : List UInt8) : Bool := decide (4 ≤ l.length) && (l.drop (l.length - 4) == wr (sum (l.take (l.length - 4))))
theorem wr_len (n : Nat) : (wr n).length = 4 := rfl
theorem seal_len (l : List UInt8) : (seal4 l).length = l.length + 4 := by unfold seal4; rw [List.length_append, wr_len]
theorem u8_inj (a b : Nat) (ha : a < 256) (hb : b < 256) (h : UInt8.ofNat a = UInt8.ofNat b) : a = b := by
  have := congrArg UInt8.toNat h
  simp at this; omega
theorem wr_inj (a b : Nat) (ha : a < 4294967296) (hb : b < 4294967296) (h : wr a = wr b) : a = b := by
  unfold wr at h
  simp only [List.cons.injEq, and_true] at h
  obtain ⟨h1, h2, h3, h4⟩ := h
  have h1 := u8_inj _ _ (by omega) (by omega) h1
  have h2 := u8_inj _ _ (by omega) (by omega) h2
  have h3 := u8_inj _ _ (by omega) (by omega) h3
  have h4 := u8_inj _ _ (by omega) (by omega) h4
  omega
theorem right_seal (l : List UInt8) : right (seal4 l) = true := by
  have h := seal_len l
  unfold right
  rw [h]
  have e : seal4 l = l ++ wr (sum l) := rfl
  rw [show l.length + 4 - 4 = l.length by omega, e, List.drop_left, List.take_left]
  simp
/-- a byte turned, and what was sealed is not right -/
theorem right_set (l : List UInt8) (i : Nat) (h : i < (seal4 l).length) (b : UInt8) (hb : b ≠ (seal4 l)[i]) : right ((seal4 l).set i b) = false := by
  have hl := seal_len l
  have e : seal4 l = l ++ wr (sum l) := rfl
  unfold right
  rw [List.length_set, hl, show l.length + 4 - 4 = l.length by omega]
  by_cases hi : i < l.length
  · have e2 : (seal4 l).set i b = l.set i b ++ wr (sum l) := by rw [e, List.set_append_left _ _ hi]
    have e3 : (seal4 l)[i] = l[i] := by simp only [e]; rw [List.getElem_append_left hi]
    rw [e3] at hb
    have hs := sum_set l i hi b hb
    have d1 : ((l.set i b) ++ wr (sum l)).drop l.length = wr (sum l) := List.drop_left' (by simp)
    have d2 : ((l.set i b) ++ wr (sum l)).take l.length = l.set i b := List.take_left' (by simp)
    rw [e2, d1, d2]
    have : ¬ wr (sum l) = wr (sum (l.set i b)) := fun h => hs (wr_inj _ _ (sum_lt _) (sum_lt _) h.symm)
    simp [this]
  · have e2 : (seal4 l).set i b = l ++ (wr (sum l)).set (i - l.length) b := by rw [e, List.set_append_right _ _ (by omega)]
    have e3 : (seal4 l)[i] = (wr (sum l))[i - l.length]'(by rw [wr_len]; omega) := by simp only [e]; rw [List.getElem_append_right (by omega)]
    rw [e2, List.drop_left, List.take_left]
    have : ¬ (wr (sum l)).set (i - l.length) b = wr (sum l) := by
      intro h
      rw [e3] at hb
      have h2 := congrArg (fun m : List UInt8 => m[i - l.length]?) h
      simp only [List.getElem?_set_self (show i - l.length < (wr (sum l)).length by rw [wr_len]; omega)] at h2
      rw [List.getElem?_eq_getElem (by rw [wr_len]; omega)] at h2
      exact hb (Option.some.inj h2)
    simp [this]
end Go.Proofs.Ytednmncapfclfaa.Crc

/-
  The plain mathematics of layer 5 (seal): blocks as lists of bytes; nothing of any program.
-/
namespace Go.Proofs.Ytednmncapfclfaa.Sl
open Oct (be fix rd)
/-- the text, and zeros behind it -/
def body (s : List UInt8) : List UInt8 := s ++ List.replicate (490 - s.length) 0
/-- what is sealed -/
def pre (n : Int) (s : List UInt8) : List UInt8 := fix n 8 ++ (fix s.length 2 ++ ((body s).take 246 ++ (fix n 8 ++ (body s).drop 246)))
def blk (n : Int) (s : List UInt8) : List UInt8 := Crc.seal4 (pre n s)
theorem body_len (s : List UInt8) (h : s.length ≤ 490) : (body s).length = 490 := by unfold body; rw [List.length_append, List.length_replicate]; omega
theorem body_take (s : List UInt8) : (body s).take s.length = s := by unfold body; exact List.take_left
/-- the document's front, and its back -/
theorem front_short (s : List UInt8) (h : s.length ≤ 246) : s ++ List.replicate (246 - s.length) 0 = (body s).take 246 := by
  unfold body
  rw [List.take_append, List.take_of_length_le h, List.take_replicate, show min (246 - s.length) (490 - s.length) = 246 - s.length by omega]
theorem back_short (s : List UInt8) (h : s.length ≤ 246) : List.replicate 244 0 = (body s).drop 246 := by
  unfold body
  rw [List.drop_append, List.drop_of_length_le h, List.drop_replicate, List.nil_append, show 490 - s.length - (246 - s.length) = 244 by omega]
theorem front_long (s : List UInt8) (h : 246 < s.length) : s.take 246 = (body s).take 246 := by
  unfold body
  rw [List.take_append, show 246 - s.length = 0 by omega, List.take_zero, List.append_nil]
theorem back_long (s : List UInt8) (h : 246 < s.length) : s.drop 246 ++ List.replicate (244 - (s.length - 246)) 0 = (body s).drop 246 := by
  unfold body
  rw [List.drop_append, show 246 - s.length = 0 by omega, List.drop_zero, show 490 - s.length = 244 - (s.length - 246) by omega]
theorem cut_at {a r : List UInt8} {k : Nat} (h : a.length = k) : (a ++ r).take k = a ∧ (a ++ r).drop k = r := by
  subst h; exact ⟨List.take_left, List.drop_left⟩
/-- a block's parts -/
structure Parts (l : List UInt8) (n : Int) (s : List UInt8) : Prop where
  len : l.length = 512
  num : l.take 8 = fix n 8
  size : (l.drop 8).take 2 = fix s.length 2
  front : (l.drop 10).take 246 = (body s).take 246
  again : (l.drop 256).take 8 = fix n 8
  back : (l.drop 264).take 244 = (body s).drop 246
theorem pre_len (n : Int) (s : List UInt8) (h : s.length ≤ 490) : (pre n s).length = 508 := by
  unfold pre
  simp only [List.length_append, Oct.fix_len, List.length_take, List.length_drop, body_len s h]
  omega
theorem blk_len (n : Int) (s : List UInt8) (h : s.length ≤ 490) : (blk n s).length = 512 := by unfold blk; rw [Crc.seal_len, pre_len n s h]
theorem blk_parts (n : Int) (s : List UInt8) (h : s.length ≤ 490) : Parts (blk n s) n s := by
  have e : blk n s = fix n 8 ++ (fix s.length 2 ++ ((body s).take 246 ++ (fix n 8 ++ ((body s).drop 246 ++ Crc.wr (Crc.sum (pre n s)))))) := by
    unfold blk Crc.seal4 pre; simp only [List.append_assoc]
  have l2 : ((body s).take 246).length = 246 := by rw [List.length_take, body_len s h]; omega
  have l3 : ((body s).drop 246).length = 244 := by rw [List.length_drop, body_len s h]
  have hl := blk_len n s h
  generalize Crc.wr (Crc.sum (pre n s)) = c at e
  generalize ht : (body s).take 246 = t at *
  generalize hd : (body s).drop 246 = d at *
  generalize blk n s = l at *
  obtain ⟨c1, c2⟩ := cut_at (r := fix s.length 2 ++ (t ++ (fix n 8 ++ (d ++ c)))) (Oct.fix_len n 8)
  obtain ⟨c3, c4⟩ := cut_at (r := t ++ (fix n 8 ++ (d ++ c))) (Oct.fix_len s.length 2)
  obtain ⟨c5, c6⟩ := cut_at (r := fix n 8 ++ (d ++ c)) l2
  obtain ⟨c7, c8⟩ := cut_at (r := d ++ c) (Oct.fix_len n 8)
  obtain ⟨c9, _⟩ := cut_at (r := c) l3
  have d8 : l.drop 8 = fix s.length 2 ++ (t ++ (fix n 8 ++ (d ++ c))) := by rw [e]; exact c2
  have d10 : l.drop 10 = t ++ (fix n 8 ++ (d ++ c)) := by rw [show 10 = 8 + 2 from rfl, ← List.drop_drop, d8]; exact c4
  have d256 : l.drop 256 = fix n 8 ++ (d ++ c) := by rw [show 256 = 10 + 246 from rfl, ← List.drop_drop, d10]; exact c6
  have d264 : l.drop 264 = d ++ c := by rw [show 264 = 256 + 8 from rfl, ← List.drop_drop, d256]; exact c8
  exact ⟨hl, by rw [e]; exact c1, by rw [d8]; exact c3, by rw [d10]; exact c5.trans ht.symm, by rw [d256]; exact c7, by rw [d264]; exact c9.trans hd.symm⟩
/-! ### as texts -/
theorem ext_list (b : ByteArray) (i j : Nat) : (b.extract i j).data.toList = (b.data.toList.drop i).take (j - i) := by
  rw [ByteArray.data_extract, Array.toList_extract, List.extract]
theorem rd_eq (b : ByteArray) (l : List UInt8) (h : b.data.toList = l) : rd b = IntKind.i64.wrap (be (l.take 8) : Int) := by unfold rd; rw [h]
def zeros : ByteArray := ⟨(List.replicate 512 0).toArray⟩
def one (b : ByteArray) : Int := rd (b.extract 0 8)
def two (b : ByteArray) : Int := rd (b.extract 256 264)
def len (b : ByteArray) : Int := rd (b.extract 8 10)
def all (b : ByteArray) : ByteArray := b.extract 10 256 ++ b.extract 264 508
def putE (n : Int) (s : ByteArray) : Int := if n < 1 ∨ 4611686018427387904 < n then 2 else if 490 < s.size then 5 else 0
def putB (n : Int) (s : ByteArray) : ByteArray := if putE n s = 0 then ⟨(blk n s.data.toList).toArray⟩ else ByteArray.empty
def halves (b : ByteArray) : Int × Int := if b.size = 512 then (one b, two b) else (0, 0)
def take (b : ByteArray) : Int × ByteArray × Int :=
  if b.size ≠ 512 then (0, ByteArray.empty, 4) else if b = zeros then (0, ByteArray.empty, 6) else if one b ≠ two b then (0, ByteArray.empty, 10) else if 490 < len b then (0, ByteArray.empty, 9)
  else if putE (one b) ((all b).extract 0 (len b).toNat) = 0 ∧ putB (one b) ((all b).extract 0 (len b).toNat) = b then (one b, (all b).extract 0 (len b).toNat, 0) else (0, ByteArray.empty, 9)
theorem ba_ext {a b : ByteArray} (h : a.data.toList = b.data.toList) : a = b := by
  cases a; cases b; congr; exact Array.toList_inj.1 h
theorem size_list (b : ByteArray) : b.size = b.data.toList.length := by simp
theorem putE_ok {n : Int} {s : ByteArray} : putE n s = 0 ↔ (1 ≤ n ∧ n ≤ 4611686018427387904 ∧ s.size ≤ 490) := by
  unfold putE
  split
  · constructor <;> intro h <;> omega
  · split
    · constructor <;> intro h <;> omega
    · constructor <;> intro h <;> omega
theorem putB_ok {n : Int} {s : ByteArray} (h : putE n s = 0) : putB n s = ⟨(blk n s.data.toList).toArray⟩ := by unfold putB; rw [if_pos h]
theorem putB_err {n : Int} {s : ByteArray} (h : putE n s ≠ 0) : putB n s = ByteArray.empty := by unfold putB; rw [if_neg h]
/-- what reads as a number of eight bytes -/
theorem rd_of (b : ByteArray) (n : Int) (h0 : -9223372036854775808 ≤ n) (h1 : n ≤ 9223372036854775807) (h : b.data.toList = fix n 8) : rd b = n := by
  have := Oct.rd_fix n h0 h1
  rwa [show (⟨(fix n 8).toArray⟩ : ByteArray) = b from ba_ext h.symm] at this
theorem rd_two (b : ByteArray) (k : Nat) (hk : k < 65536) (h : b.data.toList = fix k 2) : rd b = (k : Int) := by
  rw [rd_eq b _ h, List.take_of_length_le (by rw [Oct.fix_len]; omega), Oct.be_fix, IntKind.wrap_i64]
  omega
theorem put_parts {n : Int} {s : ByteArray} (h : putE n s = 0) : Parts (putB n s).data.toList n s.data.toList := by
  rw [putB_ok h]
  exact blk_parts n _ (by rw [← size_list]; exact (putE_ok.1 h).2.2)
theorem put_size {n : Int} {s : ByteArray} (h : putE n s = 0) : (putB n s).size = 512 := by rw [size_list]; exact (put_parts h).len
theorem put_one {n : Int} {s : ByteArray} (h : putE n s = 0) : one (putB n s) = n := by
  obtain ⟨h1, h2, _⟩ := putE_ok.1 h
  exact rd_of _ n (by omega) (by omega) (by rw [ext_list, List.drop_zero]; exact (put_parts h).num)
theorem put_two {n : Int} {s : ByteArray} (h : putE n s = 0) : two (putB n s) = n := by
  obtain ⟨h1, h2, _⟩ := putE_ok.1 h
  exact rd_of _ n (by omega) (by omega) (by rw [ext_list]; exact (put_parts h).again)
theorem put_len {n : Int} {s : ByteArray} (h : putE n s = 0) : len (putB n s) = (s.size : Int) := by
  obtain ⟨_, _, h3⟩ := putE_ok.1 h
  exact rd_two _ _ (by omega) (by rw [ext_list, size_list]; exact (put_parts h).size)
theorem put_all {n : Int} {s : ByteArray} (h : putE n s = 0) : (all (putB n s)).extract 0 s.size = s := by
  apply ba_ext
  have e : (all (putB n s)).data.toList = body s.data.toList := by
    unfold all
    rw [ByteArray.data_append, Array.toList_append, ext_list, ext_list, show 256 - 10 = 246 from rfl, show 508 - 264 = 244 from rfl, (put_parts h).front, (put_parts h).back, List.take_append_drop]
  rw [ext_list, List.drop_zero, e, Nat.sub_zero, size_list]
  exact body_take _
/-- a block that begins with a number is not all zeros -/
theorem one_zeros {b : ByteArray} (h : b = zeros) : one b = 0 ∧ two b = 0 := by subst h; exact ⟨by decide +kernel, by decide +kernel⟩
theorem take_put {n : Int} {s : ByteArray} (h : putE n s = 0) : take (putB n s) = (n, s, 0) ∧ halves (putB n s) = (n, n) := by
  obtain ⟨h1, h2, h3⟩ := putE_ok.1 h
  have hz : putB n s ≠ zeros := fun e => by have := (one_zeros e).1; rw [put_one h] at this; omega
  constructor
  · unfold take
    rw [if_neg (by rw [put_size h]; simp), if_neg hz, put_one h, put_two h, put_len h, if_neg (by simp), if_neg (by omega), Int.toNat_natCast, put_all h, if_pos ⟨h, rfl⟩]
  · unfold halves
    rw [if_pos (put_size h), put_one h, put_two h]
theorem take_ok {b : ByteArray} (h : (take b).2.2 = 0) : putE (take b).1 (take b).2.1 = 0 ∧ putB (take b).1 (take b).2.1 = b := by
  unfold take at h ⊢
  split at h
  · simp at h
  · split at h
    · simp at h
    · split at h
      · simp at h
      · split at h
        · simp at h
        · split at h
          · rename_i h1 h2 h3 h4 h5
            rw [if_neg h1, if_neg h2, if_neg h3, if_neg h4, if_pos h5]; exact h5
          · simp at h
theorem take_err {b : ByteArray} (h : (take b).2.2 ≠ 0) : (take b).1 = 0 ∧ (take b).2.1 = ByteArray.empty := by
  unfold take at h ⊢
  split at h
  · rename_i h1; rw [if_pos h1]; exact ⟨rfl, rfl⟩
  · rename_i h1; rw [if_neg h1]
    split at h
    · rename_i h2; rw [if_pos h2]; exact ⟨rfl, rfl⟩
    · rename_i h2; rw [if_neg h2]
      split at h
      · rename_i h3; rw [if_pos h3]; exact ⟨rfl, rfl⟩
      · rename_i h3; rw [if_neg h3]
        split at h
        · rename_i h4; rw [if_pos h4]; exact ⟨rfl, rfl⟩
        · rename_i h4; rw [if_neg h4]
          split at h
          · simp at h
          · rename_i h5; rw [if_neg h5]; exact ⟨rfl, rfl⟩
/-! ### torn ones -/
/-- the front of one and the back of another -/
def mix (a b : ByteArray) : ByteArray := a.extract 0 256 ++ b.extract 256 512
theorem mix_size {a b : ByteArray} (ha : a.size = 512) (hb : b.size = 512) : (mix a b).size = 512 := by
  unfold mix; rw [ByteArray.size_append, ByteArray.size_extract, ByteArray.size_extract]; omega
theorem mix_list (a b : ByteArray) : (mix a b).data.toList = a.data.toList.take 256 ++ (b.data.toList.drop 256).take 256 := by
  unfold mix; rw [ByteArray.data_append, Array.toList_append, ext_list, ext_list, List.drop_zero]
theorem rd_list {a b : ByteArray} (h : a.data.toList = b.data.toList) : rd a = rd b := by rw [ba_ext h]
theorem ext_first (b : ByteArray) (k : Nat) : (b.extract 0 k).data.toList = b.data.toList.take k := by rw [ext_list, List.drop_zero, Nat.sub_zero]
theorem mix_one {a b : ByteArray} (ha : a.size = 512) : one (mix a b) = one a := by
  have hl : 8 ≤ (a.data.toList.take 256).length := by rw [List.length_take, ← size_list]; omega
  refine rd_list ?_
  rw [ext_first, ext_first, mix_list]
  generalize (b.data.toList.drop 256).take 256 = r
  rw [List.take_append_of_le_length hl, List.take_take, show min 8 256 = 8 from rfl]
theorem mix_two {a b : ByteArray} (ha : a.size = 512) : two (mix a b) = two b := by
  have hl : (a.data.toList.take 256).length = 256 := by rw [List.length_take, ← size_list]; omega
  refine rd_list ?_
  rw [ext_list, ext_list, mix_list]
  generalize a.data.toList.take 256 = r at hl
  rw [(cut_at hl).2, List.take_take, show min (264 - 256) 256 = 264 - 256 from rfl]
theorem take_torn {b : ByteArray} (hs : b.size = 512) (h : one b ≠ two b) : take b = (0, ByteArray.empty, 10) := by
  have hz : b ≠ zeros := fun e => h (by rw [(one_zeros e).1, (one_zeros e).2])
  unfold take
  rw [if_neg (by simp [hs]), if_neg hz, if_pos h]
theorem zeros_size : zeros.size = 512 := by rw [size_list]; exact List.length_replicate
/-- SealTorn's whole claim -/
theorem torn {n m : Int} {s t : ByteArray} (h1 : putE n s = 0) (h2 : putE m t = 0) (hn : n ≠ m) :
    take (mix (putB n s) (putB m t)) = (0, ByteArray.empty, 10) ∧ take (mix (putB n s) zeros) = (0, ByteArray.empty, 10) ∧ take (mix zeros (putB m t)) = (0, ByteArray.empty, 10) ∧ halves (mix (putB n s) (putB m t)) = (n, m) := by
  have a1 := put_size h1
  have a2 := put_size h2
  have z := zeros_size
  obtain ⟨p1, _, _⟩ := putE_ok.1 h1
  obtain ⟨p2, _, _⟩ := putE_ok.1 h2
  have z1 := one_zeros (b := zeros) rfl
  refine ⟨take_torn (mix_size a1 a2) ?_, take_torn (mix_size a1 z) ?_, take_torn (mix_size z a2) ?_, ?_⟩
  · rw [mix_one a1, mix_two a1, put_one h1, put_two h2]; exact hn
  · rw [mix_one a1, mix_two a1, put_one h1, z1.2]; omega
  · rw [mix_one z, mix_two z, put_two h2, z1.1]; omega
  · unfold halves
    rw [if_pos (mix_size a1 a2), mix_one a1, mix_two a1, put_one h1, put_two h2]
/-! ### the document's example -/
def ab : ByteArray := ⟨#[97, 98]⟩
theorem ab_ok : putE 7 ab = 0 := by decide +kernel
theorem ab_cut : (putB 7 ab).extract 7 12 = ⟨#[7, 0, 2, 97, 98]⟩ := by
  apply ba_ext
  rw [ext_list, putB_ok ab_ok]
  decide +kernel
theorem ab_at : (putB 7 ab).data.toList[263]? = some 7 := by
  rw [putB_ok ab_ok]
  decide +kernel
theorem ab_take : take (putB 7 ab) = (7, ab, 0) := (take_put ab_ok).1
end Go.Proofs.Ytednmncapfclfaa.Sl

/-
  A text copied into a row of bytes that the call made: what the row holds, as a list of bytes.
-/
namespace Go.Proofs.Ytednmncapfclfaa
open Go.RowKit

theorem one_byte : (Try.prog.info? 5).map (·.size) = some 1 := by kernel_rfl
/-- a text copied into a row that is as long, or longer -/
theorem wpList_copy_str {P : Program} {w : World} {ops : Array Oper} {rest : List Oper} {o : Oper} {a : Act} {Q : Exit → Act → World → Prop} (hgd : o.guard = none) (d s : Operand) (dT sT : TypeId)
    (ho : o.op = .call { callee := .builtin .copy, args := #[d, s], argTypes := #[dT, sT] }) (elem : TypeId) (hu : P.underlying dT = some (.slice elem)) (hsz : (P.info? elem).map (·.size) = some 1)
    (g off dLen dCap : Nat) (hd : a.eval d = .slice (some ⟨g, off, none⟩) dLen dCap) (str : ByteArray) (hs : a.eval s = .string str) (hn : str.size ≤ dLen) (ht : w.there g off dLen)
    (h : wpList P ops Q rest (a.put o.dst (goInt str.size)) (w.setCells g off (bv str))) : wpList P ops Q (o :: rest) a w := by
  refine wpList_plain hgd fun K hK => ?_
  have hst := run_storeCells_cells (P := P) g off (bv str) 0 w (fun j hj => by rw [bv_len] at hj; simpa using (ht j (by omega)).1) (fun j hj => by rw [bv_len] at hj; simpa using (ht j (by omega)).2) (bv_one str)
  obtain ⟨i, hi, hi2⟩ := Option.map_eq_some_iff.1 hsz
  have hf := firstCells_string (P := P) str w
  have hrun : (Builtin.copy_ #[dT, sT] o.type #[.slice (some ⟨g, off, none⟩) dLen dCap, .string str]).run P w = .ok (goInt str.size) (w.setCells g off (bv str)) := by
    rw [Nat.add_zero] at hst
    have e : (byteCells str) = bv str := rfl
    rw [e] at hf
    have em : str.size.min dLen = str.size := Nat.min_eq_left hn
    simp [Builtin.copy_, run_underlying hu, Builtin.lenOf, sizeOf, typeInfo, hi, hi2, hf, hst, em]
  unfold Oper.wp
  simp [execOp, ho, resolve, invoke, builtin, hd, hs, hrun, Result.andThen]
  exact hK _ _ h
/-- bytes, over which from o on others are written -/
def spl (l : List UInt8) (o : Nat) (x : List UInt8) : List UInt8 := l.take o ++ x ++ l.drop (o + x.length)
theorem spl_len (l : List UInt8) (o : Nat) (x : List UInt8) (h : o + x.length ≤ l.length) : (spl l o x).length = l.length := by
  unfold spl; rw [List.length_append, List.length_append, List.length_take, List.length_drop]; omega
theorem spl_end (a x : List UInt8) (o m : Nat) (ha : a.length = o) (_h : x.length ≤ m) : spl (a ++ List.replicate m 0) o x = a ++ x ++ List.replicate (m - x.length) 0 := by
  subst ha
  unfold spl
  rw [List.take_left' rfl, List.drop_append, List.drop_of_length_le (by omega), List.nil_append, show a.length + x.length - a.length = x.length by omega, List.drop_replicate]
theorem valB_app (a b : List UInt8) : valB (a ++ b) = valB a ++ valB b := by unfold valB; rw [List.map_append]
theorem valB_len (l : List UInt8) : (valB l).length = l.length := by unfold valB; rw [List.length_map]
theorem valB_spl (l x : List UInt8) (o : Nat) : (valB l).take o ++ valB x ++ (valB l).drop (o + (valB x).length) = valB (spl l o x) := by
  rw [valB_len]; unfold spl valB
  rw [List.map_append, List.map_append, List.map_take, List.map_drop]
/-- the block that the call made first holds these n bytes -/
structure Laid (w0 w : World) (g T n : Nat) (p : List UInt8) : Prop where
  row : RowV w g T (valB p)
  len : p.length = n
  below : Below w0.heap.size w0 w
  new : w0.heap.size ≤ g
theorem laid_drewN {w0 w : World} {g T n : Nat} {p : List UInt8} (h : Laid w0 w g T n p) (k : Nat) : Laid w0 (w.drewN k) g T n p := ⟨h.row, h.len, h.below.trans (below_drewN (Below.refl _ _) k), h.new⟩
theorem laid_drew {w0 w : World} {g T n : Nat} {p : List UInt8} (h : Laid w0 w g T n p) : Laid w0 w.drew g T n p := laid_drewN h 1
theorem laid_below {w0 w w' : World} {g T n : Nat} {p : List UInt8} (h : Laid w0 w g T n p) (hb : Below w.heap.size w w') : Laid w0 w' g T n p :=
  ⟨rowV_below h.row hb (rowV_lt h.row), h.len, below_two h.below hb, h.new⟩
theorem laid_there {w0 w : World} {g T n : Nat} {p : List UInt8} (h : Laid w0 w g T n p) (o k : Nat) (hk : o + k ≤ n) : w.there g o k := rowV_there h.row o k (by rw [valB_len, h.len]; exact hk)
theorem laid_put {w0 w : World} {g T n : Nat} {p : List UInt8} (h : Laid w0 w g T n p) (o : Nat) (s : ByteArray) (hk : o + s.size ≤ n) : Laid w0 (w.setCells g o (bv s)) g T n (spl p o s.data.toList) := by
  have hl := h.len
  have hs : s.data.toList.length = s.size := ba_len s
  have hlt := rowV_lt h.row
  refine ⟨?_, by rw [spl_len _ _ _ (by omega)]; exact hl, ?_, h.new⟩
  · rw [← valB_spl]
    exact rowV_setCells (valB s.data.toList) o h.row (by rw [valB_len, valB_len]; omega)
  · have hn := h.new
    exact ((Only.of_below h.below).setCells (fun _ => hn) o (bv s)).below (fun k _ hf => hf) (Nat.le_refl _)
theorem laid_conv {w0 w : World} {g T n : Nat} {p : List UInt8} (h : Laid w0 w g T n p) :
    (convert 74 9 (.slice (some ⟨g, 0, none⟩) n n)).run Try.prog w = .ok (.string ⟨p.toArray⟩) w := by
  have hl := h.len
  have e := run_convert_bytes_back (P := Try.prog) w 74 9 5 ⟨g, 0, none⟩ n p Try.underlying74 Try.underlying5 Try.underlying9 (fun j hj => by
    rw [Addr.add_mid, Nat.zero_add, rowV_cell h.row]
    unfold valB
    rw [List.getElem?_map, List.getElem?_eq_getElem hj]; rfl)
  rw [hl] at e
  exact e
theorem laid_new (w : World) (T n : Nat) (p : List UInt8) (h : p.length = n) : Laid w (w.alloc (.cells (valB p).toArray T)) w.heap.size T n p :=
  ⟨rowV_new w T (valB p), h, (Below.refl _ w).alloc (Nat.le_refl _) _, Nat.le_refl _⟩
end Go.Proofs.Ytednmncapfclfaa

/-
  The leaves of layer 1: what a digit, its worth, a code and its number answer.
-/
namespace Go.Proofs.Ytednmncapfclfaa
open Go.RowKit


theorem u64_not (x : Int) (h0 : 0 ≤ x) (h1 : x < 18446744073709551616) : bits .xor .u64 IntKind.u64.max x = 18446744073709551615 - x := by
  obtain ⟨a, rfl⟩ := Int.eq_ofNat_of_zero_le h0
  have e : IntKind.u64.max = ((18446744073709551615 : Nat) : Int) := by decide
  rw [e, u64_xor _ _ (by omega) (by omega) (by omega) (by omega)]
  simp only [Int.toNat_natCast]
  have h : (18446744073709551615 ^^^ a : Nat) = 18446744073709551615 - a := by
    have e2 := congrArg BitVec.toNat (BitVec.allOnes_xor (x := BitVec.ofNat 64 a))
    rw [BitVec.toNat_xor, BitVec.toNat_not, BitVec.toNat_allOnes, BitVec.toNat_ofNat, Nat.mod_eq_of_lt (by omega)] at e2
    simpa using e2
  rw [h]; omega

theorem and1 (c : Nat) (h1 : c < 18446744073709551616) : bits .and .u64 (c : Int) 1 = ((c % 2 : Nat) : Int) := by
  rw [u64_and _ _ (by omega) (by omega) (by decide) (by decide)]
  have := nat_mask1 c
  simp only [Int.reduceToNat, Int.toNat_natCast]
  omega

theorem andNot128 (b : UInt8) : bits .andNot .u8 ((b.toNat : Nat) : Int) 128 = ((b.toNat % 128 : Nat) : Int) := by
  have hb := b.toNat_lt
  rw [u8_andNot _ _ (by omega) (by omega) (by decide) (by decide)]
  have := nat_mask7 b.toNat
  simp only [Int.reduceToNat, Int.toNat_natCast, Nat.reduceSub]
  omega
/-- the code so far, with a digit more -/
theorem or_digit (acc d k : Nat) (hk : k ≤ 9) (h : acc < 2 ^ (7 * k)) (hd : d < 128) (h9 : k = 9 → d ≤ 1) :
    bits .or .u64 (acc : Int) (IntKind.u64.wrap ((d : Int) * 2 ^ (k * 7))) = ((acc + 2 ^ (7 * k) * d : Nat) : Int) ∧ acc + 2 ^ (7 * k) * d < 18446744073709551616 := by
  have e : k * 7 = 7 * k := by omega
  have hp : (2 : Nat) ^ (7 * k) * d < 18446744073709551616 ∧ acc + 2 ^ (7 * k) * d < 18446744073709551616 := by
    by_cases hk9 : k = 9
    · subst hk9; have := h9 rfl; omega
    · have h8 : (2 : Nat) ^ (7 * k) ≤ 2 ^ 56 := Nat.pow_le_pow_right (by omega) (by omega)
      have : (2 : Nat) ^ (7 * k) * d ≤ 2 ^ 56 * 127 := Nat.mul_le_mul h8 (by omega)
      omega
  have e2 : ((d : Int) * 2 ^ (7 * k)) = ((2 ^ (7 * k) * d : Nat) : Int) := by push_cast; rw [Int.mul_comm]
  rw [e, e2, IntKind.wrap_u64, Int.emod_eq_of_lt (by omega) (by omega), u64_or _ _ (by omega) (by omega) (by omega) (by omega)]
  refine ⟨?_, hp.2⟩
  simp only [Int.toNat_natCast]
  rw [Oct.or_sum acc d k h]
end Go.Proofs.Ytednmncapfclfaa

/-
  Layer 1: what Num answers (the program's and the document's).
-/
namespace Go.Proofs.Ytednmncapfclfaa
open Go.RowKit


theorem or128 (d : Nat) (h : d < 128) : bits .or .u8 (d : Int) 128 = ((128 + d : Nat) : Int) := by
  rw [u8_or _ _ (by omega) (by omega) (by decide) (by decide)]
  simp only [Int.toNat_natCast, Int.reduceToNat]
  have := Nat.two_pow_add_eq_or_of_lt (i := 7) (b := d) (by omega) 1
  rw [Nat.or_comm]
  have h2 : (2 ^ 7 * 1 : Nat) = 128 := rfl
  rw [h2] at this; rw [this]

end Go.Proofs.Ytednmncapfclfaa

/-
  Layer 1: what Fixed and Text answer (the program's and the document's).
-/
namespace Go.Proofs.Ytednmncapfclfaa
open Go.RowKit

set_option maxHeartbeats 400000 in
theorem digit8_any (n i : Int) (w : World) (h2 : 0 ≤ i) (h3 : i ≤ 7) :
    Calls Try.prog 77 #[.int .i64 n, .int .i64 i, .int .i64 8] w fun e w' => e = .returned (.int .u8 (Oct.digit n i.toNat).toNat) ∧ ∃ n, w' = w.drewN n := by
  have H : bits .and .u64 (IntKind.u64.wrap n / 2 ^ (i * 8).toNat) 255 % 256 = ((Oct.digit n i.toNat).toNat : Int) := by
    rw [IntKind.wrap_u64]
    obtain ⟨c, hc⟩ : ∃ c : Nat, n % 18446744073709551616 = (c : Int) := ⟨_, (Int.toNat_of_nonneg (by omega)).symm⟩
    have hcl : c < 18446744073709551616 := by omega
    have e1 : (i * 8).toNat = i.toNat * 8 := by omega
    have e2 : (c : Int) / 2 ^ (i.toNat * 8) = ((c / 2 ^ (i.toNat * 8) : Nat) : Int) := by push_cast; rfl
    have e3 : c / 2 ^ (i.toNat * 8) ≤ c := Nat.div_le_self _ _
    obtain ⟨d, hd⟩ : ∃ d, d = c / 2 ^ (i.toNat * 8) := ⟨_, rfl⟩
    rw [← hd] at e2 e3
    rw [Oct.digit, hc, e1, e2, Int.toNat_natCast, ← hd, u64_and _ _ (by omega) (by omega) (by decide) (by decide), Oct.toNat_ofNat _ (by omega)]
    have := nat_mask8 d
    simp only [Int.reduceToNat, Int.toNat_natCast]
    omega
  have HH := Lib.hid H; clear H
  go_enter Try.func77, Try.ntmps77
  go_wp2
  go_quiet (fail)
  go_wp2
  go_ret
  exact ⟨ret_int HH.out, _, rfl⟩

set_option maxRecDepth 100000 in
set_option maxHeartbeats 800000 in
theorem fixed_any (n : Int) (bytes : Int) (w : World) :
    Calls Try.prog 73 #[.int .i64 n, .int .i64 bytes] w fun e w' => e = .returned (.string ⟨(Oct.fix n (Oct.cnt bytes)).toArray⟩) ∧ Below w.heap.size w w' := by
  obtain ⟨i0, hi, hz0, hz1, hz2⟩ := info_parts Try.info5
  obtain ⟨m, hm8, HM, hcase⟩ := Oct.cnt_cases bytes
  have hmb : i0.bytes * m ≤ 281474976710656 := by rw [hz2]; omega
  have hml : m ≤ maxLen := by unfold maxLen; omega
  have HI := Lib.hid (And.intro hi (And.intro hz0 (And.intro hz1 hz2)))
  clear hi hz0 hz1 hz2
  have HMB := Lib.hid (And.intro hmb hml); clear hmb hml
  rcases hcase with ⟨h1, h2⟩ | ⟨h1, h2⟩ | rfl
  · obtain rfl : m = 0 := by omega
    go_enter Try.func73, Try.ntmps73
    go_wp2_with (at_make; go_loud (refine wpList_make_full _ rfl _ _ 74 rfl w.heap.size 5 i0 (.int .u8 0) 1 Try.underlying74 HI.out.1 HI.out.2.1 HI.out.2.2.1 .i64 .i64 _ _ 0 rfl rfl (by omega) (by omega) HMB.out.1 HMB.out.2 (Nat.le_refl _) ?_))
    intro w1 hown hgrow
    have ho : OwnsB w1 w.heap.size 5 _ (List.replicate 0 0) := ownsB_made hown
    have hb : Below w.heap.size w w1 := (Below.refl _ w).grown hgrow (Nat.le_refl _) (by simp)
    rw [← Oct.laid_none n 0] at ho
    have HO := Lib.hid ho
    have HBL := Lib.hid hb
    clear hown hgrow ho hb
    go_wp2
    go_loopw [14] (fun i wr => ∃ k : Nat, k ≤ 0 ∧ i = .int .i64 k ∧ OwnsB wr w.heap.size 5 (.slice (some ⟨w.heap.size, 0, none⟩) 0 0) (Oct.laid n 0 k) ∧ Below w.heap.size w wr)
      (fun i _ => 0 - (intOf i).toNat)
    case atStart => exact ⟨0, by omega, rfl, HO.out, HBL.out⟩
    case round =>
      obtain ⟨k, hk, rfl, ho, hb⟩ := hrel
      clear HO HBL
      by_cases hlt : k < 0
      · omega
      · have hkm : k = 0 := by omega
        subst hkm
        rw [Oct.laid_all] at ho
        have hconv := ownsB_conv (P := Try.prog) (src := 74) (dst := 9) ho Try.underlying74 Try.underlying5 Try.underlying9
        have HF := Lib.hid hb
        clear ho hb
        go_wp2
        go_ret
        exact ⟨ret_str (by rw [HM.out]), HF.out⟩
  · obtain rfl : m = 8 := by omega
    go_enter Try.func73, Try.ntmps73
    go_wp2_with (at_make; go_loud (refine wpList_make_full _ rfl _ _ 74 rfl w.heap.size 5 i0 (.int .u8 0) 1 Try.underlying74 HI.out.1 HI.out.2.1 HI.out.2.2.1 .i64 .i64 _ _ 8 rfl rfl (by omega) (by omega) HMB.out.1 HMB.out.2 (Nat.le_refl _) ?_))
    intro w1 hown hgrow
    have ho : OwnsB w1 w.heap.size 5 _ (List.replicate 8 0) := ownsB_made hown
    have hb : Below w.heap.size w w1 := (Below.refl _ w).grown hgrow (Nat.le_refl _) (by simp)
    rw [← Oct.laid_none n 8] at ho
    have HO := Lib.hid ho
    have HBL := Lib.hid hb
    clear hown hgrow ho hb
    go_wp2
    go_loopw [14] (fun i wr => ∃ k : Nat, k ≤ 8 ∧ i = .int .i64 k ∧ OwnsB wr w.heap.size 5 (.slice (some ⟨w.heap.size, 0, none⟩) 8 8) (Oct.laid n 8 k) ∧ Below w.heap.size w wr)
      (fun i _ => 8 - (intOf i).toNat)
    case atStart => exact ⟨0, by omega, rfl, HO.out, HBL.out⟩
    case round =>
      obtain ⟨k, hk, rfl, ho, hb⟩ := hrel
      clear HO HBL
      by_cases hlt : k < 8
      · have HS := ownsB_stored ho (Oct.laid_len n 8 k hk) (8 - 1 - k) (Oct.digit n k) (Oct.laid_step n 8 k hlt)
        have hbs := hb.setCell (p := ⟨w.heap.size, 8 - 1 - k, none⟩) (Nat.le_refl _) (.int .u8 ((Oct.digit n k).toNat : Int))
        obtain ⟨x, hc, hf⟩ := ownsB_cell ho (Oct.laid_len n 8 k hk) (8 - 1 - k) (by omega)
        have e : 8 - 1 - k = 7 - k := by omega
        rw [e] at HS hbs hc hf
        clear ho hb e
        have HS := Lib.hid HS
        have hbs := Lib.hid hbs
        go_wp2_with (go_at_call 77; refine (digit8_any n _ _ (by omega) (by omega)).mono ?_; rintro e w' ⟨rfl, nd, rfl⟩)
        go_roundw
        case rel => exact ⟨k + 1, by omega, by go_num, HS.out, ⟨hbs.out.os, hbs.out.tape, hbs.out.output, hbs.out.size, hbs.out.block⟩⟩
        case measure => simp [intOf]; omega
      · have hkm : k = 8 := by omega
        subst hkm
        rw [Oct.laid_all] at ho
        have hconv := ownsB_conv (P := Try.prog) (src := 74) (dst := 9) ho Try.underlying74 Try.underlying5 Try.underlying9
        have HF := Lib.hid hb
        clear ho hb
        go_wp2
        go_ret
        exact ⟨ret_str (by rw [HM.out]), HF.out⟩
  · go_enter Try.func73, Try.ntmps73
    go_wp2_with (at_make; go_loud (refine wpList_make_full _ rfl _ _ 74 rfl w.heap.size 5 i0 (.int .u8 0) 1 Try.underlying74 HI.out.1 HI.out.2.1 HI.out.2.2.1 .i64 .i64 _ _ m rfl rfl (by omega) (by omega) HMB.out.1 HMB.out.2 (Nat.le_refl _) ?_))
    intro w1 hown hgrow
    have ho : OwnsB w1 w.heap.size 5 _ (List.replicate m 0) := ownsB_made hown
    have hb : Below w.heap.size w w1 := (Below.refl _ w).grown hgrow (Nat.le_refl _) (by simp)
    rw [← Oct.laid_none n m] at ho
    have HO := Lib.hid ho
    have HBL := Lib.hid hb
    clear hown hgrow ho hb
    go_wp2
    go_loopw [14] (fun i wr => ∃ k : Nat, k ≤ m ∧ i = .int .i64 k ∧ OwnsB wr w.heap.size 5 (.slice (some ⟨w.heap.size, 0, none⟩) m m) (Oct.laid n m k) ∧ Below w.heap.size w wr)
      (fun i _ => m - (intOf i).toNat)
    case atStart => exact ⟨0, by omega, rfl, HO.out, HBL.out⟩
    case round =>
      obtain ⟨k, hk, rfl, ho, hb⟩ := hrel
      clear HO HBL
      by_cases hlt : k < m
      · have HS := ownsB_stored ho (Oct.laid_len n m k hk) (m - 1 - k) (Oct.digit n k) (Oct.laid_step n m k hlt)
        have hbs := hb.setCell (p := ⟨w.heap.size, m - 1 - k, none⟩) (Nat.le_refl _) (.int .u8 ((Oct.digit n k).toNat : Int))
        obtain ⟨x, hc, hf⟩ := ownsB_cell ho (Oct.laid_len n m k hk) (m - 1 - k) (by omega)
        have e : m - 1 - k = m - 1 - k := by omega
        rw [e] at HS hbs hc hf
        clear ho hb e
        have HS := Lib.hid HS
        have hbs := Lib.hid hbs
        go_wp2_with (go_at_call 77; refine (digit8_any n _ _ (by omega) (by omega)).mono ?_; rintro e w' ⟨rfl, nd, rfl⟩)
        go_roundw
        case rel => exact ⟨k + 1, by omega, by go_num, HS.out, ⟨hbs.out.os, hbs.out.tape, hbs.out.output, hbs.out.size, hbs.out.block⟩⟩
        case measure => simp [intOf]; omega
      · have hkm : k = m := by omega
        subst hkm
        rw [Oct.laid_all] at ho
        have hconv := ownsB_conv (P := Try.prog) (src := 74) (dst := 9) ho Try.underlying74 Try.underlying5 Try.underlying9
        have HF := Lib.hid hb
        clear ho hb
        go_wp2
        go_ret
        exact ⟨ret_str (by rw [HM.out]), HF.out⟩
end Go.Proofs.Ytednmncapfclfaa

/-
  Layer 1: what Read answers (the program's and the document's), and the document's Fixed.
-/
namespace Go.Proofs.Ytednmncapfclfaa
open Go.RowKit

set_option maxHeartbeats 400000 in
theorem worth8_any (b i : Int) (w : World) (h0 : 0 ≤ b) (h1 : b < 256) (h2 : 0 ≤ i) (h3 : i ≤ 7) :
    Calls Try.prog 76 #[.int .u8 b, .int .i64 i, .int .i64 8] w fun e w' => e = .returned (.int .i64 (wrap64 (b * 2 ^ (i * 8).toNat))) ∧ w = w' := by
  go_enter Try.func76, Try.ntmps76
  go_wp2
  go_ret
  exact ⟨rfl, rfl⟩

set_option maxRecDepth 100000 in
set_option maxHeartbeats 800000 in
theorem roread_any (s : ByteArray) (w : World) (hs : s.size ≤ maxLen) :
    Calls Try.prog 62 #[.string s] w fun e w' => e = .returned (.int .i64 (Oct.rd s)) ∧ w = w' := by
  unfold maxLen at hs
  go_enter Try.func62, Try.ntmps62
  go_wp2
  go_loop [3, 4] (fun c i => ∃ k C : Nat, k ≤ 8 ∧ k ≤ s.size ∧ i = .int .i64 k ∧ c = .int .u64 (C : Int) ∧ Hid (C = Oct.be (s.data.toList.take k)))
    (fun _ i => 8 - (intOf i).toNat)
  case atStart => exact ⟨0, 0, by omega, by omega, rfl, rfl, Lib.hid (by simp [Oct.be])⟩
  case round =>
    obtain ⟨k, C, hk8, hks, rfl, rfl, HC⟩ := hrel
    by_cases hlt : k < s.size ∧ k < 8
    · obtain ⟨h1, h2⟩ := hlt
      have hb := Oct.be_take s k h1
      have hl := Oct.be_take_lt s (k + 1) (by omega)
      rw [hb, ← HC.out] at hl
      have HB : Hid (C * 256 + s[k].toNat = Oct.be (s.data.toList.take (k + 1))) := Lib.hid (by rw [hb, ← HC.out])
      have hx : s[k].toNat < 256 := s[k].toNat_lt
      clear hb
      go_wp2
      go_round
      case rel => exact ⟨k + 1, _, by omega, by omega, by go_num, by go_num, HB⟩
      case measure => simp [intOf]; omega
    · have HF : Hid (wrap64 (C : Int) = Oct.rd s) := Lib.hid (by
        rw [← IntWalk.i64_left, Oct.rd, HC.out]
        have e : s.data.toList.length = s.size := by simp
        by_cases h8 : k = 8
        · rw [h8]
        · rw [List.take_of_length_le (by omega), List.take_of_length_le (by omega)])
      by_cases h1 : k < s.size
      all_goals
        go_wp2
        go_ret
        exact ⟨ret_int HF.out, rfl⟩

theorem be_low64 (s : ByteArray) (m k : Nat) (hm : m ≤ s.size) (hk : k < m) (h8 : m ≤ 8) :
    bits .or .i64 (wrap64 (Oct.be (Oct.low s m k) : Int)) (wrap64 (((s[m - 1 - k]).toNat : Int) * 2 ^ (k * 8))) = wrap64 (Oct.be (Oct.low s m (k + 1)) : Int) := by
  have := Oct.be_low s m k hm hk h8
  rw [IntWalk.i64_left, IntWalk.i64_left, IntWalk.i64_left] at this; exact this

set_option maxRecDepth 100000 in
set_option maxHeartbeats 800000 in
theorem read_small (s : ByteArray) (w : World) (hs : s.size ≤ maxLen) (hm : s.size ≤ 8) :
    Calls Try.prog 72 #[.string s] w fun e w' => e = .returned (.int .i64 (Oct.rd s)) ∧ w = w' := by
  unfold maxLen at hs
  go_enter Try.func72, Try.ntmps72
  go_wp2
  go_loop [4, 10] (fun n i => ∃ (k : Nat) (N : Int), k ≤ s.size ∧ i = .int .i64 k ∧ n = .int .i64 N ∧ Hid (N = wrap64 (Oct.be (Oct.low s (s.size) k) : Int)))
    (fun _ i => s.size - (intOf i).toNat)
  case atStart => exact ⟨0, 0, by omega, rfl, rfl, Lib.hid (by rw [Oct.low_none]; exact Oct.wrap_none)⟩
  case round =>
    obtain ⟨k, N, hk, rfl, rfl, HN⟩ := hrel
    by_cases hlt : k < s.size
    · have hi : s.size - 1 - k < s.size := by omega
      have e : s.size - 1 - k = s.size - 1 - k := by omega
      have hx : (s[s.size - 1 - k]'hi).toNat < 256 := (s[s.size - 1 - k]'hi).toNat_lt
      have HB : Hid (bits .or .i64 N (wrap64 (((s[s.size - 1 - k]'hi).toNat : Int) * 2 ^ (k * 8))) = wrap64 (Oct.be (Oct.low s (s.size) (k + 1)) : Int)) := Lib.hid (by
        rw [HN.out]
        exact be_low64 s (s.size) k (by omega) hlt (by omega))
      clear e
      go_wp2_with (go_at_call 76; refine (worth8_any _ _ _ (by omega) (by omega) (by omega) (by omega)).mono ?_; rintro e w' ⟨rfl, rfl⟩)
      go_round
      case rel => exact ⟨k + 1, _, by omega, by go_num, rfl, HB⟩
      case measure => simp [intOf]; omega
    · have HF : Hid (N = Oct.rd s) := Lib.hid (by rw [HN.out, Oct.rd_low s (s.size) (by omega), IntWalk.i64_left, show k = s.size from by omega])
      go_wp2
      go_ret
      exact ⟨ret_int HF.out, rfl⟩

set_option maxRecDepth 100000 in
set_option maxHeartbeats 800000 in
theorem read_great (s : ByteArray) (w : World) (hs : s.size ≤ maxLen) (hm : 8 < s.size) :
    Calls Try.prog 72 #[.string s] w fun e w' => e = .returned (.int .i64 (Oct.rd s)) ∧ w = w' := by
  unfold maxLen at hs
  go_enter Try.func72, Try.ntmps72
  go_wp2
  go_loop [4, 10] (fun n i => ∃ (k : Nat) (N : Int), k ≤ 8 ∧ i = .int .i64 k ∧ n = .int .i64 N ∧ Hid (N = wrap64 (Oct.be (Oct.low s (8) k) : Int)))
    (fun _ i => 8 - (intOf i).toNat)
  case atStart => exact ⟨0, 0, by omega, rfl, rfl, Lib.hid (by rw [Oct.low_none]; exact Oct.wrap_none)⟩
  case round =>
    obtain ⟨k, N, hk, rfl, rfl, HN⟩ := hrel
    by_cases hlt : k < 8
    · have hi : 7 - k < s.size := by omega
      have e : 8 - 1 - k = 7 - k := by omega
      have hx : (s[7 - k]'hi).toNat < 256 := (s[7 - k]'hi).toNat_lt
      have HB : Hid (bits .or .i64 N (wrap64 (((s[7 - k]'hi).toNat : Int) * 2 ^ (k * 8))) = wrap64 (Oct.be (Oct.low s (8) (k + 1)) : Int)) := Lib.hid (by
        rw [HN.out]
        exact be_low64 s (8) k (by omega) hlt (by omega))
      clear e
      go_wp2_with (go_at_call 76; refine (worth8_any _ _ _ (by omega) (by omega) (by omega) (by omega)).mono ?_; rintro e w' ⟨rfl, rfl⟩)
      go_round
      case rel => exact ⟨k + 1, _, by omega, by go_num, rfl, HB⟩
      case measure => simp [intOf]; omega
    · have HF : Hid (N = Oct.rd s) := Lib.hid (by rw [HN.out, Oct.rd_low s (8) (by omega), IntWalk.i64_left, show k = 8 from by omega])
      go_wp2
      go_ret
      exact ⟨ret_int HF.out, rfl⟩

theorem oread_any (s : ByteArray) (w : World) (hs : s.size ≤ maxLen) :
    Calls Try.prog 72 #[.string s] w fun e w' => e = .returned (.int .i64 (Oct.rd s)) ∧ w = w' := by
  by_cases h : s.size ≤ 8
  · exact read_small s w hs h
  · exact read_great s w hs (by omega)

theorem digit_div (n : Int) (k : Nat) : (UInt8.ofNat ((n % 18446744073709551616).toNat / 2 ^ (k * 8) % 256)) = Oct.digit n k := rfl

set_option maxRecDepth 100000 in
set_option maxHeartbeats 800000 in
theorem rfixed_any (n bytes : Int) (w : World) :
    Calls Try.prog 70 #[.int .i64 n, .int .i64 bytes] w fun e w' => e = .returned (.string ⟨(Oct.fix n (Oct.cnt bytes)).toArray⟩) ∧ Below w.heap.size w w' := by
  obtain ⟨c, hc⟩ : ∃ c : Nat, c = (n % 18446744073709551616).toNat := ⟨_, rfl⟩
  have hcl : c < 18446744073709551616 := by omega
  have hw : IntKind.u64.wrap n = (c : Int) := by rw [IntKind.wrap_u64]; omega
  have HC := Lib.hid hc; clear hc
  go_enter Try.func70, Try.ntmps70
  go_wp2
  go_loopw [5, 6, 7] (fun c' v i wr => ∃ (k C : Nat) (r : ByteArray), k ≤ 8 ∧ i = .int .i64 k ∧ c' = .int .u64 (C : Int) ∧ C < 18446744073709551616 ∧ v = .string r ∧ r.size ≤ 8 ∧ Below w.heap.size w wr ∧ Hid (C = c / 2 ^ (k * 8) ∧ r = ⟨(Oct.fix n k).toArray⟩ ∧ k ≤ Oct.cnt bytes))
    (fun _ _ i _ => 8 - (intOf i).toNat)
  case atStart => exact ⟨0, c, ⟨#[]⟩, by omega, rfl, rfl, hcl, rfl, by decide, Below.refl _ _, Lib.hid ⟨by simp, rfl, by omega⟩⟩
  case round =>
    obtain ⟨k, C, r, hk8, rfl, rfl, hC, rfl, hr, hb, HK⟩ := hrel
    clear hw
    have hsz := hb.size
    by_cases hlt : (k : Int) < bytes ∧ k < 8
    · obtain ⟨h1, h2⟩ := hlt
      have HB : Hid ((C : Int) % 256 = ((Oct.digit n k).toNat : Int)) := Lib.hid (by
        have := HK.out.1
        rw [HC.out] at this
        rw [Oct.digit, Oct.toNat_ofNat _ (by omega), ← this]; omega)
      have hconv : (convert 74 9 (.slice (some ⟨wr.heap.size, 0, none⟩) 1 1)).run Try.prog (wr.alloc (.cells #[.int .u8 ((C : Int) % 256)] 5)) = .ok (.string ⟨#[Oct.digit n k]⟩) (wr.alloc (.cells #[.int .u8 ((C : Int) % 256)] 5)) := by
        rw [HB.out]; exact conv_one _ _ Try.underlying74 Try.underlying5 Try.underlying9
      have h9 : (⟨#[Oct.digit n k]⟩ : ByteArray).size ≤ 1 := Nat.le_refl _
      have hr9 : (⟨#[Oct.digit n k]⟩ ++ r : ByteArray).size ≤ 8 := by
        rw [ByteArray.size_append, HK.out.2.1]
        have := Oct.fix_len n k
        show 1 + (Oct.fix n k).toArray.size ≤ 8
        simp; omega
      have HK2 : Hid (C / 256 = c / 2 ^ ((k + 1) * 8) ∧ (⟨#[Oct.digit n k]⟩ ++ r : ByteArray) = ⟨(Oct.fix n (k + 1)).toArray⟩ ∧ k + 1 ≤ Oct.cnt bytes) := Lib.hid ⟨by
        rw [HK.out.1, Nat.div_div_eq_div_mul, show (k + 1) * 8 = k * 8 + 8 from by omega, Nat.pow_add], by
        rw [HK.out.2.1]; exact ByteArray.mk_append_mk [Oct.digit n k] (Oct.fix n k), Oct.cnt_step k bytes h1 h2⟩
      have hb2 := Lib.hid (hb.alloc hsz (.cells #[.int .u8 ((C : Int) % 256)] 5))
      clear hb
      go_wp2
      go_roundw
      case rel => exact ⟨k + 1, C / 256, _, by omega, by go_num, by go_num, by omega, rfl, hr9, hb2.out, HK2⟩
      case measure => simp [intOf]; omega
    · have hkc : k = Oct.cnt bytes := Oct.cnt_end k bytes hlt hk8 HK.out.2.2
      have HF := Lib.hid hb
      have HR : Hid (r = ⟨(Oct.fix n (Oct.cnt bytes)).toArray⟩) := Lib.hid (by rw [← hkc]; exact HK.out.2.1)
      clear hb hkc
      by_cases h1 : (k : Int) < bytes
      all_goals
        go_wp2
        go_ret
        exact ⟨ret_str HR.out, HF.out⟩
end Go.Proofs.Ytednmncapfclfaa

/-
  Layer 2: what the array of the half bytes' sums holds.
-/
namespace Go.Proofs.Ytednmncapfclfaa
open Go.RowKit

/-- the array's cells, k of them laid -/
def tabK (k : Nat) : Array Value := ((List.range 16).map fun i => Value.int .u32 (if i < k then (Crc.stps 4 i : Int) else 0)).toArray
theorem tabK_size (k : Nat) : (tabK k).size = 16 := by simp [tabK]
theorem tabK_zero : tabK 0 = #[.int .u32 0, .int .u32 0, .int .u32 0, .int .u32 0, .int .u32 0, .int .u32 0, .int .u32 0, .int .u32 0, .int .u32 0, .int .u32 0, .int .u32 0, .int .u32 0, .int .u32 0, .int .u32 0, .int .u32 0, .int .u32 0] := rfl
theorem tabK_at (k i : Nat) (h : i < 16) : (tabK k)[i]? = some (.int .u32 (if i < k then (Crc.stps 4 i : Int) else 0)) := by simp [tabK, h]
theorem tabK_succ (k : Nat) (_h : k < 16) : (tabK k).setIfInBounds k (.int .u32 (Crc.stps 4 k : Int)) = tabK (k + 1) := by
  apply Array.ext_getElem?
  intro i
  rw [Array.getElem?_setIfInBounds]
  by_cases hi : i < 16
  · by_cases hk : k = i
    · subst hk; simp [tabK, hi]
    · have : (i < k + 1) ↔ (i < k) := by omega
      simp [tabK, hk, hi, this]
  · have : ¬ k = i := by omega
    simp [tabK, this, hi]
theorem and1_32 (c : Nat) (h1 : c < 4294967296) : bits .and .u32 (c : Int) 1 = ((c % 2 : Nat) : Int) := by
  rw [u32_and _ _ (by omega) (by omega) (by decide) (by decide)]
  have := Nat.and_one_is_mod c
  simp only [Int.reduceToNat, Int.toNat_natCast]
  omega
theorem tabK_one (k : Nat) : (tabK k).all (·.oneCell') = true := by
  rw [Array.all_eq_true_iff_forall_mem]
  intro x hx
  simp only [tabK, List.mem_toArray, List.mem_map] at hx
  obtain ⟨i, _, rfl⟩ := hx; rfl
theorem arr_info : (Try.prog.info? 120).map (·.size) = some 16 := by kernel_rfl

set_option maxRecDepth 100000 in
set_option maxHeartbeats 800000 in
theorem halfSums_any (w : World) :
    Calls Try.prog 82 #[] w fun e w' => e = .returned (.agg (tabK 16)) ∧ Below w.heap.size w w' := by
  go_enter Try.func82, Try.ntmps82
  go_wp2
  rw [← tabK_zero]
  go_loopw [2, 3, 4, 5, 10] (fun _ _ _ i _ wr => ∃ k : Nat, k ≤ 16 ∧ i = .int .i64 k ∧ wr = (w.alloc (.cells (tabK 0) 120)).alloc (.cells (tabK k) 120))
    (fun _ _ _ i _ _ => 16 - (intOf i).toNat)
  case atStart => exact ⟨0, by omega, rfl, rfl⟩
  case round =>
    obtain ⟨k, hk, rfl, rfl⟩ := hrel
    by_cases hlt : k < 16
    · go_wp2
      go_loop [3, 4, 10] (fun c _ j => ∃ J C : Nat, J ≤ 4 ∧ j = .int .i64 J ∧ c = .int .u32 (C : Int) ∧ C < 4294967296 ∧ Hid (C = Crc.stps J k))
        (fun _ _ j => 4 - (intOf j).toNat)
      case atStart => exact ⟨0, k, by omega, rfl, rfl, by omega, Lib.hid rfl⟩
      case round =>
        obtain ⟨J, C, hJ, rfl, rfl, hC, HC⟩ := hrel
        by_cases hj : J < 4
        · have h2 := and1_32 C hC
          have HL : Crc.stp C < 4294967296 := Crc.stp_lt C hC
          have HS : Hid (Crc.stp C = Crc.stps (J + 1) k) := Lib.hid (by rw [HC.out]; rfl)
          by_cases hc : C % 2 = 1
          · have hb : (bits .and .u32 (C : Int) 1 != 0) = true := by rw [h2, hc]; rfl
            have HX : Hid (bits .xor .u32 ((C : Int) / 2) 2197175160 = (Crc.stp C : Int)) := Lib.hid (by
              have := xor_32 (C / 2) 2197175160 (by omega) (by omega)
              rw [Crc.stp, if_pos hc]; exact this)
            clear h2 hc
            go_wp2
            go_round
            case rel => exact ⟨J + 1, Crc.stp C, by omega, by go_num, by rw [HX.out], HL, HS⟩
            case measure => simp [intOf]; omega
          · have hb : (bits .and .u32 (C : Int) 1 != 0) = false := by rw [h2, show C % 2 = 0 from by omega]; rfl
            have HX : Hid ((C : Int) / 2 = (Crc.stp C : Int)) := Lib.hid (by rw [Crc.stp, if_neg hc]; omega)
            clear h2 hc
            go_wp2
            go_round
            case rel => exact ⟨J + 1, Crc.stp C, by omega, by go_num, by rw [HX.out], HL, HS⟩
            case measure => simp [intOf]; omega
        · have hJ4 : J = 4 := by omega
          subst hJ4
          have HT := Lib.hid (tabK_succ k hlt)
          have hcell := tabK_at k k hlt
          rw [if_neg (by omega)] at hcell
          have HE := HC.out
          subst HE
          clear HC
          go_wp2
          go_roundw
          case rel => exact ⟨k + 1, by omega, by go_num, by rw [← HT.out]⟩
          case measure => simp [intOf]; omega
    · have hg1 : ((w.alloc (.cells (tabK 0) 120)).alloc (.cells (tabK k) 120)).heap[w.heap.size + 1]? = some (.cells (tabK k) 120) := heap_alloc2_new w _ _
      have hg0 : ((w.alloc (.cells (tabK 0) 120)).alloc (.cells (tabK k) 120)).heap[w.heap.size]? = some (.cells (tabK 0) 120) := heap_alloc2_old w _ _
      have HG := Lib.hid (And.intro hg0 hg1)
      have hT0 : tabK k = tabK 16 := by rw [show k = 16 by omega]
      clear hg0 hg1
      generalize hT : tabK k = T at *
      generalize hZ : tabK 0 = Z at *
      have HZ := Lib.hid (And.intro hT0 hZ)
      have hs1 := tabK_size 16
      have hs2 := tabK_size 0
      rw [← hT0] at hs1; rw [hZ] at hs2
      have ho := tabK_one 16
      rw [← hT0] at ho
      have HS := Lib.hid (And.intro hs1 (And.intro hs2 ho))
      clear hT hZ hT0 hs1 hs2 ho
      go_wp2_with (first
        | (refine wpList_load_row rfl 120 _ rfl (w.heap.size + 1) rfl _ _ _ _ HG.out.2 Try.underlying120 rfl (by rw [HS.out.1]; exact arr_info) ?_)
        | (refine wpList_store_row rfl 120 _ _ rfl w.heap.size T rfl rfl _ _ HG.out.1 (by rw [HS.out.1]; exact arr_info) (by rw [HS.out.1, HS.out.2.1]) HS.out.2.2 ?_))
      have hr := setRow_heap _ w.heap.size Z T 120 (0, 0) HG.out.1
      refine bodyPost_ret (v := .agg T) (results_cell_row rfl _ _ w.heap.size _ _ _ _ rfl hr Try.underlying120 rfl (by rw [HS.out.1]; exact arr_info)) rfl ⟨by rw [HZ.out.1], ?_⟩
      exact below_setRow (((Below.refl _ w).alloc (Nat.le_refl _) _).alloc (by simp) _) (Nat.le_refl _) _
end Go.Proofs.Ytednmncapfclfaa

/-
  Layer 2: what through and the document's bytes answer.
-/
namespace Go.Proofs.Ytednmncapfclfaa
open Go.RowKit

/-- texts, one behind the other -/
def Crc.cat (l : List ByteArray) : List UInt8 := l.flatMap fun s => s.data.toList
theorem Crc.cat_take (l : List ByteArray) (k : Nat) (h : k < l.length) : Crc.cat (l.take (k + 1)) = Crc.cat (l.take k) ++ (l[k]).data.toList := by
  unfold Crc.cat; rw [List.take_succ_eq_append_getElem h, List.flatMap_append]; simp
theorem take_byte (s : ByteArray) (k : Nat) (h : k < s.size) : s.data.toList.take (k + 1) = s.data.toList.take k ++ [s[k]] := by
  rw [List.take_succ_eq_append_getElem (by simpa using h)]; rfl
theorem tab_cell (i : Nat) (h : i < 16) : (tabK 16)[i]? = some (.int .u32 (Crc.stps 4 i : Int)) := by rw [tabK_at 16 i h, if_pos h]

set_option maxRecDepth 100000 in
set_option maxHeartbeats 800000 in
theorem through_any (c : Nat) (l : List ByteArray) (a : Option Addr) (cap : Nat) (w : World) (hc0 : c < 4294967296) (hr : ReadsS w a l) (hl : l.length ≤ maxLen) (hz : ∀ s ∈ l, s.size ≤ maxLen) :
    Calls Try.prog 81 #[.int .u32 (c : Int), .slice a l.length cap] w fun e w' => e = .returned (.int .u32 (Crc.run c (Crc.cat l) : Int)) ∧ Below w.heap.size w w' := by
  have HR := Lib.hid (And.intro hr hz); clear hr hz
  unfold maxLen at hl
  go_enter Try.func81, Try.ntmps81
  go_wp2_with fail
  refine (halfSums_any _).mono ?_
  rintro e w1 ⟨rfl, hb1⟩
  have B1 := Lib.hid hb1; clear hb1
  generalize hT : tabK 16 = T
  have ho := tabK_one 16
  have hs := tabK_size 16
  rw [hT] at ho hs
  have HT := Lib.hid (And.intro hT (And.intro hs ho)); clear hT hs ho
  go_wp2_with (refine wpList_store_row rfl 120 _ _ rfl w1.heap.size T rfl rfl 120 (tabK 0) (heap_alloc_new _ _) (by rw [HT.out.2.1]; exact arr_info) (by rw [HT.out.2.1, tabK_size]) HT.out.2.2 ?_)
  generalize hW : World.setRow _ _ _ = w2
  have hg : w2.heap[w1.heap.size]? = some (.cells T 120) := by
    rw [← hW]; exact setRow_heap _ _ (tabK 0) _ _ (0, 0) (heap_alloc_new w1 _)
  have hcell : ∀ i, i < 16 → w2.cell? ⟨w1.heap.size, i, none⟩ = some (.int .u32 (Crc.stps 4 i : Int)) := by
    intro i hi
    rw [cell_of_row w2 _ i T _ (0, 0) hg, ← HT.out.1, tab_cell i hi]
  have hb2 : Below w.heap.size w w2 := by
    rw [← hW]; exact below_setRow (B1.out.alloc B1.out.size _) B1.out.size _
  have HC := Lib.hid (And.intro hcell (And.intro hb2 (readsS_below HR.out.1 hb2)))
  clear hcell hb2 hg hW HT B1
  go_loop [0, 12] (fun c' i => ∃ k C : Nat, k ≤ l.length ∧ i = .int .i64 k ∧ c' = .int .u32 (C : Int) ∧ C < 4294967296 ∧ Hid (C = Crc.run c (Crc.cat (l.take k))))
    (fun _ i => l.length - (intOf i).toNat)
  case atStart => exact ⟨0, c, by omega, rfl, rfl, hc0, Lib.hid rfl⟩
  case round =>
    obtain ⟨k, C, hk, rfl, rfl, hC, HK⟩ := hrel
    by_cases hlt : k < l.length
    · obtain ⟨g, o, rfl, hc⟩ := HC.out.2.2 k hlt
      have hm := HR.out.2 (l[k]) (List.getElem_mem _)
      unfold maxLen at hm
      have HN : Hid (Crc.run C (l[k]).data.toList = Crc.run c (Crc.cat (l.take (k + 1)))) := Lib.hid (by rw [Crc.cat_take l k hlt, Crc.run_append, ← HK.out])
      generalize l[k] = s at *
      go_wp2_with fail
      go_loop [0, 18] (fun c' i => ∃ j D : Nat, j ≤ s.size ∧ i = .int .i64 j ∧ c' = .int .u32 (D : Int) ∧ D < 4294967296 ∧ Hid (D = Crc.run C (s.data.toList.take j)))
        (fun _ i => s.size - (intOf i).toNat)
      case atStart => exact ⟨0, C, by omega, rfl, rfl, hC, Lib.hid rfl⟩
      case round =>
        obtain ⟨j, D, hj, rfl, rfl, hD, HD⟩ := hrel
        by_cases hjt : j < s.size
        · have hx := (s[j]).toNat_lt
          obtain ⟨D1, hD1⟩ : ∃ D1, D1 = D ^^^ (s[j]).toNat := ⟨_, rfl⟩
          have hl1 : D1 < 4294967296 := by rw [hD1]; exact Nat.xor_lt_two_pow (n := 32) hD (by omega)
          have e1 := xor_32 D (s[j]).toNat hD (by omega)
          rw [← hD1] at e1
          obtain ⟨D2, hD2⟩ : ∃ D2, D2 = Crc.stps 4 D1 := ⟨_, rfl⟩
          have hl2 : D2 < 4294967296 := by rw [hD2]; exact Crc.stps_lt 4 D1 hl1
          obtain ⟨D3, hD3⟩ : ∃ D3, D3 = Crc.stps 4 D2 := ⟨_, rfl⟩
          have hl3 : D3 < 4294967296 := by rw [hD3]; exact Crc.stps_lt 4 D2 hl2
          have HS : Hid (D3 = Crc.run C (s.data.toList.take (j + 1))) := Lib.hid (by rw [take_byte s j hjt, Crc.run_snoc, ← HD.out, Crc.byt_halves, ← hD1, ← hD2, hD3])
          have e2 := xor_32 (D1 / 16) (Crc.stps 4 (D1 % 16)) (by omega) (Crc.stps_lt 4 _ (by omega))
          rw [← Crc.half, ← hD2] at e2
          have e2 : bits .xor .u32 ((D1 : Int) / 16) (Crc.stps 4 (D1 % 16) : Int) = (D2 : Int) := e2
          have e3 := xor_32 (D2 / 16) (Crc.stps 4 (D2 % 16)) (by omega) (Crc.stps_lt 4 _ (by omega))
          rw [← Crc.half, ← hD3] at e3
          have e3 : bits .xor .u32 ((D2 : Int) / 16) (Crc.stps 4 (D2 % 16) : Int) = (D3 : Int) := e3
          have c1 := HC.out.1 (D1 % 16) (by omega)
          have c2 := HC.out.1 (D2 % 16) (by omega)
          generalize Crc.stps 4 (D1 % 16) = T1 at *
          generalize Crc.stps 4 (D2 % 16) = T2 at *
          clear hD1 hD2 hD3 HK HN
          go_wp2_with fail
          go_round
          case rel => exact ⟨j + 1, D3, by omega, by go_num, rfl, hl3, HS⟩
          case measure => simp [intOf]; omega
        · have e : s.data.toList.take j = s.data.toList := List.take_of_length_le (by simp; omega)
          have HF : Hid (D = Crc.run c (Crc.cat (l.take (k + 1)))) := Lib.hid (by rw [← HN.out, HD.out, e])
          clear e HD
          go_wp2_with fail
          go_round
          case rel => exact ⟨k + 1, D, by omega, by go_num, rfl, hD, HF⟩
          case measure => simp [intOf]; omega
    · have e : l.take k = l := List.take_of_length_le (by omega)
      have HF : Hid (C = Crc.run c (Crc.cat l)) := Lib.hid (by rw [HK.out, e])
      clear e HK
      go_wp2_with fail
      go_ret
      exact ⟨ret_int (by rw [HF.out]), HC.out.2.1⟩
end Go.Proofs.Ytednmncapfclfaa

/-
  Layer 2: what Sum, More, written answer, and the document's bytes, Sum, More.
-/
namespace Go.Proofs.Ytednmncapfclfaa
open Go.RowKit

set_option maxRecDepth 100000 in
set_option maxHeartbeats 800000 in
theorem rbytes_any (c : Nat) (s : ByteArray) (w : World) (hc0 : c < 4294967296) (hs : s.size ≤ maxLen) :
    Calls Try.prog 80 #[.int .u32 (c : Int), .string s] w fun e w' => e = .returned (.int .u32 (Crc.run c s.data.toList : Int)) ∧ w = w' := by
  unfold maxLen at hs
  go_enter Try.func80, Try.ntmps80
  go_wp2
  go_loop [0, 5] (fun c' i => ∃ j D : Nat, j ≤ s.size ∧ i = .int .i64 j ∧ c' = .int .u32 (D : Int) ∧ D < 4294967296 ∧ Hid (D = Crc.run c (s.data.toList.take j)))
    (fun _ i => s.size - (intOf i).toNat)
  case atStart => exact ⟨0, c, by omega, rfl, rfl, hc0, Lib.hid rfl⟩
  case round =>
    obtain ⟨j, D, hj, rfl, rfl, hD, HD⟩ := hrel
    by_cases hjt : j < s.size
    · have hx := (s[j]).toNat_lt
      obtain ⟨D1, hD1⟩ : ∃ D1, D1 = D ^^^ (s[j]).toNat := ⟨_, rfl⟩
      have hl1 : D1 < 4294967296 := by rw [hD1]; exact Nat.xor_lt_two_pow (n := 32) hD (by omega)
      have e1 := xor_32 D (s[j]).toNat hD (by omega)
      rw [← hD1] at e1
      have HS : Hid (Crc.stps 8 D1 = Crc.run c (s.data.toList.take (j + 1))) := Lib.hid (by rw [take_byte s j hjt, Crc.run_snoc, ← HD.out, hD1]; rfl)
      clear hD1 HD
      go_wp2
      go_loop [0, 6, 7] (fun c' i _ => ∃ J C : Nat, J ≤ 8 ∧ i = .int .i64 J ∧ c' = .int .u32 (C : Int) ∧ C < 4294967296 ∧ Hid (C = Crc.stps J D1))
        (fun _ i _ => 8 - (intOf i).toNat)
      case atStart => exact ⟨0, D1, by omega, rfl, rfl, hl1, Lib.hid rfl⟩
      case round =>
        obtain ⟨J, C, hJ, rfl, rfl, hC, HC⟩ := hrel
        clear e1
        by_cases hj8 : J < 8
        · have HL : Crc.stp C < 4294967296 := Crc.stp_lt C hC
          have HS2 : Hid (Crc.stp C = Crc.stps (J + 1) D1) := Lib.hid (by rw [HC.out]; rfl)
          by_cases hc : C % 2 = 1
          · have hb : ((C : Int) % 2 == 1) = true := by simp; omega
            have HX : Hid (bits .xor .u32 ((C : Int) / 2) 2197175160 = (Crc.stp C : Int)) := Lib.hid (by
              have := xor_32 (C / 2) 2197175160 (by omega) (by omega)
              rw [Crc.stp, if_pos hc]; exact this)
            clear hc
            go_wp2
            go_round
            case rel => exact ⟨J + 1, Crc.stp C, by omega, by go_num, by rw [HX.out], HL, HS2⟩
            case measure => simp [intOf]; omega
          · have hb : ((C : Int) % 2 == 1) = false := by simp; omega
            have HX : Hid ((C : Int) / 2 = (Crc.stp C : Int)) := Lib.hid (by rw [Crc.stp, if_neg hc]; omega)
            clear hc
            go_wp2
            go_round
            case rel => exact ⟨J + 1, Crc.stp C, by omega, by go_num, by rw [HX.out], HL, HS2⟩
            case measure => simp [intOf]; omega
        · have HF : Hid (C = Crc.run c (s.data.toList.take (j + 1))) := Lib.hid (by rw [HC.out, show J = 8 by omega, HS.out])
          clear HC
          go_wp2
          go_round
          case rel => exact ⟨j + 1, C, by omega, by go_num, rfl, hC, HF⟩
          case measure => simp [intOf]; omega
    · have e : s.data.toList.take j = s.data.toList := List.take_of_length_le (by simp; omega)
      have HF : Hid (D = Crc.run c s.data.toList) := Lib.hid (by rw [HD.out, e])
      clear e HD
      go_wp2
      go_ret
      exact ⟨ret_int (by rw [HF.out]), rfl⟩

theorem turn_sum (l : List UInt8) : bits .xor .u32 (Crc.run 4294967295 l : Int) 4294967295 = (Crc.sum l : Int) :=
  xor_32 _ 4294967295 (Crc.run_lt l _ (by omega)) (by omega)

set_option maxRecDepth 100000 in
set_option maxHeartbeats 800000 in
theorem rsum_any (s : ByteArray) (w : World) (hs : s.size ≤ maxLen) :
    Calls Try.prog 75 #[.string s] w fun e w' => e = .returned (.int .i64 (Crc.sum s.data.toList : Int)) ∧ w = w' := by
  have HX := Lib.hid (turn_sum s.data.toList)
  have hl := Crc.sum_lt s.data.toList
  have hl2 := Crc.run_lt s.data.toList 4294967295 (by omega)
  go_enter Try.func75, Try.ntmps75
  go_wp2_with fail
  refine (rbytes_any 4294967295 s _ (by omega) hs).mono ?_
  rintro e w1 ⟨rfl, rfl⟩
  generalize Crc.run 4294967295 s.data.toList = R at *
  generalize hS : Crc.sum s.data.toList = S at HX hl
  have HS := Lib.hid hS; clear hS
  have hx := HX.out
  go_wp2_with fail
  go_ret
  exact ⟨ret_int (by rw [HS.out]), rfl⟩

set_option maxRecDepth 100000 in
set_option maxHeartbeats 800000 in
theorem sum_any (l : List ByteArray) (a : Option Addr) (cap : Nat) (w : World) (hr : ReadsS w a l) (hl : l.length ≤ maxLen) (hz : ∀ s ∈ l, s.size ≤ maxLen) :
    Calls Try.prog 79 #[.slice a l.length cap] w fun e w' => e = .returned (.int .i64 (Crc.sum (Crc.cat l) : Int)) ∧ Below w.heap.size w w' := by
  have HX := Lib.hid (turn_sum (Crc.cat l))
  have hl1 := Crc.sum_lt (Crc.cat l)
  have hl2 := Crc.run_lt (Crc.cat l) 4294967295 (by omega)
  have HR := Lib.hid (And.intro hr (And.intro hl hz)); clear hr hl hz
  go_enter Try.func79, Try.ntmps79
  go_wp2_with fail
  refine (through_any 4294967295 l a cap _ (by omega) HR.out.1 HR.out.2.1 HR.out.2.2).mono ?_
  rintro e w1 ⟨rfl, hb⟩
  have HB := Lib.hid hb; clear hb
  generalize Crc.run 4294967295 (Crc.cat l) = R at *
  generalize hS : Crc.sum (Crc.cat l) = S at HX hl1
  have HS := Lib.hid hS; clear hS
  have hx := HX.out
  go_wp2_with fail
  go_ret
  exact ⟨ret_int (by rw [HS.out]), HB.out⟩
theorem readsS_one (w : World) (s : ByteArray) (t : TypeId) : ReadsS (w.alloc (.cells #[.string s] t)) (some ⟨w.heap.size, 0, none⟩) [s] := by
  intro i hi
  refine ⟨_, _, rfl, ?_⟩
  obtain rfl : i = 0 := by simp at hi; omega
  rw [cell_of_row _ _ _ #[.string s] t (0, 0) (heap_alloc_new w _)]; rfl
theorem readsS_three (w : World) (x y z : ByteArray) (t : TypeId) : ReadsS (w.alloc (.cells #[.string x, .string y, .string z] t)) (some ⟨w.heap.size, 0, none⟩) [x, y, z] := by
  intro i hi
  refine ⟨_, _, rfl, ?_⟩
  rw [cell_of_row _ _ _ #[.string x, .string y, .string z] t (0, 0) (heap_alloc_new w _)]
  simp at hi
  match i, hi with
  | 0, _ => rfl
  | 1, _ => rfl
  | 2, _ => rfl
theorem below_alloc {w w' : World} {o : Obj} (h : Below (w.alloc o).heap.size (w.alloc o) w') : Below w.heap.size w w' :=
  ((Below.refl _ w).alloc (Nat.le_refl _) o).trans (h.mono (by simp))
theorem cat_one (s : ByteArray) : Crc.cat [s] = s.data.toList := by simp [Crc.cat]

/-- the sum of one text -/
theorem sum_one (s : ByteArray) (w : World) (hs : s.size ≤ maxLen) :
    Calls Try.prog 79 #[.slice (some ⟨w.heap.size, 0, none⟩) 1 1] (w.alloc (.cells #[.string s] 9)) fun e w' => e = .returned (.int .i64 (Crc.sum s.data.toList : Int)) ∧ Below w.heap.size w w' :=
  (sum_any [s] _ 1 _ (readsS_one w s _) (by unfold maxLen; simp) (by intro x hx; simp at hx; rw [hx]; exact hs)).mono fun e w' h => by
    rw [cat_one] at h; exact ⟨h.1, below_alloc h.2⟩
theorem sum_none (w : World) :
    Calls Try.prog 79 #[.slice none 0 0] w fun e w' => e = .returned (.int .i64 0) ∧ Below w.heap.size w w' :=
  (sum_any [] none 0 w (readsS_none _ _) (by unfold maxLen; simp) (by intro x hx; simp at hx)).mono fun e w' h => h
theorem sum_three (x y z : ByteArray) (w : World) (hx : x.size ≤ maxLen) (hy : y.size ≤ maxLen) (hz : z.size ≤ maxLen) :
    Calls Try.prog 79 #[.slice (some ⟨w.heap.size, 0, none⟩) 3 3] (w.alloc (.cells #[.string x, .string y, .string z] 9)) fun e w' => e = .returned (.int .i64 (Crc.sum (Crc.cat [x, y, z]) : Int)) ∧ Below w.heap.size w w' :=
  (sum_any [x, y, z] _ 3 _ (readsS_three w x y z _) (by unfold maxLen; simp) (by intro s hs; simp at hs; rcases hs with rfl | rfl | rfl <;> assumption)).mono fun e w' h => ⟨h.1, below_alloc h.2⟩

/-- a sum gone on with: from any number's lowest 32 bits -/
def Crc.more (sum : Int) (l : List UInt8) : Nat := Crc.run ((sum % 4294967296).toNat ^^^ 4294967295) l ^^^ 4294967295
theorem more_lt (sum : Int) (l : List UInt8) : Crc.more sum l < 4294967296 :=
  Nat.xor_lt_two_pow (n := 32) (Crc.run_lt l _ (Nat.xor_lt_two_pow (n := 32) (by omega) (by omega))) (by omega)

theorem more_in (sum : Int) : bits .xor .u32 (sum % 4294967296) 4294967295 = (((sum % 4294967296).toNat ^^^ 4294967295 : Nat) : Int) := by
  obtain ⟨c, hc⟩ : ∃ c : Nat, sum % 4294967296 = (c : Int) := ⟨_, (Int.toNat_of_nonneg (by omega)).symm⟩
  rw [hc, Int.toNat_natCast]
  exact xor_32 c 4294967295 (by omega) (by omega)
theorem rmore_in (sum : Int) : (IntKind.u64.wrap sum).tmod 4294967296 % 4294967296 = sum % 4294967296 := by
  rw [IntKind.wrap_u64, Int.tmod_eq_emod_of_nonneg (by omega)]; omega

/-- four bytes in a new block, as a string -/
theorem conv_four {P : Program} (w : World) (b0 b1 b2 b3 : UInt8) (x0 x1 x2 x3 : Int) {src dst E : TypeId} (h0 : x0 = (b0.toNat : Int)) (h1 : x1 = (b1.toNat : Int)) (h2 : x2 = (b2.toNat : Int)) (h3 : x3 = (b3.toNat : Int))
    (hs : P.underlying src = some (.slice E)) (he : P.underlying E = some (.int .u8)) (hd : P.underlying dst = some .string) :
    (convert src dst (.slice (some ⟨w.heap.size, 0, none⟩) 4 4)).run P (w.alloc (.cells #[.int .u8 x0, .int .u8 x1, .int .u8 x2, .int .u8 x3] E)) = .ok (.string ⟨#[b0, b1, b2, b3]⟩) (w.alloc (.cells #[.int .u8 x0, .int .u8 x1, .int .u8 x2, .int .u8 x3] E)) := by
  subst h0 h1 h2 h3
  have ho : OwnsB (w.alloc (.cells #[.int .u8 (b0.toNat : Int), .int .u8 (b1.toNat : Int), .int .u8 (b2.toNat : Int), .int .u8 (b3.toNat : Int)] E)) 0 E (.slice (some ⟨w.heap.size, 0, none⟩) 4 4) [b0, b1, b2, b3] :=
    ⟨rfl, .inr ⟨w.heap.size, 4, _, rfl, Nat.zero_le _, heap_alloc_new w _, by simp, by unfold maxLen; omega, rfl, rfl⟩⟩
  exact ownsB_conv ho hs he hd
theorem wr_at (n : Nat) (hn : n < 4294967296) : (n : Int) / 16777216 = ((UInt8.ofNat (n / 16777216 % 256)).toNat : Int) ∧ (n : Int) / 65536 % 256 = ((UInt8.ofNat (n / 65536 % 256)).toNat : Int) ∧ (n : Int) / 256 % 256 = ((UInt8.ofNat (n / 256 % 256)).toNat : Int) ∧ (n : Int) % 256 = ((UInt8.ofNat (n % 256)).toNat : Int) := by
  simp; omega
theorem conv_wr {P : Program} (w : World) (n : Nat) (hn : n < 4294967296) {src dst E : TypeId}
    (hs : P.underlying src = some (.slice E)) (he : P.underlying E = some (.int .u8)) (hd : P.underlying dst = some .string) :
    (convert src dst (.slice (some ⟨w.heap.size, 0, none⟩) 4 4)).run P (w.alloc (.cells #[.int .u8 ((n : Int) / 16777216), .int .u8 ((n : Int) / 65536 % 256), .int .u8 ((n : Int) / 256 % 256), .int .u8 ((n : Int) % 256)] E)) = .ok (.string ⟨(Crc.wr n).toArray⟩) (w.alloc (.cells #[.int .u8 ((n : Int) / 16777216), .int .u8 ((n : Int) / 65536 % 256), .int .u8 ((n : Int) / 256 % 256), .int .u8 ((n : Int) % 256)] E)) :=
  have h := wr_at n hn
  conv_four w _ _ _ _ _ _ _ _ h.1 h.2.1 h.2.2.1 h.2.2.2 hs he hd

set_option maxRecDepth 100000 in
set_option maxHeartbeats 800000 in
theorem written_any (n : Nat) (w : World) (hn : n < 4294967296) :
    Calls Try.prog 78 #[.int .i64 (n : Int)] w fun e w' => e = .returned (.string ⟨(Crc.wr n).toArray⟩) ∧ Below w.heap.size w w' := by
  have hconv := conv_wr (P := Try.prog) (src := 74) (dst := 9) w n hn Try.underlying74 Try.underlying5 Try.underlying9
  go_enter Try.func78, Try.ntmps78
  go_wp2_with fail
  go_ret
  exact ⟨rfl, (Below.refl _ _).alloc (Nat.le_refl _) _⟩
end Go.Proofs.Ytednmncapfclfaa

/-
  Layer 2: what Seal and Right answer, and the document's.
-/
namespace Go.Proofs.Ytednmncapfclfaa
open Go.RowKit

/-- a sealed text -/
def Crc.sealB (s : ByteArray) : ByteArray := s ++ ⟨(Crc.wr (Crc.sum s.data.toList)).toArray⟩
theorem sealB_list (s : ByteArray) : (Crc.sealB s).data.toList = Crc.seal4 s.data.toList := by
  unfold Crc.sealB Crc.seal4; rw [ByteArray.data_append, Array.toList_append]
theorem sealB_size (s : ByteArray) : (Crc.sealB s).size = s.size + 4 := by
  unfold Crc.sealB; rw [ByteArray.size_append]; rfl

theorem right_less (s : ByteArray) (h : s.size < 4) : Crc.right s.data.toList = false := by
  unfold Crc.right
  have : ¬ 4 ≤ s.data.toList.length := by simp; omega
  simp only [this, decide_false, Bool.false_and]
theorem ext_front (s : ByteArray) (n : Nat) : (s.extract 0 n).data.toList = s.data.toList.take n := by
  rw [ByteArray.data_extract, Array.toList_extract]; simp [List.extract]
theorem ext_back (s : ByteArray) (n : Nat) : (s.extract n s.size).data.toList = s.data.toList.drop n := by
  rw [ByteArray.data_extract, Array.toList_extract, List.extract, List.take_of_length_le (by simp)]
theorem right_cut (s : ByteArray) (h : 4 ≤ s.size) : ((s.extract (s.size - 4) s.size).toList == (⟨(Crc.wr (Crc.sum (s.extract 0 (s.size - 4)).data.toList)).toArray⟩ : ByteArray).toList) = Crc.right s.data.toList := by
  rw [ByteArray.toList_eq, ByteArray.toList_eq, ext_front, ext_back]
  unfold Crc.right
  have e : s.data.toList.length = s.size := by simp
  simp only [e, h, decide_true, Bool.true_and]
theorem rright_cut (s : ByteArray) (h : 4 ≤ s.size) : ((Crc.sealB (s.extract 0 (s.size - 4))).toList == s.toList) = Crc.right s.data.toList := by
  rw [ByteArray.toList_eq, ByteArray.toList_eq, sealB_list, ext_front]
  unfold Crc.right Crc.seal4
  have e : s.data.toList.length = s.size := by simp
  simp only [e, h, decide_true, Bool.true_and]
  generalize Crc.wr (Crc.sum (s.data.toList.take (s.size - 4))) = r
  rw [Bool.eq_iff_iff, beq_iff_eq, beq_iff_eq]
  constructor
  · intro h2
    have h3 := congrArg (List.drop (s.size - 4)) h2
    rw [List.drop_left' (by simp)] at h3
    exact h3.symm
  · intro h2
    rw [← h2, List.take_append_drop]

set_option maxRecDepth 100000 in
set_option maxHeartbeats 800000 in
theorem seal_any (s : ByteArray) (w : World) (hs : s.size ≤ 140737488355323) :
    Calls Try.prog 74 #[.string s] w fun e w' => e = .returned (.string (Crc.sealB s)) ∧ Below w.heap.size w w' := by
  have hm : s.size ≤ maxLen := by unfold maxLen; omega
  have hz : s.size + 4 ≤ 9223372036854775807 := by omega
  have hl := Crc.sum_lt s.data.toList
  have hw : (⟨(Crc.wr (Crc.sum s.data.toList)).toArray⟩ : ByteArray).size = 4 := rfl
  have HW := Lib.hid (And.intro hm hw); clear hm hw
  go_enter Try.func74, Try.ntmps74
  go_wp2_with fail
  refine (sum_one s _ HW.out.1).mono ?_
  rintro e w1 ⟨rfl, hb⟩
  have HB := Lib.hid hb; clear hb
  go_wp2_with fail
  refine (written_any _ _ hl).mono ?_
  rintro e w2 ⟨rfl, hb⟩
  have HB2 := Lib.hid hb; clear hb
  have hw := HW.out.2
  generalize hG : (⟨(Crc.wr (Crc.sum s.data.toList)).toArray⟩ : ByteArray) = G at *
  have HG := Lib.hid hG; clear hG
  have hg : s.size + G.size ≤ 9223372036854775807 := by omega
  clear hw
  go_wp2_with fail
  go_ret
  exact ⟨ret_str (by rw [← HG.out]; rfl), HB.out.trans (HB2.out.mono HB.out.size)⟩

set_option maxRecDepth 100000 in
set_option maxHeartbeats 800000 in
theorem rseal_any (s : ByteArray) (w : World) (hs : s.size ≤ 140737488355323) :
    Calls Try.prog 71 #[.string s] w fun e w' => e = .returned (.string (Crc.sealB s)) ∧ Below w.heap.size w w' := by
  have hm : s.size ≤ maxLen := by unfold maxLen; omega
  have HM := Lib.hid hm; clear hm
  have hl := Crc.sum_lt s.data.toList
  go_enter Try.func71, Try.ntmps71
  go_wp2_with fail
  refine (rsum_any s _ HM.out).mono ?_
  rintro e w1 ⟨rfl, rfl⟩
  have hconv := conv_wr (P := Try.prog) (src := 74) (dst := 9) w _ hl Try.underlying74 Try.underlying5 Try.underlying9
  have hw : (⟨(Crc.wr (Crc.sum s.data.toList)).toArray⟩ : ByteArray).size = 4 := rfl
  generalize hG : (⟨(Crc.wr (Crc.sum s.data.toList)).toArray⟩ : ByteArray) = G at *
  have HG := Lib.hid hG; clear hG
  have hg : s.size + G.size ≤ 9223372036854775807 := by omega
  clear hw
  generalize Crc.sum s.data.toList = S at hl hconv ⊢
  go_wp2_with fail
  go_ret
  exact ⟨ret_str (by rw [← HG.out]; rfl), (Below.refl _ _).alloc (Nat.le_refl _) _⟩

theorem sum_one_drew (s : ByteArray) (w : World) (hs : s.size ≤ maxLen) :
    Calls Try.prog 79 #[.slice (some ⟨w.heap.size, 0, none⟩) 1 1] (w.alloc (.cells #[.string s] 9)).drew fun e w' => e = .returned (.int .i64 (Crc.sum s.data.toList : Int)) ∧ Below w.heap.size w w' :=
  (sum_one s w.drew hs).mono fun _ _ h => ⟨h.1, (below_drewN (Below.refl _ w) 1).trans h.2⟩

end Go.Proofs.Ytednmncapfclfaa

/-
  Layer 5: leaves: zeros, the numbers of both halves, the length, the text, whether a block is empty.
-/
namespace Go.Proofs.Ytednmncapfclfaa
open Go.RowKit

theorem ba_eq {a b : ByteArray} (h : a.toList = b.toList) : a = b := by
  rw [ByteArray.toList_eq, ByteArray.toList_eq] at h; exact Go.WideShapes.bytes_inj h
theorem ba_beq {a b : ByteArray} : (a.toList == b.toList) = decide (a = b) := by
  rw [Bool.eq_iff_iff, beq_iff_eq, decide_eq_true_iff]
  exact ⟨ba_eq, fun h => by rw [h]⟩
/-- so many bytes 0 -/
def Sl.zer (n : Nat) : ByteArray := ⟨(List.replicate n 0).toArray⟩
theorem Sl.zer_size (n : Nat) : (Sl.zer n).size = n := by rw [Sl.size_list]; exact List.length_replicate

set_option maxRecDepth 100000 in
set_option maxHeartbeats 800000 in
theorem zeros_any (n : Nat) (hn : n ≤ 4096) (w : World) :
    Calls Try.prog 61 #[.int .i64 (n : Int)] w fun e w' => e = .returned (.string (Sl.zer n)) ∧ Below w.heap.size w w' := by
  obtain ⟨i0, hi, hz0, hz1, hz2⟩ := info_parts Try.info5
  have hmb : i0.bytes * n ≤ 281474976710656 := by rw [hz2]; omega
  have hml : n ≤ maxLen := by unfold maxLen; omega
  have HI := Lib.hid (And.intro hi (And.intro hz0 (And.intro hz1 (And.intro hmb hml))))
  clear hi hz0 hz1 hz2 hmb hml
  go_enter Try.func61, Try.ntmps61
  go_wp2_with (at_make; go_loud (refine wpList_make_full _ rfl _ _ 74 rfl w.heap.size 5 i0 (.int .u8 0) 1 Try.underlying74 HI.out.1 HI.out.2.1 HI.out.2.2.1 .i64 .i64 _ _ n rfl rfl (by omega) (by omega) HI.out.2.2.2.1 HI.out.2.2.2.2 (Nat.le_refl _) ?_))
  intro w1 hown hgrow
  have ho : OwnsB w1 w.heap.size 5 _ (List.replicate n 0) := ownsB_made hown
  have hb : Below w.heap.size w w1 := (Below.refl _ w).grown hgrow (Nat.le_refl _) (by simp)
  have hconv := ownsB_conv (P := Try.prog) (src := 74) (dst := 9) ho Try.underlying74 Try.underlying5 Try.underlying9
  have HF := Lib.hid hb
  clear ho hb hown hgrow
  go_wp2
  go_ret
  exact ⟨rfl, HF.out⟩

theorem right5_any (n : Int) (w : World) :
    Calls Try.prog 66 #[.int .i64 n] w fun e w' => e = .returned (.bool (decide (1 ≤ n ∧ n ≤ 4611686018427387904))) ∧ w = w' := by
  by_cases h1 : 1 ≤ n
  · by_cases h2 : n ≤ 4611686018427387904
    · have e : decide (1 ≤ n ∧ n ≤ 4611686018427387904) = true := decide_eq_true ⟨h1, h2⟩
      rw [e]
      clear e
      go_enter Try.func66, Try.ntmps66
      go_wp2
      go_ret
      exact ⟨by simp, rfl⟩
    · have e : decide (1 ≤ n ∧ n ≤ 4611686018427387904) = false := decide_eq_false fun h => h2 h.2
      rw [e]
      clear e
      go_enter Try.func66, Try.ntmps66
      go_wp2
      go_ret
      exact ⟨by simp, rfl⟩
  · have e : decide (1 ≤ n ∧ n ≤ 4611686018427387904) = false := decide_eq_false fun h => h1 h.1
    rw [e]
    clear e
    go_enter Try.func66, Try.ntmps66
    go_wp2
    go_ret
    exact ⟨by simp, rfl⟩

theorem Sl.one_rd (b : ByteArray) : Oct.rd b = Sl.one b := by
  unfold Sl.one
  rw [Sl.rd_eq b _ rfl, Sl.rd_eq (b.extract 0 8) _ rfl, Sl.ext_first, List.take_take]; rfl
theorem Sl.take_min (r : List UInt8) (k n : Nat) (h : r.length = n) : r.take (min k n) = r.take k := by
  subst h; rw [← List.take_take, List.take_of_length_le (Nat.le_refl r.length)]
theorem Sl.two_rd (b : ByteArray) : Oct.rd (b.extract 256 b.size) = Sl.two b := by
  have hl : (b.data.toList.drop 256).length = b.size - 256 := by rw [List.length_drop, ← Sl.size_list]
  unfold Sl.two
  rw [Sl.rd_eq (b.extract 256 b.size) _ rfl, Sl.rd_eq (b.extract 256 264) _ rfl, Sl.ext_list, Sl.ext_list]
  generalize b.data.toList.drop 256 = r at hl
  rw [List.take_take, List.take_take, Sl.take_min r 8 _ hl]; rfl

set_option maxRecDepth 100000 in
set_option maxHeartbeats 800000 in
theorem halves_any (b : ByteArray) (hb : b.size ≤ maxLen) (w : World) :
    Calls Try.prog 64 #[.string b] w fun e w' => e = .returned (.tuple #[.int .i64 (Sl.halves b).1, .int .i64 (Sl.halves b).2]) ∧ ∃ n, w' = w.drewN n := by
  by_cases h : b.size = 512
  · have e : Sl.halves b = (Sl.one b, Sl.two b) := by unfold Sl.halves; rw [if_pos h]
    have e1 := Sl.one_rd b
    have e2 := Sl.two_rd b
    rw [h] at e2
    rw [e, ← e1, ← e2]
    have z2 : (b.extract 256 512).size ≤ maxLen := by rw [ByteArray.size_extract]; unfold maxLen; omega
    have c1 := fun w => (oread_any b w hb).mono fun _ _ h => And.intro h.1 h.2.symm
    have c2 := fun w => (oread_any (b.extract 256 512) w z2).mono fun _ _ h => And.intro h.1 h.2.symm
    generalize Oct.rd b = X at c1 ⊢
    generalize Oct.rd (b.extract 256 512) = Y at c2 ⊢
    have H := Lib.hid (And.intro c1 c2)
    clear c1 c2 e e1 e2 z2
    have t1 : ((b.size : Int) != 512) = false := by rw [h]; rfl
    have t2 : (256 : Int) ≤ (b.size : Int) := by omega
    go_enter Try.func64, Try.ntmps64
    go_wp2_with fail
    go_quiet (first
      | (go_at_call_has 72 (Value.string b); exact Calls.quiet_of_same (H.out.1 _))
      | (go_at_call_has 72 (Value.string (b.extract 256 512)); exact Calls.quiet_of_same (H.out.2 _)))
    go_wp2_with fail
    go_ret2
    exact ⟨rfl, _, rfl⟩
  · have e : Sl.halves b = (0, 0) := by unfold Sl.halves; rw [if_neg h]
    rw [e]
    have t1 : ((b.size : Int) != 512) = true := by simpa using (by omega : ¬ (b.size : Int) = 512)
    clear e
    go_enter Try.func64, Try.ntmps64
    go_wp2_with fail
    go_ret2
    exact ⟨rfl, 0, rfl⟩

set_option maxRecDepth 100000 in
set_option maxHeartbeats 800000 in
theorem rhalves_any (b : ByteArray) (_hb : b.size ≤ maxLen) (w : World) :
    Calls Try.prog 60 #[.string b] w fun e w' => e = .returned (.tuple #[.int .i64 (Sl.halves b).1, .int .i64 (Sl.halves b).2]) ∧ ∃ n, w' = w.drewN n := by
  by_cases h : b.size = 512
  · have e : Sl.halves b = (Sl.one b, Sl.two b) := by unfold Sl.halves; rw [if_pos h]
    rw [e]
    unfold Sl.one Sl.two
    have z1 : (b.extract 0 8).size ≤ maxLen := by rw [ByteArray.size_extract]; unfold maxLen; omega
    have z2 : (b.extract 256 264).size ≤ maxLen := by rw [ByteArray.size_extract]; unfold maxLen; omega
    have c1 := fun w => (roread_any (b.extract 0 8) w z1).mono fun _ _ h => And.intro h.1 h.2.symm
    have c2 := fun w => (roread_any (b.extract 256 264) w z2).mono fun _ _ h => And.intro h.1 h.2.symm
    generalize Oct.rd (b.extract 0 8) = X at c1 ⊢
    generalize Oct.rd (b.extract 256 264) = Y at c2 ⊢
    have H := Lib.hid (And.intro c1 c2)
    clear c1 c2 e z1 z2
    have t1 : ((b.size : Int) != 512) = false := by rw [h]; rfl
    have t2 : (264 : Int) ≤ (b.size : Int) := by omega
    have t3 : (8 : Int) ≤ (b.size : Int) := by omega
    go_enter Try.func60, Try.ntmps60
    go_wp2_with fail
    go_quiet (first
      | (go_at_call_has 62 (Value.string (b.extract 0 8)); exact Calls.quiet_of_same (H.out.1 _))
      | (go_at_call_has 62 (Value.string (b.extract 256 264)); exact Calls.quiet_of_same (H.out.2 _)))
    go_wp2_with fail
    go_ret2
    exact ⟨rfl, _, rfl⟩
  · have e : Sl.halves b = (0, 0) := by unfold Sl.halves; rw [if_neg h]
    rw [e]
    have t1 : ((b.size : Int) != 512) = true := by simpa using (by omega : ¬ (b.size : Int) = 512)
    clear e
    go_enter Try.func60, Try.ntmps60
    go_wp2_with fail
    go_ret2
    exact ⟨rfl, 0, rfl⟩

/-- how long the block says that its text is -/
theorem Sl.len_bound (b : ByteArray) : 0 ≤ Sl.len b ∧ Sl.len b ≤ 65535 := by
  unfold Sl.len
  rw [Sl.rd_eq (b.extract 8 10) _ rfl, Sl.ext_list, List.take_take]
  have h : ((b.data.toList.drop 8).take (min 8 (10 - 8))).length ≤ 2 := by rw [List.length_take]; omega
  generalize (b.data.toList.drop 8).take (min 8 (10 - 8)) = l at h
  have h2 := Oct.be_lt l
  have h3 : 2 ^ (l.length * 8) ≤ 2 ^ 16 := Nat.pow_le_pow_right (by omega) (by omega)
  rw [IntKind.wrap_i64]
  omega
set_option maxRecDepth 100000 in
theorem length_any (b : ByteArray) (hb : b.size = 512) (w : World) :
    Calls Try.prog 67 #[.string b] w fun e w' => e = .returned (.int .i64 (Sl.len b)) ∧ w' = w := by
  have z1 : (b.extract 8 10).size ≤ maxLen := by rw [ByteArray.size_extract]; unfold maxLen; omega
  have c1 := fun w => oread_any (b.extract 8 10) w z1
  unfold Sl.len
  generalize Oct.rd (b.extract 8 10) = X at c1 ⊢
  have H := Lib.hid c1
  clear c1 z1
  have t2 : (10 : Int) ≤ (b.size : Int) := by omega
  go_enter Try.func67, Try.ntmps67
  go_wp2_with fail
  refine (H.out _).mono ?_
  rintro e w1 ⟨rfl, hw⟩
  subst hw
  go_wp2_with fail
  go_ret
  exact ⟨rfl, rfl⟩

/-- the text, cut out in two parts -/
def Sl.txt (b : ByteArray) : ByteArray := (Sl.all b).extract 0 (Sl.len b).toNat
theorem Sl.ext_app (b : ByteArray) (i j k l : Nat) : (b.extract i j ++ b.extract k l).data.toList = (b.data.toList.drop i).take (j - i) ++ (b.data.toList.drop k).take (l - k) := by
  rw [ByteArray.data_append, Array.toList_append, Sl.ext_list, Sl.ext_list]
theorem Sl.txt_short (b : ByteArray) (hb : b.size = 512) (n : Nat) (h : n ≤ 246) : b.extract 10 (10 + n) = (Sl.all b).extract 0 n := by
  apply Sl.ba_ext
  have hl : ((b.data.toList.drop 10).take 246).length = 246 := by rw [List.length_take, List.length_drop, ← Sl.size_list]; omega
  rw [Sl.ext_list, Sl.ext_first]
  unfold Sl.all
  rw [Sl.ext_app, show 256 - 10 = 246 from rfl, List.take_append_of_le_length (by omega), List.take_take, show min n 246 = n by omega, show 10 + n - 10 = n by omega]
theorem Sl.txt_long (b : ByteArray) (hb : b.size = 512) (n : Nat) (h : 246 ≤ n) (h2 : n ≤ 490) : b.extract 10 256 ++ b.extract 264 (264 + n - 246) = (Sl.all b).extract 0 n := by
  apply Sl.ba_ext
  have hl : ((b.data.toList.drop 10).take 246).length = 246 := by rw [List.length_take, List.length_drop, ← Sl.size_list]; omega
  rw [Sl.ext_app, Sl.ext_first]
  unfold Sl.all
  rw [Sl.ext_app, show 256 - 10 = 246 from rfl, show 508 - 264 = 244 from rfl, List.take_append, hl, List.take_of_length_le (by omega : ((b.data.toList.drop 10).take 246).length ≤ n), List.take_take, show min (n - 246) 244 = 264 + n - 246 - 264 by omega]
set_option maxRecDepth 100000 in
set_option maxHeartbeats 800000 in
theorem text5_any (b : ByteArray) (hb : b.size = 512) (hl : Sl.len b ≤ 490) (w : World) :
    Calls Try.prog 69 #[.string b] w fun e w' => e = .returned (.string (Sl.txt b)) ∧ ∃ n, w' = w.drewN n := by
  obtain ⟨n, hn⟩ : ∃ n : Nat, Sl.len b = (n : Int) := ⟨_, (Int.toNat_of_nonneg (Sl.len_bound b).1).symm⟩
  have c1 := fun w => length_any b hb w
  have e : Sl.txt b = (Sl.all b).extract 0 n := by unfold Sl.txt; rw [hn, Int.toNat_natCast]
  rw [hn] at c1 hl
  rw [e]
  have hn490 : n ≤ 490 := by omega
  by_cases h : n ≤ 246
  · rw [← Sl.txt_short b hb n h]
    have H := Lib.hid c1
    have m : min (n : Int) 246 = (n : Int) := by omega
    clear c1 e hn
    have t1 : (10 : Int) ≤ 10 + (n : Int) := by omega
    have t2 : 10 + (n : Int) ≤ (b.size : Int) := by omega
    have t3 : (264 : Int) ≤ (b.size : Int) := by omega
    have t4 : (264 : Int) + (n : Int) - (n : Int) = 264 := by omega
    go_enter Try.func69, Try.ntmps69
    go_wp2_with fail
    refine (H.out _).mono ?_
    rintro e w1 ⟨rfl, hw⟩
    subst hw
    go_wp2_with fail
    go_quiet (fail)
    go_wp2_with fail
    go_ret
    exact ⟨rfl, _, rfl⟩
  · rw [← Sl.txt_long b hb n (by omega) hn490]
    have H := Lib.hid c1
    have m : min (n : Int) 246 = 246 := by omega
    clear c1 e hn
    have t1 : (264 : Int) ≤ 264 + (n : Int) - 246 := by omega
    have t2 : 264 + (n : Int) - 246 ≤ (b.size : Int) := by omega
    go_enter Try.func69, Try.ntmps69
    go_wp2_with fail
    refine (H.out _).mono ?_
    rintro e w1 ⟨rfl, hw⟩
    subst hw
    go_wp2_with fail
    go_quiet (fail)
    go_wp2_with fail
    go_ret
    exact ⟨rfl, _, rfl⟩
end Go.Proofs.Ytednmncapfclfaa

/-
  Texts, one behind the other, as bytes; slices of one, two strings that a call makes.
-/
namespace Go.Proofs.Ytednmncapfclfaa
open Go.RowKit

/-- texts, one behind the other -/
def catB (l : List ByteArray) : List UInt8 := l.flatMap fun s => s.data.toList
theorem catB_take (l : List ByteArray) (k : Nat) (h : k < l.length) : catB (l.take (k + 1)) = catB (l.take k) ++ (l[k]).data.toList := by
  unfold catB; rw [List.take_succ_eq_append_getElem h, List.flatMap_append]; simp
theorem catB_one (s : ByteArray) : catB [s] = s.data.toList := by simp [catB]
theorem catB_two (s t : ByteArray) : catB [s, t] = s.data.toList ++ t.data.toList := by simp [catB]
theorem catB_le (l : List ByteArray) (k : Nat) : (catB (l.take k)).length ≤ (catB l).length := by
  have : catB l = catB (l.take k) ++ catB (l.drop k) := by unfold catB; rw [← List.flatMap_append, List.take_append_drop]
  rw [this, List.length_append]; omega
theorem byte_take (s : ByteArray) (k : Nat) (h : k < s.size) : s.data.toList.take (k + 1) = s.data.toList.take k ++ [s[k]] := by
  rw [List.take_succ_eq_append_getElem (by simpa using h)]; rfl
theorem reads_one (w : World) (s : ByteArray) (t : TypeId) : ReadsS (w.alloc (.cells #[.string s] t)) (some ⟨w.heap.size, 0, none⟩) [s] := by
  intro i hi
  refine ⟨_, _, rfl, ?_⟩
  obtain rfl : i = 0 := by simp at hi; omega
  rw [cell_of_row _ _ _ #[.string s] t (0, 0) (heap_alloc_new w _)]; rfl
theorem reads_two (w : World) (x y : ByteArray) (t : TypeId) : ReadsS (w.alloc (.cells #[.string x, .string y] t)) (some ⟨w.heap.size, 0, none⟩) [x, y] := by
  intro i hi
  refine ⟨_, _, rfl, ?_⟩
  rw [cell_of_row _ _ _ #[.string x, .string y] t (0, 0) (heap_alloc_new w _)]
  simp at hi
  match i, hi with
  | 0, _ => rfl
  | 1, _ => rfl
theorem below_made {w w' : World} {o : Obj} (h : Below (w.alloc o).heap.size (w.alloc o) w') : Below w.heap.size w w' :=
  ((Below.refl _ w).alloc (Nat.le_refl _) o).trans (h.mono (by simp))
end Go.Proofs.Ytednmncapfclfaa

/-
  Layer 5: the block itself, laid in an array, and by the document.
-/
namespace Go.Proofs.Ytednmncapfclfaa
open Go.RowKit

theorem arr508_zero : (Try.prog.info? 112).map (fun i => (i.zero, i.size)) = some (some (.agg (valB (List.replicate 508 0)).toArray), 508) := by kernel_rfl
theorem arr512_zero : (Try.prog.info? 87).map (fun i => (i.zero, i.size)) = some (some (.agg (valB (List.replicate 512 0)).toArray), 512) := by kernel_rfl

set_option maxRecDepth 100000 in
set_option maxHeartbeats 800000 in
theorem empty5_any (b : ByteArray) (w : World) :
    Calls Try.prog 65 #[.string b] w fun e w' => e = .returned (.bool (decide (b = Sl.zeros))) ∧ Below w.heap.size w w' := by
  have hz := (zero_of_info (P := Try.prog) arr512_zero).1
  have h0 := laid_new w 87 512 (List.replicate 512 0) List.length_replicate
  have hl : (⟨(List.replicate 512 0).toArray⟩ : ByteArray) = Sl.zeros := rfl
  have hconv := laid_conv h0
  rw [hl] at hconv
  have HB := Lib.hid h0.below
  clear h0 hl
  generalize valB (List.replicate 512 0) = Z at *
  generalize Sl.zeros = Y at *
  go_enter Try.func65, Try.ntmps65
  go_wp2_with fail
  go_ret
  exact ⟨by simp; exact ba_beq, HB.out⟩

/-- what the array holds in the end -/
theorem Sl.laid_pre (n : Int) (s : List UInt8) (c : Nat) (hc : c = min s.length 246) (hs : s.length ≤ 490) :
    spl (spl (spl (spl (spl (List.replicate 508 0) 0 (Oct.fix n 8)) 8 (Oct.fix s.length 2)) 10 (s.take c)) 256 (Oct.fix n 8)) 264 (s.drop c) = Sl.pre n s := by
  have l8 := Oct.fix_len n 8
  have l2 := Oct.fix_len s.length 2
  have lc : (s.take c).length = c := by rw [List.length_take]; omega
  have ld : (s.drop c).length = s.length - c := List.length_drop
  have e1 : spl (List.replicate 508 0) 0 (Oct.fix n 8) = Oct.fix n 8 ++ List.replicate 500 0 := by
    have := spl_end [] (Oct.fix n 8) 0 508 rfl (by omega)
    rw [l8, List.nil_append, List.nil_append] at this
    exact this
  have e2 : spl (Oct.fix n 8 ++ List.replicate 500 0) 8 (Oct.fix s.length 2) = Oct.fix n 8 ++ Oct.fix s.length 2 ++ List.replicate 498 0 := by
    have := spl_end (Oct.fix n 8) (Oct.fix s.length 2) 8 500 l8 (by omega)
    rw [l2] at this; exact this
  have e3 : spl (Oct.fix n 8 ++ Oct.fix s.length 2 ++ List.replicate 498 0) 10 (s.take c) = (Oct.fix n 8 ++ Oct.fix s.length 2 ++ s.take c ++ List.replicate (246 - c) 0) ++ List.replicate 252 0 := by
    rw [spl_end _ (s.take c) 10 498 (by rw [List.length_append]; omega) (by omega), lc, List.append_assoc _ (List.replicate (246 - c) 0), List.replicate_append_replicate, show 498 - c = 246 - c + 252 by omega]
  have e4 : spl ((Oct.fix n 8 ++ Oct.fix s.length 2 ++ s.take c ++ List.replicate (246 - c) 0) ++ List.replicate 252 0) 256 (Oct.fix n 8) = (Oct.fix n 8 ++ Oct.fix s.length 2 ++ s.take c ++ List.replicate (246 - c) 0) ++ Oct.fix n 8 ++ List.replicate 244 0 := by
    have := spl_end (Oct.fix n 8 ++ Oct.fix s.length 2 ++ s.take c ++ List.replicate (246 - c) 0) (Oct.fix n 8) 256 252 (by simp only [List.length_append, List.length_replicate]; omega) (by omega)
    rw [l8] at this; exact this
  have e5 : spl ((Oct.fix n 8 ++ Oct.fix s.length 2 ++ s.take c ++ List.replicate (246 - c) 0) ++ Oct.fix n 8 ++ List.replicate 244 0) 264 (s.drop c) = (Oct.fix n 8 ++ Oct.fix s.length 2 ++ s.take c ++ List.replicate (246 - c) 0) ++ Oct.fix n 8 ++ s.drop c ++ List.replicate (244 - (s.length - c)) 0 := by
    have := spl_end ((Oct.fix n 8 ++ Oct.fix s.length 2 ++ s.take c ++ List.replicate (246 - c) 0) ++ Oct.fix n 8) (s.drop c) 264 244 (by simp only [List.length_append, List.length_replicate]; omega) (by omega)
    rw [ld] at this; exact this
  rw [e1, e2, e3, e4, e5]
  have f : s.take c ++ List.replicate (246 - c) 0 = (Sl.body s).take 246 ∧ s.drop c ++ List.replicate (244 - (s.length - c)) 0 = (Sl.body s).drop 246 := by
    by_cases h : s.length ≤ 246
    · obtain rfl : c = s.length := by omega
      exact ⟨by rw [List.take_of_length_le (Nat.le_refl _)]; exact Sl.front_short s h, by rw [List.drop_of_length_le (Nat.le_refl _), List.nil_append, Nat.sub_self]; exact Sl.back_short s h⟩
    · obtain rfl : c = 246 := by omega
      exact ⟨by rw [Nat.sub_self, List.replicate_zero, List.append_nil]; exact Sl.front_long s (by omega), Sl.back_long s (by omega)⟩
  unfold Sl.pre
  rw [← f.1, ← f.2]
  simp only [List.append_assoc]
theorem Sl.seal_blk (n : Int) (s : List UInt8) : Crc.sealB ⟨(Sl.pre n s).toArray⟩ = ⟨(Sl.blk n s).toArray⟩ := by
  apply Sl.ba_ext
  rw [sealB_list]; rfl

set_option maxRecDepth 100000 in
set_option maxHeartbeats 1600000 in
theorem sealed_any (n : Int) (s : ByteArray) (hs : s.size ≤ 490) (w : World) :
    Calls Try.prog 68 #[.int .i64 n, .string s] w fun e w' => e = .returned (.string ⟨(Sl.blk n s.data.toList).toArray⟩) ∧ Below w.heap.size w w' := by
  have hz := (zero_of_info (P := Try.prog) arr508_zero).1
  have h0 := laid_new w 112 508 (List.replicate 508 0) List.length_replicate
  obtain ⟨c, hc⟩ : ∃ c : Nat, c = min s.size 246 := ⟨_, rfl⟩
  have hcm : ∀ (ts : Array TypeId) (t : TypeId) (W : World), (Builtin.min_ ts t #[.int .i64 (s.size : Int), .int .i64 246]).run Try.prog W = .ok (.int .i64 (c : Int)) W := fun ts t W => by
    have e : (if (246 : Int) < (s.size : Int) then (246 : Int) else (s.size : Int)) = (c : Int) := by split <;> omega
    simp [Builtin.min_, Builtin.min2, e]
  have c1 : c ≤ s.size := by omega
  have c2 : c ≤ 246 := by omega
  have c3 : s.size - c ≤ 244 := by omega
  have e8 : Oct.cnt 8 = 8 := by decide
  have e2 : Oct.cnt 2 = 2 := by decide
  have f8 := fun w => fixed_any n 8 w
  have f2 := fun w => fixed_any (s.size : Int) 2 w
  rw [e8] at f8
  rw [e2] at f2
  have hend := Sl.laid_pre n s.data.toList c (by rw [← Sl.size_list]; exact hc) (by rw [← Sl.size_list]; exact hs)
  have l8 := Oct.fix_len n 8
  have l2 := Oct.fix_len (s.size : Int) 2
  rw [← Sl.size_list] at hend
  have hx1 : (s.extract 0 c).data.toList = s.data.toList.take c := Sl.ext_first s c
  have hx2 : (s.extract c s.size).data.toList = s.data.toList.drop c := ext_back s c
  have z1 : (s.extract 0 c).size = c := by rw [ByteArray.size_extract]; omega
  have z2 : (s.extract c s.size).size = s.size - c := by rw [ByteArray.size_extract]; omega
  rw [← hx1, ← hx2] at hend
  have hfin := Sl.seal_blk n s.data.toList
  have hpl : (Sl.pre n s.data.toList).length = 508 := Sl.pre_len n _ (by rw [← Sl.size_list]; exact hs)
  rw [← hend] at hfin hpl
  rw [← hfin]
  clear hfin
  generalize hR : Crc.sealB _ = R
  generalize Oct.fix n 8 = F8 at *
  generalize Oct.fix (s.size : Int) 2 = F2 at *
  have b8 : (⟨F8.toArray⟩ : ByteArray).size = 8 := by rw [Sl.size_list]; exact l8
  have b2 : (⟨F2.toArray⟩ : ByteArray).size = 2 := by rw [Sl.size_list]; exact l2
  have d8 : (⟨F8.toArray⟩ : ByteArray).data.toList = F8 := rfl
  have d2 : (⟨F2.toArray⟩ : ByteArray).data.toList = F2 := rfl
  generalize (⟨F8.toArray⟩ : ByteArray) = B8 at *
  generalize (⟨F2.toArray⟩ : ByteArray) = B2 at *
  subst d8 d2
  have hsl : ∀ x : List UInt8, x.length = 508 → (⟨x.toArray⟩ : ByteArray).size ≤ 140737488355323 := fun x h => by rw [Sl.size_list]; show x.length ≤ _; omega
  have hv : valB (List.replicate 508 0) = valB (List.replicate 508 0) := rfl
  generalize hLZ : List.replicate 508 (0 : UInt8) = LZ at *
  have HH := Lib.hid (And.intro f8 (And.intro f2 (And.intro h0 (And.intro hpl (And.intro (hsl _ hpl) hR)))))
  clear f8 f2 h0 hpl hsl hx1 hx2 hend hR hc hv e8 e2 hLZ l8 l2 hs
  go_enter Try.func68, Try.ntmps68
  go_wp2_with fail
  have h0 := HH.out.2.2.1
  generalize hw0 : World.alloc _ _ = w0 at *
  clear hw0
  refine (HH.out.1 _).mono ?_
  rintro e w1 ⟨rfl, hb⟩
  have h1 := laid_below h0 hb
  have t1 := laid_there h1 0 508 (by omega)
  have H1 := Lib.hid h1
  clear h0 h1 hb
  go_wp2_with (refine wpList_copy_str rfl (.tmp 13) (.tmp 14) 74 9 rfl 5 Try.underlying74 one_byte w.heap.size 0 508 508 rfl B8 rfl (by omega) t1 ?_)
  have h1 := laid_put H1.out 0 B8 (by omega)
  clear H1 t1
  generalize hp1 : spl LZ 0 B8.data.toList = p1 at *
  generalize hw2 : World.setCells _ _ _ _ = w2 at *
  clear hw2 hp1
  refine wp_region_quiet_tail (C := fun w' => Laid w w' w.heap.size 112 508 p1) 4 (by kernel_rfl) (by kernel_rfl) (laid_drew h1) ?_
  simp only [List.take_succ_cons, List.take_zero, List.drop_succ_cons, List.drop_zero]
  iterate 3
    refine wpQuiet_read ?_
    apply Exists.intro
    refine ⟨⟨by rfl, fun wx hSx => ?_⟩, ?_⟩
    · go_simp
      with_reducible rfl
    simp only [Act.put, List.setIfInBounds_toArray, List.set_cons_zero, List.set_cons_succ]
  refine wpQuiet_call rfl 73 #[.int .i64 (s.size : Int), .int .i64 2] (.string B2) (fun wx hSx => by go_simp) (fun wx hSx => (HH.out.2.1 wx).mono fun e w' hh => ⟨hh.1, laid_below hSx hh.2⟩) ?_
  simp only [Act.put, List.setIfInBounds_toArray, List.set_cons_zero, List.set_cons_succ]
  refine wpQuiet_nil ?_
  intro w3 h3
  have t3 := laid_there h3 8 500 (by omega)
  have H3 := Lib.hid h3
  clear h3 h1
  go_wp2_with (refine wpList_copy_str rfl (.tmp 16) (.tmp 19) 74 9 rfl 5 Try.underlying74 one_byte w.heap.size 8 500 500 rfl B2 rfl (by omega) t3 ?_)
  have h4 := laid_put H3.out 8 B2 (by omega)
  clear H3 t3
  generalize hp2 : spl p1 8 B2.data.toList = p2 at *
  generalize hw4 : World.setCells _ _ _ _ = w4 at *
  clear hw4 hp2
  have H4 := Lib.hid h4
  clear h4
  have u1 : (c : Int) ≤ (s.size : Int) := by omega
  go_still_tail 4, (by kernel_rfl)
  change wpList _ _ _ _ _ w4.drew
  have h4 := laid_drew H4.out
  generalize w4.drew = w5 at *
  have t5 := laid_there h4 10 498 (by omega)
  have H5 := Lib.hid h4
  clear h4 H4
  refine wpList_copy_str rfl (.tmp 21) (.tmp 24) 74 9 rfl 5 Try.underlying74 one_byte w.heap.size 10 498 498 rfl (s.extract 0 c) rfl (by omega) t5 ?_
  have h6 := laid_put H5.out 10 (s.extract 0 c) (by omega)
  clear H5 t5
  generalize hp3 : spl p2 10 (s.extract 0 c).data.toList = p3 at *
  generalize hw6 : World.setCells _ _ _ _ = w6 at *
  clear hw6 hp3
  have t6 := laid_there h6 256 252 (by omega)
  have H6 := Lib.hid h6
  clear h6
  go_wp2_with (refine wpList_copy_str rfl (.tmp 26) (.tmp 27) 74 9 rfl 5 Try.underlying74 one_byte w.heap.size 256 252 252 rfl B8 rfl (by omega) t6 ?_)
  have h7 := laid_put H6.out 256 B8 (by omega)
  clear H6 t6
  generalize hp4 : spl p3 256 B8.data.toList = p4 at *
  generalize hw7 : World.setCells _ _ _ _ = w7 at *
  clear hw7 hp4
  have H7 := Lib.hid h7
  clear h7
  go_still_tail 4, (by kernel_rfl)
  change wpList _ _ _ _ _ w7.drew
  have h7 := laid_drew H7.out
  generalize w7.drew = w8 at *
  have t8 := laid_there h7 264 244 (by omega)
  have H8 := Lib.hid h7
  clear h7 H7
  refine wpList_copy_str rfl (.tmp 29) (.tmp 32) 74 9 rfl 5 Try.underlying74 one_byte w.heap.size 264 244 244 rfl (s.extract c s.size) rfl (by omega) t8 ?_
  have h9 := laid_put H8.out 264 (s.extract c s.size) (by omega)
  clear H8 t8
  generalize hp5 : spl p4 264 (s.extract c s.size).data.toList = p5 at *
  generalize hw9 : World.setCells _ _ _ _ = w9 at *
  clear hw9 hp5
  have hconv := laid_conv h9
  have H9 := Lib.hid h9.below
  clear h9
  go_wp2_with fail
  refine (seal_any _ _ HH.out.2.2.2.2.1).mono ?_
  rintro e w10 ⟨rfl, hb⟩
  have HE := Lib.hid (below_two H9.out hb)
  clear hb
  go_wp2_with fail
  go_ret
  exact ⟨ret_str HH.out.2.2.2.2.2, HE.out⟩
end Go.Proofs.Ytednmncapfclfaa

/-
  Layer 5: the block by the document.
-/
namespace Go.Proofs.Ytednmncapfclfaa
open Go.RowKit

/-! ### by the document -/
theorem Sl.doc_short (n : Int) (s : List UInt8) (h : s.length ≤ 246) :
    Oct.fix n 8 ++ Oct.fix s.length 2 ++ s ++ List.replicate (246 - s.length) 0 ++ Oct.fix n 8 ++ [] ++ List.replicate 244 0 = Sl.pre n s := by
  unfold Sl.pre
  rw [← Sl.front_short s h, ← Sl.back_short s h]
  simp only [List.append_assoc, List.nil_append]
theorem Sl.doc_long (n : Int) (s : List UInt8) (h : 246 < s.length) :
    Oct.fix n 8 ++ Oct.fix s.length 2 ++ s.take 246 ++ [] ++ Oct.fix n 8 ++ s.drop 246 ++ List.replicate (244 - (s.length - 246)) 0 = Sl.pre n s := by
  unfold Sl.pre
  rw [← Sl.front_long s h, ← Sl.back_long s h]
  simp only [List.append_assoc, List.nil_append]
theorem Sl.cat_list (a b : ByteArray) : (a ++ b).data.toList = a.data.toList ++ b.data.toList := by rw [ByteArray.data_append, Array.toList_append]
theorem Sl.zer_list (n : Nat) : (Sl.zer n).data.toList = List.replicate n 0 := rfl

set_option maxRecDepth 100000 in
set_option maxHeartbeats 1600000 in
theorem rblock_any (n : Int) (s : ByteArray) (hs : s.size ≤ 490) (w : World) :
    Calls Try.prog 63 #[.int .i64 n, .string s] w fun e w' => e = .returned (.string ⟨(Sl.blk n s.data.toList).toArray⟩) ∧ Below w.heap.size w w' := by
  have e8 : Oct.cnt 8 = 8 := by decide
  have e2 : Oct.cnt 2 = 2 := by decide
  have f8 := fun w => rfixed_any n 8 w
  have f2 := fun w => rfixed_any (s.size : Int) 2 w
  rw [e8] at f8
  rw [e2] at f2
  have l8 := Oct.fix_len n 8
  have l2 := Oct.fix_len (s.size : Int) 2
  have hfin := Sl.seal_blk n s.data.toList
  have hsl := Sl.size_list s
  have b8 : (⟨(Oct.fix n 8).toArray⟩ : ByteArray).size = 8 := by rw [Sl.size_list]; exact l8
  have b2 : (⟨(Oct.fix (s.size : Int) 2).toArray⟩ : ByteArray).size = 2 := by rw [Sl.size_list]; exact l2
  have hpl : (⟨(Sl.pre n s.data.toList).toArray⟩ : ByteArray).size ≤ 140737488355323 := by
    rw [Sl.size_list]; have := Sl.pre_len n s.data.toList (by omega); show (Sl.pre n s.data.toList).length ≤ _; omega
  by_cases h : s.size ≤ 246
  · have hd := Sl.doc_short n s.data.toList (by omega)
    rw [← hsl] at hd
    have z := fun w => zeros_any (246 - s.size) (by omega) w
    have y := fun w => zeros_any 244 (by omega) w
    have ez : ((246 - s.size : Nat) : Int) = 246 - (s.size : Int) := by omega
    rw [ez] at z
    have hE : (⟨(Oct.fix n 8).toArray⟩ : ByteArray) ++ ⟨(Oct.fix (s.size : Int) 2).toArray⟩ ++ s ++ Sl.zer (246 - s.size) ++ ⟨(Oct.fix n 8).toArray⟩ ++ ⟨#[]⟩ ++ Sl.zer 244 = ⟨(Sl.pre n s.data.toList).toArray⟩ := by
      apply Sl.ba_ext
      rw [← hd]
      simp only [Sl.cat_list, Sl.zer_list]
    have zz := Sl.zer_size (246 - s.size)
    have zy := Sl.zer_size 244
    rw [← hE] at hfin hpl
    rw [← hfin]
    clear hfin
    generalize hR : Crc.sealB _ = R
    have t1 : ¬ (246 : Int) < (s.size : Int) := by omega
    generalize (⟨(Oct.fix n 8).toArray⟩ : ByteArray) = B8 at *
    generalize (⟨(Oct.fix (s.size : Int) 2).toArray⟩ : ByteArray) = B2 at *
    generalize Sl.zer (246 - s.size) = Z1 at *
    generalize Sl.zer 244 = Z2 at *
    have HH := Lib.hid (And.intro f8 (And.intro f2 (And.intro z (And.intro y (And.intro hpl hR)))))
    clear f8 f2 z y hpl hR hE hd e8 e2 l8 l2 ez hsl
    go_enter Try.func63, Try.ntmps63
    go_wp2_with fail
    refine (HH.out.1 _).mono ?_
    rintro e w1 ⟨rfl, hb⟩
    have H1 := Lib.hid hb; clear hb
    go_wp2_with fail
    refine (HH.out.2.1 _).mono ?_
    rintro e w2 ⟨rfl, hb⟩
    have H2 := Lib.hid (below_two H1.out hb); clear hb H1
    go_wp2_with fail
    refine (HH.out.2.2.1 _).mono ?_
    rintro e w3 ⟨rfl, hb⟩
    have H3 := Lib.hid (below_two H2.out hb); clear hb H2
    go_wp2_with fail
    refine (HH.out.1 _).mono ?_
    rintro e w4 ⟨rfl, hb⟩
    have H4 := Lib.hid (below_two H3.out hb); clear hb H3
    go_wp2_with fail
    refine (HH.out.2.2.2.1 _).mono ?_
    rintro e w5 ⟨rfl, hb⟩
    have H5 := Lib.hid (below_two H4.out hb); clear hb H4
    go_wp2_with fail
    refine (rseal_any _ _ HH.out.2.2.2.2.1).mono ?_
    rintro e w6 ⟨rfl, hb⟩
    have H6 := Lib.hid (below_two H5.out hb); clear hb H5
    go_wp2_with fail
    go_ret
    exact ⟨ret_str HH.out.2.2.2.2.2, H6.out⟩
  · have hd := Sl.doc_long n s.data.toList (by omega)
    rw [← hsl] at hd
    have z := fun w => zeros_any 0 (by omega) w
    have y := fun w => zeros_any (244 - (s.size - 246)) (by omega) w
    have ez : ((244 - (s.size - 246) : Nat) : Int) = 244 - ((s.size - 246 : Nat) : Int) := by omega
    rw [ez] at y
    have hE : (⟨(Oct.fix n 8).toArray⟩ : ByteArray) ++ ⟨(Oct.fix (s.size : Int) 2).toArray⟩ ++ s.extract 0 246 ++ Sl.zer 0 ++ ⟨(Oct.fix n 8).toArray⟩ ++ s.extract 246 s.size ++ Sl.zer (244 - (s.size - 246)) = ⟨(Sl.pre n s.data.toList).toArray⟩ := by
      apply Sl.ba_ext
      rw [← hd]
      simp only [Sl.cat_list, Sl.zer_list, Sl.ext_first, ext_back, List.replicate_zero]
    have zz := Sl.zer_size (244 - (s.size - 246))
    have zy := Sl.zer_size 0
    rw [← hE] at hfin hpl
    rw [← hfin]
    clear hfin
    generalize hR : Crc.sealB _ = R
    have t1 : (246 : Int) < (s.size : Int) := by omega
    have t2 : (246 : Int) ≤ (s.size : Int) := by omega
    have z1 : (s.extract 0 246).size = 246 := by rw [ByteArray.size_extract]; omega
    have z2 : (s.extract 246 s.size).size = s.size - 246 := by rw [ByteArray.size_extract]; omega
    generalize (⟨(Oct.fix n 8).toArray⟩ : ByteArray) = B8 at *
    generalize (⟨(Oct.fix (s.size : Int) 2).toArray⟩ : ByteArray) = B2 at *
    generalize Sl.zer 0 = Z1 at *
    generalize Sl.zer (244 - (s.size - 246)) = Z2 at *
    have HH := Lib.hid (And.intro f8 (And.intro f2 (And.intro z (And.intro y (And.intro hpl hR)))))
    clear f8 f2 z y hpl hR hE hd e8 e2 l8 l2 ez hsl
    go_enter Try.func63, Try.ntmps63
    go_wp2_with fail
    go_quiet (fail)
    go_wp2_with fail
    refine (HH.out.1 _).mono ?_
    rintro e w1 ⟨rfl, hb⟩
    have H1 := Lib.hid (below_two (below_drewN (Below.refl _ _) _) hb); clear hb
    go_wp2_with fail
    refine (HH.out.2.1 _).mono ?_
    rintro e w2 ⟨rfl, hb⟩
    have H2 := Lib.hid (below_two H1.out hb); clear hb H1
    go_wp2_with fail
    refine (HH.out.2.2.1 _).mono ?_
    rintro e w3 ⟨rfl, hb⟩
    have H3 := Lib.hid (below_two H2.out hb); clear hb H2
    go_wp2_with fail
    refine (HH.out.1 _).mono ?_
    rintro e w4 ⟨rfl, hb⟩
    have H4 := Lib.hid (below_two H3.out hb); clear hb H3
    go_wp2_with fail
    refine (HH.out.2.2.2.1 _).mono ?_
    rintro e w5 ⟨rfl, hb⟩
    have H5 := Lib.hid (below_two H4.out hb); clear hb H4
    go_wp2_with fail
    refine (rseal_any _ _ HH.out.2.2.2.2.1).mono ?_
    rintro e w6 ⟨rfl, hb⟩
    have H6 := Lib.hid (below_two H5.out hb); clear hb H5
    go_wp2_with fail
    go_ret
    exact ⟨ret_str HH.out.2.2.2.2.2, H6.out⟩
end Go.Proofs.Ytednmncapfclfaa
