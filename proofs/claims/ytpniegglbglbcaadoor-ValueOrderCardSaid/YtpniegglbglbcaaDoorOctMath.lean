/-
  The plain mathematics of layer 1 (octet): numbers as digits to the base 128, lists of bytes; nothing of any program.
-/
import Derived.WalkKit
import Derived.PlainAid
namespace Go.Proofs.YtpniegglbglbcaaDoor.Oct

/-- a code's bytes -/
def num (c : Nat) : List UInt8 :=
  if c < 128 then [UInt8.ofNat c] else UInt8.ofNat (128 + c % 128) :: num (c / 128)
termination_by c
decreasing_by omega

/-- a number's code -/
def codeN (n : Int) : Nat := if n < 0 then (-2 * n - 1).toNat else (2 * n).toNat
/-- a code's number -/
def decN (c : Nat) : Int := if c % 2 = 1 then -1 - ((c / 2 : Nat) : Int) else ((c / 2 : Nat) : Int)

/-- what is taken off the front, from the byte number i on: the error, the code, what stands behind -/
def take (i : Nat) : List UInt8 → Nat × Nat × List UInt8
  | [] => (3, 0, [])
  | b :: r =>
    if (i = 9 ∧ 1 < b.toNat) ∨ (0 < i ∧ b.toNat = 0) then (4, 0, [])
    else if b.toNat < 128 then (0, b.toNat, r)
    else if (take (i + 1) r).1 = 0 then (0, b.toNat - 128 + 128 * (take (i + 1) r).2.1, (take (i + 1) r).2.2) else ((take (i + 1) r).1, 0, [])

theorem dec_code (n : Int) : decN (codeN n) = n := by
  unfold decN codeN; split <;> split <;> omega
theorem code_dec (c : Nat) : codeN (decN c) = c := by
  unfold decN codeN; split <;> split <;> omega
theorem code_lt (n : Int) (h0 : -9223372036854775808 ≤ n) (h1 : n ≤ 9223372036854775807) : codeN n < 18446744073709551616 := by
  unfold codeN; split <;> omega

theorem num_small (c : Nat) (h : c < 128) : num c = [UInt8.ofNat c] := by rw [num, if_pos h]
theorem num_great (c : Nat) (h : 128 ≤ c) : num c = UInt8.ofNat (128 + c % 128) :: num (c / 128) := by rw [num, if_neg (by omega)]
theorem num_ne (c : Nat) : num c ≠ [] := by
  rw [num]; split <;> simp

theorem num_len : ∀ (k c : Nat), c < 128 ^ k → 0 < k → (num c).length ≤ k
  | 0, _, _, h => by omega
  | k + 1, c, hc, _ => by
    by_cases h : c < 128
    · rw [num_small c h]; simp
    · rw [num_great c (by omega)]
      have hk : 0 < k := by
        rcases Nat.eq_zero_or_pos k with rfl | h'
        · simp at hc; omega
        · exact h'
      have : c / 128 < 128 ^ k := by rw [Nat.pow_succ] at hc; omega
      have := num_len k (c / 128) this hk
      simp; omega
theorem num_len10 (c : Nat) (h : c < 18446744073709551616) : (num c).length ≤ 10 := num_len 10 c (by omega) (by omega)

theorem toNat_ofNat (c : Nat) (h : c < 256) : (UInt8.ofNat c).toNat = c := by simp; omega

/-- what was written is read, with whatever stands behind -/
theorem take_num : ∀ (j i c : Nat) (l : List UInt8), i + j = 10 → 0 < j → c * 2 ^ (7 * i) < 18446744073709551616 → (0 < i → 0 < c) → take i (num c ++ l) = (0, c, l)
  | 0, _, _, _, _, h, _, _ => by omega
  | j + 1, i, c, l, hij, _, hc, hi => by
    by_cases h : c < 128
    · rw [num_small c h]
      simp only [List.cons_append, List.nil_append, take, toNat_ofNat c (by omega)]
      rw [if_neg, if_pos h]
      rintro (⟨rfl, h1⟩ | ⟨h1, h2⟩)
      · omega
      · have := hi h1; omega
    · rw [num_great c (by omega)]
      simp only [List.cons_append, take, toNat_ofNat (128 + c % 128) (by omega)]
      have h9 : i ≠ 9 := by rintro rfl; omega
      have hc' : c / 128 * 2 ^ (7 * (i + 1)) < 18446744073709551616 := by
        have e : 2 ^ (7 * (i + 1)) = 128 * 2 ^ (7 * i) := by rw [show 7 * (i + 1) = 7 + 7 * i from by omega, Nat.pow_add]
        rw [e, ← Nat.mul_assoc]
        have : c / 128 * 128 * 2 ^ (7 * i) ≤ c * 2 ^ (7 * i) := Nat.mul_le_mul_right _ (by omega)
        omega
      have ih := take_num j (i + 1) (c / 128) l (by omega) (by omega) hc' (fun _ => by omega)
      rw [if_neg (by omega), if_neg (by omega), ih]
      simp; omega

/-- a code's bytes are read back, whatever stands behind -/
theorem take_back (c : Nat) (l : List UInt8) (h : c < 18446744073709551616) : take 0 (num c ++ l) = (0, c, l) :=
  take_num 10 0 c l rfl (by omega) (by omega) (by omega)

/-- what is read has just these bytes, and is no greater than can be -/
theorem take_only : ∀ (l : List UInt8) (i c : Nat) (r : List UInt8), i ≤ 9 → take i l = (0, c, r) →
    num c ++ r = l ∧ c * 2 ^ (7 * i) < 18446744073709551616 ∧ (0 < i → 0 < c)
  | [], i, c, r, _, h => by simp [take] at h
  | b :: t, i, c, r, hi, h => by
    have hb : b.toNat < 256 := b.toNat_lt
    have h2 : (2 : Nat) ^ (7 * i) ≤ 2 ^ 63 := Nat.pow_le_pow_right (by omega) (by omega)
    rw [take] at h
    split at h
    · simp at h
    · rename_i hn
      split at h
      · rename_i hs
        simp only [Prod.mk.injEq, true_and] at h
        obtain ⟨rfl, rfl⟩ := h
        refine ⟨by rw [num_small _ hs]; simp, ?_, fun h => by omega⟩
        by_cases h9 : i = 9
        · subst h9; omega
        · have h8 : (2 : Nat) ^ (7 * i) ≤ 2 ^ 56 := Nat.pow_le_pow_right (by omega) (by omega)
          have : b.toNat * 2 ^ (7 * i) ≤ 128 * 2 ^ 56 := Nat.mul_le_mul (by omega) h8
          omega
      · rename_i hs
        split at h
        · rename_i h0
          have h9 : i ≤ 8 := by omega
          obtain ⟨c', r', ht⟩ : ∃ c' r', take (i + 1) t = (0, c', r') := ⟨(take (i + 1) t).2.1, (take (i + 1) t).2.2, by rw [← h0]⟩
          rw [ht] at h
          simp only [Prod.mk.injEq, true_and] at h
          obtain ⟨hc, hr⟩ := h
          have ih := take_only t (i + 1) c' r' (by omega) ht
          have hp : 0 < c' := ih.2.2 (by omega)
          have e : 2 ^ (7 * (i + 1)) = 128 * 2 ^ (7 * i) := by rw [show 7 * (i + 1) = 7 + 7 * i from by omega, Nat.pow_add]
          refine ⟨?_, ?_, fun _ => by omega⟩
          · rw [num_great c (by omega), show c / 128 = c' from by omega, ← hr, List.cons_append, ih.1, show 128 + c % 128 = b.toNat from by omega]
            simp
          · have h1 := ih.2.1
            rw [e, ← Nat.mul_assoc] at h1
            -- c = d + 128 c', d < 128; (c' * 128) * P < 2 ^ 64, P divides 2 ^ 64
            obtain ⟨q, hq⟩ : ∃ q, 18446744073709551616 = q * 2 ^ (7 * i) := ⟨2 ^ (64 - 7 * i), by rw [← Nat.pow_add, show 64 - 7 * i + 7 * i = 64 from by omega]⟩
            rw [hq] at h1 ⊢
            have hlt := Nat.lt_of_mul_lt_mul_right h1
            have hq2 : 128 * (q / 128) = q := by
              have e2 : q = 2 ^ (64 - 7 * i) := by
                have : q * 2 ^ (7 * i) = 2 ^ (64 - 7 * i) * 2 ^ (7 * i) := by rw [← hq, ← Nat.pow_add, show 64 - 7 * i + 7 * i = 64 from by omega]
                exact Nat.eq_of_mul_eq_mul_right (Nat.two_pow_pos _) this
              have : q = 128 * 2 ^ (57 - 7 * i) := by rw [e2, show 64 - 7 * i = 7 + (57 - 7 * i) from by omega, Nat.pow_add]
              omega
            exact Nat.mul_lt_mul_of_pos_right (by omega) (Nat.two_pow_pos _)
        · rename_i h0
          simp only [Prod.mk.injEq] at h
          omega

theorem take_lt (l : List UInt8) (c : Nat) (r : List UInt8) (h : take 0 l = (0, c, r)) : c < 18446744073709551616 := by
  have := (take_only l 0 c r (by omega) h).2.1; omega

/-- an error has no number, and nothing behind -/
theorem take_err (l : List UInt8) (i : Nat) (h : (take i l).1 ≠ 0) : (take i l).2 = (0, []) := by
  cases l with
  | nil => rfl
  | cons b t => rw [take] at h ⊢; split; · rfl
                · split
                  · rename_i h1 h2; rw [if_neg h1, if_pos h2] at h; simp at h
                  · split
                    · rename_i h1 h2 h3; rw [if_neg h1, if_neg h2, if_pos h3] at h; simp at h
                    · rfl
theorem take_codes : ∀ (l : List UInt8) (i : Nat), (take i l).1 = 0 ∨ (take i l).1 = 3 ∨ (take i l).1 = 4
  | [], _ => by simp [take]
  | b :: t, i => by
    rw [take]; split
    · simp
    · split
      · simp
      · split
        · simp
        · exact take_codes t (i + 1)

/-! ### the loops: what is known when the bytes ahead of the place k are read -/
def lift (k acc : Nat) (t : Nat × Nat × List UInt8) : Nat × Nat × List UInt8 := if t.1 = 0 then (0, acc + 2 ^ (7 * k) * t.2.1, t.2.2) else (t.1, 0, [])
def Inv (l : List UInt8) (k acc : Nat) : Prop := acc < 2 ^ (7 * k) ∧ take 0 l = lift k acc (take k (l.drop k))

theorem inv_start (l : List UInt8) : Inv l 0 0 := by
  refine ⟨by simp, ?_⟩
  unfold lift
  split
  · rename_i h; simp; exact Prod.ext h rfl
  · rename_i h; have := take_err l 0 h; exact Prod.ext rfl this
theorem inv_end {l : List UInt8} {k acc : Nat} (h : Inv l k acc) (hk : k = l.length) : take 0 l = (3, 0, []) := by
  rw [h.2, hk, List.drop_length]; rfl
theorem drop_at (l : List UInt8) (k : Nat) (hk : k < l.length) : l.drop k = l[k] :: l.drop (k + 1) := by simp
theorem inv_form {l : List UInt8} {k acc : Nat} (h : Inv l k acc) (hk : k < l.length) (hb : (k = 9 ∧ 1 < l[k].toNat) ∨ (0 < k ∧ l[k].toNat = 0)) : take 0 l = (4, 0, []) := by
  rw [h.2, drop_at l k hk, take, if_pos hb]; rfl
theorem inv_last {l : List UInt8} {k acc : Nat} (h : Inv l k acc) (hk : k < l.length) (hb : ¬ ((k = 9 ∧ 1 < l[k].toNat) ∨ (0 < k ∧ l[k].toNat = 0))) (h2 : l[k].toNat < 128) :
    take 0 l = (0, acc + 2 ^ (7 * k) * l[k].toNat, l.drop (k + 1)) := by
  rw [h.2, drop_at l k hk, take, if_neg hb, if_pos h2]; rfl
theorem inv_more {l : List UInt8} {k acc : Nat} (h : Inv l k acc) (hk : k < l.length) (hb : k ≠ 9) (h2 : 128 ≤ l[k].toNat) :
    Inv l (k + 1) (acc + 2 ^ (7 * k) * (l[k].toNat - 128)) := by
  have e : 2 ^ (7 * (k + 1)) = 128 * 2 ^ (7 * k) := by rw [show 7 * (k + 1) = 7 + 7 * k from by omega, Nat.pow_add]
  have hlt := l[k].toNat_lt
  constructor
  · have h1 := h.1
    rw [e]
    have : 2 ^ (7 * k) * (l[k].toNat - 128) ≤ 2 ^ (7 * k) * 127 := Nat.mul_le_mul_left _ (by omega)
    omega
  · rw [h.2, drop_at l k hk, take, if_neg (by omega), if_neg (by omega)]
    unfold lift
    by_cases h0 : (take (k + 1) (l.drop (k + 1))).1 = 0
    · rw [if_pos h0, if_pos rfl, if_pos h0]
      simp only [Prod.mk.injEq, true_and, and_true]
      rw [e, Nat.mul_add, Nat.add_assoc, ← Nat.mul_assoc, Nat.mul_comm (2 ^ (7 * k)) 128]
    · rw [if_neg h0, if_neg h0, if_neg h0]

/-- or, where the lower part lies below: a sum -/
theorem or_sum (acc b k : Nat) (h : acc < 2 ^ (7 * k)) : acc ||| 2 ^ (7 * k) * b = acc + 2 ^ (7 * k) * b := by
  rw [Nat.or_comm, ← Nat.two_pow_add_eq_or_of_lt h, Nat.add_comm]

/-! ### writing: the digits ahead of the place k are p -/
def Wrote (c k : Nat) (p : List UInt8) : Prop := p.length = k ∧ num c = p ++ num (c / 2 ^ (k * 7)) ∧ (0 < k → 0 < c / 2 ^ (k * 7))
theorem wrote_start (c : Nat) : Wrote c 0 [] := ⟨rfl, by simp, fun h => by omega⟩
theorem div_step (c k : Nat) : c / 2 ^ ((k + 1) * 7) = c / 2 ^ (k * 7) / 128 := by
  rw [show (k + 1) * 7 = k * 7 + 7 from by omega, Nat.pow_add, Nat.div_div_eq_div_mul]
theorem wrote_more {c k : Nat} {p : List UInt8} (h : Wrote c k p) (hm : 128 ≤ c / 2 ^ (k * 7)) : Wrote c (k + 1) (p ++ [UInt8.ofNat (128 + c / 2 ^ (k * 7) % 128)]) := by
  refine ⟨by simp [h.1], ?_, fun _ => by rw [div_step]; omega⟩
  rw [h.2.1, num_great _ hm, div_step]; simp
theorem wrote_last {c k : Nat} {p : List UInt8} (h : Wrote c k p) (hm : c / 2 ^ (k * 7) < 128) : p ++ [UInt8.ofNat (c / 2 ^ (k * 7))] = num c := by
  rw [h.2.1, num_small _ hm]
theorem wrote_lt {c k : Nat} {p : List UInt8} (h : Wrote c k p) (hc : c < 18446744073709551616) (hk : k ≤ 10) : k ≤ 9 := by
  by_cases h9 : k = 10
  · subst h9
    have := h.2.2 (by omega)
    have : c / 2 ^ (10 * 7) = 0 := Nat.div_eq_of_lt (by omega)
    omega
  · omega

theorem wrote_lt' {c k : Nat} {p : List UInt8} (h : Wrote c k p) (hc : c < 18446744073709551616) : k ≤ 9 := by
  by_cases h9 : 10 ≤ k
  · have := h.2.2 (by omega)
    have h2 : 2 ^ (10 * 7) ≤ 2 ^ (k * 7) := Nat.pow_le_pow_right (by omega) (by omega)
    have : c / 2 ^ (k * 7) = 0 := Nat.div_eq_of_lt (by omega)
    omega
  · omega

/-! what the calls answer -/
def numB (n : Int) : ByteArray := ⟨(num (codeN n)).toArray⟩
def tN (s : ByteArray) : Int := if (take 0 s.data.toList).1 = 0 then decN (take 0 s.data.toList).2.1 else 0
def tR (s : ByteArray) : ByteArray := ⟨(take 0 s.data.toList).2.2.toArray⟩
def tE (s : ByteArray) : Int := (take 0 s.data.toList).1

theorem t_err {s : ByteArray} {e : Nat} (he : e ≠ 0) (h : take 0 s.data.toList = (e, 0, [])) : 0 = tN s ∧ (⟨#[]⟩ : ByteArray) = tR s ∧ (e : Int) = tE s := by
  unfold tN tR tE; rw [h]; exact ⟨by rw [if_neg he], rfl, rfl⟩
theorem t_ok {s : ByteArray} {c : Nat} {r : ByteArray} (h : take 0 s.data.toList = (0, c, r.data.toList)) : decN c = tN s ∧ r = tR s ∧ 0 = tE s := by
  unfold tN tR tE; rw [h]; exact ⟨rfl, rfl, rfl⟩

theorem extract_drop (s : ByteArray) (k : Nat) : (s.extract k s.size).data.toList = s.data.toList.drop k := by
  rw [ByteArray.data_extract, Array.toList_extract, List.extract_eq_take_drop]; exact List.take_of_length_le (by simp)
theorem t_last {s : ByteArray} {c k : Nat} (h : take 0 s.data.toList = (0, c, s.data.toList.drop k)) : decN c = tN s ∧ s.extract k s.size = tR s ∧ 0 = tE s :=
  t_ok (by rw [h, extract_drop])

theorem numB_len (n : Int) (h0 : -9223372036854775808 ≤ n) (h1 : n ≤ 9223372036854775807) : (numB n).size ≤ 10 := by
  have := num_len10 _ (code_lt n h0 h1)
  simpa [numB, ByteArray.size] using this

/-! ### numbers of a fixed length -/
/-- the byte at the place k (0 is the lowest) -/
def digit (n : Int) (k : Nat) : UInt8 := UInt8.ofNat ((n % 18446744073709551616).toNat / 2 ^ (k * 8) % 256)
/-- the lowest k bytes, the highest first -/
def fix (n : Int) : Nat → List UInt8
  | 0 => []
  | k + 1 => digit n k :: fix n k
def cnt (bytes : Int) : Nat := if bytes < 0 then 0 else if 8 < bytes then 8 else bytes.toNat
theorem fix_len (n : Int) (k : Nat) : (fix n k).length = k := by
  induction k with
  | zero => rfl
  | succ k ih => simp [fix, ih]
theorem cnt_le (b : Int) : cnt b ≤ 8 := by unfold cnt; split; omega; split <;> omega

theorem cnt_cases (b : Int) : ∃ m : Nat, m ≤ 8 ∧ Go.RowKit.Hid (cnt b = m) ∧ ((b < 0 ∧ m ≤ 0) ∨ (8 < b ∧ 8 ≤ m) ∨ b = m) := by
  refine ⟨cnt b, cnt_le b, rfl, ?_⟩
  unfold cnt; split
  · exact .inl ⟨by assumption, by omega⟩
  · split
    · exact .inr (.inl ⟨by assumption, by omega⟩)
    · exact .inr (.inr (by omega))
/-- what a row of m zeros holds when k of its bytes are laid, from the back -/
def laid (n : Int) (m k : Nat) : List UInt8 := List.replicate (m - k) 0 ++ fix n k
theorem laid_len (n : Int) (m k : Nat) (h : k ≤ m) : (laid n m k).length = m := by simp [laid, fix_len]; omega
theorem laid_all (n : Int) (m : Nat) : laid n m m = fix n m := by simp [laid]
theorem laid_none (n : Int) (m : Nat) : laid n m 0 = List.replicate m 0 := by simp [laid, fix]
theorem laid_step (n : Int) (m k : Nat) (h : k < m) : (laid n m k).set (m - 1 - k) (digit n k) = laid n m (k + 1) := by
  unfold laid
  have e : List.replicate (m - k) (0 : UInt8) = List.replicate (m - 1 - k) 0 ++ [0] := by
    rw [show m - k = (m - 1 - k) + 1 from by omega, List.replicate_succ']
  rw [e, List.append_assoc, List.set_append_right _ _ (by simp)]
  simp [fix, show m - (k + 1) = m - 1 - k from by omega]

/-! ### what TakeNum answers, in three cases -/
theorem t_cases (s : ByteArray) :
    (tN s = 0 ∧ tR s = ⟨#[]⟩ ∧ (tE s = 3 ∨ tE s = 4)) ∨
    (∃ (n : Int) (r : ByteArray), -9223372036854775808 ≤ n ∧ n ≤ 9223372036854775807 ∧ r.size ≤ s.size ∧ tN s = n ∧ tR s = r ∧ tE s = 0 ∧ numB n ++ r = s) := by
  by_cases h0 : (take 0 s.data.toList).1 = 0
  · right
    obtain ⟨c, r, hr⟩ : ∃ c r, take 0 s.data.toList = (0, c, r) := ⟨(take 0 s.data.toList).2.1, (take 0 s.data.toList).2.2, Prod.ext h0 rfl⟩
    have hlt := take_lt _ _ _ hr
    have ho := (take_only _ 0 c r (by omega) hr).1
    refine ⟨decN c, ⟨r.toArray⟩, ?_, ?_, ?_, ?_, ?_, ?_, ?_⟩
    · unfold decN; split <;> omega
    · unfold decN; split <;> omega
    · have := congrArg List.length ho
      simp only [List.length_append, Array.length_toList] at this
      have e : s.data.size = s.size := rfl
      show r.toArray.size ≤ s.size
      simp; omega
    · unfold tN; rw [hr]; rfl
    · unfold tR; rw [hr]
    · unfold tE; rw [hr]; rfl
    · unfold numB; rw [code_dec, ByteArray.mk_append_mk, ho]
  · left
    have he := take_err _ 0 h0
    refine ⟨by unfold tN; rw [if_neg h0], by unfold tR; rw [he], ?_⟩
    unfold tE
    rcases take_codes s.data.toList 0 with h | h | h
    · exact absurd h h0
    · rw [h]; left; rfl
    · rw [h]; right; rfl

/-- no number's bytes are the beginning of another one's -/
theorem first (n m : Int) (hn0 : -9223372036854775808 ≤ n) (hn1 : n ≤ 9223372036854775807) (hm0 : -9223372036854775808 ≤ m) (hm1 : m ≤ 9223372036854775807)
    (t : List UInt8) (h : num (codeN m) = num (codeN n) ++ t) : n = m := by
  have h1 := take_back (codeN m) [] (code_lt m hm0 hm1)
  have h2 := take_back (codeN n) t (code_lt n hn0 hn1)
  rw [List.append_nil, h] at h1
  rw [h1] at h2
  have : codeN m = codeN n := by simpa using congrArg (fun x => x.2.1) h2
  rw [← dec_code n, ← this, dec_code]
theorem first_ne (n m : Int) (hn0 : -9223372036854775808 ≤ n) (hn1 : n ≤ 9223372036854775807) (hm0 : -9223372036854775808 ≤ m) (hm1 : m ≤ 9223372036854775807)
    (hne : n ≠ m) (_hl : (numB n).size ≤ (numB m).size) : (numB m).extract 0 (numB n).size ≠ numB n := by
  intro h
  refine hne (first n m hn0 hn1 hm0 hm1 ((num (codeN m)).drop (num (codeN n)).length) ?_)
  have h2 := congrArg (fun b => b.data.toList) h
  simp only [ByteArray.data_extract, Array.toList_extract, List.extract_eq_take_drop, numB, List.drop_zero, Nat.sub_zero] at h2
  have e : (ByteArray.mk (num (codeN n)).toArray).size = (num (codeN n)).length := by simp [ByteArray.size]
  rw [e] at h2
  conv => lhs; rw [← List.take_append_drop (num (codeN n)).length (num (codeN m)), h2]
theorem numB_pos (n : Int) : 0 < (numB n).size := by
  have := num_ne (codeN n)
  have h : 0 < (num (codeN n)).length := List.length_pos_iff.2 this
  simpa [numB, ByteArray.size] using h

end Go.Proofs.YtpniegglbglbcaaDoor.Oct
