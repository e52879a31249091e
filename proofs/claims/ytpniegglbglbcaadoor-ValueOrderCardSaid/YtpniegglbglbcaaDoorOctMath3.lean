/-
  Plain mathematics of layer 1, third part: texts and lists, taken.
-/
import Derived.Test.YtpniegglbglbcaaDoorOctMath2
import Derived.WideShapes
namespace Go.Proofs.YtpniegglbglbcaaDoor.Oct

/-- a length, or how many: what is taken -/
def cnt3 (s : ByteArray) (lim : Int) : Int × ByteArray × Int :=
  if tE s ≠ 0 then (0, ⟨#[]⟩, tE s) else if tN s < 0 then (0, ⟨#[]⟩, 4) else if lim < tN s then (0, ⟨#[]⟩, 5) else (tN s, tR s, 0)
/-- a text, taken -/
def txt (s : ByteArray) (most : Int) : ByteArray × ByteArray × Int :=
  if (cnt3 s most).2.2 ≠ 0 then (⟨#[]⟩, ⟨#[]⟩, (cnt3 s most).2.2) else
    if ((cnt3 s most).2.1.size : Int) < (cnt3 s most).1 then (⟨#[]⟩, ⟨#[]⟩, 3)
    else ((cnt3 s most).2.1.extract 0 (cnt3 s most).1.toNat, (cnt3 s most).2.1.extract (cnt3 s most).1.toNat (cnt3 s most).2.1.size, 0)
/-- so many texts, taken one behind the other -/
def lst (most : Int) : Nat → ByteArray → List ByteArray × ByteArray × Int
  | 0, s => ([], s, 0)
  | n + 1, s => if (txt s most).2.2 ≠ 0 then ([], ⟨#[]⟩, (txt s most).2.2) else
      if (lst most n (txt s most).2.1).2.2 ≠ 0 then ([], ⟨#[]⟩, (lst most n (txt s most).2.1).2.2)
      else ((txt s most).1 :: (lst most n (txt s most).2.1).1, (lst most n (txt s most).2.1).2.1, 0)
/-- a list, taken -/
def txts (s : ByteArray) (count most : Int) : List ByteArray × ByteArray × Int :=
  if (cnt3 s count).2.2 ≠ 0 then ([], ⟨#[]⟩, (cnt3 s count).2.2) else lst most (cnt3 s count).1.toNat (cnt3 s count).2.1

theorem cnt3_err {s : ByteArray} {lim : Int} (e : Int) (h : tE s = e) (he : e ≠ 0) : cnt3 s lim = (0, ⟨#[]⟩, e) := by
  unfold cnt3; rw [if_pos (by rw [h]; exact he), h]
theorem cnt3_neg {s : ByteArray} {lim n : Int} (h : tE s = 0) (hn : tN s = n) (h0 : n < 0) : cnt3 s lim = (0, ⟨#[]⟩, 4) := by
  unfold cnt3; rw [if_neg (by rw [h]; simp), hn, if_pos h0]
theorem cnt3_big {s : ByteArray} {lim n : Int} (h : tE s = 0) (hn : tN s = n) (h0 : ¬ n < 0) (h1 : lim < n) : cnt3 s lim = (0, ⟨#[]⟩, 5) := by
  unfold cnt3; rw [if_neg (by rw [h]; simp), hn, if_neg h0, if_pos h1]
theorem cnt3_ok {s r : ByteArray} {lim n : Int} (h : tE s = 0) (hn : tN s = n) (hr : tR s = r) (h0 : ¬ n < 0) (h1 : ¬ lim < n) : cnt3 s lim = (n, r, 0) := by
  unfold cnt3; rw [if_neg (by rw [h]; simp), hn, if_neg h0, if_neg h1, hr]

/-- what is taken as a length: an error, or a number in its bounds with less behind it than there was -/
theorem cnt3_cases (s : ByteArray) (lim : Int) :
    (∃ e : Int, e ≠ 0 ∧ cnt3 s lim = (0, ⟨#[]⟩, e)) ∨
    (∃ (n : Nat) (r : ByteArray), (n : Int) ≤ 9223372036854775807 ∧ (n : Int) ≤ lim ∧ r.size < s.size ∧ cnt3 s lim = ((n : Int), r, 0) ∧ numB n ++ r = s) := by
  rcases t_cases s with ⟨_, _, h | h⟩ | ⟨n, r, h1, h2, h3, e1, e2, e3, e4⟩
  · exact .inl ⟨3, by decide, cnt3_err 3 h (by decide)⟩
  · exact .inl ⟨4, by decide, cnt3_err 4 h (by decide)⟩
  · by_cases h0 : n < 0
    · exact .inl ⟨4, by decide, cnt3_neg e3 e1 h0⟩
    · by_cases hl : lim < n
      · exact .inl ⟨5, by decide, cnt3_big e3 e1 h0 hl⟩
      · obtain ⟨m, rfl⟩ := Int.eq_ofNat_of_zero_le (show 0 ≤ n by omega)
        refine .inr ⟨m, r, h2, by omega, ?_, cnt3_ok e3 e1 e2 h0 hl, e4⟩
        have hp := numB_pos (m : Int)
        have : (numB m).size + r.size = s.size := by rw [← e4, ByteArray.size_append]
        omega

theorem txt_err {s : ByteArray} {most e : Int} (he : e ≠ 0) (h : cnt3 s most = (0, ⟨#[]⟩, e)) : txt s most = (⟨#[]⟩, ⟨#[]⟩, e) := by
  unfold txt; rw [h]; exact if_pos he
theorem txt_short {s r : ByteArray} {most : Int} {n : Nat} (h : cnt3 s most = ((n : Int), r, 0)) (h1 : r.size < n) : txt s most = (⟨#[]⟩, ⟨#[]⟩, 3) := by
  unfold txt; rw [h]; simp only [ne_eq, not_true_eq_false, if_false]; exact if_pos (by omega)
theorem txt_ok {s r : ByteArray} {most : Int} {n : Nat} (h : cnt3 s most = ((n : Int), r, 0)) (h1 : ¬ r.size < n) : txt s most = (r.extract 0 n, r.extract n r.size, 0) := by
  unfold txt; rw [h]; simp only [ne_eq, not_true_eq_false, if_false, Int.toNat_natCast]; exact if_neg (by omega)
/-- what is taken as a text: an error, or a text with less behind it than there was -/
theorem txt_cases (s : ByteArray) (most : Int) :
    (∃ e : Int, e ≠ 0 ∧ txt s most = (⟨#[]⟩, ⟨#[]⟩, e)) ∨
    (∃ (a r : ByteArray), txt s most = (a, r, 0) ∧ r.size < s.size ∧ a.size < s.size) := by
  rcases cnt3_cases s most with ⟨e, he, h⟩ | ⟨n, r, _, _, h3, h, _⟩
  · exact .inl ⟨e, he, txt_err he h⟩
  · by_cases h1 : r.size < n
    · exact .inl ⟨3, by decide, txt_short h h1⟩
    · refine .inr ⟨_, _, txt_ok h h1, ?_, ?_⟩
      · rw [ByteArray.size_extract]; omega
      · rw [ByteArray.size_extract]; omega

/-- the texts so far, ahead of what is taken next -/
def glue (acc : List ByteArray) (t : List ByteArray × ByteArray × Int) : List ByteArray × ByteArray × Int :=
  if t.2.2 ≠ 0 then ([], ⟨#[]⟩, t.2.2) else (acc ++ t.1, t.2.1, 0)
theorem lst_form (most : Int) : ∀ (n : Nat) (s : ByteArray), lst most n s = glue [] (lst most n s)
  | 0, s => rfl
  | n + 1, s => by
    unfold glue lst
    split
    · simp
    · split
      · simp
      · simp
theorem glue_step (most : Int) (acc : List ByteArray) (n : Nat) (s : ByteArray) {a r : ByteArray} (h : txt s most = (a, r, 0)) :
    glue acc (lst most (n + 1) s) = glue (acc ++ [a]) (lst most n r) := by
  rw [lst, h]
  simp only [ne_eq, not_true_eq_false, if_false]
  obtain ⟨l, r', e⟩ := lst most n r
  by_cases he : e = 0
  · subst he; simp [glue]
  · simp [glue, he]
theorem glue_err (most : Int) (acc : List ByteArray) (n : Nat) (s : ByteArray) {e : Int} (he : e ≠ 0) (h : txt s most = (⟨#[]⟩, ⟨#[]⟩, e)) :
    glue acc (lst most (n + 1) s) = ([], ⟨#[]⟩, e) := by
  rw [lst, h]
  simp only [ne_eq, he, not_false_eq_true, if_true]
  unfold glue; exact if_pos he
theorem glue_end (most : Int) (acc : List ByteArray) (s : ByteArray) : glue acc (lst most 0 s) = (acc, s, 0) := by
  unfold glue lst; simp

/-! ### lists, written -/
def one (s : ByteArray) : List UInt8 := (numB s.size).data.toList ++ s.data.toList
def all : List ByteArray → List UInt8
  | [] => []
  | s :: l => one s ++ all l
def total : List ByteArray → Nat
  | [] => 0
  | s :: l => s.size + total l
theorem all_append (a b : List ByteArray) : all (a ++ b) = all a ++ all b := by
  induction a with
  | nil => rfl
  | cons s a ih => simp [all, ih]
theorem total_append (a b : List ByteArray) : total (a ++ b) = total a + total b := by
  induction a with
  | nil => simp [total]
  | cons s a ih => simp [total, ih]; omega
theorem all_take (l : List ByteArray) (k : Nat) (h : k < l.length) : all (l.take (k + 1)) = all (l.take k) ++ one l[k] := by
  rw [List.take_succ_eq_append_getElem h, all_append]; simp [all]
theorem total_take (l : List ByteArray) (k : Nat) (h : k < l.length) : total (l.take (k + 1)) = total (l.take k) + l[k].size := by
  rw [List.take_succ_eq_append_getElem h, total_append]; simp [total]
theorem total_take_le (l : List ByteArray) (k : Nat) : total (l.take k) ≤ total l := by
  have := total_append (l.take k) (l.drop k)
  rw [List.take_append_drop] at this; omega
theorem total_at (l : List ByteArray) (k : Nat) (h : k < l.length) : total (l.take k) + l[k].size ≤ total l := by
  rw [← total_take l k h]; exact total_take_le l _
/-- the bytes of a list -/
def txtsB (l : List ByteArray) : ByteArray := ⟨((numB l.length).data.toList ++ all l).toArray⟩

theorem list_len (s : ByteArray) : s.data.toList.length = s.size := by simp
theorem one_len (s : ByteArray) (h : s.size ≤ 9223372036854775807) : (one s).length ≤ 10 + s.size := by
  have := numB_len (s.size : Int) (by omega) (by omega)
  unfold one; rw [List.length_append, list_len, list_len]; omega
theorem all_len : ∀ (l : List ByteArray), total l ≤ 9223372036854775807 → (all l).length ≤ 10 * l.length + total l
  | [], _ => by simp [all]
  | s :: l, h => by
    have h1 := one_len s (by simp [total] at h; omega)
    have h2 := all_len l (by simp [total] at h; omega)
    simp [all, total]; omega

/-! ### what was written is taken -/
theorem tE_back (n : Int) (r : ByteArray) (h0 : -9223372036854775808 ≤ n) (h1 : n ≤ 9223372036854775807) : tN (numB n ++ r) = n ∧ tR (numB n ++ r) = r ∧ tE (numB n ++ r) = 0 := by
  have e : (numB n ++ r).data.toList = num (codeN n) ++ r.data.toList := by simp [numB, ByteArray.data_append]
  have h := take_back (codeN n) r.data.toList (code_lt n h0 h1)
  have := t_ok (s := numB n ++ r) (c := codeN n) (r := r) (by rw [e]; exact h)
  rw [dec_code] at this
  exact ⟨this.1.symm, this.2.1.symm, this.2.2.symm⟩
theorem cnt3_back (n : Nat) (r : ByteArray) (lim : Int) (h1 : (n : Int) ≤ 9223372036854775807) (h2 : (n : Int) ≤ lim) : cnt3 (numB n ++ r) lim = ((n : Int), r, 0) := by
  obtain ⟨a, b, c⟩ := tE_back (n : Int) r (by omega) h1
  exact cnt3_ok c a b (by omega) (by omega)
theorem mk_list (l : List UInt8) : (⟨l.toArray⟩ : ByteArray).data.toList = l := rfl
theorem txt_back (s r : ByteArray) (most : Int) (h1 : (s.size : Int) ≤ 9223372036854775807) (h2 : (s.size : Int) ≤ most) : txt (numB s.size ++ s ++ r) most = (s, r, 0) := by
  have hc := cnt3_back s.size (s ++ r) most h1 h2
  rw [← ByteArray.append_assoc] at hc
  rw [txt_ok hc (by rw [ByteArray.size_append]; omega)]
  have e1 : (s ++ r).extract 0 s.size = s := by
    apply Go.WideShapes.bytes_inj
    rw [ByteArray.data_extract, Array.toList_extract, List.extract_eq_take_drop, ByteArray.data_append]
    simp
  have e2 : (s ++ r).extract s.size (s ++ r).size = r := by
    apply Go.WideShapes.bytes_inj
    rw [extract_drop, ByteArray.data_append]
    simp
  rw [e1, e2]
theorem mk_append (a b : List UInt8) : (⟨(a ++ b).toArray⟩ : ByteArray) = ⟨a.toArray⟩ ++ ⟨b.toArray⟩ := by
  apply Go.WideShapes.bytes_inj; simp [ByteArray.data_append]
theorem mk_data (s : ByteArray) : (⟨s.data.toList.toArray⟩ : ByteArray) = s := rfl
theorem lst_back (most : Int) : ∀ (l : List ByteArray) (r : ByteArray), total l ≤ 9223372036854775807 → (∀ s ∈ l, (s.size : Int) ≤ most) → lst most l.length (⟨(all l).toArray⟩ ++ r) = (l, r, 0)
  | [], r, _, _ => by
    have e : (⟨(all []).toArray⟩ ++ r : ByteArray) = r := by apply Go.WideShapes.bytes_inj; simp [all, ByteArray.data_append]
    rw [e]; rfl
  | s :: l, r, ht, hm => by
    have e : (⟨(all (s :: l)).toArray⟩ ++ r : ByteArray) = numB s.size ++ s ++ (⟨(all l).toArray⟩ ++ r) := by
      apply Go.WideShapes.bytes_inj
      simp [all, one, ByteArray.data_append]
    have h1 := txt_back s (⟨(all l).toArray⟩ ++ r) most (by simp [total] at ht; omega) (hm s (by simp))
    have h2 := lst_back most l r (by simp [total] at ht; omega) (fun x hx => hm x (by simp [hx]))
    rw [List.length_cons, e, lst, h1, h2]; simp
theorem txts_back (l : List ByteArray) (r : ByteArray) (count most : Int) (hn : (l.length : Int) ≤ 9223372036854775807) (hc : (l.length : Int) ≤ count) (ht : total l ≤ 9223372036854775807) (hm : ∀ s ∈ l, (s.size : Int) ≤ most) :
    txts (txtsB l ++ r) count most = (l, r, 0) := by
  have e : txtsB l ++ r = numB l.length ++ (⟨(all l).toArray⟩ ++ r) := by
    apply Go.WideShapes.bytes_inj
    simp [txtsB, ByteArray.data_append]
  have h := cnt3_back l.length (⟨(all l).toArray⟩ ++ r) count hn hc
  unfold txts
  rw [e, h]
  simp only [ne_eq, not_true_eq_false, if_false, Int.toNat_natCast]
  exact lst_back most l r ht hm
theorem mem_le (l : List ByteArray) (s : ByteArray) (h : s ∈ l) : s.size ≤ total l := by
  induction l with
  | nil => simp at h
  | cons a l ih =>
    simp only [total]
    rcases List.mem_cons.1 h with rfl | h
    · omega
    · have := ih h; omega

end Go.Proofs.YtpniegglbglbcaaDoor.Oct
