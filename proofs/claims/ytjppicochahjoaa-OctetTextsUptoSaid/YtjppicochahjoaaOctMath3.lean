/-
  Plain mathematics of layer 1, third part: texts and lists, taken.
-/
import Derived.Test.YtjppicochahjoaaOctMath2
import Derived.WideShapes
namespace Go.Proofs.Ytjppicochahjoaa.Oct

/-- a length, or how many: what is taken -/
def cnt3 (s : ByteArray) (lim : Int) : Int × ByteArray × Int :=
  if tE s ≠ 0 then (0, ⟨#[]⟩, tE s) else if tN s < 0 then (0, ⟨#[]⟩, 4) else if lim < tN s then (0, ⟨#[]⟩, 5) else (tN s, tR s, 0)
/-- a text, taken -/
def txt (s : ByteArray) (most : Int) : ByteArray × ByteArray × Int :=
  if (cnt3 s most).2.2 ≠ 0 then (⟨#[]⟩, ⟨#[]⟩, (cnt3 s most).2.2) else
    if ((cnt3 s most).2.1.size : Int) < (cnt3 s most).1 then (⟨#[]⟩, ⟨#[]⟩, 3)
    else ((cnt3 s most).2.1.extract 0 (cnt3 s most).1.toNat, (cnt3 s most).2.1.extract (cnt3 s most).1.toNat (cnt3 s most).2.1.size, 0)
/-- so many texts, taken one behind the other -/
def lst (most : Int) : Nat → ByteArray → List ByteArray × ByteArray × Int
  | 0, s => ([], s, 0)
  | n + 1, s => if (txt s most).2.2 ≠ 0 then ([], ⟨#[]⟩, (txt s most).2.2) else
      if (lst most n (txt s most).2.1).2.2 ≠ 0 then ([], ⟨#[]⟩, (lst most n (txt s most).2.1).2.2)
      else ((txt s most).1 :: (lst most n (txt s most).2.1).1, (lst most n (txt s most).2.1).2.1, 0)
/-- a list, taken -/
def txts (s : ByteArray) (count most : Int) : List ByteArray × ByteArray × Int :=
  if (cnt3 s count).2.2 ≠ 0 then ([], ⟨#[]⟩, (cnt3 s count).2.2) else lst most (cnt3 s count).1.toNat (cnt3 s count).2.1

theorem cnt3_err {s : ByteArray} {lim : Int} (e : Int) (h : tE s = e) (he : e ≠ 0) : cnt3 s lim = (0, ⟨#[]⟩, e) := by
  unfold cnt3; rw [if_pos (by rw [h]; exact he), h]
theorem cnt3_neg {s : ByteArray} {lim n : Int} (h : tE s = 0) (hn : tN s = n) (h0 : n < 0) : cnt3 s lim = (0, ⟨#[]⟩, 4) := by
  unfold cnt3; rw [if_neg (by rw [h]; simp), hn, if_pos h0]
theorem cnt3_big {s : ByteArray} {lim n : Int} (h : tE s = 0) (hn : tN s = n) (h0 : ¬ n < 0) (h1 : lim < n) : cnt3 s lim = (0, ⟨#[]⟩, 5) := by
  unfold cnt3; rw [if_neg (by rw [h]; simp), hn, if_neg h0, if_pos h1]
theorem cnt3_ok {s r : ByteArray} {lim n : Int} (h : tE s = 0) (hn : tN s = n) (hr : tR s = r) (h0 : ¬ n < 0) (h1 : ¬ lim < n) : cnt3 s lim = (n, r, 0) := by
  unfold cnt3; rw [if_neg (by rw [h]; simp), hn, if_neg h0, if_neg h1, hr]

/-- what is taken as a length: an error, or a number in its bounds with less behind it than there was -/
theorem cnt3_cases (s : ByteArray) (lim : Int) :
    (∃ e : Int, e ≠ 0 ∧ cnt3 s lim = (0, ⟨#[]⟩, e)) ∨
    (∃ (n : Nat) (r : ByteArray), (n : Int) ≤ 9223372036854775807 ∧ (n : Int) ≤ lim ∧ r.size < s.size ∧ cnt3 s lim = ((n : Int), r, 0) ∧ numB n ++ r = s) := by
  rcases t_cases s with ⟨_, _, h | h⟩ | ⟨n, r, h1, h2, h3, e1, e2, e3, e4⟩
  · exact .inl ⟨3, by decide, cnt3_err 3 h (by decide)⟩
  · exact .inl ⟨4, by decide, cnt3_err 4 h (by decide)⟩
  · by_cases h0 : n < 0
    · exact .inl ⟨4, by decide, cnt3_neg e3 e1 h0⟩
    · by_cases hl : lim < n
      · exact .inl ⟨5, by decide, cnt3_big e3 e1 h0 hl⟩
      · obtain ⟨m, rfl⟩ := Int.eq_ofNat_of_zero_le (show 0 ≤ n by omega)
        refine .inr ⟨m, r, h2, by omega, ?_, cnt3_ok e3 e1 e2 h0 hl, e4⟩
        have hp := numB_pos (m : Int)
        have : (numB m).size + r.size = s.size := by rw [← e4, ByteArray.size_append]
        omega

theorem txt_err {s : ByteArray} {most e : Int} (he : e ≠ 0) (h : cnt3 s most = (0, ⟨#[]⟩, e)) : txt s most = (⟨#[]⟩, ⟨#[]⟩, e) := by
  unfold txt; rw [h]; exact if_pos he
theorem txt_short {s r : ByteArray} {most : Int} {n : Nat} (h : cnt3 s most = ((n : Int), r, 0)) (h1 : r.size < n) : txt s most = (⟨#[]⟩, ⟨#[]⟩, 3) := by
  unfold txt; rw [h]; simp only [ne_eq, not_true_eq_false, if_false]; exact if_pos (by omega)
theorem txt_ok {s r : ByteArray} {most : Int} {n : Nat} (h : cnt3 s most = ((n : Int), r, 0)) (h1 : ¬ r.size < n) : txt s most = (r.extract 0 n, r.extract n r.size, 0) := by
  unfold txt; rw [h]; simp only [ne_eq, not_true_eq_false, if_false, Int.toNat_natCast]; exact if_neg (by omega)
/-- what is taken as a text: an error, or a text with less behind it than there was -/
theorem txt_cases (s : ByteArray) (most : Int) :
    (∃ e : Int, e ≠ 0 ∧ txt s most = (⟨#[]⟩, ⟨#[]⟩, e)) ∨
    (∃ (a r : ByteArray), txt s most = (a, r, 0) ∧ r.size < s.size ∧ a.size < s.size) := by
  rcases cnt3_cases s most with ⟨e, he, h⟩ | ⟨n, r, _, _, h3, h, _⟩
  · exact .inl ⟨e, he, txt_err he h⟩
  · by_cases h1 : r.size < n
    · exact .inl ⟨3, by decide, txt_short h h1⟩
    · refine .inr ⟨_, _, txt_ok h h1, ?_, ?_⟩
      · rw [ByteArray.size_extract]; omega
      · rw [ByteArray.size_extract]; omega

/-- the texts so far, ahead of what is taken next -/
def glue (acc : List ByteArray) (t : List ByteArray × ByteArray × Int) : List ByteArray × ByteArray × Int :=
  if t.2.2 ≠ 0 then ([], ⟨#[]⟩, t.2.2) else (acc ++ t.1, t.2.1, 0)
theorem lst_form (most : Int) : ∀ (n : Nat) (s : ByteArray), lst most n s = glue [] (lst most n s)
  | 0, s => rfl
  | n + 1, s => by
    unfold glue lst
    split
    · simp
    · split
      · simp
      · simp
theorem glue_step (most : Int) (acc : List ByteArray) (n : Nat) (s : ByteArray) {a r : ByteArray} (h : txt s most = (a, r, 0)) :
    glue acc (lst most (n + 1) s) = glue (acc ++ [a]) (lst most n r) := by
  rw [lst, h]
  simp only [ne_eq, not_true_eq_false, if_false]
  obtain ⟨l, r', e⟩ := lst most n r
  by_cases he : e = 0
  · subst he; simp [glue]
  · simp [glue, he]
theorem glue_err (most : Int) (acc : List ByteArray) (n : Nat) (s : ByteArray) {e : Int} (he : e ≠ 0) (h : txt s most = (⟨#[]⟩, ⟨#[]⟩, e)) :
    glue acc (lst most (n + 1) s) = ([], ⟨#[]⟩, e) := by
  rw [lst, h]
  simp only [ne_eq, he, not_false_eq_true, if_true]
  unfold glue; exact if_pos he
theorem glue_end (most : Int) (acc : List ByteArray) (s : ByteArray) : glue acc (lst most 0 s) = (acc, s, 0) := by
  unfold glue lst; simp

end Go.Proofs.Ytjppicochahjoaa.Oct
