/-
  The plain mathematics of layer 11 (chunk): a text's chunks, the edits that put it, chunks joined; nothing of any program.
-/
import Derived.Test.YtlhhecomjhfhjaaTreRef
import Derived.Test.YtlhhecomjhfhjaaOctMath
namespace Go.Proofs.Ytlhhecomjhfhjaa.Ck
abbrev Prs := List (ByteArray × ByteArray)
abbrev nil : ByteArray := ⟨#[]⟩
def rightB (p : ByteArray) : Bool := decide (1 ≤ p.size) && decide (p.size ≤ 40)
def cnt (n : Nat) : Nat := if n < 1 then 1 else (n + 149) / 150
def cntZ (n : Int) : Int := if n < 1 then 1 else (n + 149) / 150
theorem cntZ_nat (n : Nat) : cntZ n = cnt n := by unfold cntZ cnt; split <;> split <;> omega
theorem cnt_pos (n : Nat) : 1 ≤ cnt n := by unfold cnt; split <;> omega
theorem cnt_le {n m : Nat} (h : n ≤ 150 * m) (hm : 1 ≤ m) : cnt n ≤ m := by unfold cnt; split <;> omega
theorem cnt_cover (n : Nat) : n ≤ 150 * cnt n := by unfold cnt; split <;> omega
theorem cnt_before {n i : Nat} (h : i < cnt n) : 150 * i ≤ n := by unfold cnt at h; split at h <;> omega
theorem cnt_size (n : Nat) : cnt n ≤ n + 1 := by unfold cnt; split <;> omega
def key (p : ByteArray) (i : Nat) : ByteArray := p ++ ⟨(Oct.fix (i : Int) 2).toArray⟩
def one (s : ByteArray) (i : Nat) : ByteArray := s.extract (150 * i) (min (150 * (i + 1)) s.size)
def pr (p s : ByteArray) (i : Nat) : ByteArray × ByteArray := (key p i, one s i)
def chunks (p s : ByteArray) : Prs := (List.range (cnt s.size)).map (pr p s)
theorem chunks_len (p s : ByteArray) : (chunks p s).length = cnt s.size := by unfold chunks; rw [List.length_map, List.length_range]
theorem chunks_at (p s : ByteArray) (i : Nat) (h : i < (chunks p s).length) : (chunks p s)[i] = pr p s i := by
  have h2 : i < ((List.range (cnt s.size)).map (pr p s)).length := h
  show ((List.range (cnt s.size)).map (pr p s))[i] = _
  rw [List.getElem_map, List.getElem_range]
theorem one_size (s : ByteArray) (i : Nat) : (one s i).size ≤ 150 := by unfold one; rw [ByteArray.size_extract]; omega
def joined (l : Prs) : ByteArray := l.foldl (fun s x => s ++ x.2) nil
theorem joined_snoc (l : Prs) (x : ByteArray × ByteArray) : joined (l ++ [x]) = joined l ++ x.2 := by unfold joined; rw [List.foldl_append]; rfl
theorem joined_front (p s : ByteArray) : ∀ k, k ≤ cnt s.size → joined ((List.range k).map (pr p s)) = s.extract 0 (min (150 * k) s.size)
  | 0, _ => by
    rw [Nat.mul_zero, Nat.zero_min, ByteArray.extract_same]; rfl
  | k + 1, h => by
    have hb := cnt_before (show k < cnt s.size by omega)
    rw [List.range_succ, List.map_append, List.map_singleton, joined_snoc, joined_front p s k (by omega)]
    show s.extract 0 (min (150 * k) s.size) ++ s.extract (150 * k) (min (150 * (k + 1)) s.size) = _
    rw [Nat.min_eq_left hb]
    exact (ByteArray.extract_eq_extract_append_extract (150 * k) (Nat.zero_le _) (by omega)).symm
theorem joined_chunks (p s : ByteArray) : joined (chunks p s) = s := by
  unfold chunks
  rw [joined_front p s _ (Nat.le_refl _), Nat.min_eq_right (cnt_cover s.size)]
  exact ByteArray.extract_zero_size
theorem joined_size : ∀ (l : Prs) (m : Nat), (∀ x ∈ l, x.2.size ≤ m) → (joined l).size ≤ l.length * m := by
  intro l m
  rw [show l = l.reverse.reverse by simp]
  generalize l.reverse = r
  induction r with
  | nil => intro _; exact Nat.zero_le _
  | cons x r ih =>
    intro h
    rw [List.reverse_cons, joined_snoc, ByteArray.size_append, List.length_append, List.length_singleton, Nat.add_mul, Nat.one_mul]
    have h1 := ih (fun y hy => h y (by rw [List.reverse_cons]; exact List.mem_append_left _ hy))
    have h2 := h x (by rw [List.reverse_cons]; exact List.mem_append_right _ (by simp))
    omega
/-- the edit that takes a text out, and the error's number -/
def clear (p : ByteArray) : Tr.Ed × Nat := if rightB p = true then (⟨key p 0, nil, true, key p 65535⟩, 0) else (⟨nil, nil, false, nil⟩, 2)
def ed (x : ByteArray × ByteArray) : Tr.Ed := ⟨x.1, x.2, false, nil⟩
def edits (p s : ByteArray) : List Tr.Ed × Nat := if rightB p = true then (if 1400 < s.size then ([], 5) else ((clear p).1 :: (chunks p s).map ed, 0)) else ([], 2)
def join (p : ByteArray) (l : Prs) : ByteArray × Nat :=
  if rightB p = true then (if l.length = 0 then (nil, 6) else if 10 < l.length then (nil, 4) else if 1400 < (joined l).size then (nil, 4) else if chunks p (joined l) = l then (joined l, 0) else (nil, 4)) else (nil, 2)
theorem fix_zero : Oct.fix 0 2 = [0, 0] := by decide
theorem fix_last : Oct.fix 65535 2 = [255, 255] := by decide
/-- what was cut is joined as it was; turned at one place it is not -/
theorem join_chunks {p s : ByteArray} (hp : rightB p = true) (hs : s.size ≤ 1400) : join p (chunks p s) = (s, 0) := by
  unfold join
  have h1 := cnt_pos s.size
  have h2 := cnt_le (m := 10) (show s.size ≤ 150 * 10 by omega) (by omega)
  rw [if_pos hp, chunks_len, if_neg (by omega), if_neg (by omega), joined_chunks, if_neg (by omega), if_pos rfl]
theorem join_turned {p s : ByteArray} {l : Prs} (hp : rightB p = true) (hs : s.size ≤ 1400) : (l = chunks p s) ↔ ((join p l).1 = s ∧ (join p l).2 = 0) := by
  constructor
  · rintro rfl
    rw [join_chunks hp hs]; exact ⟨rfl, rfl⟩
  · rintro ⟨h1, h2⟩
    unfold join at h1 h2
    rw [if_pos hp] at h1 h2
    split at h1
    · rename_i h; rw [if_pos h] at h2; cases h2
    · rename_i h; rw [if_neg h] at h2
      split at h1
      · rename_i h; rw [if_pos h] at h2; cases h2
      · rename_i h; rw [if_neg h] at h2
        split at h1
        · rename_i h; rw [if_pos h] at h2; cases h2
        · rename_i h; rw [if_neg h] at h2
          split at h1
          · rename_i h
            have h1 : joined l = s := h1
            rw [h1] at h; exact h.symm
          · rename_i h; rw [if_neg h] at h2; cases h2
end Go.Proofs.Ytlhhecomjhfhjaa.Ck
