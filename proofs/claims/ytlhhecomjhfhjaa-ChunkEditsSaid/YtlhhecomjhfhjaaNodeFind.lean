/-
  The plain mathematics of layer 9 (node), further: keys in order, and where a key stands in a right node; nothing of any program.
-/
import Derived.Test.YtlhhecomjhfhjaaNodeMath
namespace Go.Proofs.Ytlhhecomjhfhjaa.Nd
theorem bl_irrefl : ∀ l : List UInt8, Op.bytesLess l l = false
  | [] => rfl
  | a :: x => by
    show (decide (a < a) || (a == a && Op.bytesLess x x)) = false
    rw [bl_irrefl x, Bool.and_false, Bool.or_false]
    exact decide_eq_false (UInt8.lt_irrefl a)
theorem bl_cons {a b : UInt8} {x y : List UInt8} : Op.bytesLess (a :: x) (b :: y) = true ↔ a < b ∨ (a = b ∧ Op.bytesLess x y = true) := by
  show (decide (a < b) || (a == b && Op.bytesLess x y)) = true ↔ _
  rw [Bool.or_eq_true, decide_eq_true_iff, Bool.and_eq_true, beq_iff_eq]
theorem bl_trans : ∀ {x y z : List UInt8}, Op.bytesLess x y = true → Op.bytesLess y z = true → Op.bytesLess x z = true
  | [], [], _, h, _ => by cases h
  | _ :: _, [], _, h, _ => by cases h
  | _, _ :: _, [], _, h => by cases h
  | [], _ :: _, _ :: _, _, _ => rfl
  | a :: x, b :: y, c :: z, h1, h2 => by
    rw [bl_cons] at h1 h2 ⊢
    rcases h1 with h1 | ⟨rfl, h1⟩
    · rcases h2 with h2 | ⟨rfl, h2⟩
      · exact .inl (UInt8.lt_trans h1 h2)
      · exact .inl h1
    · rcases h2 with h2 | ⟨rfl, h2⟩
      · exact .inl h2
      · exact .inr ⟨rfl, bl_trans h1 h2⟩
theorem bl_total : ∀ x y : List UInt8, Op.bytesLess x y = true ∨ x = y ∨ Op.bytesLess y x = true
  | [], [] => .inr (.inl rfl)
  | [], _ :: _ => .inl rfl
  | _ :: _, [] => .inr (.inr rfl)
  | a :: x, b :: y => by
    rw [bl_cons, bl_cons]
    by_cases h1 : a < b
    · exact .inl (.inl h1)
    · by_cases h2 : b < a
      · exact .inr (.inr (.inl h2))
      · have e : a = b := by
          rw [UInt8.lt_iff_toNat_lt] at h1 h2
          exact UInt8.toNat_inj.1 (by omega)
        subst e
        rcases bl_total x y with h | h | h
        · exact .inl (.inr ⟨rfl, h⟩)
        · exact .inr (.inl (by rw [h]))
        · exact .inr (.inr (.inr ⟨rfl, h⟩))
theorem lt_irrefl (a : ByteArray) : ¬ lt a a := by unfold lt; rw [bl_irrefl]; exact Bool.false_ne_true
theorem lt_trans {a b c : ByteArray} (h1 : lt a b) (h2 : lt b c) : lt a c := bl_trans h1 h2
theorem lt_total (a b : ByteArray) : lt a b ∨ a = b ∨ lt b a := by
  rcases bl_total a.toList b.toList with h | h | h
  · exact .inl h
  · rw [ByteArray.toList_eq, ByteArray.toList_eq] at h
    exact .inr (.inl (Sl.ba_ext h))
  · exact .inr (.inr h)
/-- a key that is not behind another one -/
def le (a b : ByteArray) : Bool := Op.bytesLess a.toList b.toList || a.toList == b.toList
theorem le_iff {a b : ByteArray} : le a b = true ↔ ¬ lt b a := by
  unfold le
  rw [Bool.or_eq_true, beq_iff_eq]
  constructor
  · rintro (h | h) hn
    · exact lt_irrefl _ (lt_trans (show lt a b from h) hn)
    · rw [ByteArray.toList_eq, ByteArray.toList_eq] at h
      have : a = b := Sl.ba_ext h
      subst this
      exact lt_irrefl _ hn
  · intro hn
    rcases lt_total a b with h | h | h
    · exact .inl h
    · rw [h]; exact .inr rfl
    · exact absurd h hn
theorem rising_at : ∀ {L : List (ByteArray × ByteArray)}, rising L → ∀ i j (hi : i < j) (hj : j < L.length), lt (L[i]'(Nat.lt_trans hi hj)).1 L[j].1
  | [], _, _, _, _, hj => by simp at hj
  | [_], _, i, j, hi, hj => by simp at hj; omega
  | x :: y :: r, h, i, j, hi, hj => by
    have h : lt x.1 y.1 ∧ rising (y :: r) := h
    match i, j, hi, hj with
    | 0, 1, _, _ => exact h.1
    | 0, j + 2, _, hj =>
      have := rising_at h.2 0 (j + 1) (by omega) (by simpa using hj)
      exact lt_trans h.1 this
    | i + 1, j + 1, hi, hj => exact rising_at h.2 i j (by omega) (by simpa using hj)
theorem rising_of : ∀ {L : List (ByteArray × ByteArray)}, (∀ i (h : i + 1 < L.length), lt (L[i]'(by omega)).1 L[i + 1].1) → rising L
  | [], _ => trivial
  | [_], _ => trivial
  | x :: y :: r, h => ⟨h 0 (by simp), rising_of (L := y :: r) fun i hi => h (i + 1) (by simpa using hi)⟩
/-- how many keys are not behind a key (in a right node: the first ones) -/
def upto (L : List (ByteArray × ByteArray)) (key : ByteArray) : Nat := (L.takeWhile fun x => le x.1 key).length
theorem upto_le (L : List (ByteArray × ByteArray)) (key : ByteArray) : upto L key ≤ L.length := (List.takeWhile_sublist _).length_le
theorem upto_in : ∀ (L : List (ByteArray × ByteArray)) (key : ByteArray) (i : Nat) (h : i < upto L key), le (L[i]'(Nat.lt_of_lt_of_le h (upto_le L key))).1 key = true
  | [], _, _, h => by simp [upto] at h
  | x :: r, key, i, h => by
    unfold upto at h
    rw [List.takeWhile_cons] at h
    cases hx : le x.1 key with
    | false => rw [hx] at h; simp at h
    | true =>
      rw [hx] at h
      match i, h with
      | 0, _ => exact hx
      | i + 1, h => exact upto_in r key i (by simpa [upto] using h)
theorem upto_stop : ∀ (L : List (ByteArray × ByteArray)) (key : ByteArray) (h : upto L key < L.length), le L[upto L key].1 key = false
  | [], _, h => by simp at h
  | x :: r, key, h => by
    cases hx : le x.1 key with
    | false =>
      have e : upto (x :: r) key = 0 := by unfold upto; rw [List.takeWhile_cons, hx]; rfl
      simp only [e]; exact hx
    | true =>
      have e : upto (x :: r) key = upto r key + 1 := by unfold upto; rw [List.takeWhile_cons, hx]; rfl
      have := upto_stop r key (by rw [e] at h; simpa using h)
      simp only [e]; exact this
/-- in a right node the keys that are not behind a key are the first ones -/
theorem upto_iff {L : List (ByteArray × ByteArray)} (hr : rising L) (key : ByteArray) (i : Nat) (hi : i < L.length) : le L[i].1 key = true ↔ i < upto L key := by
  constructor
  · intro h
    rcases Nat.lt_or_ge i (upto L key) with hc | hc
    · exact hc
    · have hs := upto_stop L key (by omega)
      rcases Nat.lt_or_eq_of_le hc with h1 | h1
      · have h2 := rising_at hr _ _ h1 hi
        have h3 : ¬ le L[upto L key].1 key = true := by rw [hs]; exact Bool.false_ne_true
        rw [le_iff] at h h3
        exact absurd (fun hn => h (lt_trans hn h2)) h3
      · have : ∀ j, j = upto L key → ∀ hj : j < L.length, le L[j].1 key = false := fun j e hj => by subst e; exact hs
        rw [this i h1.symm hi] at h
        cases h
  · exact fun h => upto_in L key i h
/-- what Find tells -/
def findI (L : List (ByteArray × ByteArray)) (key : ByteArray) : Int := (upto L key : Int) - 1
def findB (L : List (ByteArray × ByteArray)) (key : ByteArray) : Bool := match L[upto L key - 1]? with
  | some x => decide (0 < upto L key ∧ x.1 = key)
  | Option.none => false
/-- a key of the node is found where it stands -/
theorem find_own {L : List (ByteArray × ByteArray)} (hr : rising L) (i : Nat) (hi : i < L.length) : findI L L[i].1 = i ∧ findB L L[i].1 = true := by
  have h1 : i < upto L L[i].1 := (upto_iff hr _ i hi).1 (le_iff.2 (lt_irrefl _))
  have h2 : upto L L[i].1 ≤ i + 1 := by
    rcases Nat.lt_or_ge (i + 1) (upto L L[i].1) with hc | hc
    · have h3 := upto_in L L[i].1 (i + 1) hc
      rw [le_iff] at h3
      exact absurd (rising_at hr i (i + 1) (by omega) (Nat.lt_of_lt_of_le hc (upto_le _ _))) h3
    · exact hc
  have e : upto L L[i].1 = i + 1 := by omega
  refine ⟨by unfold findI; rw [e]; omega, ?_⟩
  unfold findB
  rw [e, Nat.add_sub_cancel, List.getElem?_eq_getElem hi]
  exact decide_eq_true ⟨by omega, rfl⟩
end Go.Proofs.Ytlhhecomjhfhjaa.Nd
