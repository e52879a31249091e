/-
  The plain mathematics of layer 7 (wal): records in a ring of a disk's blocks; nothing of any program.
-/
import Derived.Test.YtednmncapfclfaaPk3
import Derived.Test.YtednmncapfclfaaPk1
namespace Go.Proofs.Ytednmncapfclfaa.Wl
/-- the blocks as they are read -/
def view (d : Dk.D) : List ByteArray := Dk.over d.B d.W
/-- the block of a place -/
def spot (fr n p : Nat) : Nat := fr + p % n
/-- what Open finds at a place: its error, its text -/
def errAt (d : Dk.D) (fr n p : Nat) : Int := if Dk.readE d (spot fr n p : Nat) ≠ 0 then Dk.readE d (spot fr n p : Nat) else if (Sl.take (Dk.readS d (spot fr n p : Nat))).2.2 ≠ 0 ∨ (Sl.take (Dk.readS d (spot fr n p : Nat))).1 ≠ (p : Int) + 1 then 9 else 0
def textAt (d : Dk.D) (fr n p : Nat) : ByteArray := (Sl.take (Dk.readS d (spot fr n p : Nat))).2.1
/-- the first k places' error, and their texts -/
def firstE (d : Dk.D) (fr n tail : Nat) : Nat → Int
  | 0 => 0
  | k + 1 => if firstE d fr n tail k ≠ 0 then firstE d fr n tail k else errAt d fr n (tail + k)
def texts (d : Dk.D) (fr n tail : Nat) : Nat → List ByteArray
  | 0 => []
  | k + 1 => texts d fr n tail k ++ [textAt d fr n (tail + k)]
theorem texts_len (d : Dk.D) (fr n tail k : Nat) : (texts d fr n tail k).length = k := by
  induction k with
  | zero => rfl
  | succ k ih => show (_ ++ [_]).length = _; rw [List.length_append, ih]; rfl
/-- an error of a place is that of all from there on -/
theorem firstE_stays (d : Dk.D) (fr n tail k : Nat) (h : firstE d fr n tail k ≠ 0) : ∀ j, firstE d fr n tail (k + j) = firstE d fr n tail k
  | 0 => rfl
  | j + 1 => by
    have ih := firstE_stays d fr n tail k h j
    show (if firstE d fr n tail (k + j) ≠ 0 then firstE d fr n tail (k + j) else _) = _
    rw [ih, if_pos h]
/-- two places of a ring less than its length apart have two blocks -/
theorem mod_ne {n p q : Nat} (h1 : p < q) (h2 : q < p + n) : p % n ≠ q % n := by
  intro h
  have hn : 0 < n := by omega
  have e1 := Nat.div_add_mod p n
  have e2 := Nat.div_add_mod q n
  rw [h] at e1
  have hlt : p / n < q / n := by
    rcases Nat.lt_or_ge (p / n) (q / n) with hc | hc
    · exact hc
    · have := Nat.mul_le_mul_left n hc; omega
  have := Nat.mul_le_mul_left n hlt
  rw [Nat.mul_succ] at this
  omega
theorem spot_ne {fr n p q : Nat} (h1 : p < q) (h2 : q < p + n) : spot fr n p ≠ spot fr n q := by
  have := mod_ne h1 h2
  unfold spot; omega
theorem spot_lt {fr n p m : Nat} (hn : 0 < n) (h : fr + n ≤ m) : spot fr n p < m := by
  have := Nat.mod_lt p hn
  unfold spot; omega
/-- the texts L stand in the ring, from the place tail on -/
def Holds (V : List ByteArray) (fr n tail : Nat) (L : List ByteArray) : Prop := ∀ i, i < L.length → Sl.putE ((tail + i : Nat) + 1 : Int) (L.getD i ByteArray.empty) = 0 ∧ Dk.blk V (spot fr n (tail + i)) = Sl.putB ((tail + i : Nat) + 1 : Int) (L.getD i ByteArray.empty)
theorem holds_none (V : List ByteArray) (fr n tail : Nat) : Holds V fr n tail [] := fun i h => by simp at h
theorem holds_off {V V' : List ByteArray} {fr n tail : Nat} {L : List ByteArray} (h : Holds V fr n tail L) (ho : ∀ i, i < L.length → Dk.blk V' (spot fr n (tail + i)) = Dk.blk V (spot fr n (tail + i))) : Holds V' fr n tail L :=
  fun i hi => ⟨(h i hi).1, (ho i hi).trans (h i hi).2⟩
theorem getD_drop (L : List ByteArray) (k i : Nat) : (L.drop k).getD i ByteArray.empty = L.getD (k + i) ByteArray.empty := by
  rw [List.getD_eq_getElem?_getD, List.getD_eq_getElem?_getD, List.getElem?_drop]
theorem holds_drop {V : List ByteArray} {fr n tail : Nat} {L : List ByteArray} (h : Holds V fr n tail L) (k : Nat) : Holds V fr n (tail + k) (L.drop k) := by
  intro i hi
  rw [List.length_drop] at hi
  have := h (k + i) (by omega)
  rw [getD_drop, Nat.add_assoc]
  exact this
/-- a record more -/
theorem holds_more {V : List ByteArray} {fr n tail : Nat} {L : List ByteArray} (h : Holds V fr n tail L) (hr : L.length < n) (hV : fr + n ≤ V.length) {s : ByteArray} (hs : Sl.putE ((tail + L.length : Nat) + 1 : Int) s = 0) :
    Holds (V.set (spot fr n (tail + L.length)) (Sl.putB ((tail + L.length : Nat) + 1 : Int) s)) fr n tail (L ++ [s]) := by
  intro i hi
  rw [List.length_append, List.length_singleton] at hi
  have hb := spot_lt (p := tail + L.length) (by omega : 0 < n) hV
  rcases Nat.lt_or_ge i L.length with hc | hc
  · have e : (L ++ [s]).getD i ByteArray.empty = L.getD i ByteArray.empty := by
      rw [List.getD_eq_getElem?_getD, List.getD_eq_getElem?_getD, List.getElem?_append_left hc]
    have hne := spot_ne (fr := fr) (n := n) (p := tail + i) (q := tail + L.length) (by omega) (by omega)
    rw [e, Dk.getD_set, if_neg (by omega)]
    exact h i hc
  · obtain rfl : i = L.length := by omega
    have e : (L ++ [s]).getD L.length ByteArray.empty = s := by
      rw [List.getD_eq_getElem?_getD, List.getElem?_append_right (Nat.le_refl _), Nat.sub_self]; rfl
    rw [e, Dk.getD_set, if_pos ⟨rfl, hb⟩]
    exact ⟨hs, rfl⟩
/-- what stands in the ring is found -/
theorem found_one {d : Dk.D} {fr n p : Nat} {s : ByteArray} (hg : d.gone = false) (hb : spot fr n p < d.B.length) (he : Sl.putE ((p : Nat) + 1 : Int) s = 0) (h : Dk.blk (view d) (spot fr n p) = Sl.putB ((p : Nat) + 1 : Int) s) : errAt d fr n p = 0 ∧ textAt d fr n p = s := by
  have r1 : Dk.readE d (spot fr n p : Nat) = 0 := by
    unfold Dk.readE
    rw [if_neg (by rw [hg]; exact Bool.false_ne_true), if_pos (by omega)]
  have r2 : Dk.readS d (spot fr n p : Nat) = Sl.putB ((p : Nat) + 1 : Int) s := by
    unfold Dk.readS
    rw [if_neg (by rw [hg]; exact Bool.false_ne_true), if_pos (by omega), Int.toNat_natCast]
    exact h
  have ht := (Sl.take_put he).1
  constructor
  · unfold errAt
    rw [r1, r2, ht, if_neg (by simp), if_neg (by simp)]
  · unfold textAt
    rw [r2, ht]
theorem found {d : Dk.D} {fr n tail : Nat} {L : List ByteArray} (hg : d.gone = false) (hn : 0 < n) (hb : fr + n ≤ d.B.length) (h : Holds (view d) fr n tail L) : ∀ k, k ≤ L.length → firstE d fr n tail k = 0 ∧ texts d fr n tail k = L.take k
  | 0, _ => ⟨rfl, by rw [List.take_zero]; rfl⟩
  | k + 1, hk => by
    obtain ⟨i1, i2⟩ := found hg hn hb h k (by omega)
    obtain ⟨h1, h2⟩ := h k (by omega)
    obtain ⟨e1, e2⟩ := found_one hg (spot_lt hn hb) h1 h2
    constructor
    · show (if firstE d fr n tail k ≠ 0 then _ else errAt d fr n (tail + k)) = 0
      rw [if_neg (by rw [i1]; simp), e1]
    · show texts d fr n tail k ++ [textAt d fr n (tail + k)] = _
      rw [i2, e2, List.take_add_one, List.getElem?_eq_getElem (by omega), List.getD_eq_getElem?_getD, List.getElem?_eq_getElem (by omega)]
      rfl
theorem found_all {d : Dk.D} {fr n tail : Nat} {L : List ByteArray} (hg : d.gone = false) (hn : 0 < n) (hb : fr + n ≤ d.B.length) (h : Holds (view d) fr n tail L) : firstE d fr n tail L.length = 0 ∧ texts d fr n tail L.length = L := by
  have := found hg hn hb h L.length (Nat.le_refl _)
  rw [List.take_length] at this
  exact this
/-! ### appending, with power -/
/-- the records l, written from the place p on -/
def puts (d : Dk.D) (fr n p : Nat) : List ByteArray → Dk.D
  | [] => d
  | s :: l => puts (Dk.write d (spot fr n p : Nat) (Sl.putB ((p : Nat) + 1 : Int) s)) fr n (p + 1) l
theorem write_live {d : Dk.D} {i : Nat} {s : ByteArray} (hg : d.gone = false) (hf : d.fuse = -1) (hi : i < d.B.length) (hs : s.size = 512) : Dk.write d (i : Nat) s = ⟨d.B, d.W ++ [(i, s)], -1, false⟩ ∧ Dk.writeE d (i : Nat) s = 0 := by
  have hin : ¬ (¬ (0 ≤ (i : Int) ∧ (i : Int) < d.B.length) ∨ s.size ≠ 512) := by omega
  constructor
  · unfold Dk.write
    rw [if_neg (by rw [hg]; exact Bool.false_ne_true), if_neg hin, if_neg (by rw [hf]; decide), Int.toNat_natCast, hf, hg]
    rfl
  · unfold Dk.writeE
    rw [if_neg (by rw [hg]; exact Bool.false_ne_true), if_neg hin, if_neg (by rw [hf]; decide)]
/-- what stands in a ring, and what is loose, behind an Append that fits: only the new places' blocks are turned -/
theorem puts_live {fr n tail : Nat} (hn : 0 < n) : ∀ (l : List ByteArray) (d : Dk.D) (L : List ByteArray), d.gone = false → d.fuse = -1 → fr + n ≤ d.B.length → L.length + l.length ≤ n → (tail + L.length + l.length ≤ 4611686018427387904) → (∀ s ∈ l, s.size ≤ 490) → Holds (view d) fr n tail L →
    (puts d fr n (tail + L.length) l).gone = false ∧ (puts d fr n (tail + L.length) l).fuse = -1 ∧ (puts d fr n (tail + L.length) l).B = d.B ∧ Holds (view (puts d fr n (tail + L.length) l)) fr n tail (L ++ l) ∧
    ∃ V, (puts d fr n (tail + L.length) l).W = d.W ++ V ∧ ∀ x ∈ V, ∃ q, tail + L.length ≤ q ∧ q < tail + n ∧ x.1 = spot fr n q
  | [], d, L, hg, hf, _, _, _, _, h => ⟨hg, hf, rfl, by rw [List.append_nil]; exact h, [], by rw [List.append_nil]; rfl, fun x hx => by cases hx⟩
  | s :: l, d, L, hg, hf, hb, hr, hm, hs, h => by
    rw [List.length_cons] at hr hm
    have he : Sl.putE ((tail + L.length : Nat) + 1 : Int) s = 0 := Sl.putE_ok.2 ⟨by omega, by omega, hs s (by simp)⟩
    obtain ⟨w1, _⟩ := write_live hg hf (spot_lt (p := tail + L.length) hn hb) (Sl.put_size he)
    have hv : view (Dk.write d (spot fr n (tail + L.length) : Nat) (Sl.putB ((tail + L.length : Nat) + 1 : Int) s)) = (view d).set (spot fr n (tail + L.length)) (Sl.putB ((tail + L.length : Nat) + 1 : Int) s) := by
      rw [w1]; exact Dk.over_snoc _ _ _ _
    have hh := holds_more h (by omega) (by unfold view; rw [Dk.over_len]; exact hb) he
    rw [← hv] at hh
    have e : tail + (L ++ [s]).length = tail + L.length + 1 := by rw [List.length_append]; rfl
    have el : (L ++ [s]).length = L.length + 1 := by rw [List.length_append]; rfl
    have ih := puts_live (fr := fr) (n := n) (tail := tail) hn l (Dk.write d (spot fr n (tail + L.length) : Nat) (Sl.putB ((tail + L.length : Nat) + 1 : Int) s)) (L ++ [s]) (by rw [w1]) (by rw [w1]) (by rw [w1]; exact hb) (by omega) (by omega) (fun x hx => hs x (by simp [hx])) hh
    rw [e, List.append_assoc] at ih
    obtain ⟨i1, i2, i3, i4, V, i5, i6⟩ := ih
    refine ⟨i1, i2, i3.trans (by rw [w1]), i4, (spot fr n (tail + L.length), Sl.putB ((tail + L.length : Nat) + 1 : Int) s) :: V, ?_, ?_⟩
    · show (puts _ fr n (tail + L.length + 1) l).W = _
      rw [i5, w1, List.append_assoc]; rfl
    · intro x hx
      rcases List.mem_cons.1 hx with rfl | hx
      · exact ⟨tail + L.length, Nat.le_refl _, by omega, rfl⟩
      · obtain ⟨q, q1, q2, q3⟩ := i6 x hx
        exact ⟨q, by omega, q2, q3⟩
/-- what was flushed is there behind a crash, whatever was appended behind it -/
theorem crash_holds {d : Dk.D} {fr n tail : Nat} {L : List ByteArray} {V : List (Nat × ByteArray)} (F : List Int) (h : Holds d.B fr n tail L) (hW : d.W = V) (hV : ∀ x ∈ V, ∃ q, tail + L.length ≤ q ∧ q < tail + n ∧ x.1 = spot fr n q) :
    Holds (view (Dk.crash d F)) fr n tail L := by
  refine holds_off h fun i hi => ?_
  show Dk.blk (Dk.over (Dk.crashK d.B d.W F d.W.length) []) _ = _
  show Dk.blk (Dk.crashK d.B d.W F d.W.length) _ = _
  refine Dk.crashK_off _ _ _ _ _ fun j hj => ?_
  obtain ⟨q, q1, q2, q3⟩ := hV _ (by rw [← hW]; exact Dk.getD_mem d.W j (0, ByteArray.empty) hj)
  rw [hW] at q3 ⊢
  rw [q3]
  exact fun e => spot_ne (fr := fr) (n := n) (p := tail + i) (q := q) (by omega) (by omega) e.symm
end Go.Proofs.Ytednmncapfclfaa.Wl
