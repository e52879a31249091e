/-
  Layer 4: the document's disk as plain lists: what was flushed, what is loose, when the power goes.
-/
import Derived.Test.YtjefmmbkkdaeiaaBase
namespace Go.Proofs.Ytjefmmbkkdaeiaa
namespace Dk

/-- blocks, loose writes, how many writes and flushes are left, whether the power is gone -/
structure D where
  B : List ByteArray
  W : List (Nat × ByteArray)
  fuse : Int
  gone : Bool

abbrev blk (B : List ByteArray) (i : Nat) : ByteArray := B.getD i ByteArray.empty
/-- the first k loose writes, done -/
def overK (B : List ByteArray) (W : List (Nat × ByteArray)) : Nat → List ByteArray
  | 0 => B
  | k + 1 => (overK B W k).set (W.getD k (0, ByteArray.empty)).1 (W.getD k (0, ByteArray.empty)).2
def over (B : List ByteArray) (W : List (Nat × ByteArray)) : List ByteArray := overK B W W.length
/-- what a write's fate makes of a block -/
def falls (f : Int) (old s : ByteArray) : ByteArray :=
  if f = 1 then s else if f = 2 then s.extract 0 256 ++ old.extract 256 512 else if f = 3 then old.extract 0 256 ++ s.extract 256 512 else old
/-- the first k loose writes, done by their fates -/
def crashK (B : List ByteArray) (W : List (Nat × ByteArray)) (F : List Int) : Nat → List ByteArray
  | 0 => B
  | k + 1 => (crashK B W F k).set (W.getD k (0, ByteArray.empty)).1 (falls (F.getD k 0) (blk (crashK B W F k) (W.getD k (0, ByteArray.empty)).1) (W.getD k (0, ByteArray.empty)).2)
/-- the blocks of the first k loose writes of 'to' made like those of 'from' -/
def settleK (to fr : List ByteArray) (W : List (Nat × ByteArray)) : Nat → List ByteArray
  | 0 => to
  | k + 1 => (settleK to fr W k).set (W.getD k (0, ByteArray.empty)).1 (blk fr (W.getD k (0, ByteArray.empty)).1)

structure Ok (d : D) : Prop where
  pos : 1 ≤ d.B.length
  most : d.B.length ≤ 4096
  size : ∀ b ∈ d.B, b.size = 512
  loose : ∀ x ∈ d.W, x.1 < d.B.length ∧ x.2.size = 512
  low : -9223372036854775808 ≤ d.fuse
  high : d.fuse ≤ 9223372036854775807

/-- a block of zeros -/
def zeros : ByteArray := ⟨(List.replicate 512 (0 : UInt8)).toArray⟩
theorem zeros_size : zeros.size = 512 := by show (List.replicate 512 (0 : UInt8)).toArray.size = 512; rw [List.size_toArray, List.length_replicate]
def new (n : Nat) : D := ⟨List.replicate n zeros, [], -1, false⟩
def burn (f : Int) : Int := if f > 0 then f - 1 else f
/-- a write's error, and the disk behind it -/
def writeE (d : D) (i : Int) (s : ByteArray) : Int := if d.gone then 7 else if ¬ (0 ≤ i ∧ i < d.B.length) ∨ s.size ≠ 512 then 2 else if d.fuse = 0 then 7 else 0
def write (d : D) (i : Int) (s : ByteArray) : D := if d.gone then d else if ¬ (0 ≤ i ∧ i < d.B.length) ∨ s.size ≠ 512 then d else if d.fuse = 0 then { d with gone := true } else { d with W := d.W ++ [(i.toNat, s)], fuse := burn d.fuse }
def flushE (d : D) : Int := if d.gone then 7 else if d.fuse = 0 then 7 else 0
def flush (d : D) : D := if d.gone then d else if d.fuse = 0 then { d with gone := true } else { d with B := over d.B d.W, W := [], fuse := burn d.fuse }
def armE (d : D) : Int := if d.gone then 7 else 0
def arm (d : D) (n : Int) : D := if d.gone then d else { d with fuse := n }
def crash (d : D) (F : List Int) : D := ⟨crashK d.B d.W F d.W.length, [], -1, false⟩
def readE (d : D) (i : Int) : Int := if d.gone then 7 else if 0 ≤ i ∧ i < d.B.length then 0 else 2
def readS (d : D) (i : Int) : ByteArray := if d.gone then ByteArray.empty else if 0 ≤ i ∧ i < d.B.length then blk (over d.B d.W) i.toNat else ByteArray.empty

theorem overK_len (B : List ByteArray) (W : List (Nat × ByteArray)) (k : Nat) : (overK B W k).length = B.length := by
  induction k with
  | zero => rfl
  | succ k ih => rw [overK, List.length_set, ih]
theorem crashK_len (B : List ByteArray) (W : List (Nat × ByteArray)) (F : List Int) (k : Nat) : (crashK B W F k).length = B.length := by
  induction k with
  | zero => rfl
  | succ k ih => rw [crashK, List.length_set, ih]
theorem settleK_len (to fr : List ByteArray) (W : List (Nat × ByteArray)) (k : Nat) : (settleK to fr W k).length = to.length := by
  induction k with
  | zero => rfl
  | succ k ih => rw [settleK, List.length_set, ih]
theorem over_len (B : List ByteArray) (W : List (Nat × ByteArray)) : (over B W).length = B.length := overK_len _ _ _
theorem getD_mem {α : Type} (l : List α) (i : Nat) (d : α) (h : i < l.length) : l.getD i d ∈ l := by
  rw [List.getD_eq_getElem?_getD, List.getElem?_eq_getElem h]; exact List.getElem_mem h
theorem getD_get {α : Type} (l : List α) (i : Nat) (d : α) (h : i < l.length) : l.getD i d = l[i] := by
  rw [List.getD_eq_getElem?_getD, List.getElem?_eq_getElem h]; rfl
theorem all_set {B : List ByteArray} (h : ∀ b ∈ B, b.size = 512) (i : Nat) (x : ByteArray) (hx : x.size = 512) : ∀ b ∈ B.set i x, b.size = 512 := by
  intro b hb
  rcases List.mem_or_eq_of_mem_set hb with h1 | rfl
  · exact h b h1
  · exact hx
theorem blk_size {B : List ByteArray} (h : ∀ b ∈ B, b.size = 512) (i : Nat) (hi : i < B.length) : (blk B i).size = 512 := h _ (getD_mem B i _ hi)
theorem overK_ok {B : List ByteArray} {W : List (Nat × ByteArray)} (h : ∀ b ∈ B, b.size = 512) (hw : ∀ x ∈ W, x.1 < B.length ∧ x.2.size = 512) (k : Nat) (hk : k ≤ W.length) : ∀ b ∈ overK B W k, b.size = 512 := by
  induction k with
  | zero => exact h
  | succ k ih => rw [overK]; exact all_set (ih (by omega)) _ _ (hw _ (getD_mem W k _ (by omega))).2
theorem over_ok {B : List ByteArray} {W : List (Nat × ByteArray)} (h : ∀ b ∈ B, b.size = 512) (hw : ∀ x ∈ W, x.1 < B.length ∧ x.2.size = 512) : ∀ b ∈ over B W, b.size = 512 := overK_ok h hw _ (Nat.le_refl _)
theorem falls_size (f : Int) (old s : ByteArray) (h1 : old.size = 512) (h2 : s.size = 512) : (falls f old s).size = 512 := by
  unfold falls
  repeat' split
  · exact h2
  · rw [ByteArray.size_append, ByteArray.size_extract, ByteArray.size_extract]; omega
  · rw [ByteArray.size_append, ByteArray.size_extract, ByteArray.size_extract]; omega
  · exact h1
theorem crashK_ok {B : List ByteArray} {W : List (Nat × ByteArray)} (F : List Int) (h : ∀ b ∈ B, b.size = 512) (hw : ∀ x ∈ W, x.1 < B.length ∧ x.2.size = 512) (k : Nat) (hk : k ≤ W.length) : ∀ b ∈ crashK B W F k, b.size = 512 := by
  induction k with
  | zero => exact h
  | succ k ih =>
    have hm := hw _ (getD_mem W k (0, ByteArray.empty) (by omega))
    rw [crashK]
    exact all_set (ih (by omega)) _ _ (falls_size _ _ _ (blk_size (ih (by omega)) _ (by rw [crashK_len]; exact hm.1)) hm.2)
theorem getD_set (B : List ByteArray) (a i : Nat) (x : ByteArray) : blk (B.set a x) i = if i = a ∧ a < B.length then x else blk B i := by
  unfold blk
  rw [List.getD_eq_getElem?_getD, List.getD_eq_getElem?_getD, List.getElem?_set]
  by_cases h : a = i
  · subst h
    by_cases h2 : a < B.length
    · simp [h2]
    · simp [h2]
  · have h2 : ¬ i = a := fun e => h e.symm
    simp [h, h2]
/-- a block that no loose write is of is as it was -/
theorem overK_off (B : List ByteArray) (W : List (Nat × ByteArray)) (k i : Nat) (h : ∀ j, j < k → (W.getD j (0, ByteArray.empty)).1 ≠ i) : blk (overK B W k) i = blk B i := by
  induction k with
  | zero => rfl
  | succ k ih =>
    rw [overK, getD_set, if_neg (fun e => h k (by omega) e.1.symm)]
    exact ih fun j hj => h j (by omega)
theorem crashK_off (B : List ByteArray) (W : List (Nat × ByteArray)) (F : List Int) (k i : Nat) (h : ∀ j, j < k → (W.getD j (0, ByteArray.empty)).1 ≠ i) : blk (crashK B W F k) i = blk B i := by
  induction k with
  | zero => rfl
  | succ k ih =>
    rw [crashK, getD_set, if_neg (fun e => h k (by omega) e.1.symm)]
    exact ih fun j hj => h j (by omega)
/-- the last loose write of a block is what is read -/
theorem overK_last (B : List ByteArray) (W : List (Nat × ByteArray)) (k : Nat) (n : Nat) (hk : k < n) (hl : (W.getD k (0, ByteArray.empty)).1 < B.length) (h : ∀ j, k < j → j < n → (W.getD j (0, ByteArray.empty)).1 ≠ (W.getD k (0, ByteArray.empty)).1) :
    blk (overK B W n) (W.getD k (0, ByteArray.empty)).1 = (W.getD k (0, ByteArray.empty)).2 := by
  induction n with
  | zero => omega
  | succ n ih =>
    by_cases e : k = n
    · subst e
      rw [overK, getD_set, if_pos ⟨rfl, by rw [overK_len]; exact hl⟩]
    · rw [overK, getD_set, if_neg (fun e2 => h n (by omega) (by omega) e2.1.symm)]
      exact ih (by omega) fun j h1 h2 => h j h1 (by omega)
theorem overK_app (B : List ByteArray) (W V : List (Nat × ByteArray)) (k : Nat) (h : k ≤ W.length) : overK B (W ++ V) k = overK B W k := by
  induction k with
  | zero => rfl
  | succ k ih =>
    have e : (W ++ V).getD k (0, ByteArray.empty) = W.getD k (0, ByteArray.empty) := by
      rw [List.getD_eq_getElem?_getD, List.getD_eq_getElem?_getD, List.getElem?_append_left (by omega)]
    rw [overK, overK, ih (by omega), e]
theorem over_snoc (B : List ByteArray) (W : List (Nat × ByteArray)) (i : Nat) (s : ByteArray) : over B (W ++ [(i, s)]) = (over B W).set i s := by
  have e : (W ++ [(i, s)]).getD W.length (0, ByteArray.empty) = (i, s) := by
    rw [List.getD_eq_getElem?_getD, List.getElem?_append_right (Nat.le_refl _)]; simp
  unfold over
  rw [List.length_append, List.length_singleton, overK, e, overK_app _ _ _ _ (Nat.le_refl _)]
theorem blk_ext {A C : List ByteArray} (hl : A.length = C.length) (h : ∀ i, i < A.length → blk A i = blk C i) : A = C := by
  apply List.ext_getElem hl
  intro i h1 h2
  have := h i h1
  unfold blk at this
  rwa [getD_get _ _ _ h1, getD_get _ _ _ h2] at this
theorem settleK_at (to fr : List ByteArray) (W : List (Nat × ByteArray)) (k i : Nat) (hi : i < to.length) : blk (settleK to fr W k) i = if ∃ j, j < k ∧ (W.getD j (0, ByteArray.empty)).1 = i then blk fr i else blk to i := by
  induction k with
  | zero => simp [settleK]
  | succ k ih =>
    rw [settleK, getD_set, settleK_len]
    by_cases h : i = (W.getD k (0, ByteArray.empty)).1
    · rw [if_pos ⟨h, h ▸ hi⟩, if_pos ⟨k, by omega, h.symm⟩, ← h]
    · rw [if_neg (fun e => h e.1), ih]
      by_cases h2 : ∃ j, j < k ∧ (W.getD j (0, ByteArray.empty)).1 = i
      · rw [if_pos h2, if_pos]
        obtain ⟨j, h3, h4⟩ := h2
        exact ⟨j, by omega, h4⟩
      · rw [if_neg h2, if_neg]
        rintro ⟨j, h3, h4⟩
        by_cases e : j = k
        · subst e; exact h h4.symm
        · exact h2 ⟨j, by omega, h4⟩
theorem settle_all (to fr : List ByteArray) (W : List (Nat × ByteArray)) (n : Nat) (hl : to.length = fr.length) (h : ∀ i, (∀ j, j < n → (W.getD j (0, ByteArray.empty)).1 ≠ i) → blk to i = blk fr i) : settleK to fr W n = fr := by
  apply blk_ext (by rw [settleK_len, hl])
  intro i hi
  rw [settleK_len] at hi
  rw [settleK_at to fr W n i hi]
  by_cases h2 : ∃ j, j < n ∧ (W.getD j (0, ByteArray.empty)).1 = i
  · rw [if_pos h2]
  · rw [if_neg h2]
    exact h i fun j h3 h4 => h2 ⟨j, h3, h4⟩
theorem settle_flush (B : List ByteArray) (W : List (Nat × ByteArray)) : settleK B (over B W) W W.length = over B W :=
  settle_all _ _ _ _ (over_len _ _).symm fun i h => (overK_off B W W.length i h).symm
theorem settle_crash (B : List ByteArray) (W : List (Nat × ByteArray)) (F : List Int) : settleK (over B W) (crashK B W F W.length) W W.length = crashK B W F W.length :=
  settle_all _ _ _ _ (by rw [over_len, crashK_len]) fun i h => (overK_off B W W.length i h).trans (crashK_off B W F W.length i h).symm
/-- where the blocks are alike already nothing is to be done -/
theorem settleK_same (to fr : List ByteArray) (W : List (Nat × ByteArray)) (k : Nat) (h : blk (settleK to fr W k) (W.getD k (0, ByteArray.empty)).1 = blk fr (W.getD k (0, ByteArray.empty)).1) : settleK to fr W (k + 1) = settleK to fr W k := by
  rw [settleK, ← h]
  apply blk_ext (by rw [List.length_set])
  intro i hi
  rw [getD_set]
  split
  · rename_i h2; rw [h2.1]
  · rfl

theorem new_ok (n : Nat) (h1 : 1 ≤ n) (h2 : n ≤ 4096) : Ok (new n) :=
  ⟨by show 1 ≤ (List.replicate n zeros).length; rw [List.length_replicate]; exact h1, by show (List.replicate n zeros).length ≤ 4096; rw [List.length_replicate]; exact h2,
    fun b hb => by rw [(List.mem_replicate.1 hb).2]; exact zeros_size, (fun x hx => by cases hx), by show (-9223372036854775808 : Int) ≤ -1; omega, by show (-1 : Int) ≤ 9223372036854775807; omega⟩
theorem burn_low {f : Int} (h : -9223372036854775808 ≤ f) : -9223372036854775808 ≤ burn f := by unfold burn; split <;> omega
theorem burn_high {f : Int} (h : f ≤ 9223372036854775807) : burn f ≤ 9223372036854775807 := by unfold burn; split <;> omega
/-- what a write or a flush takes -/
def spent (d : D) : D := if d.fuse = 0 then { d with gone := true } else { d with fuse := burn d.fuse }
def spendE (d : D) : Int := if d.fuse = 0 then 7 else 0
theorem spent_ok {d : D} (h : Ok d) : Ok (spent d) := by
  unfold spent
  split
  · exact ⟨h.pos, h.most, h.size, h.loose, h.low, h.high⟩
  · exact ⟨h.pos, h.most, h.size, h.loose, burn_low h.low, burn_high h.high⟩
theorem write_ok {d : D} (h : Ok d) (i : Int) (s : ByteArray) : Ok (write d i s) := by
  unfold write
  split
  · exact h
  · split
    · exact h
    · rename_i h2
      split
      · exact ⟨h.pos, h.most, h.size, h.loose, h.low, h.high⟩
      · refine ⟨h.pos, h.most, h.size, fun x hx => ?_, burn_low h.low, burn_high h.high⟩
        rcases List.mem_append.1 hx with hx | hx
        · exact h.loose x hx
        · rw [List.mem_singleton] at hx; subst hx
          have h3 : (0 ≤ i ∧ i < d.B.length) ∧ s.size = 512 := by
            refine ⟨Classical.byContradiction fun hn => h2 (.inl hn), Classical.byContradiction fun hn => h2 (.inr hn)⟩
          exact ⟨by show i.toNat < d.B.length; omega, h3.2⟩
theorem flush_ok {d : D} (h : Ok d) : Ok (flush d) := by
  unfold flush
  split
  · exact h
  · split
    · exact ⟨h.pos, h.most, h.size, h.loose, h.low, h.high⟩
    · exact ⟨by rw [over_len]; exact h.pos, by rw [over_len]; exact h.most, over_ok h.size h.loose, (fun x hx => by cases hx), burn_low h.low, burn_high h.high⟩
theorem arm_ok {d : D} (h : Ok d) (n : Int) (h1 : -9223372036854775808 ≤ n) (h2 : n ≤ 9223372036854775807) : Ok (arm d n) := by
  unfold arm
  split
  · exact h
  · exact ⟨h.pos, h.most, h.size, h.loose, h1, h2⟩
theorem crash_ok {d : D} (h : Ok d) (F : List Int) : Ok (crash d F) :=
  ⟨by show 1 ≤ (crashK _ _ _ _).length; rw [crashK_len]; exact h.pos, by show (crashK _ _ _ _).length ≤ 4096; rw [crashK_len]; exact h.most, crashK_ok F h.size h.loose _ (Nat.le_refl _), (fun x hx => by cases hx), by show (-9223372036854775808 : Int) ≤ -1; omega, by show (-1 : Int) ≤ 9223372036854775807; omega⟩
end Dk
end Go.Proofs.Ytjefmmbkkdaeiaa
