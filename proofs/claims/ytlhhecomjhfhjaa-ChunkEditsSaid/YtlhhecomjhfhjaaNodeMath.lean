/-
  The plain mathematics of layer 9 (node): a node's bytes, its page, and what a page is taken as; nothing of any program.
-/
import Derived.Test.YtlhhecomjhfhjaaOctMath3
import Derived.Test.YtlhhecomjhfhjaaSealMath
namespace Go.Proofs.Ytlhhecomjhfhjaa.Nd
open Oct (numB tN tR tE txt)
structure Node where
  leaf : Bool
  L : List (ByteArray × ByteArray)
def none : Node := ⟨false, []⟩
def txtB (s : ByteArray) : ByteArray := numB s.size ++ s
def pairB (x : ByteArray × ByteArray) : ByteArray := txtB x.1 ++ txtB x.2
/-- the pairs' bytes, behind one another -/
def pairsB : List (ByteArray × ByteArray) → ByteArray
  | [] => ⟨#[]⟩
  | x :: r => pairB x ++ pairsB r
def kindB (b : Bool) : ByteArray := if b then ⟨#[1]⟩ else ⟨#[2]⟩
def text (n : Node) : ByteArray := kindB n.leaf ++ numB n.L.length ++ pairsB n.L
def lt (a b : ByteArray) : Prop := Op.bytesLess a.toList b.toList = true
instance (a b : ByteArray) : Decidable (lt a b) := by unfold lt; infer_instance
/-- may a pair stand in such a node? -/
def fits (leaf : Bool) (x : ByteArray × ByteArray) : Prop := 1 ≤ x.1.size ∧ x.1.size ≤ 48 ∧ (leaf = true → x.2.size ≤ 160) ∧ (leaf = false → x.2.size = 4)
instance (leaf : Bool) (x : ByteArray × ByteArray) : Decidable (fits leaf x) := by unfold fits; infer_instance
def rising : List (ByteArray × ByteArray) → Prop
  | [] => True
  | [_] => True
  | x :: y :: r => lt x.1 y.1 ∧ rising (y :: r)
def risingB : (l : List (ByteArray × ByteArray)) → Decidable (rising l)
  | [] => isTrue trivial
  | [_] => isTrue trivial
  | x :: y :: r => by
    have := risingB (y :: r)
    show Decidable (lt x.1 y.1 ∧ rising (y :: r))
    infer_instance
instance (l : List (ByteArray × ByteArray)) : Decidable (rising l) := risingB l
def right (n : Node) : Prop := n.L ≠ [] ∧ (∀ x ∈ n.L, fits n.leaf x) ∧ rising n.L
instance (n : Node) : Decidable (right n) := by unfold right; infer_instance
def zer (k : Nat) : ByteArray := ⟨(List.replicate k 0).toArray⟩
def checkE (n : Node) : Int := if ¬ right n then 2 else if 480 < (text n).size then 5 else 0
def put (n : Node) : ByteArray := if checkE n ≠ 0 then ⟨#[]⟩ else text n ++ zer (480 - (text n).size)
/-- the pairs that bytes begin with -/
def takeP : Nat → ByteArray → Option (List (ByteArray × ByteArray) × ByteArray)
  | 0, s => some ([], s)
  | k + 1, s => if (txt s 48).2.2 ≠ 0 ∨ (txt (txt s 48).2.1 160).2.2 ≠ 0 then Option.none else (takeP k (txt (txt s 48).2.1 160).2.1).map fun r => (((txt s 48).1, (txt (txt s 48).2.1 160).1) :: r.1, r.2)
/-- how many pairs are taken -/
def countP (s : ByteArray) : Nat := if tE s ≠ 0 then 0 else if tN s ≤ 480 then (tN s).toNat else 480
def told (page : ByteArray) : Option Node := (takeP (countP (page.extract 1 480)) (tR (page.extract 1 480))).map fun r => ⟨decide (page.extract 0 1 = ⟨#[1]⟩), r.1⟩
def take (page : ByteArray) : Node × Int := if page.size ≠ 480 then (none, 4) else match told page with
  | Option.none => (none, 4)
  | some n => if checkE n = 0 ∧ put n = page then (n, 0) else (none, 4)
theorem take_ok {page : ByteArray} (h : (take page).2 = 0) : checkE (take page).1 = 0 ∧ put (take page).1 = page := by
  unfold take at h ⊢
  split at h
  · exact absurd (show (4 : Int) = 0 from h) (by decide)
  · rename_i h1
    rw [if_neg h1]
    split at h
    · exact absurd (show (4 : Int) = 0 from h) (by decide)
    · rename_i n hn
      split at h
      · rename_i hc
        rw [if_pos hc]; exact hc
      · exact absurd (show (4 : Int) = 0 from h) (by decide)
theorem take_err {page : ByteArray} (h : (take page).2 ≠ 0) : (take page).1 = none := by
  unfold take at h ⊢
  split
  · rfl
  · rename_i h1
    rw [if_neg h1] at h
    split
    · rfl
    · rename_i n hn
      rw [hn] at h
      split
      · rename_i hc
        exact absurd (show (if checkE n = 0 ∧ put n = page then ((n, 0) : Node × Int) else (none, 4)).2 = 0 by rw [if_pos hc]) h
      · rfl
/-- pairs that may stand in a node are taken as they were -/
theorem takeP_back (L : List (ByteArray × ByteArray)) (r : ByteArray) (h : ∀ x ∈ L, x.1.size ≤ 48 ∧ x.2.size ≤ 160) : takeP L.length (pairsB L ++ r) = some (L, r) := by
  induction L with
  | nil =>
    have e : (⟨#[]⟩ : ByteArray) ++ r = r := by apply Sl.ba_ext; rw [ByteArray.data_append, Array.toList_append]; rfl
    show some ([], (⟨#[]⟩ : ByteArray) ++ r) = _
    rw [e]
  | cons x t ih =>
    obtain ⟨h1, h2⟩ := h x (List.mem_cons_self ..)
    have e : pairsB (x :: t) ++ r = numB x.1.size ++ x.1 ++ (numB x.2.size ++ x.2 ++ (pairsB t ++ r)) := by
      show pairB x ++ pairsB t ++ r = _
      unfold pairB txtB
      simp only [ByteArray.append_assoc]
    have a := Oct.txt_back x.1 (numB x.2.size ++ x.2 ++ (pairsB t ++ r)) 48 (by omega) (by omega)
    have b := Oct.txt_back x.2 (pairsB t ++ r) 160 (by omega) (by omega)
    rw [e]
    show (if _ then _ else _) = _
    rw [a, b, if_neg (by simp), ih (fun y hy => h y (List.mem_cons_of_mem _ hy))]
    rfl
theorem pairsB_size (L : List (ByteArray × ByteArray)) (h : ∀ x ∈ L, 1 ≤ x.1.size) : L.length ≤ (pairsB L).size := by
  induction L with
  | nil => exact Nat.le_refl _
  | cons x t ih =>
    have h1 := h x (List.mem_cons_self ..)
    have h2 := ih (fun y hy => h y (List.mem_cons_of_mem _ hy))
    show t.length + 1 ≤ (pairB x ++ pairsB t).size
    have h3 : x.1.size ≤ (pairB x).size := by unfold pairB txtB; rw [ByteArray.size_append, ByteArray.size_append]; omega
    rw [ByteArray.size_append]; omega
theorem fits_small {leaf : Bool} {x : ByteArray × ByteArray} (h : fits leaf x) : x.1.size ≤ 48 ∧ x.2.size ≤ 160 := by
  obtain ⟨_, h2, h3, h4⟩ := h
  refine ⟨h2, ?_⟩
  cases leaf with
  | true => exact h3 rfl
  | false => rw [h4 rfl]; omega
theorem check_ok {n : Node} (h : checkE n = 0) : right n ∧ (text n).size ≤ 480 := by
  unfold checkE at h
  split at h
  · exact absurd h (by decide)
  · rename_i h1
    split at h
    · exact absurd h (by decide)
    · rename_i h2
      exact ⟨Classical.not_not.1 h1, by omega⟩
theorem zer_size (k : Nat) : (zer k).size = k := by unfold zer; show (List.replicate k (0 : UInt8)).toArray.size = k; simp
theorem put_size {n : Node} (h : checkE n = 0) : (put n).size = 480 := by
  obtain ⟨_, h2⟩ := check_ok h
  unfold put
  rw [if_neg (fun hn => hn h), ByteArray.size_append, zer_size]; omega
theorem kind_ext (b : Bool) (r : ByteArray) : (kindB b ++ r).extract 0 1 = kindB b ∧ (kindB b ++ r).extract 1 (1 + r.size) = r := by
  have hs : (kindB b).size = 1 := by cases b <;> rfl
  constructor
  · apply Sl.ba_ext
    rw [Sl.ext_first, ByteArray.data_append, Array.toList_append, List.take_append_of_le_length (by show 1 ≤ (kindB b).data.toList.length; rw [Array.length_toList]; exact Nat.le_of_eq hs.symm), List.take_of_length_le (by rw [Array.length_toList]; exact Nat.le_of_eq hs)]
  · have := Oct.extract_drop (kindB b ++ r) 1
    have e : (kindB b ++ r).size = 1 + r.size := by rw [ByteArray.size_append, hs]
    rw [← e]
    apply Sl.ba_ext
    rw [Oct.extract_drop, ByteArray.data_append, Array.toList_append, List.drop_append_of_le_length (by rw [Array.length_toList]; exact Nat.le_of_eq hs.symm), List.drop_of_length_le (by rw [Array.length_toList]; exact Nat.le_of_eq hs)]
    rfl
/-- what was put is taken as it was -/
theorem take_put {n : Node} (h : checkE n = 0) : take (put n) = (n, 0) := by
  obtain ⟨hr, hsz⟩ := check_ok h
  have hps := put_size h
  have hp : put n = kindB n.leaf ++ (numB n.L.length ++ (pairsB n.L ++ zer (480 - (text n).size))) := by
    unfold put
    rw [if_neg (fun hn => hn h)]
    unfold text
    simp only [ByteArray.append_assoc]
  have hl : n.L.length ≤ 480 := by
    have h1 := pairsB_size n.L (fun x hx => (hr.2.1 x hx).1)
    have h2 : (pairsB n.L).size ≤ (text n).size := by unfold text; rw [ByteArray.size_append]; omega
    omega
  obtain ⟨k1, k2⟩ := kind_ext n.leaf (numB n.L.length ++ (pairsB n.L ++ zer (480 - (text n).size)))
  have hs2 : 1 + (numB n.L.length ++ (pairsB n.L ++ zer (480 - (text n).size))).size = 480 := by
    have : (kindB n.leaf).size = 1 := by cases n.leaf <;> rfl
    rw [hp, ByteArray.size_append, this] at hps
    exact hps
  rw [hs2] at k2
  rw [← hp] at k1 k2
  obtain ⟨a1, a2, a3⟩ := Oct.tE_back (n.L.length : Int) (pairsB n.L ++ zer (480 - (text n).size)) (by omega) (by omega)
  have hc : countP ((put n).extract 1 480) = n.L.length := by
    unfold countP
    rw [k2, a3, if_neg (by simp), a1, if_pos (by omega)]; omega
  have hT : told (put n) = some n := by
    unfold told
    rw [hc, k2, a2, takeP_back n.L _ (fun x hx => fits_small (hr.2.1 x hx)), k1]
    have hk : decide (kindB n.leaf = ⟨#[1]⟩) = n.leaf := by
      cases n.leaf with
      | true => exact decide_eq_true rfl
      | false => exact decide_eq_false (by intro he; exact absurd (congrArg (fun b : ByteArray => b.data.toList) he) (by decide))
    show some (⟨_, n.L⟩ : Node) = _
    rw [hk]
  unfold take
  rw [if_neg (fun hn => hn hps), hT]
  show (if checkE n = 0 ∧ put n = put n then (n, 0) else _) = _
  rw [if_pos ⟨h, rfl⟩]
end Go.Proofs.Ytlhhecomjhfhjaa.Nd
