/-
  The plain mathematics of layer 7 (wal), further: a log as its ring, its ends, its texts; what each call answers, and what becomes of the disk and the log.
-/
import Derived.Test.YtednmncapfclfaaZWalMath
namespace Go.Proofs.Ytednmncapfclfaa.Wl
/-- a log -/
structure Lg where
  fr : Nat
  n : Nat
  tail : Nat
  head : Nat
  L : List ByteArray
/-- a log that may be over a disk of m blocks -/
structure Good (m : Nat) (g : Lg) : Prop where
  pos : 1 ≤ g.n
  fits : g.fr + g.n ≤ m
  ends : g.head = g.tail + g.L.length
  room : g.L.length ≤ g.n
/-! ### Open -/
def isBad (m : Nat) (fr n tail head : Int) : Prop := fr < 0 ∨ n < 1 ∨ (m : Int) - n < fr ∨ tail < 0 ∨ head < tail ∨ 1125899906842624 < head ∨ n < head - tail
instance (m : Nat) (fr n tail head : Int) : Decidable (isBad m fr n tail head) := by unfold isBad; exact inferInstance
def openE (d : Dk.D) (fr n tail head : Int) : Int := if isBad d.B.length fr n tail head then 2 else firstE d fr.toNat n.toNat tail.toNat (head - tail).toNat
def openG (d : Dk.D) (fr n tail head : Int) : Lg := ⟨fr.toNat, n.toNat, tail.toNat, head.toNat, texts d fr.toNat n.toNat tail.toNat (head - tail).toNat⟩
theorem openG_good {d : Dk.D} {fr n tail head : Int} (h : ¬ isBad d.B.length fr n tail head) : Good d.B.length (openG d fr n tail head) ∧ (openG d fr n tail head).head ≤ 1125899906842624 := by
  unfold isBad at h
  refine ⟨⟨?_, ?_, ?_, ?_⟩, ?_⟩
  · show 1 ≤ n.toNat; omega
  · show fr.toNat + n.toNat ≤ _; omega
  · show head.toNat = tail.toNat + (texts d _ _ _ _).length; rw [texts_len]; omega
  · show (texts d _ _ _ _).length ≤ n.toNat; rw [texts_len]; omega
  · show head.toNat ≤ _; omega
/-! ### Append -/
theorem write_W (d : Dk.D) (i : Int) (s : ByteArray) : (Dk.write d i s).W.length ≤ d.W.length + 1 := by
  unfold Dk.write
  split
  · omega
  · split
    · omega
    · split
      · show d.W.length ≤ _; omega
      · show (d.W ++ [_]).length ≤ _; rw [List.length_append]; exact Nat.le_refl _
theorem write_B (d : Dk.D) (i : Int) (s : ByteArray) : (Dk.write d i s).B = d.B := by
  unfold Dk.write
  split
  · rfl
  · split
    · rfl
    · split <;> rfl
def big (s : ByteArray) : Bool := decide (490 < s.size)
def stepD (d : Dk.D) (fr n p : Nat) (s : ByteArray) : Dk.D := Dk.write d (spot fr n p : Nat) (Sl.putB ((p : Nat) + 1 : Int) s)
def stepE (d : Dk.D) (fr n p : Nat) (s : ByteArray) : Int := Dk.writeE d (spot fr n p : Nat) (Sl.putB ((p : Nat) + 1 : Int) s)
/-- records written one behind the other, up to the first error -/
def run (d : Dk.D) (fr n p : Nat) : List ByteArray → Dk.D × Int
  | [] => (d, 0)
  | s :: l => if stepE d fr n p s ≠ 0 then (stepD d fr n p s, stepE d fr n p s) else run (stepD d fr n p s) fr n (p + 1) l
/-- the first k went well: the next one -/
theorem run_next {fr n : Nat} : ∀ (l : List ByteArray) (d : Dk.D) (p k : Nat) (hk : k < l.length), (run d fr n p (l.take k)).2 = 0 →
    run d fr n p (l.take (k + 1)) = (stepD (run d fr n p (l.take k)).1 fr n (p + k) l[k], stepE (run d fr n p (l.take k)).1 fr n (p + k) l[k]) ∧
    (stepE (run d fr n p (l.take k)).1 fr n (p + k) l[k] ≠ 0 → run d fr n p l = (stepD (run d fr n p (l.take k)).1 fr n (p + k) l[k], stepE (run d fr n p (l.take k)).1 fr n (p + k) l[k]))
  | [], _, _, k, hk, _ => by simp at hk
  | s :: l, d, p, 0, hk, _ => by
    show run d fr n p (s :: []) = (stepD d fr n (p + 0) s, stepE d fr n (p + 0) s) ∧ _
    rw [Nat.add_zero]
    constructor
    · show (if stepE d fr n p s ≠ 0 then (stepD d fr n p s, stepE d fr n p s) else (stepD d fr n p s, 0)) = _
      by_cases h : stepE d fr n p s = 0
      · rw [if_neg (fun hn => hn h), h]
      · rw [if_pos h]
    · intro h
      show (if stepE d fr n p s ≠ 0 then _ else _) = _
      exact if_pos h
  | s :: l, d, p, k + 1, hk, h => by
    have h : (if stepE d fr n p s ≠ 0 then (stepD d fr n p s, stepE d fr n p s) else run (stepD d fr n p s) fr n (p + 1) (l.take k)).2 = 0 := h
    by_cases h0 : stepE d fr n p s = 0
    · have e : ∀ l', run d fr n p (s :: l') = run (stepD d fr n p s) fr n (p + 1) l' := fun l' => if_neg fun hn => hn h0
      rw [if_neg (fun hn => hn h0)] at h
      have ih := run_next l (stepD d fr n p s) (p + 1) k (by simpa using hk) h
      rw [show (s :: l).take (k + 1) = s :: l.take k from rfl, show (s :: l).take (k + 1 + 1) = s :: l.take (k + 1) from rfl, e, e, e, show p + (k + 1) = p + 1 + k by omega]
      exact ih
    · rw [if_pos h0] at h
      exact absurd h h0
theorem stepD_W (d : Dk.D) (fr n p : Nat) (s : ByteArray) : (stepD d fr n p s).W.length ≤ d.W.length + 1 := write_W d _ _
theorem run_W {fr n : Nat} : ∀ (l : List ByteArray) (d : Dk.D) (p : Nat), (run d fr n p l).1.W.length ≤ d.W.length + l.length
  | [], _, _ => Nat.le_refl _
  | s :: l, d, p => by
    show (if stepE d fr n p s ≠ 0 then (stepD d fr n p s, stepE d fr n p s) else run (stepD d fr n p s) fr n (p + 1) l).1.W.length ≤ _
    have h1 := stepD_W d fr n p s
    rw [List.length_cons]
    split
    · show (stepD d fr n p s).W.length ≤ _; omega
    · have := run_W (fr := fr) (n := n) l (stepD d fr n p s) (p + 1); omega
theorem run_B {fr n : Nat} : ∀ (l : List ByteArray) (d : Dk.D) (p : Nat), (run d fr n p l).1.B.length = d.B.length
  | [], _, _ => rfl
  | s :: l, d, p => by
    show (if stepE d fr n p s ≠ 0 then (stepD d fr n p s, stepE d fr n p s) else run (stepD d fr n p s) fr n (p + 1) l).1.B.length = _
    split
    · exact congrArg List.length (write_B d _ _)
    · rw [run_B l]; exact congrArg List.length (write_B d _ _)
def appE (d : Dk.D) (g : Lg) (l : List ByteArray) : Int := if l.any big = true then 5 else if g.n - g.L.length < l.length then 8 else (run d g.fr g.n g.head l).2
def appD (d : Dk.D) (g : Lg) (l : List ByteArray) : Dk.D := if l.any big = true then d else if g.n - g.L.length < l.length then d else (run d g.fr g.n g.head l).1
def appG (d : Dk.D) (g : Lg) (l : List ByteArray) : Lg := if appE d g l = 0 then { g with head := g.head + l.length, L := g.L ++ l } else g
theorem appD_W (d : Dk.D) (g : Lg) (l : List ByteArray) : (appD d g l).W.length ≤ d.W.length + l.length := by
  unfold appD
  split
  · omega
  · split
    · omega
    · exact run_W l d _
theorem appD_B (d : Dk.D) (g : Lg) (l : List ByteArray) : (appD d g l).B.length = d.B.length := by
  unfold appD
  split
  · rfl
  · split
    · rfl
    · exact run_B l d _
theorem appE_room {d : Dk.D} {g : Lg} {l : List ByteArray} (h : appE d g l = 0) : l.any big = false ∧ l.length ≤ g.n - g.L.length := by
  unfold appE at h
  split at h
  · exact absurd h (by decide)
  · rename_i h1
    split at h
    · exact absurd h (by decide)
    · exact ⟨by simpa using h1, by omega⟩
theorem appG_good {d : Dk.D} {g : Lg} {m : Nat} (l : List ByteArray) (h : Good m g) : Good m (appG d g l) ∧ (appG d g l).head ≤ g.head + l.length := by
  unfold appG
  split
  · rename_i h0
    obtain ⟨_, h1⟩ := appE_room h0
    have := h.ends
    have := h.room
    refine ⟨⟨h.pos, h.fits, ?_, ?_⟩, ?_⟩
    · show g.head + l.length = g.tail + (g.L ++ l).length; rw [List.length_append]; omega
    · show (g.L ++ l).length ≤ g.n; rw [List.length_append]; omega
    · show g.head + l.length ≤ _; omega
  · exact ⟨h, by omega⟩
/-! ### Trim -/
def trimE (g : Lg) (t : Int) : Int := if t < g.tail ∨ (g.head : Int) < t then 2 else 0
def trimG (g : Lg) (t : Int) : Lg := if t < g.tail ∨ (g.head : Int) < t then g else { g with tail := t.toNat, L := g.L.drop (t.toNat - g.tail) }
theorem trimG_good {g : Lg} {m : Nat} (t : Int) (h : Good m g) : Good m (trimG g t) ∧ (trimG g t).head = g.head := by
  unfold trimG
  split
  · exact ⟨h, rfl⟩
  · rename_i h0
    have := h.ends
    have := h.room
    refine ⟨⟨h.pos, h.fits, ?_, ?_⟩, rfl⟩
    · show g.head = t.toNat + (g.L.drop _).length; rw [List.length_drop]; omega
    · show (g.L.drop _).length ≤ g.n; rw [List.length_drop]; omega
end Go.Proofs.Ytednmncapfclfaa.Wl
