/-
  The plain mathematics of layer 12 (value): right values, their texts, bytes and order, and what bytes begin with; nothing of any program.
-/
import Derived.Test.YtpniegglbglbcaaDoorOctMath3
import Derived.Test.YtpniegglbglbcaaDoorSealMath
import Derived.Test.YtpniegglbglbcaaDoorLabelMath
import Derived.Lib.ItoaNum
import Derived.Lib.Bytealg
namespace Go.Proofs.YtpniegglbglbcaaDoor.Vl
open Oct (numB tN tR tE txt)
structure V where
  kind : Int
  n : Int
  s : ByteArray
abbrev mt : ByteArray := ⟨#[]⟩
def no : V := ⟨0, 0, mt⟩
/-- may s be a text? -/
def plain (s : ByteArray) : Prop := s.size ≤ 40 ∧ ∀ b ∈ s.data.toList, 32 ≤ b.toNat ∧ b.toNat ≤ 126
instance (s : ByteArray) : Decidable (plain s) := by unfold plain; infer_instance
def right (v : V) : Prop := (v.kind = 0 ∧ v.n = 0 ∧ v.s = mt) ∨ (v.kind = 1 ∧ v.s = mt) ∨ (v.kind = 2 ∧ v.n = 0 ∧ plain v.s) ∨ (v.kind = 3 ∧ (v.n = 0 ∨ v.n = 1) ∧ v.s = mt)
instance (v : V) : Decidable (right v) := by unfold right; infer_instance
theorem v_ext {a b : V} (h1 : a.kind = b.kind) (h2 : a.n = b.n) (h3 : a.s = b.s) : a = b := by
  cases a; cases b; simp only at h1 h2 h3; subst h1 h2 h3; rfl
theorem right_kind {v : V} (h : right v) : 0 ≤ v.kind ∧ v.kind ≤ 3 := by
  rcases h with h | h | h | h <;> omega
theorem right_size {v : V} (h : right v) : v.s.size ≤ 40 := by
  rcases h with h | h | h | h
  · rw [h.2.2]; decide
  · rw [h.2]; decide
  · exact h.2.2.1
  · rw [h.2.2]; decide
theorem right_n {v : V} (h : right v) (hn : v.kind ≠ 1) : v.n = 0 ∨ v.n = 1 := by
  rcases h with h | h | h | h
  · exact .inl h.2.1
  · exact absurd h.1 hn
  · exact .inl h.2.1
  · exact h.2.1
theorem right_no : right no := .inl ⟨rfl, rfl, rfl⟩

/-! the bytes -/
def tail (v : V) : ByteArray := if v.kind = 1 ∨ v.kind = 3 then numB v.n else if v.kind = 2 then numB v.s.size ++ v.s else mt
def bytes (v : V) : ByteArray := numB v.kind ++ tail v

/-- a value's bytes off the front -/
def take (s : ByteArray) : V × ByteArray × Int :=
  if tE s ≠ 0 then (no, mt, tE s)
  else if tN s = 1 ∨ tN s = 3 then
    if tE (tR s) ≠ 0 then (no, mt, tE (tR s)) else if right ⟨tN s, tN (tR s), mt⟩ then (⟨tN s, tN (tR s), mt⟩, tR (tR s), 0) else (no, mt, 4)
  else if tN s = 2 then
    if (txt (tR s) 40).2.2 ≠ 0 then (no, mt, (txt (tR s) 40).2.2) else if right ⟨2, 0, (txt (tR s) 40).1⟩ then (⟨2, 0, (txt (tR s) 40).1⟩, (txt (tR s) 40).2.1, 0) else (no, mt, 4)
  else if tN s = 0 then (no, tR s, 0) else (no, mt, 4)

theorem append_mt (a : ByteArray) : a ++ mt = a := Lb.empty_right a
theorem mt_append (a : ByteArray) : mt ++ a = a := by
  apply Sl.ba_ext; rw [ByteArray.data_append, Array.toList_append]; rfl
theorem take_bytes {v : V} (h : right v) (h0 : -9223372036854775808 ≤ v.n) (h1 : v.n ≤ 9223372036854775807) (r : ByteArray) : take (bytes v ++ r) = (v, r, 0) := by
  obtain ⟨k0, k3⟩ := right_kind h
  obtain ⟨a1, a2, a3⟩ := Oct.tE_back v.kind (tail v ++ r) (by omega) (by omega)
  have e : bytes v ++ r = numB v.kind ++ (tail v ++ r) := by unfold bytes; rw [ByteArray.append_assoc]
  have hh := h
  unfold take
  rw [e, a1, a2, a3, if_neg (by simp)]
  obtain ⟨k, n, s⟩ := v
  simp only at *
  rcases h with h | h | h | h
  · obtain ⟨rfl, rfl, rfl⟩ := h
    rw [if_neg (by decide), if_neg (by decide), if_pos rfl]
    have : tail ⟨0, 0, mt⟩ = mt := by decide
    rw [this, mt_append]; rfl
  · obtain ⟨rfl, rfl⟩ := h
    obtain ⟨b1, b2, b3⟩ := Oct.tE_back n r h0 h1
    have : tail ⟨1, n, mt⟩ = numB n := rfl
    rw [if_pos (.inl rfl), this, b1, b2, b3, if_neg (by simp), if_pos hh]
  · obtain ⟨rfl, rfl, hp⟩ := h
    have : tail ⟨2, 0, s⟩ = numB s.size ++ s := rfl
    have hp1 : s.size ≤ 40 := hp.1
    have c := Oct.txt_back s r 40 (by omega) (by omega)
    rw [if_neg (by decide), if_pos rfl, this, c, if_neg (by simp), if_pos hh]
  · obtain ⟨rfl, hn, rfl⟩ := h
    obtain ⟨b1, b2, b3⟩ := Oct.tE_back n r h0 h1
    have : tail ⟨3, n, mt⟩ = numB n := rfl
    rw [if_pos (.inr rfl), this, b1, b2, b3, if_neg (by simp), if_pos hh]
/-- what was taken: right, and it has just these bytes; or there is nothing of it -/
theorem take_ok (s : ByteArray) : ((take s).2.2 = 0 ∧ right (take s).1 ∧ bytes (take s).1 ++ (take s).2.1 = s) ∨ ((take s).2.2 ≠ 0 ∧ (take s).1 = no ∧ (take s).2.1 = mt) := by
  unfold take
  by_cases h1 : tE s = 0
  · rw [if_neg (by simpa using h1)]
    have n1 := Lb.num_only h1
    by_cases h2 : tN s = 1 ∨ tN s = 3
    · rw [if_pos h2]
      by_cases h3 : tE (tR s) = 0
      · rw [if_neg (by simpa using h3)]
        have n2 := Lb.num_only h3
        by_cases h4 : right ⟨tN s, tN (tR s), mt⟩
        · rw [if_pos h4]
          refine .inl ⟨rfl, h4, ?_⟩
          unfold bytes tail
          show numB (tN s) ++ (if tN s = 1 ∨ tN s = 3 then numB (tN (tR s)) else _) ++ tR (tR s) = s
          rw [if_pos h2, ByteArray.append_assoc, n2, n1]
        · rw [if_neg h4]; exact .inr ⟨by decide, rfl, rfl⟩
      · rw [if_pos h3]; exact .inr ⟨h3, rfl, rfl⟩
    · rw [if_neg h2]
      by_cases h3 : tN s = 2
      · rw [if_pos h3]
        by_cases h4 : (txt (tR s) 40).2.2 = 0
        · rw [if_neg (by simpa using h4)]
          by_cases h5 : right ⟨2, 0, (txt (tR s) 40).1⟩
          · rw [if_pos h5]
            refine .inl ⟨rfl, h5, ?_⟩
            have n3 := Lb.txt_only (s := tR s) (most := 40) (a := (txt (tR s) 40).1) (r := (txt (tR s) 40).2.1) (by rw [← h4])
            show numB 2 ++ (numB ((txt (tR s) 40).1.size : Nat) ++ (txt (tR s) 40).1) ++ (txt (tR s) 40).2.1 = s
            rw [ByteArray.append_assoc, n3, ← h3, n1]
          · rw [if_neg h5]; exact .inr ⟨by decide, rfl, rfl⟩
        · rw [if_pos h4]; exact .inr ⟨h4, rfl, rfl⟩
      · rw [if_neg h3]
        by_cases h4 : tN s = 0
        · rw [if_pos h4]
          refine .inl ⟨rfl, right_no, ?_⟩
          show numB 0 ++ mt ++ tR s = s
          rw [append_mt, ← h4, n1]
        · rw [if_neg h4]; exact .inr ⟨by decide, rfl, rfl⟩
  · rw [if_pos h1]; exact .inr ⟨h1, rfl, rfl⟩

/-! rows -/
def rows : Nat → ByteArray → List V × ByteArray × Int
  | 0, r => ([], r, 0)
  | n + 1, r => if (take r).2.2 ≠ 0 then ([], mt, (take r).2.2) else if (rows n (take r).2.1).2.2 ≠ 0 then ([], mt, (rows n (take r).2.1).2.2) else ((take r).1 :: (rows n (take r).2.1).1, (rows n (take r).2.1).2.1, 0)
def takeRow (s : ByteArray) (most : Int) : List V × ByteArray × Int :=
  if tE s ≠ 0 then ([], mt, tE s) else if tN s < 0 then ([], mt, 4) else if most < tN s then ([], mt, 5) else rows (tN s).toNat (tR s)
def allB (l : List V) : ByteArray := l.foldr (fun v b => bytes v ++ b) mt
def row (l : List V) : ByteArray := numB l.length ++ allB l
/-- the loop: l stands in front of what comes -/
def glue (acc : List V) (t : List V × ByteArray × Int) : List V × ByteArray × Int := if t.2.2 = 0 then (acc ++ t.1, t.2.1, 0) else ([], mt, t.2.2)
theorem rows_ok {n : Nat} {r : ByteArray} (h : (take r).2.2 = 0) (h2 : (rows n (take r).2.1).2.2 = 0) : rows (n + 1) r = ((take r).1 :: (rows n (take r).2.1).1, (rows n (take r).2.1).2.1, 0) := by
  show (if (take r).2.2 ≠ 0 then _ else if (rows n (take r).2.1).2.2 ≠ 0 then _ else _) = _
  rw [if_neg (by simpa using h), if_neg (by simpa using h2)]
theorem rows_bad {n : Nat} {r : ByteArray} (h : (take r).2.2 = 0) (h2 : (rows n (take r).2.1).2.2 ≠ 0) : rows (n + 1) r = ([], mt, (rows n (take r).2.1).2.2) := by
  show (if (take r).2.2 ≠ 0 then _ else if (rows n (take r).2.1).2.2 ≠ 0 then _ else _) = _
  rw [if_neg (by simpa using h), if_pos h2]
theorem rows_err {n : Nat} {r : ByteArray} (h : (take r).2.2 ≠ 0) : rows (n + 1) r = ([], mt, (take r).2.2) := by
  show (if (take r).2.2 ≠ 0 then _ else _) = _
  rw [if_pos h]
theorem rows_form (n : Nat) (r : ByteArray) : rows n r = glue [] (rows n r) := by
  unfold glue
  split
  · rename_i h; exact Prod.ext rfl (Prod.ext rfl h)
  · rename_i h
    cases n with
    | zero => exact absurd rfl h
    | succ n =>
      by_cases h1 : (take r).2.2 = 0
      · by_cases h2 : (rows n (take r).2.1).2.2 = 0
        · rw [rows_ok h1 h2] at h; exact absurd rfl h
        · rw [rows_bad h1 h2]
      · rw [rows_err h1]
theorem glue_step (acc : List V) (n : Nat) (r : ByteArray) (h : (take r).2.2 = 0) : glue acc (rows (n + 1) r) = glue (acc ++ [(take r).1]) (rows n (take r).2.1) := by
  unfold glue
  by_cases h2 : (rows n (take r).2.1).2.2 = 0
  · rw [rows_ok h h2, if_pos rfl, if_pos h2, List.append_assoc, List.singleton_append]
  · rw [rows_bad h h2, if_neg h2, if_neg h2]
theorem glue_err (acc : List V) (n : Nat) (r : ByteArray) (h : (take r).2.2 ≠ 0) : glue acc (rows (n + 1) r) = ([], mt, (take r).2.2) := by
  unfold glue
  rw [rows_err h]
  exact if_neg h
theorem glue_end (acc : List V) (r : ByteArray) : glue acc (rows 0 r) = (acc, r, 0) := by
  unfold glue rows; simp
/-- a value takes bytes -/
theorem take_less {r : ByteArray} (h : (take r).2.2 = 0) : (take r).2.1.size < r.size := by
  rcases take_ok r with ⟨_, _, h2⟩ | ⟨h1, _⟩
  · have := congrArg ByteArray.size h2
    rw [ByteArray.size_append] at this
    unfold bytes at this
    rw [ByteArray.size_append] at this
    have := Oct.numB_pos (take r).1.kind
    omega
  · exact absurd h h1
theorem rows_back : ∀ (l : List V) (r : ByteArray), (∀ v ∈ l, right v ∧ -9223372036854775808 ≤ v.n ∧ v.n ≤ 9223372036854775807) → rows l.length (allB l ++ r) = (l, r, 0)
  | [], r, _ => by show rows 0 (mt ++ r) = _; rw [mt_append]; rfl
  | v :: l, r, h => by
    obtain ⟨h1, h2, h3⟩ := h v (by simp)
    have ih := rows_back l r fun x hx => h x (by simp [hx])
    show rows (l.length + 1) (bytes v ++ allB l ++ r) = _
    rw [ByteArray.append_assoc, rows, take_bytes h1 h2 h3, ih]
    simp
theorem takeRow_back (l : List V) (r : ByteArray) (h : ∀ v ∈ l, right v ∧ -9223372036854775808 ≤ v.n ∧ v.n ≤ 9223372036854775807) (hl : l.length ≤ 9223372036854775807) : takeRow (row l ++ r) l.length = (l, r, 0) := by
  obtain ⟨a1, a2, a3⟩ := Oct.tE_back l.length (allB l ++ r) (by omega) (by omega)
  unfold takeRow row
  rw [ByteArray.append_assoc, a1, a2, a3, if_neg (by simp), if_neg (by omega), if_neg (by omega), Int.toNat_natCast]
  exact rows_back l r h

/-! the order -/
def cmpI (a b : Int) : Int := if a < b then -1 else if b < a then 1 else 0
def cmp (a b : V) : Int := if a.kind ≠ b.kind then cmpI a.kind b.kind else if a.n ≠ b.n then cmpI a.n b.n else Lib.compareBytes a.s.data.toList b.s.data.toList
theorem cmpI_flip (a b : Int) : cmpI b a = - cmpI a b := by unfold cmpI; split <;> split <;> omega
theorem cmpI_cases (a b : Int) : (a < b ∧ cmpI a b = -1) ∨ (a = b ∧ cmpI a b = 0) ∨ (b < a ∧ cmpI a b = 1) := by
  unfold cmpI
  by_cases h1 : a < b
  · exact .inl ⟨h1, if_pos h1⟩
  · by_cases h2 : b < a
    · exact .inr (.inr ⟨h2, by rw [if_neg h1, if_pos h2]⟩)
    · exact .inr (.inl ⟨by omega, by rw [if_neg h1, if_neg h2]⟩)
theorem cb_flip : ∀ a b : List UInt8, Lib.compareBytes b a = - Lib.compareBytes a b
  | [], [] => rfl
  | [], _ :: _ => rfl
  | _ :: _, [] => rfl
  | x :: a, y :: b => by
    have ih := cb_flip a b
    show (if y < x then (-1 : Int) else if x < y then 1 else Lib.compareBytes b a) = -(if x < y then (-1 : Int) else if y < x then 1 else Lib.compareBytes a b)
    by_cases h1 : x < y
    · have h2 : ¬ y < x := fun h => by have := UInt8.lt_iff_toNat_lt.1 h; have := UInt8.lt_iff_toNat_lt.1 h1; omega
      rw [if_neg h2, if_pos h1, if_pos h1]; rfl
    · by_cases h2 : y < x
      · rw [if_pos h2, if_neg h1, if_pos h2]
      · rw [if_neg h2, if_neg h1, if_neg h1, if_neg h2, ih]
theorem cb_range : ∀ a b : List UInt8, Lib.compareBytes a b = -1 ∨ Lib.compareBytes a b = 0 ∨ Lib.compareBytes a b = 1
  | [], [] => .inr (.inl rfl)
  | [], _ :: _ => .inl rfl
  | _ :: _, [] => .inr (.inr rfl)
  | x :: a, y :: b => by
    have ih := cb_range a b
    show (if x < y then (-1 : Int) else if y < x then 1 else Lib.compareBytes a b) = _ ∨ (if x < y then (-1 : Int) else if y < x then 1 else Lib.compareBytes a b) = _ ∨ (if x < y then (-1 : Int) else if y < x then 1 else Lib.compareBytes a b) = _
    by_cases h1 : x < y
    · rw [if_pos h1]; exact .inl rfl
    · by_cases h2 : y < x
      · rw [if_neg h1, if_pos h2]; exact .inr (.inr rfl)
      · rw [if_neg h1, if_neg h2]; exact ih
theorem cb_zero : ∀ a b : List UInt8, Lib.compareBytes a b = 0 → a = b
  | [], [], _ => rfl
  | [], _ :: _, h => by simp [Lib.compareBytes] at h
  | _ :: _, [], h => by simp [Lib.compareBytes] at h
  | x :: a, y :: b, h => by
    have h : (if x < y then (-1 : Int) else if y < x then 1 else Lib.compareBytes a b) = 0 := h
    by_cases h1 : x < y
    · rw [if_pos h1] at h; omega
    · by_cases h2 : y < x
      · rw [if_neg h1, if_pos h2] at h; omega
      · rw [if_neg h1, if_neg h2] at h
        have e : x = y := UInt8.toNat_inj.1 (by have a1 := mt_lt h1; have a2 := mt_lt h2; omega)
        rw [e, cb_zero a b h]
where mt_lt {x y : UInt8} (h : ¬ x < y) : y.toNat ≤ x.toNat := Nat.le_of_not_lt fun hh => h (UInt8.lt_iff_toNat_lt.2 hh)
theorem cb_self : ∀ a : List UInt8, Lib.compareBytes a a = 0
  | [] => rfl
  | x :: a => by
    show (if x < x then (-1 : Int) else if x < x then 1 else Lib.compareBytes a a) = 0
    have h : ¬ x < x := fun h => Nat.lt_irrefl _ (UInt8.lt_iff_toNat_lt.1 h)
    rw [if_neg h, if_neg h]; exact cb_self a
/-- at most, and at most, is at most; with equality just where both are equal -/
theorem cb_trans : ∀ a b c : List UInt8, Lib.compareBytes a b ≤ 0 → Lib.compareBytes b c ≤ 0 → Lib.compareBytes a c < 0 ∨ (Lib.compareBytes a b = 0 ∧ Lib.compareBytes b c = 0 ∧ Lib.compareBytes a c = 0)
  | [], [], [], _, _ => .inr ⟨rfl, rfl, rfl⟩
  | [], [], _ :: _, _, _ => .inl (by simp [Lib.compareBytes])
  | [], _ :: _, [], _, h => by simp [Lib.compareBytes] at h
  | [], _ :: _, _ :: _, _, _ => .inl (by simp [Lib.compareBytes])
  | _ :: _, [], _, h, _ => by simp [Lib.compareBytes] at h
  | _ :: _, _ :: _, [], _, h => by simp [Lib.compareBytes] at h
  | x :: a, y :: b, z :: c, h1, h2 => by
    have ih := cb_trans a b c
    have h1 : (if x < y then (-1 : Int) else if y < x then 1 else Lib.compareBytes a b) ≤ 0 := h1
    have h2 : (if y < z then (-1 : Int) else if z < y then 1 else Lib.compareBytes b c) ≤ 0 := h2
    show (if x < z then (-1 : Int) else if z < x then 1 else Lib.compareBytes a c) < 0 ∨ (if x < y then (-1 : Int) else if y < x then 1 else Lib.compareBytes a b) = 0 ∧ (if y < z then (-1 : Int) else if z < y then 1 else Lib.compareBytes b c) = 0 ∧ (if x < z then (-1 : Int) else if z < x then 1 else Lib.compareBytes a c) = 0
    simp only [UInt8.lt_iff_toNat_lt] at *
    by_cases p1 : x.toNat < y.toNat
    · have : x.toNat < z.toNat := by
        by_cases p2 : y.toNat < z.toNat
        · omega
        · by_cases p3 : z.toNat < y.toNat
          · rw [if_neg p2, if_pos p3] at h2; omega
          · omega
      rw [if_pos this]; exact .inl (by decide)
    · by_cases p3 : y.toNat < x.toNat
      · rw [if_neg p1, if_pos p3] at h1; omega
      · rw [if_neg p1, if_neg p3] at h1
        have e : x.toNat = y.toNat := by omega
        rw [e] at *
        by_cases p2 : y.toNat < z.toNat
        · rw [if_pos p2]; exact .inl (by decide)
        · by_cases p4 : z.toNat < y.toNat
          · rw [if_neg p2, if_pos p4] at h2; omega
          · rw [if_neg p2, if_neg p4] at h2
            rw [if_neg p2, if_neg p4, if_neg (Nat.lt_irrefl _), if_neg (Nat.lt_irrefl _), if_neg p2, if_neg p4]
            exact ih h1 h2
theorem cmp_k {a b : V} (h : a.kind ≠ b.kind) : cmp a b = cmpI a.kind b.kind := if_pos h
theorem cmp_n {a b : V} (h : a.kind = b.kind) (h2 : a.n ≠ b.n) : cmp a b = cmpI a.n b.n := by unfold cmp; rw [if_neg (fun x => x h), if_pos h2]
theorem cmp_s {a b : V} (h : a.kind = b.kind) (h2 : a.n = b.n) : cmp a b = Lib.compareBytes a.s.data.toList b.s.data.toList := by unfold cmp; rw [if_neg (fun x => x h), if_neg (fun x => x h2)]
theorem cmp_flip (a b : V) : cmp b a = - cmp a b := by
  by_cases h1 : a.kind = b.kind
  · by_cases h2 : a.n = b.n
    · rw [cmp_s h1 h2, cmp_s h1.symm h2.symm, cb_flip]
    · rw [cmp_n h1 h2, cmp_n h1.symm (fun e => h2 e.symm), cmpI_flip]
  · rw [cmp_k h1, cmp_k (fun e => h1 e.symm), cmpI_flip]
theorem cmp_range (a b : V) : -1 ≤ cmp a b ∧ cmp a b ≤ 1 := by
  unfold cmp
  split
  · rcases cmpI_cases a.kind b.kind with h | h | h <;> omega
  · split
    · rcases cmpI_cases a.n b.n with h | h | h <;> omega
    · rcases cb_range a.s.data.toList b.s.data.toList with h | h | h <;> omega
theorem cmp_zero (a b : V) : cmp a b = 0 ↔ a = b := by
  constructor
  · intro h
    unfold cmp at h
    split at h
    · rename_i h1; rcases cmpI_cases a.kind b.kind with h2 | h2 | h2
      · omega
      · exact absurd h2.1 h1
      · omega
    · rename_i h1
      split at h
      · rename_i h2; rcases cmpI_cases a.n b.n with h3 | h3 | h3
        · omega
        · exact absurd h3.1 h2
        · omega
      · rename_i h2
        exact v_ext (Classical.not_not.1 h1) (Classical.not_not.1 h2) (Sl.ba_ext (cb_zero _ _ h))
  · rintro rfl
    unfold cmp; rw [if_neg (by simp), if_neg (by simp), cb_self]
theorem cmp_trans (a b c : V) : cmp a b > 0 ∨ cmp b c > 0 ∨ cmp a c < 0 ∨ (cmp a b = 0 ∧ cmp b c = 0 ∧ cmp a c = 0) := by
  by_cases k1 : a.kind = b.kind
  · by_cases k2 : b.kind = c.kind
    · have k3 : a.kind = c.kind := k1.trans k2
      by_cases n1 : a.n = b.n
      · rw [cmp_s k1 n1]
        by_cases n2 : b.n = c.n
        · rw [cmp_s k2 n2, cmp_s k3 (n1.trans n2)]
          by_cases h1 : Lib.compareBytes a.s.data.toList b.s.data.toList ≤ 0
          · by_cases h2 : Lib.compareBytes b.s.data.toList c.s.data.toList ≤ 0
            · rcases cb_trans _ _ _ h1 h2 with h | h
              · exact .inr (.inr (.inl h))
              · exact .inr (.inr (.inr h))
            · exact .inr (.inl (by omega))
          · exact .inl (by omega)
        · rw [cmp_n k2 n2, cmp_n k3 (by rw [n1]; exact n2), n1]
          rcases cmpI_cases b.n c.n with h | h | h <;> omega
      · rw [cmp_n k1 n1]
        by_cases n2 : b.n = c.n
        · rw [cmp_n k3 (by rw [← n2]; exact n1), ← n2]
          rcases cmpI_cases a.n b.n with h | h | h <;> omega
        · rw [cmp_n k2 n2]
          by_cases n3 : a.n = c.n
          · rcases cmpI_cases a.n b.n with h | h | h <;> rcases cmpI_cases b.n c.n with h' | h' | h' <;> omega
          · rw [cmp_n k3 n3]
            rcases cmpI_cases a.n b.n with h | h | h <;> rcases cmpI_cases b.n c.n with h' | h' | h' <;> rcases cmpI_cases a.n c.n with h'' | h'' | h'' <;> omega
    · rw [cmp_k k2, cmp_k (a := a) (b := c) (by rw [k1]; exact k2), k1]
      rcases cmpI_cases b.kind c.kind with h | h | h <;> omega
  · rw [cmp_k k1]
    by_cases k2 : b.kind = c.kind
    · rw [cmp_k (a := a) (b := c) (by rw [← k2]; exact k1), ← k2]
      rcases cmpI_cases a.kind b.kind with h | h | h <;> omega
    · rw [cmp_k k2]
      by_cases k3 : a.kind = c.kind
      · rcases cmpI_cases a.kind b.kind with h | h | h <;> rcases cmpI_cases b.kind c.kind with h' | h' | h' <;> omega
      · rw [cmp_k k3]
        rcases cmpI_cases a.kind b.kind with h | h | h <;> rcases cmpI_cases b.kind c.kind with h' | h' | h' <;> rcases cmpI_cases a.kind c.kind with h'' | h'' | h'' <;> omega

/-! the text -/
def esc : List UInt8 → List UInt8
  | [] => []
  | b :: l => if b = 34 ∨ b = 92 then 92 :: b :: esc l else b :: esc l
def quoteL (l : List UInt8) : List UInt8 := 34 :: (esc l ++ [34])
def nullL : List UInt8 := [110, 117, 108, 108]
def boolL (n : Int) : List UInt8 := if n = 1 then [116, 114, 117, 101] else [102, 97, 108, 115, 101]
def textL (v : V) : List UInt8 := if v.kind = 1 then Lib.itoa v.n else if v.kind = 2 then quoteL v.s.data.toList else if v.kind = 3 then boolL v.n else nullL
def text (v : V) : ByteArray := ⟨(textL v).toArray⟩
theorem esc_append (a b : List UInt8) : esc (a ++ b) = esc a ++ esc b := by
  induction a with
  | nil => rfl
  | cons x a ih => rw [List.cons_append, esc, esc]; split <;> rw [ih] <;> rfl
theorem esc_len (l : List UInt8) : (esc l).length ≤ 2 * l.length := by
  induction l with
  | nil => simp [esc]
  | cons x l ih => rw [esc]; split <;> simp <;> omega
theorem esc_inj : ∀ a b : List UInt8, esc a = esc b → a = b
  | [], [], _ => rfl
  | [], y :: b, h => by rw [esc, esc] at h; split at h <;> cases h
  | x :: a, [], h => by rw [esc, esc] at h; split at h <;> cases h
  | x :: a, y :: b, h => by
    rw [esc, esc] at h
    by_cases h1 : x = 34 ∨ x = 92
    · by_cases h2 : y = 34 ∨ y = 92
      · rw [if_pos h1, if_pos h2] at h
        injection h with _ h; injection h with h3 h4
        rw [h3, esc_inj a b h4]
      · rw [if_pos h1, if_neg h2] at h
        injection h with h3 _; exact absurd (.inr h3.symm) h2
    · by_cases h2 : y = 34 ∨ y = 92
      · rw [if_neg h1, if_pos h2] at h
        injection h with h3 _; exact absurd (.inr h3) h1
      · rw [if_neg h1, if_neg h2] at h
        injection h with h3 h4
        rw [h3, esc_inj a b h4]
/-- what a numeral says -/
def val : List UInt8 → Nat → Nat
  | [], c => c
  | b :: l, c => val l (c * 10 + (b.toNat - 48))
theorem val_append : ∀ (a b : List UInt8) (c : Nat), val (a ++ b) c = val b (val a c)
  | [], _, _ => rfl
  | _ :: a, b, _ => val_append a b _
theorem val_dec (u : Nat) : val (Lib.decDigits u) 0 = u := by
  induction u using Nat.strongRecOn with
  | _ u ih =>
    rw [Lib.decDigits]
    by_cases h : u < 10
    · rw [dif_pos h]; show 0 * 10 + ((UInt8.ofNat (48 + u)).toNat - 48) = u
      rw [Oct.toNat_ofNat _ (by omega)]; omega
    · rw [dif_neg h, val_append, ih (u / 10) (by omega)]
      show u / 10 * 10 + ((UInt8.ofNat (48 + u % 10)).toNat - 48) = u
      rw [Oct.toNat_ofNat _ (by omega)]; omega
theorem dec_bytes (u : Nat) : ∀ b ∈ Lib.decDigits u, 48 ≤ b.toNat ∧ b.toNat ≤ 57 := by
  induction u using Nat.strongRecOn with
  | _ u ih =>
    rw [Lib.decDigits]
    by_cases h : u < 10
    · rw [dif_pos h]; intro b hb; simp only [List.mem_singleton] at hb; subst hb; rw [Oct.toNat_ofNat _ (by omega)]; omega
    · rw [dif_neg h]; intro b hb
      rcases List.mem_append.1 hb with hb | hb
      · exact ih (u / 10) (by omega) b hb
      · simp only [List.mem_singleton] at hb; subst hb; rw [Oct.toNat_ofNat _ (by omega)]; omega
theorem dec_ne (u : Nat) : Lib.decDigits u ≠ [] := by
  rw [Lib.decDigits]; split <;> simp
theorem itoa_inj (n m : Int) (h : Lib.itoa n = Lib.itoa m) : n = m := by
  unfold Lib.itoa at h
  have key : ∀ (a b : Nat), 45 :: Lib.decDigits a = Lib.decDigits b → False := by
    intro a b hh
    have := dec_bytes b 45 (by rw [← hh]; simp)
    revert this; decide
  by_cases h1 : n < 0
  · by_cases h2 : m < 0
    · rw [if_pos h1, if_pos h2] at h
      injection h with _ h
      have := congrArg (fun l => val l 0) h
      simp only [val_dec] at this; omega
    · rw [if_pos h1, if_neg h2] at h; exact (key _ _ h).elim
  · by_cases h2 : m < 0
    · rw [if_neg h1, if_pos h2] at h; exact (key _ _ h.symm).elim
    · rw [if_neg h1, if_neg h2] at h
      have := congrArg (fun l => val l 0) h
      simp only [val_dec] at this; omega
theorem itoa_first (n : Int) : ∃ b l, Lib.itoa n = b :: l ∧ (b = 45 ∨ (48 ≤ b.toNat ∧ b.toNat ≤ 57)) := by
  unfold Lib.itoa
  split
  · exact ⟨45, _, rfl, .inl rfl⟩
  · cases hd : Lib.decDigits n.toNat with
    | nil => exact absurd hd (dec_ne _)
    | cons b l => exact ⟨b, l, rfl, .inr (dec_bytes n.toNat b (by rw [hd]; simp))⟩
/-- unlike right values have unlike texts -/
theorem quote_inj (a b : List UInt8) (h : quoteL a = quoteL b) : a = b := by
  unfold quoteL at h
  injection h with _ h
  exact esc_inj a b (List.append_cancel_right h)
theorem bool_inj (n m : Int) (hn : n = 0 ∨ n = 1) (hm : m = 0 ∨ m = 1) (h : boolL n = boolL m) : n = m := by
  rcases hn with rfl | rfl <;> rcases hm with rfl | rfl <;> first | rfl | (revert h; decide)
/-- the text's first byte -/
def head (v : V) : UInt8 := (textL v).headD 0
theorem head_at {v : V} (h : right v) : (v.kind = 0 ∧ head v = 110) ∨ (v.kind = 1 ∧ (head v = 45 ∨ (48 ≤ (head v).toNat ∧ (head v).toNat ≤ 57))) ∨ (v.kind = 2 ∧ head v = 34) ∨ (v.kind = 3 ∧ (head v = 102 ∨ head v = 116)) := by
  obtain ⟨k, n, s⟩ := v
  rcases h with h | h | h | h
  · obtain ⟨rfl, -⟩ := h; exact .inl ⟨rfl, rfl⟩
  · obtain ⟨rfl, -⟩ := h
    obtain ⟨b, l, e, hb⟩ := itoa_first n
    have hh : head ⟨1, n, s⟩ = b := by show (Lib.itoa n).headD 0 = b; rw [e]; rfl
    rw [hh]; exact .inr (.inl ⟨rfl, hb⟩)
  · obtain ⟨rfl, -⟩ := h; exact .inr (.inr (.inl ⟨rfl, rfl⟩))
  · obtain ⟨rfl, hn, -⟩ := h
    refine .inr (.inr (.inr ⟨rfl, ?_⟩))
    rcases hn with hn | hn
    · have hn : n = 0 := hn
      subst hn; exact .inl rfl
    · have hn : n = 1 := hn
      subst hn; exact .inr rfl
theorem text_inj {a b : V} (ha : right a) (hb : right b) (h : text a = text b) : a = b := by
  have hl : textL a = textL b := congrArg (fun s : ByteArray => s.data.toList) h
  have hh : head a = head b := by unfold head; rw [hl]
  have hk : a.kind = b.kind := by
    have c1 := head_at ha; have c2 := head_at hb
    rw [hh] at c1
    rcases c1 with ⟨k1, e1⟩ | ⟨k1, e1⟩ | ⟨k1, e1⟩ | ⟨k1, e1⟩ <;> rcases c2 with ⟨k2, e2⟩ | ⟨k2, e2⟩ | ⟨k2, e2⟩ | ⟨k2, e2⟩
    case inl.inl => omega
    case inr.inl.inr.inl => omega
    case inr.inr.inl.inr.inr.inl => omega
    case inr.inr.inr.inr.inr.inr => omega
    all_goals exfalso
    all_goals simp only [← UInt8.toNat_inj] at e1 e2
    all_goals simp at e1 e2
    all_goals omega
  obtain ⟨k, n, s⟩ := a
  obtain ⟨k', n', s'⟩ := b
  have hk : k = k' := hk
  subst hk
  rcases ha with ha | ha | ha | ha
  · obtain ⟨h1, h2, h3⟩ := ha
    simp only at h1 h2 h3
    subst h1 h2 h3
    rcases hb with hb | hb | hb | hb
    · exact v_ext rfl hb.2.1.symm hb.2.2.symm
    all_goals exact absurd hb.1 (by simp)
  · obtain ⟨h1, h2⟩ := ha
    simp only at h1 h2
    subst h1 h2
    rcases hb with hb | hb | hb | hb
    · exact absurd hb.1 (by simp)
    · exact v_ext rfl (itoa_inj _ _ hl) hb.2.symm
    all_goals exact absurd hb.1 (by simp)
  · obtain ⟨h1, h2, _⟩ := ha
    simp only at h1 h2
    subst h1 h2
    rcases hb with hb | hb | hb | hb
    · exact absurd hb.1 (by simp)
    · exact absurd hb.1 (by simp)
    · exact v_ext rfl hb.2.1.symm (Sl.ba_ext (quote_inj _ _ hl))
    · exact absurd hb.1 (by simp)
  · obtain ⟨h1, h2, h3⟩ := ha
    simp only at h1 h2 h3
    subst h1 h3
    rcases hb with hb | hb | hb | hb
    · exact absurd hb.1 (by simp)
    · exact absurd hb.1 (by simp)
    · exact absurd hb.1 (by simp)
    · exact v_ext rfl (bool_inj _ _ h2 hb.2.1 hl) hb.2.2.symm
end Go.Proofs.YtpniegglbglbcaaDoor.Vl
