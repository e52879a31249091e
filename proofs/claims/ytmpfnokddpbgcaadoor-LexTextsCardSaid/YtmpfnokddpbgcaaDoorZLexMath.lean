/-
  The plain mathematics of layer 13 (lex): tokens, their texts, and the tokens of a text; nothing of any program.
-/
import Derived.Test.YtmpfnokddpbgcaaDoorPk1
namespace Go.Proofs.YtmpfnokddpbgcaaDoor.Lx
open Vl (val esc quoteL plain)
structure T where
  kind : Int
  s : ByteArray
  n : Int
  spot : Int
def no : T := ⟨0, Vl.mt, 0, 0⟩
abbrev mk (l : List UInt8) : ByteArray := ⟨l.toArray⟩
def letter (c : UInt8) : Bool := (decide (97 ≤ c.toNat) && decide (c.toNat ≤ 122)) || (decide (65 ≤ c.toNat) && decide (c.toNat ≤ 90)) || decide (c.toNat = 95)
def digit (c : UInt8) : Bool := decide (48 ≤ c.toNat) && decide (c.toNat ≤ 57)
/-- how many bytes of a name a text goes on with (b: something of it stands ahead) -/
def word (b : Bool) : List UInt8 → Nat
  | [] => 0
  | c :: r => if letter c || (b && digit c) then word true r + 1 else 0
def marks : List (List UInt8) := [[46, 46], [33, 61], [60, 61], [62, 61], [40], [41], [91], [93], [44], [43], [45], [42], [47], [61], [60], [62]]
def right (t : T) : Prop :=
  (t.kind = 1 ∧ t.n = 0 ∧ t.s ≠ Vl.mt ∧ word false t.s.data.toList = t.s.size ∧ t.s.size ≤ 16) ∨ (t.kind = 2 ∧ 0 ≤ t.n ∧ t.s = Vl.mt) ∨ (t.kind = 3 ∧ t.n = 0 ∧ plain t.s) ∨ (t.kind = 4 ∧ t.s.data.toList ∈ marks ∧ t.n = 0)
instance (t : T) : Decidable (right t) := by unfold right; infer_instance
def textL (t : T) : List UInt8 := if t.kind = 2 then Lib.itoa t.n else if t.kind = 3 then quoteL t.s.data.toList else t.s.data.toList
/-! the first token of a text: its token, its bytes, its error -/
def nameT (l : List UInt8) : T × Nat × Int := if 16 < word false l then (no, 0, 5) else (⟨1, mk (l.take (word false l)), 0, 0⟩, word false l, 0)
def digs (l : List UInt8) : List UInt8 := l.takeWhile digit
def maxI : Nat := 9223372036854775807
def numT (l : List UInt8) : T × Nat × Int :=
  if 1 < (digs l).length ∧ l.head? = some 48 then (no, 0, 11) else if maxI < val (digs l) 0 then (no, 0, 15) else (⟨2, Vl.mt, (val (digs l) 0 : Nat), 0⟩, (digs l).length, 0)
/-- the text behind a quote: what it says, what stands behind its end -/
def txt : List UInt8 → List UInt8 → Option (List UInt8 × List UInt8)
  | [], _ => none
  | c :: r, acc =>
    if c = 34 then some (acc, r)
    else if c = 92 then match r with
      | [] => none
      | d :: r' => if d = 34 ∨ d = 92 then txt r' (acc ++ [d]) else none
    else if c.toNat < 32 ∨ 126 < c.toNat then none else txt r (acc ++ [c])
def txtT (l : List UInt8) : T × Nat × Int :=
  match txt l.tail [] with
  | none => (no, 0, 11)
  | some (t, r) => if 40 < t.length then (no, 0, 5) else (⟨3, mk t, 0, 0⟩, l.length - r.length, 0)
def markT (l : List UInt8) : T × Nat × Int :=
  match marks.find? (fun m => m.isPrefixOf l) with
  | some m => (⟨4, mk m, 0, 0⟩, m.length, 0)
  | none => (no, 0, 11)
def one (l : List UInt8) : T × Nat × Int :=
  match l with
  | [] => (no, 0, 11)
  | c :: _ => if letter c then nameT l else if digit c then numT l else if c = 34 then txtT l else markT l
/-! names -/
theorem word_le (b : Bool) : ∀ l : List UInt8, word b l ≤ l.length
  | [] => Nat.le_refl _
  | c :: r => by
    have ih := word_le true r
    unfold word; split
    · rw [List.length_cons]; omega
    · exact Nat.zero_le _
/-- a word, and behind it nothing, or what is of no name -/
theorem word_app (b : Bool) : ∀ (l r : List UInt8), word b l = l.length → (r = [] ∨ ∃ c q, r = c :: q ∧ letter c = false ∧ digit c = false) → word b (l ++ r) = l.length
  | [], r, _, h => by
    rcases h with rfl | ⟨c, q, rfl, h1, h2⟩
    · rfl
    · show word b (c :: q) = 0; unfold word; rw [h1, h2]; simp
  | x :: l, r, hw, h => by
    unfold word at hw
    by_cases hx : (letter x || (b && digit x)) = true
    · rw [if_pos hx] at hw
      show word b (x :: (l ++ r)) = _
      unfold word
      rw [if_pos hx, word_app true l r (by rw [List.length_cons] at hw; omega) h, List.length_cons]
    · rw [if_neg hx] at hw; exact absurd hw (by simp)
/-- the word that is taken is a word -/
theorem word_take (b : Bool) : ∀ l : List UInt8, word b (l.take (word b l)) = word b l
  | [] => rfl
  | c :: r => by
    have ih := word_take true r
    by_cases hx : (letter c || (b && digit c)) = true
    · have e : word b (c :: r) = word true r + 1 := by rw [word, if_pos hx]
      rw [e, List.take_succ_cons, word, if_pos hx, ih]
    · have e : word b (c :: r) = 0 := by rw [word, if_neg hx]
      rw [e]; rfl
/-! numbers -/
theorem takeWhile_app {p : UInt8 → Bool} : ∀ (l r : List UInt8), (∀ b ∈ l, p b = true) → (r = [] ∨ ∃ c q, r = c :: q ∧ p c = false) → (l ++ r).takeWhile p = l
  | [], r, _, h => by
    rcases h with rfl | ⟨c, q, rfl, h1⟩
    · rfl
    · show (c :: q).takeWhile p = []; rw [List.takeWhile_cons, h1]; simp
  | x :: l, r, hp, h => by
    rw [List.cons_append, List.takeWhile_cons, hp x (by simp), takeWhile_app l r (fun b hb => hp b (by simp [hb])) h]; simp
theorem digit_iff (c : UInt8) : digit c = true ↔ 48 ≤ c.toNat ∧ c.toNat ≤ 57 := by unfold digit; simp
theorem dec_digits (u : Nat) : ∀ b ∈ Lib.decDigits u, digit b = true := fun b hb => (digit_iff b).2 (Vl.dec_bytes u b hb)
/-- a numeral of more than one digit does not begin with 0 -/
theorem dec_head (u : Nat) (h : 0 < u) : (Lib.decDigits u).head? ≠ some 48 := by
  induction u using Nat.strongRecOn with
  | _ u ih =>
    rw [Lib.decDigits]
    by_cases h1 : u < 10
    · rw [dif_pos h1]
      intro e
      simp only [List.head?_cons, Option.some.injEq] at e
      have := congrArg UInt8.toNat e
      rw [Oct.toNat_ofNat _ (by omega)] at this
      simp at this; omega
    · rw [dif_neg h1]
      have ih := ih (u / 10) (by omega) (by omega)
      cases hd : Lib.decDigits (u / 10) with
      | nil => exact absurd hd (Vl.dec_ne _)
      | cons b l => rw [hd] at ih; simpa using ih
theorem dec_len (u : Nat) (h : 1 < (Lib.decDigits u).length) : 0 < u := by
  rcases Nat.eq_zero_or_pos u with rfl | h1
  · rw [Lib.decDigits, dif_pos (by omega)] at h; simp at h
  · exact h1
/-- digits with no 0 ahead are the numeral of what they say -/
theorem dec_val : ∀ (k : Nat) (d : List UInt8), d.length = k → d ≠ [] → (∀ b ∈ d, digit b = true) → (d.length = 1 ∨ d.head? ≠ some 48) → Lib.decDigits (val d 0) = d := by
  intro k
  induction k with
  | zero => intro d hk hne; exact absurd (List.eq_nil_of_length_eq_zero hk) hne
  | succ k ih =>
    intro d hk hne hp hz
    obtain ⟨e, c, rfl⟩ : ∃ e c, d = e ++ [c] := ⟨d.dropLast, d.getLast hne, (List.dropLast_concat_getLast hne).symm⟩
    have hc := (digit_iff c).1 (hp c (by simp))
    have hv : val (e ++ [c]) 0 = val e 0 * 10 + (c.toNat - 48) := by rw [Vl.val_append]; rfl
    rw [hv]
    by_cases he : e = []
    · subst he
      show Lib.decDigits (0 * 10 + (c.toNat - 48)) = [c]
      rw [Lib.decDigits, dif_pos (by omega), show 48 + (0 * 10 + (c.toNat - 48)) = c.toNat by omega]
      congr 1
      exact UInt8.toNat_inj.1 (Oct.toNat_ofNat _ (by omega))
    · have hl : e.length = k := by simpa using hk
      have hz2 : e.head? ≠ some 48 := by
        rcases hz with hz | hz
        · exact absurd (List.eq_nil_of_length_eq_zero (by simpa using hz)) he
        · cases e with
          | nil => exact absurd rfl he
          | cons b e => simpa using hz
      have ih := ih e hl he (fun b hb => hp b (by simp [hb])) (.inr hz2)
      have hpos : 0 < val e 0 := by
        rcases Nat.eq_zero_or_pos (val e 0) with h0 | h0
        · exfalso
          rw [h0, Lib.decDigits, dif_pos (by omega)] at ih
          rw [← ih] at hz2; exact hz2 rfl
        · exact h0
      rw [Lib.decDigits, dif_neg (by omega), show (val e 0 * 10 + (c.toNat - 48)) / 10 = val e 0 by omega, show (val e 0 * 10 + (c.toNat - 48)) % 10 = c.toNat - 48 by omega, ih, show 48 + (c.toNat - 48) = c.toNat by omega]
      congr 2
      exact UInt8.toNat_inj.1 (Oct.toNat_ofNat _ (by omega))
/-! texts -/
theorem txt_end (r acc : List UInt8) : txt (34 :: r) acc = some (acc, r) := by rw [txt.eq_def]; simp
theorem txt_slash (d : UInt8) (r acc : List UInt8) : txt (92 :: d :: r) acc = if d = 34 ∨ d = 92 then txt r (acc ++ [d]) else none := by rw [txt.eq_def]; simp
theorem txt_slash0 (acc : List UInt8) : txt [92] acc = none := by rw [txt.eq_def]; simp
theorem txt_plain {c : UInt8} (r acc : List UInt8) (h1 : ¬ c = 34) (h2 : ¬ c = 92) : txt (c :: r) acc = if c.toNat < 32 ∨ 126 < c.toNat then none else txt r (acc ++ [c]) := by rw [txt.eq_def]; simp [h1, h2]
theorem txt_esc : ∀ (l r acc : List UInt8), (∀ b ∈ l, 32 ≤ b.toNat ∧ b.toNat ≤ 126) → txt (esc l ++ 34 :: r) acc = some (acc ++ l, r)
  | [], r, acc, _ => by show txt (34 :: r) acc = _; rw [txt_end, List.append_nil]
  | c :: l, r, acc, h => by
    have hc := h c (by simp)
    have ih := fun a => txt_esc l r a fun b hb => h b (by simp [hb])
    rw [esc]
    by_cases hq : c = 34 ∨ c = 92
    · rw [if_pos hq]
      show txt (92 :: c :: (esc l ++ 34 :: r)) acc = _
      rw [txt_slash, if_pos hq, ih, List.append_assoc]; rfl
    · rw [if_neg hq]
      show txt (c :: (esc l ++ 34 :: r)) acc = _
      rw [txt_plain _ _ (fun e => hq (.inl e)) (fun e => hq (.inr e)), if_neg (by omega), ih, List.append_assoc]; rfl
/-- what a text says, and its bytes -/
theorem txt_ok : ∀ (k : Nat) (l acc t r : List UInt8), l.length ≤ k → txt l acc = some (t, r) → ∃ u, t = acc ++ u ∧ l = esc u ++ 34 :: r ∧ ∀ b ∈ u, 32 ≤ b.toNat ∧ b.toNat ≤ 126 := by
  intro k
  induction k with
  | zero =>
    intro l acc t r hk h
    have : l = [] := List.eq_nil_of_length_eq_zero (by omega)
    subst this; cases h
  | succ k ih =>
    intro l acc t r hk h
    cases l with
    | nil => cases h
    | cons c q =>
      by_cases h1 : c = 34
      · subst h1
        rw [txt_end] at h
        simp only [Option.some.injEq, Prod.mk.injEq] at h
        obtain ⟨rfl, rfl⟩ := h
        exact ⟨[], by simp, rfl, by simp⟩
      · by_cases h2 : c = 92
        · subst h2
          cases q with
          | nil => rw [txt_slash0] at h; cases h
          | cons d q =>
            rw [txt_slash] at h
            by_cases h3 : d = 34 ∨ d = 92
            · rw [if_pos h3] at h
              obtain ⟨u, e1, e2, e3⟩ := ih q _ t r (by simp only [List.length_cons] at hk; omega) h
              refine ⟨d :: u, by rw [e1, List.append_assoc]; rfl, ?_, ?_⟩
              · rw [esc, if_pos h3, e2]; rfl
              · intro b hb
                rcases List.mem_cons.1 hb with rfl | hb
                · rcases h3 with rfl | rfl <;> decide
                · exact e3 b hb
            · rw [if_neg h3] at h; cases h
        · rw [txt_plain _ _ h1 h2] at h
          by_cases h3 : c.toNat < 32 ∨ 126 < c.toNat
          · rw [if_pos h3] at h; cases h
          · rw [if_neg h3] at h
            obtain ⟨u, e1, e2, e3⟩ := ih q _ t r (by simp only [List.length_cons] at hk; omega) h
            refine ⟨c :: u, by rw [e1, List.append_assoc]; rfl, ?_, ?_⟩
            · rw [esc, if_neg (fun x => x.elim h1 h2), e2]; rfl
            · intro b hb
              rcases List.mem_cons.1 hb with rfl | hb
              · omega
              · exact e3 b hb
end Go.Proofs.YtmpfnokddpbgcaaDoor.Lx
