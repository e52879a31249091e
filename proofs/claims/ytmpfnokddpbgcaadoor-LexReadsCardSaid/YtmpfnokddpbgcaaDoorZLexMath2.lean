/-
  The plain mathematics of layer 13 (lex), further: the first token of a text, and all; nothing of any program.
-/
import Derived.Test.YtmpfnokddpbgcaaDoorZLexMath
namespace Go.Proofs.YtmpfnokddpbgcaaDoor.Lx
open Vl (val esc quoteL plain)
/-- a token, wherever it begins -/
def strip (t : T) : T := ⟨t.kind, t.s, t.n, 0⟩
/-- nothing, or a blank -/
def Ends (r : List UInt8) : Prop := r = [] ∨ ∃ q, r = 32 :: q
theorem t_ext {a b : T} (h1 : a.kind = b.kind) (h2 : a.s = b.s) (h3 : a.n = b.n) (h4 : a.spot = b.spot) : a = b := by
  cases a; cases b; simp only at h1 h2 h3 h4; subst h1 h2 h3 h4; rfl
theorem mk_list (l : List UInt8) : (mk l).data.toList = l := rfl
theorem list_mk (s : ByteArray) : mk s.data.toList = s := by apply Sl.ba_ext; rfl
theorem letter_digit {c : UInt8} (h : digit c = true) : letter c = false := by
  rw [digit_iff] at h
  unfold letter
  simp; omega
theorem letter_34 : letter 34 = false := by decide
theorem digit_34 : digit 34 = false := by decide
theorem letter_32 : letter 32 = false := by decide
theorem digit_32 : digit 32 = false := by decide
theorem ends_word {r : List UInt8} (h : Ends r) : r = [] ∨ ∃ c q, r = c :: q ∧ letter c = false ∧ digit c = false := by
  rcases h with h | ⟨q, h⟩
  · exact .inl h
  · exact .inr ⟨32, q, h, letter_32, digit_32⟩
theorem ends_digit {r : List UInt8} (h : Ends r) : r = [] ∨ ∃ c q, r = c :: q ∧ digit c = false := by
  rcases h with h | ⟨q, h⟩
  · exact .inl h
  · exact .inr ⟨32, q, h, digit_32⟩
theorem itoa_nat (u : Nat) : Lib.itoa (u : Int) = Lib.decDigits u := by unfold Lib.itoa; rw [if_neg (by omega), Int.toNat_natCast]
/-- a mark, and nothing or a blank behind it -/
theorem mark_app (m : List UInt8) (hm : m ∈ marks) (r : List UInt8) (hr : Ends r) : marks.find? (fun x => x.isPrefixOf (m ++ r)) = some m := by
  have hm2 := hm
  simp only [marks, List.mem_cons, List.not_mem_nil, or_false] at hm2
  rcases hr with rfl | ⟨q, rfl⟩
  · rcases hm2 with rfl | rfl | rfl | rfl | rfl | rfl | rfl | rfl | rfl | rfl | rfl | rfl | rfl | rfl | rfl | rfl <;> decide
  · rcases hm2 with rfl | rfl | rfl | rfl | rfl | rfl | rfl | rfl | rfl | rfl | rfl | rfl | rfl | rfl | rfl | rfl <;> simp [marks, List.isPrefixOf]
theorem mark_first (m : List UInt8) (hm : m ∈ marks) : ∃ c q, m = c :: q ∧ letter c = false ∧ digit c = false ∧ c ≠ 34 ∧ c ≠ 32 := by
  simp only [marks, List.mem_cons, List.not_mem_nil, or_false] at hm
  rcases hm with rfl | rfl | rfl | rfl | rfl | rfl | rfl | rfl | rfl | rfl | rfl | rfl | rfl | rfl | rfl | rfl <;> exact ⟨_, _, rfl, by decide, by decide, by decide, by decide⟩
/-- a right token's text does not begin with a blank, and is not empty -/
theorem text_first {t : T} (h : right t) : ∃ c q, textL t = c :: q ∧ c ≠ 32 := by
  obtain ⟨k, s, n, a⟩ := t
  rcases h with ⟨hk, hn, hs, hw, _⟩ | ⟨hk, hn, hs⟩ | ⟨hk, hn, hs⟩ | ⟨hk, hm, hn⟩
  · simp only at hk hs hw
    subst hk
    show ∃ c q, s.data.toList = c :: q ∧ _
    cases hl : s.data.toList with
    | nil => exact absurd (Sl.ba_ext hl) hs
    | cons c q =>
      refine ⟨c, q, rfl, ?_⟩
      rintro rfl
      rw [hl] at hw
      have h0 : word false (32 :: q) = 0 := by unfold word; rw [letter_32]; simp
      rw [h0] at hw
      exact hs (by apply Sl.ba_ext; exact List.eq_nil_of_length_eq_zero (by rw [Array.length_toList]; exact hw.symm))
  · simp only at hk hn
    subst hk
    obtain ⟨b, l, e, hb⟩ := Vl.itoa_first n
    refine ⟨b, l, e, ?_⟩
    rintro rfl
    rcases hb with hb | hb
    · revert hb; decide
    · revert hb; decide
  · simp only at hk; subst hk
    exact ⟨34, esc s.data.toList ++ [34], rfl, by decide⟩
  · simp only at hk hm; subst hk
    obtain ⟨c, q, e, _, _, _, h⟩ := mark_first _ hm
    exact ⟨c, q, e, h⟩
theorem one_cons (c : UInt8) (r : List UInt8) : one (c :: r) = if letter c then nameT (c :: r) else if digit c then numT (c :: r) else if c = 34 then txtT (c :: r) else markT (c :: r) := rfl
set_option maxRecDepth 4000 in
/-- a right token's text, and nothing or a blank behind it -/
theorem one_text {t : T} (h : right t) (hn : t.n ≤ maxI) (r : List UInt8) (hr : Ends r) : one (textL t ++ r) = (strip t, (textL t).length, 0) := by
  obtain ⟨c, q, hc, h32⟩ := text_first h
  obtain ⟨k, s, n, a⟩ := t
  have hh := h
  rcases h with ⟨hk, hn0, hs, hw, h16⟩ | ⟨hk, hn0, hs⟩ | ⟨hk, hn0, hs⟩ | ⟨hk, hm, hn0⟩
  · simp only at hk hs hw hn0 h16
    subst hk hn0
    have hT : textL ⟨1, s, 0, a⟩ = s.data.toList := rfl
    rw [hT] at hc ⊢
    have hlen : s.data.toList.length = s.size := by rw [Array.length_toList]; rfl
    have hwa := word_app false s.data.toList r (by rw [hw, hlen]) (ends_word hr)
    have hcl : letter c = true := by
      have h1 := hw
      rw [hc] at h1
      unfold word at h1
      by_cases hl : (letter c || (false && digit c)) = true
      · simpa using hl
      · rw [if_neg hl] at h1
        exfalso
        exact hs (by apply Sl.ba_ext; exact List.eq_nil_of_length_eq_zero (by rw [hlen]; exact h1.symm))
    rw [hc, List.cons_append]
    rw [one_cons, if_pos hcl, ← List.cons_append, ← hc]
    unfold nameT
    rw [hwa, hlen, if_neg (by omega)]
    refine Prod.ext ?_ rfl
    exact t_ext rfl (by show mk _ = s; rw [← hlen, List.take_left, list_mk]) rfl rfl
  · simp only at hk hn0 hs hn
    subst hk hs
    obtain ⟨u, rfl⟩ : ∃ u : Nat, n = (u : Int) := ⟨n.toNat, by omega⟩
    have hT : textL ⟨2, Vl.mt, (u : Int), a⟩ = Lib.decDigits u := itoa_nat u
    rw [hT] at hc ⊢
    have hds : digs (Lib.decDigits u ++ r) = Lib.decDigits u := takeWhile_app _ _ (dec_digits u) (ends_digit hr)
    have hcd : digit c = true := dec_digits u c (by rw [hc]; simp)
    rw [hc, List.cons_append]
    rw [one_cons, if_neg (by rw [letter_digit hcd]; simp), if_pos hcd, ← List.cons_append, ← hc]
    unfold numT
    rw [hds, Vl.val_dec, if_neg, if_neg (by omega)]
    · refine Prod.ext ?_ rfl
      exact t_ext rfl rfl rfl rfl
    · rintro ⟨h1, h2⟩
      have h3 := dec_head u (dec_len u h1)
      rw [hc] at h3 h2
      simp only [List.cons_append, List.head?_cons] at h2 h3
      exact h3 h2
  · simp only at hk hn0 hs
    subst hk hn0
    have hT : textL ⟨3, s, 0, a⟩ = 34 :: (esc s.data.toList ++ [34]) := rfl
    rw [hT]
    have hx : (34 :: (esc s.data.toList ++ [34])) ++ r = 34 :: (esc s.data.toList ++ 34 :: r) := by simp
    rw [hx]
    rw [one_cons, if_neg (by rw [letter_34]; simp), if_neg (by rw [digit_34]; simp), if_pos rfl]
    unfold txtT
    rw [List.tail_cons, txt_esc _ _ _ hs.2]
    simp only [List.nil_append]
    have hlen : s.data.toList.length = s.size := by rw [Array.length_toList]; rfl
    rw [if_neg (by rw [hlen]; have := hs.1; omega)]
    refine Prod.ext (t_ext rfl (list_mk s) rfl rfl) (Prod.ext ?_ rfl)
    simp; omega
  · simp only at hk hn0 hm
    subst hk hn0
    have hT : textL ⟨4, s, 0, a⟩ = s.data.toList := rfl
    rw [hT] at hc ⊢
    obtain ⟨c', q', hc', h1, h2, h3, _⟩ := mark_first _ hm
    rw [hc] at hc'
    injection hc' with e1 e2
    subst e1 e2
    rw [hc, List.cons_append]
    rw [one_cons, if_neg (by rw [h1]; simp), if_neg (by rw [h2]; simp), if_neg h3, ← List.cons_append, ← hc]
    unfold markT
    rw [mark_app _ hm r hr]
    refine Prod.ext (t_ext rfl (list_mk s) rfl rfl) rfl
theorem zero_maxI : (0 : Int) ≤ (maxI : Int) := by decide
theorem takeWhile_all {p : UInt8 → Bool} : ∀ l : List UInt8, ∀ b ∈ l.takeWhile p, p b = true
  | [], b, h => by cases h
  | x :: l, b, h => by
    rw [List.takeWhile_cons] at h
    by_cases hx : p x = true
    · rw [if_pos hx] at h
      rcases List.mem_cons.1 h with rfl | h
      · exact hx
      · exact takeWhile_all l b h
    · rw [if_neg hx] at h; cases h
theorem takeWhile_take {p : UInt8 → Bool} : ∀ l : List UInt8, l.take (l.takeWhile p).length = l.takeWhile p
  | [] => rfl
  | x :: l => by
    rw [List.takeWhile_cons]
    by_cases hx : p x = true
    · rw [if_pos hx, List.length_cons, List.take_succ_cons, takeWhile_take l]
    · rw [if_neg hx]; rfl
theorem takeWhile_le {p : UInt8 → Bool} (l : List UInt8) : (l.takeWhile p).length ≤ l.length := by
  have := congrArg List.length (takeWhile_take (p := p) l)
  rw [List.length_take] at this; omega
/-- the token with which a text begins is right, and its text is what was taken -/
theorem one_ok {l : List UInt8} (h : (one l).2.2 = 0) : right (one l).1 ∧ textL (one l).1 = l.take (one l).2.1 ∧ 0 < (one l).2.1 ∧ (one l).2.1 ≤ l.length ∧ (one l).1.spot = 0 ∧ (one l).1.n ≤ maxI := by
  cases l with
  | nil => exact absurd h (by decide)
  | cons c r =>
    rw [one_cons] at h ⊢
    by_cases h1 : letter c = true
    · rw [if_pos h1] at h ⊢
      unfold nameT at h ⊢
      by_cases h2 : 16 < word false (c :: r)
      · rw [if_pos h2] at h; exact absurd h (by decide)
      · rw [if_neg h2] at h ⊢
        have hle := word_le false (c :: r)
        have hpos : 0 < word false (c :: r) := by rw [word, h1]; simp
        have hsz : (mk ((c :: r).take (word false (c :: r)))).size = word false (c :: r) := by
          show ((c :: r).take (word false (c :: r))).toArray.size = _
          rw [List.size_toArray, List.length_take]; omega
        refine ⟨.inl ⟨rfl, rfl, ?_, ?_, ?_⟩, rfl, hpos, hle, rfl, zero_maxI⟩
        · intro e
          have e2 : (mk ((c :: r).take (word false (c :: r)))).size = 0 := by rw [show mk ((c :: r).take (word false (c :: r))) = Vl.mt from e]; rfl
          omega
        · show word false ((c :: r).take (word false (c :: r))) = _
          rw [word_take]; exact hsz.symm
        · show (mk ((c :: r).take (word false (c :: r)))).size ≤ 16
          omega
    · rw [if_neg h1] at h ⊢
      by_cases h2 : digit c = true
      · rw [if_pos h2] at h ⊢
        unfold numT at h ⊢
        by_cases h3 : 1 < (digs (c :: r)).length ∧ (c :: r).head? = some 48
        · rw [if_pos h3] at h; exact absurd h (by decide)
        · rw [if_neg h3] at h ⊢
          by_cases h4 : maxI < val (digs (c :: r)) 0
          · rw [if_pos h4] at h; exact absurd h (by decide)
          · rw [if_neg h4] at h ⊢
            have hd : digs (c :: r) = c :: r.takeWhile digit := by unfold digs; rw [List.takeWhile_cons, if_pos h2]
            have hle : (digs (c :: r)).length ≤ (c :: r).length := takeWhile_le _
            refine ⟨.inr (.inl ⟨rfl, by show (0 : Int) ≤ ((val (digs (c :: r)) 0 : Nat) : Int); omega, rfl⟩), ?_, by show 0 < (digs (c :: r)).length; rw [hd]; simp, hle, rfl, by show ((val (digs (c :: r)) 0 : Nat) : Int) ≤ (maxI : Int); omega⟩
            show Lib.itoa ((val (digs (c :: r)) 0 : Nat) : Int) = (c :: r).take (digs (c :: r)).length
            rw [itoa_nat, show (c :: r).take (digs (c :: r)).length = digs (c :: r) from takeWhile_take _]
            refine dec_val _ _ rfl (by rw [hd]; simp) (takeWhile_all _) ?_
            by_cases h5 : (digs (c :: r)).length = 1
            · exact .inl h5
            · right
              intro e
              apply h3
              have h6 : 0 < (digs (c :: r)).length := by rw [hd]; simp
              refine ⟨by omega, ?_⟩
              rw [hd] at e
              simpa using e
      · rw [if_neg h2] at h ⊢
        by_cases h3 : c = 34
        · rw [if_pos h3] at h ⊢
          subst h3
          unfold txtT at h ⊢
          rw [List.tail_cons] at h ⊢
          cases hx : txt r [] with
          | none => rw [hx] at h; exact absurd (show (11 : Int) = 0 from h) (by decide)
          | some p =>
            obtain ⟨t, q⟩ := p
            rw [hx] at h
            simp only at h ⊢
            by_cases h4 : 40 < t.length
            · rw [if_pos h4] at h; exact absurd h (by decide)
            · rw [if_neg h4] at h ⊢
              obtain ⟨u, e1, e2, e3⟩ := txt_ok _ r [] t q (Nat.le_refl _) hx
              rw [List.nil_append] at e1
              subst e1
              have hl : (34 :: r).length - q.length = (quoteL t).length := by
                unfold quoteL; rw [e2]; simp; omega
              refine ⟨.inr (.inr (.inl ⟨rfl, rfl, ?_, e3⟩)), ?_, ?_, ?_, by first | rfl | trivial, zero_maxI⟩
              · show t.toArray.size ≤ 40; rw [List.size_toArray]; omega
              · show quoteL t = (34 :: r).take ((34 :: r).length - q.length)
                rw [hl]
                have e4 : (34 : UInt8) :: r = quoteL t ++ q := by unfold quoteL; rw [e2]; simp
                rw [e4, List.take_left]
              · show 0 < (34 :: r).length - q.length
                rw [hl]; unfold quoteL; simp
              · exact Nat.sub_le _ _
        · rw [if_neg h3] at h ⊢
          unfold markT at h ⊢
          cases hx : marks.find? (fun m => m.isPrefixOf (c :: r)) with
          | none => rw [hx] at h; exact absurd (show (11 : Int) = 0 from h) (by decide)
          | some m =>
            rw [hx] at h
            simp only at h ⊢
            have hm := List.mem_of_find?_eq_some hx
            have hp : m.isPrefixOf (c :: r) = true := List.find?_some (p := fun m : List UInt8 => m.isPrefixOf (c :: r)) hx
            obtain ⟨q, hq⟩ := List.isPrefixOf_iff_prefix.1 hp
            obtain ⟨c', q', hm1, _⟩ := mark_first _ hm
            refine ⟨.inr (.inr (.inr ⟨rfl, hm, rfl⟩)), ?_, ?_, ?_, by first | rfl | trivial, zero_maxI⟩
            · show m = (c :: r).take m.length
              rw [← hq, List.take_left]
            · show 0 < m.length; rw [hm1]; simp
            · show m.length ≤ (c :: r).length; rw [← hq]; simp
end Go.Proofs.YtmpfnokddpbgcaaDoor.Lx
