/-
  The plain mathematics of layer 13 (lex): all tokens of a text; what was joined is read again; nothing of any program.
-/
import Derived.Test.YtmpfnokddpbgcaaDoorZLexMath2
namespace Go.Proofs.YtmpfnokddpbgcaaDoor.Lx
open Vl (val esc quoteL plain)
def put (t : T) (at_ : Nat) : T := ⟨t.kind, t.s, t.n, at_⟩
/-- all tokens from place a on; or the place and the error of the first that is none -/
def lex : Nat → Nat → List UInt8 → List T × Int × Int
  | 0, _, _ => ([], 0, 0)
  | _ + 1, _, [] => ([], 0, 0)
  | k + 1, a, c :: r =>
    if c = 32 then lex k (a + 1) r
    else if (one (c :: r)).2.2 ≠ 0 then ([], a, (one (c :: r)).2.2)
    else if (lex k (a + (one (c :: r)).2.1) ((c :: r).drop (one (c :: r)).2.1)).2.2 ≠ 0 then ([], (lex k (a + (one (c :: r)).2.1) ((c :: r).drop (one (c :: r)).2.1)).2)
    else (put (one (c :: r)).1 a :: (lex k (a + (one (c :: r)).2.1) ((c :: r).drop (one (c :: r)).2.1)).1, 0, 0)
theorem lex_nil (k a : Nat) : lex k a [] = ([], 0, 0) := by cases k <;> rfl
theorem lex_blank (k a : Nat) (r : List UInt8) : lex (k + 1) a (32 :: r) = lex k (a + 1) r := by rw [lex, if_pos rfl]
theorem lex_err {k a : Nat} {c : UInt8} {r : List UInt8} (h : c ≠ 32) (he : (one (c :: r)).2.2 ≠ 0) : lex (k + 1) a (c :: r) = ([], (a : Int), (one (c :: r)).2.2) := by rw [lex, if_neg h, if_pos he]
theorem lex_more {k a : Nat} {c : UInt8} {r : List UInt8} (h : c ≠ 32) (he : (one (c :: r)).2.2 = 0) :
    lex (k + 1) a (c :: r) = if (lex k (a + (one (c :: r)).2.1) ((c :: r).drop (one (c :: r)).2.1)).2.2 ≠ 0 then ([], (lex k (a + (one (c :: r)).2.1) ((c :: r).drop (one (c :: r)).2.1)).2) else (put (one (c :: r)).1 a :: (lex k (a + (one (c :: r)).2.1) ((c :: r).drop (one (c :: r)).2.1)).1, 0, 0) := by
  rw [lex, if_neg h, if_neg (fun x => x he)]
/-- the fuel is of no matter, if there is enough -/
theorem lex_fuel : ∀ (k j a : Nat) (l : List UInt8), l.length ≤ k → l.length ≤ j → lex k a l = lex j a l := by
  intro k
  induction k with
  | zero =>
    intro j a l h1 _
    obtain rfl := List.eq_nil_of_length_eq_zero (Nat.le_zero.1 h1)
    rw [lex_nil, lex_nil]
  | succ k ih =>
    intro j a l h1 h2
    cases l with
    | nil => rw [lex_nil, lex_nil]
    | cons c r =>
      cases j with
      | zero => simp at h2
      | succ j =>
        simp only [List.length_cons] at h1 h2
        by_cases hc : c = 32
        · subst hc
          rw [lex_blank, lex_blank]
          exact ih j (a + 1) r (by omega) (by omega)
        · by_cases he : (one (c :: r)).2.2 = 0
          · obtain ⟨_, _, hp, _, _⟩ := one_ok he
            have hl : ((c :: r).drop (one (c :: r)).2.1).length ≤ r.length := by rw [List.length_drop, List.length_cons]; omega
            rw [lex_more hc he, lex_more hc he, ih j _ _ (by omega) (by omega)]
          · rw [lex_err hc he, lex_err hc he]
/-- from place a on, the bytes l -/
def lexAt (a : Nat) (l : List UInt8) : List T × Int × Int := lex l.length a l
theorem lexAt_nil (a : Nat) : lexAt a [] = ([], 0, 0) := rfl
theorem lexAt_blank (a : Nat) (r : List UInt8) : lexAt a (32 :: r) = lexAt (a + 1) r := lex_blank _ _ _
theorem lexAt_err {a : Nat} {c : UInt8} {r : List UInt8} (h : c ≠ 32) (he : (one (c :: r)).2.2 ≠ 0) : lexAt a (c :: r) = ([], (a : Int), (one (c :: r)).2.2) := lex_err h he
theorem lexAt_more {a : Nat} {c : UInt8} {r : List UInt8} (h : c ≠ 32) (he : (one (c :: r)).2.2 = 0) :
    lexAt a (c :: r) = if (lexAt (a + (one (c :: r)).2.1) ((c :: r).drop (one (c :: r)).2.1)).2.2 ≠ 0 then ([], (lexAt (a + (one (c :: r)).2.1) ((c :: r).drop (one (c :: r)).2.1)).2) else (put (one (c :: r)).1 a :: (lexAt (a + (one (c :: r)).2.1) ((c :: r).drop (one (c :: r)).2.1)).1, 0, 0) := by
  obtain ⟨_, _, hp, _, _⟩ := one_ok he
  have e : lex r.length (a + (one (c :: r)).2.1) ((c :: r).drop (one (c :: r)).2.1) = lexAt (a + (one (c :: r)).2.1) ((c :: r).drop (one (c :: r)).2.1) :=
    lex_fuel _ _ _ _ (by rw [List.length_drop, List.length_cons]; omega) (Nat.le_refl _)
  show lex (r.length + 1) a (c :: r) = _
  rw [lex_more h he, e]
/-- the loop: acc stands in front of what comes -/
def glue (acc : List T) (t : List T × Int × Int) : List T × Int × Int := if t.2.2 = 0 then (acc ++ t.1, 0, 0) else ([], t.2)
theorem lexAt_zero (a : Nat) (l : List UInt8) : (lexAt a l).2.2 = 0 → (lexAt a l).2.1 = 0 := by
  have key : ∀ (k a : Nat) (l : List UInt8), (lex k a l).2.2 = 0 → (lex k a l).2.1 = 0 := by
    intro k
    induction k with
    | zero => intro a l _; rfl
    | succ k ih =>
      intro a l
      cases l with
      | nil => intro _; rfl
      | cons c r =>
        by_cases hc : c = 32
        · subst hc; rw [lex_blank]; exact ih _ _
        · by_cases he : (one (c :: r)).2.2 = 0
          · rw [lex_more hc he]
            split
            · rename_i h; intro h2; exact absurd h2 h
            · intro _; rfl
          · rw [lex_err hc he]; intro h; exact absurd h he
  exact key _ a l
theorem glue_form (a : Nat) (l : List UInt8) : lexAt a l = glue [] (lexAt a l) := by
  unfold glue
  split
  · rename_i h; exact Prod.ext rfl (Prod.ext (lexAt_zero a l h) h)
  · rename_i h
    have key : ∀ (k a : Nat) (l : List UInt8), (lex k a l).2.2 ≠ 0 → (lex k a l).1 = [] := by
      intro k
      induction k with
      | zero => intro a l _; rfl
      | succ k ih =>
        intro a l
        cases l with
        | nil => intro _; rfl
        | cons c r =>
          by_cases hc : c = 32
          · subst hc; rw [lex_blank]; exact ih _ _
          · by_cases he : (one (c :: r)).2.2 = 0
            · rw [lex_more hc he]
              split
              · intro _; rfl
              · intro h2; exact absurd rfl h2
            · rw [lex_err hc he]; intro _; rfl
    exact Prod.ext (key _ _ _ h) rfl
theorem glue_step {a : Nat} {c : UInt8} {r : List UInt8} (acc : List T) (h : c ≠ 32) (he : (one (c :: r)).2.2 = 0) : glue acc (lexAt a (c :: r)) = glue (acc ++ [put (one (c :: r)).1 a]) (lexAt (a + (one (c :: r)).2.1) ((c :: r).drop (one (c :: r)).2.1)) := by
  by_cases h2 : (lexAt (a + (one (c :: r)).2.1) ((c :: r).drop (one (c :: r)).2.1)).2.2 = 0
  · have e : lexAt a (c :: r) = _ := (lexAt_more h he).trans (if_neg (fun x => x h2))
    unfold glue
    rw [e, if_pos rfl, if_pos h2, List.append_assoc, List.singleton_append]
  · have e : lexAt a (c :: r) = _ := (lexAt_more h he).trans (if_pos h2)
    unfold glue
    rw [e, if_neg h2, if_neg h2]
theorem glue_err {a : Nat} {c : UInt8} {r : List UInt8} (acc : List T) (h : c ≠ 32) (he : (one (c :: r)).2.2 ≠ 0) : glue acc (lexAt a (c :: r)) = ([], (a : Int), (one (c :: r)).2.2) := by
  rw [lexAt_err h he]; exact if_neg he
theorem glue_end (acc : List T) (a : Nat) : glue acc (lexAt a []) = (acc, 0, 0) := by
  show (if (0 : Int) = 0 then (acc ++ [], (0 : Int), (0 : Int)) else _) = _
  rw [if_pos rfl, List.append_nil]
/-! what was joined is read -/
def join : List T → List UInt8
  | [] => []
  | [t] => textL t
  | t :: u :: l => textL t ++ 32 :: join (u :: l)
def Same (a b : List T) : Prop := a.map strip = b.map strip
theorem join_back : ∀ (l : List T) (a : Nat), (∀ t ∈ l, right t ∧ t.n ≤ maxI) → ∃ m, lexAt a (join l) = (m, 0, 0) ∧ Same m l
  | [], a, _ => ⟨[], rfl, rfl⟩
  | [t], a, h => by
    obtain ⟨hr, hn⟩ := h t (by simp)
    obtain ⟨c, q, hc, h32⟩ := text_first hr
    have ho := one_text hr hn [] (.inl rfl)
    rw [List.append_nil] at ho
    show ∃ m, lexAt a (textL t) = _ ∧ _
    rw [hc] at ho ⊢
    have h0 : (one (c :: q)).2.2 = 0 := by rw [ho]
    rw [lexAt_more h32 h0, ho]
    simp only
    rw [List.drop_length, lexAt_nil, if_neg (by simp)]
    exact ⟨_, rfl, rfl⟩
  | t :: u :: l, a, h => by
    obtain ⟨hr, hn⟩ := h t (by simp)
    obtain ⟨c, q, hc, h32⟩ := text_first hr
    have ho := one_text hr hn (32 :: join (u :: l)) (.inr ⟨_, rfl⟩)
    obtain ⟨m, hm, hs⟩ := join_back (u :: l) (a + (textL t).length + 1) fun x hx => h x (by simp [List.mem_cons.1 hx])
    show ∃ m, lexAt a (textL t ++ 32 :: join (u :: l)) = _ ∧ _
    have hd : (textL t ++ 32 :: join (u :: l)).drop (textL t).length = 32 :: join (u :: l) := List.drop_left
    have e : textL t ++ 32 :: join (u :: l) = c :: (q ++ 32 :: join (u :: l)) := by rw [hc]; rfl
    rw [e] at ho hd ⊢
    have h0 : (one (c :: (q ++ 32 :: join (u :: l)))).2.2 = 0 := by rw [ho]
    rw [lexAt_more h32 h0, ho]
    simp only
    rw [hd, lexAt_blank, hm, if_neg (by simp)]
    refine ⟨_, rfl, ?_⟩
    unfold Same at hs ⊢
    rw [List.map_cons, List.map_cons, hs]
    rfl
/-! the tokens of a text lie in it -/
/-- the tokens m stand in s, one behind the other, from e on, and blanks alone stand between -/
def Laid (s : List UInt8) : Nat → List T → Prop
  | e, [] => ∀ k, e ≤ k → k < s.length → s[k]? = some 32
  | e, t :: m => ∃ a : Nat, t.spot = (a : Int) ∧ e ≤ a ∧ a + (textL t).length ≤ s.length ∧ (∀ k, e ≤ k → k < a → s[k]? = some 32) ∧ (s.drop a).take (textL t).length = textL t ∧ right t ∧ t.n ≤ maxI ∧ Laid s (a + (textL t).length) m
theorem textL_put (t : T) (a : Nat) : textL (put t a) = textL t := rfl
theorem right_put {t : T} (h : right t) (a : Nat) : right (put t a) := h
theorem lex_laid (s : List UInt8) : ∀ (k a : Nat) (m : List T), s.length - a ≤ k → a ≤ s.length → lexAt a (s.drop a) = (m, 0, 0) → ∀ e, e ≤ a → (∀ j, e ≤ j → j < a → s[j]? = some 32) → Laid s e m := by
  intro k
  induction k with
  | zero =>
    intro a m hk ha h e he hb
    have : a = s.length := by omega
    subst this
    rw [List.drop_length, lexAt_nil] at h
    obtain rfl : [] = m := congrArg Prod.fst h
    exact fun j h1 h2 => hb j h1 h2
  | succ k ih =>
    intro a m hk ha h e he hb
    cases hd : s.drop a with
    | nil =>
      rw [hd, lexAt_nil] at h
      obtain rfl : [] = m := congrArg Prod.fst h
      have hl := congrArg List.length hd
      rw [List.length_drop] at hl
      have : a = s.length := by simp at hl; omega
      subst this
      exact fun j h1 h2 => hb j h1 h2
    | cons c r =>
      rw [hd] at h
      have hl := congrArg List.length hd
      rw [List.length_drop, List.length_cons] at hl
      have hat : s[a]? = some c := by
        have := congrArg (·[0]?) hd
        simpa using this
      have hdr : ∀ n, s.drop (a + n) = (c :: r).drop n := fun n => by rw [← hd, List.drop_drop]
      by_cases hc : c = 32
      · subst hc
        rw [lexAt_blank] at h
        have h1 := hdr 1
        rw [List.drop_succ_cons, List.drop_zero] at h1
        rw [← h1] at h
        refine ih (a + 1) m (by omega) (by omega) h e (by omega) fun j h2 h3 => ?_
        by_cases hj : j = a
        · subst hj; exact hat
        · exact hb j h2 (by omega)
      · by_cases ho : (one (c :: r)).2.2 = 0
        · rw [lexAt_more hc ho] at h
          obtain ⟨hr, ht, hp, hle, hsp, hn⟩ := one_ok ho
          rw [← hdr] at h
          by_cases h2 : (lexAt (a + (one (c :: r)).2.1) (s.drop (a + (one (c :: r)).2.1))).2.2 = 0
          · rw [if_neg (fun x => x h2)] at h
            obtain rfl := congrArg Prod.fst h
            rw [List.length_cons] at hle
            have hlen : (textL (one (c :: r)).1).length = (one (c :: r)).2.1 := by rw [ht, List.length_take, List.length_cons]; omega
            refine ⟨a, rfl, he, by rw [textL_put, hlen]; omega, hb, ?_, right_put hr a, hn, ?_⟩
            · rw [textL_put, hd, hlen, ← ht]
            · rw [textL_put, hlen]
              exact ih (a + (one (c :: r)).2.1) _ (by omega) (by omega) (Prod.ext rfl (Prod.ext (lexAt_zero _ _ h2) h2)) _ (Nat.le_refl _) fun j h3 h4 => by omega
          · rw [if_pos h2] at h
            exact absurd (congrArg (fun x => x.2.2) h) h2
        · rw [lexAt_err hc ho] at h
          exact absurd (congrArg (fun x => x.2.2) h) ho
theorem laid_right : ∀ (m : List T) (s : List UInt8) (e : Nat), Laid s e m → ∀ t ∈ m, right t ∧ t.n ≤ maxI
  | [], _, _, _, _, ht => by cases ht
  | u :: m, s, e, h, t, ht => by
    obtain ⟨a, _, _, _, _, _, h1, h2, h3⟩ := h
    rcases List.mem_cons.1 ht with rfl | ht
    · exact ⟨h1, h2⟩
    · exact laid_right m s _ h3 t ht
end Go.Proofs.YtmpfnokddpbgcaaDoor.Lx
