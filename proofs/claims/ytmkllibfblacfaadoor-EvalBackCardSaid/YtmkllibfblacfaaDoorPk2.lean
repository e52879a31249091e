/-
  Texts of the layers, part 2: LexMath3, Bits, OctOwn, OctLeaf, OctTake, OctTxt, LexBox, LexRef, LexName, SynMath, SynRead, SynLex, SynBack, SynParse, SynMach, SynName, SynBox, LexAto.
-/
import Derived.Test.YtmkllibfblacfaaDoorPk1
import Derived.IntWalk
import Derived.WalkKit
import Derived.WalkSpells
import Derived.WalkLawsBesides
import Derived.Laws.BytesArg
import Derived.Deep.Draws
import Derived.Lib.Hide
import Derived.Below
import Derived.Test.YtmkllibfblacfaaDoorProg
import Derived.Deep.QuietTactic
import Derived.BigQuiet
import Derived.Laws.DeepNot64
import Derived.Laws.ResultCell
import Derived.Deep.Cut
import Derived.Lib.AtoiAllCases
/-
  The plain mathematics of layer 13 (lex): all tokens of a text; what was joined is read again; nothing of any program.
-/
namespace Go.Proofs.YtmkllibfblacfaaDoor.Lx
open Vl (val esc quoteL plain)
def put (t : T) (at_ : Nat) : T := ⟨t.kind, t.s, t.n, at_⟩
/-- all tokens from place a on; or the place and the error of the first that is none -/
def lex : Nat → Nat → List UInt8 → List T × Int × Int
  | 0, _, _ => ([], 0, 0)
  | _ + 1, _, [] => ([], 0, 0)
  | k + 1, a, c :: r =>
    if c = 32 then lex k (a + 1) r
    else if (one (c :: r)).2.2 ≠ 0 then ([], a, (one (c :: r)).2.2)
    else if (lex k (a + (one (c :: r)).2.1) ((c :: r).drop (one (c :: r)).2.1)).2.2 ≠ 0 then ([], (lex k (a + (one (c :: r)).2.1) ((c :: r).drop (one (c :: r)).2.1)).2)
    else (put (one (c :: r)).1 a :: (lex k (a + (one (c :: r)).2.1) ((c :: r).drop (one (c :: r)).2.1)).1, 0, 0)
theorem lex_nil (k a : Nat) : lex k a [] = ([], 0, 0) := by cases k <;> rfl
theorem lex_blank (k a : Nat) (r : List UInt8) : lex (k + 1) a (32 :: r) = lex k (a + 1) r := by rw [lex, if_pos rfl]
theorem lex_err {k a : Nat} {c : UInt8} {r : List UInt8} (h : c ≠ 32) (he : (one (c :: r)).2.2 ≠ 0) : lex (k + 1) a (c :: r) = ([], (a : Int), (one (c :: r)).2.2) := by rw [lex, if_neg h, if_pos he]
theorem lex_more {k a : Nat} {c : UInt8} {r : List UInt8} (h : c ≠ 32) (he : (one (c :: r)).2.2 = 0) :
    lex (k + 1) a (c :: r) = if (lex k (a + (one (c :: r)).2.1) ((c :: r).drop (one (c :: r)).2.1)).2.2 ≠ 0 then ([], (lex k (a + (one (c :: r)).2.1) ((c :: r).drop (one (c :: r)).2.1)).2) else (put (one (c :: r)).1 a :: (lex k (a + (one (c :: r)).2.1) ((c :: r).drop (one (c :: r)).2.1)).1, 0, 0) := by
  rw [lex, if_neg h, if_neg (fun x => x he)]
/-- the fuel is of no matter, if there is enough -/
theorem lex_fuel : ∀ (k j a : Nat) (l : List UInt8), l.length ≤ k → l.length ≤ j → lex k a l = lex j a l := by
  intro k
  induction k with
  | zero =>
    intro j a l h1 _
    obtain rfl := List.eq_nil_of_length_eq_zero (Nat.le_zero.1 h1)
    rw [lex_nil, lex_nil]
  | succ k ih =>
    intro j a l h1 h2
    cases l with
    | nil => rw [lex_nil, lex_nil]
    | cons c r =>
      cases j with
      | zero => simp at h2
      | succ j =>
        simp only [List.length_cons] at h1 h2
        by_cases hc : c = 32
        · subst hc
          rw [lex_blank, lex_blank]
          exact ih j (a + 1) r (by omega) (by omega)
        · by_cases he : (one (c :: r)).2.2 = 0
          · obtain ⟨_, _, hp, _, _⟩ := one_ok he
            have hl : ((c :: r).drop (one (c :: r)).2.1).length ≤ r.length := by rw [List.length_drop, List.length_cons]; omega
            rw [lex_more hc he, lex_more hc he, ih j _ _ (by omega) (by omega)]
          · rw [lex_err hc he, lex_err hc he]
/-- from place a on, the bytes l -/
def lexAt (a : Nat) (l : List UInt8) : List T × Int × Int := lex l.length a l
theorem lexAt_nil (a : Nat) : lexAt a [] = ([], 0, 0) := rfl
theorem lexAt_blank (a : Nat) (r : List UInt8) : lexAt a (32 :: r) = lexAt (a + 1) r := lex_blank _ _ _
theorem lexAt_err {a : Nat} {c : UInt8} {r : List UInt8} (h : c ≠ 32) (he : (one (c :: r)).2.2 ≠ 0) : lexAt a (c :: r) = ([], (a : Int), (one (c :: r)).2.2) := lex_err h he
theorem lexAt_more {a : Nat} {c : UInt8} {r : List UInt8} (h : c ≠ 32) (he : (one (c :: r)).2.2 = 0) :
    lexAt a (c :: r) = if (lexAt (a + (one (c :: r)).2.1) ((c :: r).drop (one (c :: r)).2.1)).2.2 ≠ 0 then ([], (lexAt (a + (one (c :: r)).2.1) ((c :: r).drop (one (c :: r)).2.1)).2) else (put (one (c :: r)).1 a :: (lexAt (a + (one (c :: r)).2.1) ((c :: r).drop (one (c :: r)).2.1)).1, 0, 0) := by
  obtain ⟨_, _, hp, _, _⟩ := one_ok he
  have e : lex r.length (a + (one (c :: r)).2.1) ((c :: r).drop (one (c :: r)).2.1) = lexAt (a + (one (c :: r)).2.1) ((c :: r).drop (one (c :: r)).2.1) :=
    lex_fuel _ _ _ _ (by rw [List.length_drop, List.length_cons]; omega) (Nat.le_refl _)
  show lex (r.length + 1) a (c :: r) = _
  rw [lex_more h he, e]
/-- the loop: acc stands in front of what comes -/
def glue (acc : List T) (t : List T × Int × Int) : List T × Int × Int := if t.2.2 = 0 then (acc ++ t.1, 0, 0) else ([], t.2)
theorem lexAt_zero (a : Nat) (l : List UInt8) : (lexAt a l).2.2 = 0 → (lexAt a l).2.1 = 0 := by
  have key : ∀ (k a : Nat) (l : List UInt8), (lex k a l).2.2 = 0 → (lex k a l).2.1 = 0 := by
    intro k
    induction k with
    | zero => intro a l _; rfl
    | succ k ih =>
      intro a l
      cases l with
      | nil => intro _; rfl
      | cons c r =>
        by_cases hc : c = 32
        · subst hc; rw [lex_blank]; exact ih _ _
        · by_cases he : (one (c :: r)).2.2 = 0
          · rw [lex_more hc he]
            split
            · rename_i h; intro h2; exact absurd h2 h
            · intro _; rfl
          · rw [lex_err hc he]; intro h; exact absurd h he
  exact key _ a l
theorem glue_form (a : Nat) (l : List UInt8) : lexAt a l = glue [] (lexAt a l) := by
  unfold glue
  split
  · rename_i h; exact Prod.ext rfl (Prod.ext (lexAt_zero a l h) h)
  · rename_i h
    have key : ∀ (k a : Nat) (l : List UInt8), (lex k a l).2.2 ≠ 0 → (lex k a l).1 = [] := by
      intro k
      induction k with
      | zero => intro a l _; rfl
      | succ k ih =>
        intro a l
        cases l with
        | nil => intro _; rfl
        | cons c r =>
          by_cases hc : c = 32
          · subst hc; rw [lex_blank]; exact ih _ _
          · by_cases he : (one (c :: r)).2.2 = 0
            · rw [lex_more hc he]
              split
              · intro _; rfl
              · intro h2; exact absurd rfl h2
            · rw [lex_err hc he]; intro _; rfl
    exact Prod.ext (key _ _ _ h) rfl
theorem glue_step {a : Nat} {c : UInt8} {r : List UInt8} (acc : List T) (h : c ≠ 32) (he : (one (c :: r)).2.2 = 0) : glue acc (lexAt a (c :: r)) = glue (acc ++ [put (one (c :: r)).1 a]) (lexAt (a + (one (c :: r)).2.1) ((c :: r).drop (one (c :: r)).2.1)) := by
  by_cases h2 : (lexAt (a + (one (c :: r)).2.1) ((c :: r).drop (one (c :: r)).2.1)).2.2 = 0
  · have e : lexAt a (c :: r) = _ := (lexAt_more h he).trans (if_neg (fun x => x h2))
    unfold glue
    rw [e, if_pos rfl, if_pos h2, List.append_assoc, List.singleton_append]
  · have e : lexAt a (c :: r) = _ := (lexAt_more h he).trans (if_pos h2)
    unfold glue
    rw [e, if_neg h2, if_neg h2]
theorem glue_err {a : Nat} {c : UInt8} {r : List UInt8} (acc : List T) (h : c ≠ 32) (he : (one (c :: r)).2.2 ≠ 0) : glue acc (lexAt a (c :: r)) = ([], (a : Int), (one (c :: r)).2.2) := by
  rw [lexAt_err h he]; exact if_neg he
theorem glue_end (acc : List T) (a : Nat) : glue acc (lexAt a []) = (acc, 0, 0) := by
  show (if (0 : Int) = 0 then (acc ++ [], (0 : Int), (0 : Int)) else _) = _
  rw [if_pos rfl, List.append_nil]
/-! what was joined is read -/
def join : List T → List UInt8
  | [] => []
  | [t] => textL t
  | t :: u :: l => textL t ++ 32 :: join (u :: l)
def Same (a b : List T) : Prop := a.map strip = b.map strip
theorem join_back : ∀ (l : List T) (a : Nat), (∀ t ∈ l, right t ∧ t.n ≤ maxI) → ∃ m, lexAt a (join l) = (m, 0, 0) ∧ Same m l
  | [], a, _ => ⟨[], rfl, rfl⟩
  | [t], a, h => by
    obtain ⟨hr, hn⟩ := h t (by simp)
    obtain ⟨c, q, hc, h32⟩ := text_first hr
    have ho := one_text hr hn [] (.inl rfl)
    rw [List.append_nil] at ho
    show ∃ m, lexAt a (textL t) = _ ∧ _
    rw [hc] at ho ⊢
    have h0 : (one (c :: q)).2.2 = 0 := by rw [ho]
    rw [lexAt_more h32 h0, ho]
    simp only
    rw [List.drop_length, lexAt_nil, if_neg (by simp)]
    exact ⟨_, rfl, rfl⟩
  | t :: u :: l, a, h => by
    obtain ⟨hr, hn⟩ := h t (by simp)
    obtain ⟨c, q, hc, h32⟩ := text_first hr
    have ho := one_text hr hn (32 :: join (u :: l)) (.inr ⟨_, rfl⟩)
    obtain ⟨m, hm, hs⟩ := join_back (u :: l) (a + (textL t).length + 1) fun x hx => h x (by simp [List.mem_cons.1 hx])
    show ∃ m, lexAt a (textL t ++ 32 :: join (u :: l)) = _ ∧ _
    have hd : (textL t ++ 32 :: join (u :: l)).drop (textL t).length = 32 :: join (u :: l) := List.drop_left
    have e : textL t ++ 32 :: join (u :: l) = c :: (q ++ 32 :: join (u :: l)) := by rw [hc]; rfl
    rw [e] at ho hd ⊢
    have h0 : (one (c :: (q ++ 32 :: join (u :: l)))).2.2 = 0 := by rw [ho]
    rw [lexAt_more h32 h0, ho]
    simp only
    rw [hd, lexAt_blank, hm, if_neg (by simp)]
    refine ⟨_, rfl, ?_⟩
    unfold Same at hs ⊢
    rw [List.map_cons, List.map_cons, hs]
    rfl
/-! the tokens of a text lie in it -/
/-- the tokens m stand in s, one behind the other, from e on, and blanks alone stand between -/
def Laid (s : List UInt8) : Nat → List T → Prop
  | e, [] => ∀ k, e ≤ k → k < s.length → s[k]? = some 32
  | e, t :: m => ∃ a : Nat, t.spot = (a : Int) ∧ e ≤ a ∧ a + (textL t).length ≤ s.length ∧ (∀ k, e ≤ k → k < a → s[k]? = some 32) ∧ (s.drop a).take (textL t).length = textL t ∧ right t ∧ t.n ≤ maxI ∧ Laid s (a + (textL t).length) m
theorem textL_put (t : T) (a : Nat) : textL (put t a) = textL t := rfl
theorem right_put {t : T} (h : right t) (a : Nat) : right (put t a) := h
theorem lex_laid (s : List UInt8) : ∀ (k a : Nat) (m : List T), s.length - a ≤ k → a ≤ s.length → lexAt a (s.drop a) = (m, 0, 0) → ∀ e, e ≤ a → (∀ j, e ≤ j → j < a → s[j]? = some 32) → Laid s e m := by
  intro k
  induction k with
  | zero =>
    intro a m hk ha h e he hb
    have : a = s.length := by omega
    subst this
    rw [List.drop_length, lexAt_nil] at h
    obtain rfl : [] = m := congrArg Prod.fst h
    exact fun j h1 h2 => hb j h1 h2
  | succ k ih =>
    intro a m hk ha h e he hb
    cases hd : s.drop a with
    | nil =>
      rw [hd, lexAt_nil] at h
      obtain rfl : [] = m := congrArg Prod.fst h
      have hl := congrArg List.length hd
      rw [List.length_drop] at hl
      have : a = s.length := by simp at hl; omega
      subst this
      exact fun j h1 h2 => hb j h1 h2
    | cons c r =>
      rw [hd] at h
      have hl := congrArg List.length hd
      rw [List.length_drop, List.length_cons] at hl
      have hat : s[a]? = some c := by
        have := congrArg (·[0]?) hd
        simpa using this
      have hdr : ∀ n, s.drop (a + n) = (c :: r).drop n := fun n => by rw [← hd, List.drop_drop]
      by_cases hc : c = 32
      · subst hc
        rw [lexAt_blank] at h
        have h1 := hdr 1
        rw [List.drop_succ_cons, List.drop_zero] at h1
        rw [← h1] at h
        refine ih (a + 1) m (by omega) (by omega) h e (by omega) fun j h2 h3 => ?_
        by_cases hj : j = a
        · subst hj; exact hat
        · exact hb j h2 (by omega)
      · by_cases ho : (one (c :: r)).2.2 = 0
        · rw [lexAt_more hc ho] at h
          obtain ⟨hr, ht, hp, hle, hsp, hn⟩ := one_ok ho
          rw [← hdr] at h
          by_cases h2 : (lexAt (a + (one (c :: r)).2.1) (s.drop (a + (one (c :: r)).2.1))).2.2 = 0
          · rw [if_neg (fun x => x h2)] at h
            obtain rfl := congrArg Prod.fst h
            rw [List.length_cons] at hle
            have hlen : (textL (one (c :: r)).1).length = (one (c :: r)).2.1 := by rw [ht, List.length_take, List.length_cons]; omega
            refine ⟨a, rfl, he, by rw [textL_put, hlen]; omega, hb, ?_, right_put hr a, hn, ?_⟩
            · rw [textL_put, hd, hlen, ← ht]
            · rw [textL_put, hlen]
              exact ih (a + (one (c :: r)).2.1) _ (by omega) (by omega) (Prod.ext rfl (Prod.ext (lexAt_zero _ _ h2) h2)) _ (Nat.le_refl _) fun j h3 h4 => by omega
          · rw [if_pos h2] at h
            exact absurd (congrArg (fun x => x.2.2) h) h2
        · rw [lexAt_err hc ho] at h
          exact absurd (congrArg (fun x => x.2.2) h) ho
theorem laid_right : ∀ (m : List T) (s : List UInt8) (e : Nat), Laid s e m → ∀ t ∈ m, right t ∧ t.n ≤ maxI
  | [], _, _, _, _, ht => by cases ht
  | u :: m, s, e, h, t, ht => by
    obtain ⟨a, _, _, _, _, _, h1, h2, h3⟩ := h
    rcases List.mem_cons.1 ht with rfl | ht
    · exact ⟨h1, h2⟩
    · exact laid_right m s _ h3 t ht
end Go.Proofs.YtmkllibfblacfaaDoor.Lx

/-
  Words of 32 bits as natural numbers: or, and, xor, not, shifts; a byte of a number; a rest of a division; a bool's end.
-/
namespace Go.Proofs.YtmkllibfblacfaaDoor
open Go.RowKit

theorem or_32 (a b : Nat) (h1 : a < 4294967296) (h2 : b < 4294967296) : bits .or .u32 (a : Int) (b : Int) = ((a ||| b : Nat) : Int) := by
  rw [u32_or _ _ (by omega) (by omega) (by omega) (by omega)]
  simp only [Int.toNat_natCast]
theorem and_32 (a b : Nat) (h1 : a < 4294967296) (h2 : b < 4294967296) : bits .and .u32 (a : Int) (b : Int) = ((a &&& b : Nat) : Int) := by
  rw [u32_and _ _ (by omega) (by omega) (by omega) (by omega)]
  simp only [Int.toNat_natCast]
theorem xor_32 (a b : Nat) (h1 : a < 4294967296) (h2 : b < 4294967296) : bits .xor .u32 (a : Int) (b : Int) = ((a ^^^ b : Nat) : Int) := by
  rw [u32_xor _ _ (by omega) (by omega) (by omega) (by omega)]
  simp only [Int.toNat_natCast]
theorem cast_div (x n : Nat) : ((x / 2 ^ n : Nat) : Int) = (x : Int) / 2 ^ n := by rw [Int.natCast_ediv, Int.natCast_pow]; rfl
theorem cast_shl (x n : Nat) : ((x * 2 ^ n % 4294967296 : Nat) : Int) = (x : Int) * 2 ^ n % 4294967296 := by rw [Int.natCast_emod, Int.natCast_mul, Int.natCast_pow]; rfl
theorem not_32 (e : Nat) (he : e < 4294967296) : 4294967295 ^^^ e = 4294967295 - e := by
  have h1 : 4294967295 - e = 2 ^ 32 - (e + 1) := by omega
  have h2 : (4294967295 : Nat) = 2 ^ 32 - 1 := by decide
  rw [h1]
  apply Nat.eq_of_testBit_eq
  intro i
  rw [Nat.testBit_xor, Nat.testBit_two_pow_sub_succ (by omega), h2, Nat.testBit_two_pow_sub_one]
  by_cases hi : i < 32
  · simp [hi]
  · have : e.testBit i = false := Nat.testBit_lt_two_pow (Nat.lt_of_lt_of_le he (by
      have : 2 ^ 32 ≤ 2 ^ i := Nat.pow_le_pow_right (by omega) (by omega)
      omega))
    simp [hi, this]
theorem ofNat_int (x : Nat) : ((UInt8.ofNat x).toNat : Int) = (x : Int) % 256 := by simp
theorem u64_rem (x : Int) (n : Nat) (h : 0 < n) : ∃ j : Nat, j < n ∧ (IntKind.u64.wrap x).tmod (n : Int) = (j : Int) := by
  refine ⟨((IntKind.u64.wrap x).tmod (n : Int)).toNat, ?_, ?_⟩
  all_goals
    rw [IntKind.wrap_u64, Int.tmod_eq_emod_of_nonneg (by omega)]
    have h1 := Int.emod_nonneg (x % 18446744073709551616) (show (n : Int) ≠ 0 by omega)
    have h2 := Int.emod_lt_of_pos (x % 18446744073709551616) (show (0 : Int) < (n : Int) by omega)
    omega
theorem ret_bool {a b : Bool} (h : a = b) : Ending.returned (.bool a) = .returned (.bool b) := by rw [h]
end Go.Proofs.YtmkllibfblacfaaDoor

/-
  Slices of bytes that a call makes itself: what they hold, as lists; how they become strings.
-/
namespace Go.Proofs.YtmkllibfblacfaaDoor
open Go.RowKit

/-- the slice v of bytes (element type E), from block B on, holds l -/
def OwnsB (w : World) (B E : Nat) (v : Value) (l : List UInt8) : Prop := w.ownsRow B E 1 v l.length (l.map fun b => Value.int .u8 (b.toNat : Int))

theorem ownsB_nil (w : World) (B E : Nat) : OwnsB w B E (.slice none 0 0) [] := World.ownsRow_nil _ _ _ _

theorem ownsB_conv {P : Program} {w : World} {B E : Nat} {v : Value} {l : List UInt8} (h : OwnsB w B E v l) {src dst : TypeId}
    (hs : P.underlying src = some (.slice E)) (he : P.underlying E = some (.int .u8)) (hd : P.underlying dst = some .string) :
    (convert src dst v).run P w = .ok (.string ⟨l.toArray⟩) w := by
  obtain ⟨hlen, ⟨rfl, h0⟩ | ⟨g, cap, cur, rfl, hBg, hg, hnc, hcm, hcs, htake⟩⟩ := h
  · have hl : l = [] := List.eq_nil_of_length_eq_zero h0
    subst hl
    exact run_convert_bytes_nil w src E hs he 0 0 dst hd
  · have hc := run_convert_bytes_arg w src E hs he g 0 l.length cap (l.map fun b => (b.toNat : Int)) (by simp) (fun i hi => by
      rw [Nat.zero_add, cell_of_row w g i cur E (0, 0) hg]
      have h1 : cur.toList[i]? = (cur.toList.take (l.length * 1))[i]? := by rw [List.getElem?_take, if_pos (by omega)]
      have h2 : cur[i]? = cur.toList[i]? := by simp
      rw [h2, h1, htake]
      simp [List.getElem?_eq_getElem hi, List.getD]) dst hd
    rw [hc]
    have e : strOfNums (l.map fun b => (b.toNat : Int)) = ⟨l.toArray⟩ := by
      unfold strOfNums
      rw [List.map_map]
      have : ∀ l : List UInt8, l.map ((fun n : Int => UInt8.ofNat n.toNat) ∘ fun b : UInt8 => (b.toNat : Int)) = l := fun l => by
        induction l with
        | nil => rfl
        | cons b l ih => rw [List.map_cons, ih]; simp
      rw [this]
    rw [e]

theorem ownsB_row {w : World} {B E : Nat} {v : Value} {l : List UInt8} (h : OwnsB w B E v l) (n : Nat) (o : Obj) :
    ((w.drewN n).alloc o).ownsRow B E 1 v l.length (l.map fun b => Value.int .u8 (b.toNat : Int)) := World.ownsRow.alloc (w := w.drewN n) h o
theorem ownsB_row0 {w : World} {B E : Nat} {v : Value} {l : List UInt8} (h : OwnsB w B E v l) (o : Obj) :
    (w.alloc o).ownsRow B E 1 v l.length (l.map fun b => Value.int .u8 (b.toNat : Int)) := World.ownsRow.alloc h o
theorem cell_one {w : World} {x : Value} {t : TypeId} : ∀ (j : Nat) (u : Value), [x][j]? = some u → (w.alloc (.cells #[x] t)).cell? ((⟨w.heap.size, 0, none⟩ : Addr).add j) = some u := by
  intro j u hj
  match j, hj with
  | 0, hj => simp at hj; subst hj; show (w.alloc (.cells #[x] t)).cell? ⟨w.heap.size, 0, none⟩ = some x; rw [World.cell?_alloc_at _ _ _ _ rfl]; rfl

/-- what an append of one byte leaves -/
theorem ownsB_snoc {w : World} {B E : Nat} {v : Value} {l : List UInt8} {n : Int} (b : UInt8)
    (h : w.ownsRow B E 1 v (l.length + 1) ((l.map fun b => Value.int .u8 (b.toNat : Int)) ++ [.int .u8 n])) (hb : n = (b.toNat : Int)) : OwnsB w B E v (l ++ [b]) := by
  subst hb
  unfold OwnsB; simpa using h

theorem one_cell {k : IntKind} {n : Int} : ∀ u ∈ [Value.int k n], u.oneCell' = true := by intro u hu; simp at hu; subst hu; rfl

/-- what a call makes above what was there, and grows, stays above -/
theorem below_grown {B E : Nat} {w wr w1 : World} {v : Value} {l : List UInt8} {o : Obj} (hb : Below B w wr) (hB : B ≤ wr.heap.size) (hown : OwnsB wr B E v l) (hg : (wr.alloc o).grownBy w1 v.ownBlock) : Below B w w1 :=
  (hb.alloc hB o).grown hg (by simp; omega) (fun j hj => (hown.lt j hj).1)

theorem ownsB_made {w : World} {B E m : Nat} {v : Value} (h : w.ownsRow B E 1 v m (madeCells #[Value.int .u8 0] m).toList) : OwnsB w B E v (List.replicate m 0) := by
  unfold OwnsB
  rw [toList_madeCells_one] at h
  simpa using h
theorem ownsB_cell {w : World} {B E g n cap : Nat} {l : List UInt8} (h : OwnsB w B E (.slice (some ⟨g, 0, none⟩) n cap) l) (hn : l.length = n) (j : Nat) (hj : j < n) :
    ∃ x, w.cell? ⟨g, j, none⟩ = some (.int .u8 x) ∧ w.frozen? ⟨g, j, none⟩ = false := by
  unfold OwnsB at h; rw [hn] at h
  exact ⟨_, by rw [h.cellAt j (by omega), List.getElem?_map, List.getElem?_eq_getElem (by omega)]; rfl, h.frozenAt j⟩
theorem ownsB_stored {w : World} {B E g n cap : Nat} {l l' : List UInt8} (h : OwnsB w B E (.slice (some ⟨g, 0, none⟩) n cap) l) (hn : l.length = n) (j : Nat) (b : UInt8) (he : l.set j b = l') :
    OwnsB (w.setCell ⟨g, j, none⟩ (.int .u8 (b.toNat : Int))) B E (.slice (some ⟨g, 0, none⟩) n cap) l' := by
  subst he
  unfold OwnsB at h ⊢; rw [hn] at h
  have := (h.stored j (.int .u8 (b.toNat : Int))).1
  rw [List.length_set, hn, List.map_set]; exact this
theorem ownsB_ge {w : World} {B E g n cap : Nat} {l : List UInt8} (h : OwnsB w B E (.slice (some ⟨g, 0, none⟩) n cap) l) : B ≤ g := (h.lt g rfl).1
/-- one byte in a new block, as a string -/
theorem conv_one {P : Program} (w : World) (b : UInt8) {src dst E : TypeId}
    (hs : P.underlying src = some (.slice E)) (he : P.underlying E = some (.int .u8)) (hd : P.underlying dst = some .string) :
    (convert src dst (.slice (some ⟨w.heap.size, 0, none⟩) 1 1)).run P (w.alloc (.cells #[.int .u8 (b.toNat : Int)] E)) = .ok (.string ⟨#[b]⟩) (w.alloc (.cells #[.int .u8 (b.toNat : Int)] E)) := by
  have ho : OwnsB (w.alloc (.cells #[.int .u8 (b.toNat : Int)] E)) 0 E (.slice (some ⟨w.heap.size, 0, none⟩) 1 1) [b] :=
    ⟨rfl, .inr ⟨w.heap.size, 1, #[.int .u8 (b.toNat : Int)], rfl, Nat.zero_le _, heap_alloc_new w _, Nat.le_refl 1, by unfold maxLen; omega, rfl, rfl⟩⟩
  exact ownsB_conv ho hs he hd
end Go.Proofs.YtmkllibfblacfaaDoor

/-
  The leaves of layer 1: what a digit, its worth, a code and its number answer.
-/
namespace Go.Proofs.YtmkllibfblacfaaDoor
open Go.RowKit


theorem u64_not (x : Int) (h0 : 0 ≤ x) (h1 : x < 18446744073709551616) : bits .xor .u64 IntKind.u64.max x = 18446744073709551615 - x := by
  obtain ⟨a, rfl⟩ := Int.eq_ofNat_of_zero_le h0
  have e : IntKind.u64.max = ((18446744073709551615 : Nat) : Int) := by decide
  rw [e, u64_xor _ _ (by omega) (by omega) (by omega) (by omega)]
  simp only [Int.toNat_natCast]
  have h : (18446744073709551615 ^^^ a : Nat) = 18446744073709551615 - a := by
    have e2 := congrArg BitVec.toNat (BitVec.allOnes_xor (x := BitVec.ofNat 64 a))
    rw [BitVec.toNat_xor, BitVec.toNat_not, BitVec.toNat_allOnes, BitVec.toNat_ofNat, Nat.mod_eq_of_lt (by omega)] at e2
    simpa using e2
  rw [h]; omega

theorem and1 (c : Nat) (h1 : c < 18446744073709551616) : bits .and .u64 (c : Int) 1 = ((c % 2 : Nat) : Int) := by
  rw [u64_and _ _ (by omega) (by omega) (by decide) (by decide)]
  have := nat_mask1 c
  simp only [Int.reduceToNat, Int.toNat_natCast]
  omega

theorem andNot128 (b : UInt8) : bits .andNot .u8 ((b.toNat : Nat) : Int) 128 = ((b.toNat % 128 : Nat) : Int) := by
  have hb := b.toNat_lt
  rw [u8_andNot _ _ (by omega) (by omega) (by decide) (by decide)]
  have := nat_mask7 b.toNat
  simp only [Int.reduceToNat, Int.toNat_natCast, Nat.reduceSub]
  omega
/-- the code so far, with a digit more -/
theorem or_digit (acc d k : Nat) (hk : k ≤ 9) (h : acc < 2 ^ (7 * k)) (hd : d < 128) (h9 : k = 9 → d ≤ 1) :
    bits .or .u64 (acc : Int) (IntKind.u64.wrap ((d : Int) * 2 ^ (k * 7))) = ((acc + 2 ^ (7 * k) * d : Nat) : Int) ∧ acc + 2 ^ (7 * k) * d < 18446744073709551616 := by
  have e : k * 7 = 7 * k := by omega
  have hp : (2 : Nat) ^ (7 * k) * d < 18446744073709551616 ∧ acc + 2 ^ (7 * k) * d < 18446744073709551616 := by
    by_cases hk9 : k = 9
    · subst hk9; have := h9 rfl; omega
    · have h8 : (2 : Nat) ^ (7 * k) ≤ 2 ^ 56 := Nat.pow_le_pow_right (by omega) (by omega)
      have : (2 : Nat) ^ (7 * k) * d ≤ 2 ^ 56 * 127 := Nat.mul_le_mul h8 (by omega)
      omega
  have e2 : ((d : Int) * 2 ^ (7 * k)) = ((2 ^ (7 * k) * d : Nat) : Int) := by push_cast; rw [Int.mul_comm]
  rw [e, e2, IntKind.wrap_u64, Int.emod_eq_of_lt (by omega) (by omega), u64_or _ _ (by omega) (by omega) (by omega) (by omega)]
  refine ⟨?_, hp.2⟩
  simp only [Int.toNat_natCast]
  rw [Oct.or_sum acc d k h]
end Go.Proofs.YtmkllibfblacfaaDoor

/-
  Layer 1: what TakeNum answers (the program's and the document's).
-/
namespace Go.Proofs.YtmkllibfblacfaaDoor
open Go.RowKit

theorem ret3 {a a' e e' : Int} {r r' : ByteArray} (h : a = a' ∧ r = r' ∧ e = e') :
    Ending.returned (.tuple #[.int .i64 a, .string r, .int .i64 e]) = .returned (.tuple #[.int .i64 a', .string r', .int .i64 e']) := by rw [h.1, h.2.1, h.2.2]

/-- the place's worth, one further: as uint64s go -/
theorem power_step (k : Nat) (hk : k ≤ 8) : ((2 ^ (7 * k) : Nat) : Int) * 128 = ((2 ^ (7 * (k + 1)) : Nat) : Int) ∧ (2 : Nat) ^ (7 * (k + 1)) < 18446744073709551616 := by
  have e : (2 : Nat) ^ (7 * (k + 1)) = 128 * 2 ^ (7 * k) := by rw [show 7 * (k + 1) = 7 + 7 * k from by omega, Nat.pow_add]
  have h8 : (2 : Nat) ^ (7 * k) ≤ 2 ^ 56 := Nat.pow_le_pow_right (by omega) (by omega)
  omega
theorem sum_digit (acc d k : Nat) (hk : k ≤ 9) (h : acc < 2 ^ (7 * k)) (hd : d < 128) (h9 : k = 9 → d ≤ 1) :
    IntKind.u64.wrap ((acc : Int) + IntKind.u64.wrap ((d : Int) * ((2 ^ (7 * k) : Nat) : Int))) = ((acc + 2 ^ (7 * k) * d : Nat) : Int) ∧ acc + 2 ^ (7 * k) * d < 18446744073709551616 := by
  have ho := (or_digit acc d k hk h hd h9).2
  have e2 : ((d : Int) * ((2 ^ (7 * k) : Nat) : Int)) = ((2 ^ (7 * k) * d : Nat) : Int) := by push_cast; rw [Int.mul_comm]
  rw [e2, IntKind.wrap_u64, IntKind.wrap_u64, Int.emod_eq_of_lt (a := ((2 ^ (7 * k) * d : Nat) : Int)) (by omega) (by omega), Int.emod_eq_of_lt (by omega) (by omega)]
  exact ⟨by push_cast; rfl, ho⟩

end Go.Proofs.YtmkllibfblacfaaDoor

/-
  Layer 1: what TakeText answers (the program's and the document's).
-/
namespace Go.Proofs.YtmkllibfblacfaaDoor
open Go.RowKit

theorem ret3c {a e : Int} {r : ByteArray} {t : Int × ByteArray × Int} (h : t = (a, r, e)) :
    Ending.returned (.tuple #[.int .i64 a, .string r, .int .i64 e]) = .returned (.tuple #[.int .i64 t.1, .string t.2.1, .int .i64 t.2.2]) := by rw [h]
theorem ret3t {a r : ByteArray} {e : Int} {t : ByteArray × ByteArray × Int} (h : t = (a, r, e)) :
    Ending.returned (.tuple #[.string a, .string r, .int .i64 e]) = .returned (.tuple #[.string t.1, .string t.2.1, .int .i64 t.2.2]) := by rw [h]

end Go.Proofs.YtmkllibfblacfaaDoor

/-
  Layer 13: a token in a cell of its own, and as a result.
-/
namespace Go.Proofs.YtmkllibfblacfaaDoor
open Go.RowKit
abbrev tokC (t : Lx.T) : Array Value := #[.int .i64 t.kind, .string t.s, .int .i64 t.n, .int .i64 t.spot]
abbrev tokV (t : Lx.T) : Value := .agg (tokC t)
theorem info_tok : (Tryd.prog.info? 74).map (·.size) = some 4 := by kernel_rfl
theorem results_cell_two13 {fn : Func} {p u x : Tmp} {ty : TypeId} (h : fn.results = #[.cell p ty, .tmp u, .tmp x]) (tmps : Array Value) (P : Program) (w : World) :
    (results fn tmps).run P w =
      ((asAddr (tmps.getD p undef)).run P w).andThen fun a w₁ => ((loadVar ty a).run P w₁).andThen fun v w₂ => .ok (.tuple #[v, tmps.getD u undef, tmps.getD x undef]) w₂ := by
  simp only [results, h]
  simp [Sem.run_bind, Result.andThen]
set_option maxRecDepth 100000 in
theorem results_tok {fn : Func} {p u x : Tmp} (h : fn.results = #[.cell p 74, .tmp u, .tmp x]) (tmps : Array Value) (w : World) (g : Nat) (v : Lx.T)
    (hp : tmps.getD p undef = .pointer (some ⟨g, 0, none⟩)) (hg : RowV w g 74 (tokC v).toList) :
    (results fn tmps).run Tryd.prog w = .ok (.tuple #[tokV v, tmps.getD u undef, tmps.getD x undef]) w := by
  have hl := run_loadVar_row (P := Tryd.prog) w g 74 74 (tokC v) (0, 0) _ hg Tryd.underlying74 rfl info_tok
  rw [results_cell_two13 h, hp]
  simp only [asAddr, Sem.run_pure, Result.andThen]
  rw [hl]
/-- a token stored into its box -/
theorem tok_put {w : World} {N : Nat} {v : Lx.T} (hr : RowV w N 74 (tokC v).toList) (k : Int) (s : ByteArray) (n a : Int) :
    RowV ((((w.setCell ⟨N, 0, none⟩ (.int .i64 k)).setCell ⟨N, 1, none⟩ (.string s)).setCell ⟨N, 2, none⟩ (.int .i64 n)).setCell ⟨N, 3, none⟩ (.int .i64 a)) N 74 (tokC ⟨k, s, n, a⟩).toList ∧
    ∀ B, B ≤ N → Below B w ((((w.setCell ⟨N, 0, none⟩ (.int .i64 k)).setCell ⟨N, 1, none⟩ (.string s)).setCell ⟨N, 2, none⟩ (.int .i64 n)).setCell ⟨N, 3, none⟩ (.int .i64 a)) :=
  ⟨rowV_stored (rowV_stored (rowV_stored (rowV_stored hr 0 (.int .i64 k)) 1 (.string s)) 2 (.int .i64 n)) 3 (.int .i64 a),
    fun B hB => ((((Below.refl B w).setCell (p := ⟨N, 0, none⟩) hB _).setCell (p := ⟨N, 1, none⟩) hB _).setCell (p := ⟨N, 2, none⟩) hB _).setCell (p := ⟨N, 3, none⟩) hB _⟩
/-- a token's cells, at its box -/
theorem tok_cells {w : World} {g : Nat} {v : Lx.T} (h : RowV w g 74 (tokC v).toList) :
    w.cell? ⟨g, 0, none⟩ = some (.int .i64 v.kind) ∧ w.cell? ⟨g, 1, none⟩ = some (.string v.s) ∧ w.cell? ⟨g, 2, none⟩ = some (.int .i64 v.n) ∧ w.cell? ⟨g, 3, none⟩ = some (.int .i64 v.spot) ∧
    w.frozen? ⟨g, 0, none⟩ = false ∧ w.frozen? ⟨g, 1, none⟩ = false ∧ w.frozen? ⟨g, 2, none⟩ = false ∧ w.frozen? ⟨g, 3, none⟩ = false :=
  ⟨rowV_cell h 0, rowV_cell h 1, rowV_cell h 2, rowV_cell h 3, rowV_frozen h 0, rowV_frozen h 1, rowV_frozen h 2, rowV_frozen h 3⟩
theorem tok_new (v : Lx.T) (w : World) : RowV (w.alloc (.cells (tokC v) 74)) w.heap.size 74 (tokC v).toList ∧ Below w.heap.size w (w.alloc (.cells (tokC v) 74)) ∧ (w.alloc (.cells (tokC v) 74)).heap.size = w.heap.size + 1 :=
  ⟨rowV_new w _ [_, _, _, _], (Below.refl w.heap.size w).alloc (Nat.le_refl _) _, World.size_alloc _ _⟩
end Go.Proofs.YtmkllibfblacfaaDoor

/-
  Layer 13: the document's first token of a text: letters, digits, names, numbers.
-/
namespace Go.Proofs.YtmkllibfblacfaaDoor
open Go.RowKit
theorem letter_yes {c : UInt8} (h : (97 ≤ c.toNat ∧ c.toNat ≤ 122) ∨ (65 ≤ c.toNat ∧ c.toNat ≤ 90) ∨ c.toNat = 95) : Lx.letter c = true := by
  unfold Lx.letter; simp; omega
theorem letter_no {c : UInt8} (h : ¬ ((97 ≤ c.toNat ∧ c.toNat ≤ 122) ∨ (65 ≤ c.toNat ∧ c.toNat ≤ 90) ∨ c.toNat = 95)) : Lx.letter c = false := by
  unfold Lx.letter; simp; omega
/-! words -/
theorem Lx.word_end (b : Bool) {c : UInt8} (r : List UInt8) (h : (Lx.letter c || (b && Lx.digit c)) = false) : Lx.word b (c :: r) = 0 := by rw [Lx.word, h]; simp
theorem Lx.word_next (b : Bool) {c : UInt8} (r : List UInt8) (h : (Lx.letter c || (b && Lx.digit c)) = true) : Lx.word b (c :: r) = Lx.word true r + 1 := by rw [Lx.word, if_pos h]
/-- k bytes of the word are told -/
def WordTo (s : ByteArray) (k : Nat) : Prop := Lx.word false s.data.toList = k + Lx.word (decide (0 < k)) (s.data.toList.drop k)
theorem wordTo_start (s : ByteArray) : WordTo s 0 := by unfold WordTo; simp
theorem wordTo_all {s : ByteArray} {k : Nat} (h : WordTo s k) (hk : k = s.size) : Lx.word false s.data.toList = k := by
  unfold WordTo at h
  rw [h, List.drop_eq_nil_of_le (by rw [Array.length_toList]; show s.size ≤ k; omega)]; rfl
theorem wordTo_end {s : ByteArray} {k : Nat} (h : WordTo s k) (hk : k < s.size) (hc : (Lx.letter s[k] || (decide (0 < k) && Lx.digit s[k])) = false) : Lx.word false s.data.toList = k := by
  have hl : k < s.data.toList.length := by simpa using hk
  unfold WordTo at h
  rw [h, Oct.drop_at _ _ hl, show s.data.toList[k] = s[k] from rfl, Lx.word_end _ _ hc]; rfl
theorem wordTo_next {s : ByteArray} {k : Nat} (h : WordTo s k) (hk : k < s.size) (hc : (Lx.letter s[k] || (decide (0 < k) && Lx.digit s[k])) = true) : WordTo s (k + 1) := by
  have hl : k < s.data.toList.length := by simpa using hk
  unfold WordTo at h ⊢
  rw [h, Oct.drop_at _ _ hl, show s.data.toList[k] = s[k] from rfl, Lx.word_next _ _ hc, decide_eq_true (show 0 < k + 1 by omega)]
  omega
/-! names -/
theorem take_list (s : ByteArray) (k : Nat) : s.extract 0 k = Lx.mk (s.data.toList.take k) := by
  apply Sl.ba_ext; rw [Sl.ext_first]
end Go.Proofs.YtmkllibfblacfaaDoor

/-
  Layer 13: reserved words, and names, as the document says.
-/
namespace Go.Proofs.YtmkllibfblacfaaDoor
open Go.RowKit
namespace Lx
def words : List (List UInt8) := [[97, 110, 100], [111, 114], [110, 111, 116], [105, 102], [116, 104, 101, 110], [101, 108, 115, 101], [116, 114, 117, 101], [102, 97, 108, 115, 101], [110, 117, 108, 108]]
def reserved (l : List UInt8) : Bool := decide (l ∈ words)
def nameB (s : ByteArray) : Bool := !(decide (s = Vl.mt)) && decide (word false s.data.toList = s.size) && decide (s.size ≤ 16) && !reserved s.data.toList
end Lx
abbrev wordsV : List Value := Lx.words.map fun m => .string (Lx.mk m)
theorem wordsV_at (k : Nat) (_ : k < wordsV.length) (h' : k < Lx.words.length) : wordsV[k] = .string (Lx.mk Lx.words[k]) := List.getElem_map ..
theorem words_len : Lx.words.length = 9 := rfl
def NoWord (l : List UInt8) (k : Nat) : Prop := l ∉ Lx.words.take k
theorem noWord_next {l : List UInt8} {k : Nat} (h : NoWord l k) (hk : k < Lx.words.length) (hp : Lx.words[k] ≠ l) : NoWord l (k + 1) := by
  intro hm
  rw [List.take_succ_eq_append_getElem hk] at hm
  rcases List.mem_append.1 hm with hm | hm
  · exact h hm
  · simp only [List.mem_singleton] at hm; exact hp hm.symm
theorem ba_list_ne {m : List UInt8} {s : ByteArray} (h : m ≠ s.data.toList) : ¬ (Lx.mk m).toList = s.toList := fun e => h (by rw [ByteArray.toList_eq, ByteArray.toList_eq] at e; exact e)
theorem mt_iff13 (s : ByteArray) : s.toList = [] ↔ s = Vl.mt := by
  rw [ByteArray.toList_eq]
  constructor
  · intro h; apply Sl.ba_ext; rw [h]
  · rintro rfl; rfl
end Go.Proofs.YtmkllibfblacfaaDoor

/-
  The plain mathematics of layer 14 (syntax): expressions, what they are written as, and how tokens are read; nothing of any program.
-/
namespace Go.Proofs.YtmkllibfblacfaaDoor.Sx
open Lx (T)
inductive X where
  | mk (op : Int) (v : Vl.V) (s : ByteArray) (l : List X)
def X.op : X → Int | .mk o _ _ _ => o
def X.v : X → Vl.V | .mk _ v _ _ => v
def X.s : X → ByteArray | .mk _ _ s _ => s
def X.l : X → List X | .mk _ _ _ l => l
def no : X := .mk 0 Vl.no Vl.mt []
/-- the level of an op -/
def lvl (op : Int) : Nat :=
  if op = 15 then 1 else if op = 14 then 2 else if 8 ≤ op ∧ op ≤ 13 then 3 else if op = 4 ∨ op = 5 then 4 else if op = 6 ∨ op = 7 then 5 else if op = 3 then 6 else if op = 1 ∨ op = 2 then 7 else 0
/-- what an op of two is written as -/
def sign (op : Int) : List UInt8 :=
  if op = 4 then [43] else if op = 5 then [45] else if op = 6 then [42] else if op = 7 then [47] else if op = 8 then [61] else if op = 9 then [33, 61] else if op = 10 then [60] else if op = 11 then [60, 61] else if op = 12 then [62] else if op = 13 then [62, 61] else if op = 14 then [97, 110, 100] else if op = 15 then [111, 114] else []
def count (op : Int) : Int := if op = 1 ∨ op = 2 then 0 else if op = 3 then 1 else if op = 16 then 3 else if 4 ≤ op ∧ op ≤ 15 then 2 else -1
instance : DecidableEq Vl.V := fun a b => by
  by_cases h1 : a.kind = b.kind
  · by_cases h2 : a.n = b.n
    · by_cases h3 : a.s = b.s
      · exact .isTrue (Vl.v_ext h1 h2 h3)
      · exact .isFalse fun e => h3 (by rw [e])
    · exact .isFalse fun e => h2 (by rw [e])
  · exact .isFalse fun e => h1 (by rw [e])
mutual
def right : X → Bool
  | .mk op v s l => decide ((l.length : Int) = count op) && (if op = 1 then decide (s = Vl.mt) && decide (Vl.right v) && (decide (v.kind ≠ 1) || decide (0 ≤ v.n)) else if op = 2 then decide (v = Vl.no) && Lx.nameB s else rightL l && (decide (v = Vl.no) && decide (s = Vl.mt)))
def rightL : List X → Bool
  | [] => true
  | x :: r => right x && rightL r
end
mutual
def deep : X → Nat
  | .mk _ _ _ l => deepL l + 1
def deepL : List X → Nat
  | [] => 0
  | x :: r => max (deep x) (deepL r)
end
mutual
def size : X → Nat
  | .mk _ _ _ l => 1 + sizeL l
def sizeL : List X → Nat
  | [] => 0
  | x :: r => size x + sizeL r
end
/-- a list of names with others that are not in it yet -/
def memB (m : ByteArray) (o : List ByteArray) : Bool := o.any fun x => decide (x = m)
def add1 (o : List ByteArray) (m : ByteArray) : List ByteArray := if memB m o then o else o ++ [m]
def addN (out more : List ByteArray) : List ByteArray := more.foldl add1 out
mutual
def names : X → List ByteArray
  | .mk op _ s l => namesL l (if op = 2 then [s] else [])
def namesL : List X → List ByteArray → List ByteArray
  | [], out => out
  | x :: r, out => namesL r (addN out (names x))
end
/-! writing: pieces -/
inductive P where
  | tok (t : T)
  | gap
abbrev word (l : List UInt8) : T := ⟨1, Lx.mk l, 0, 0⟩
abbrev mark (l : List UInt8) : T := ⟨4, Lx.mk l, 0, 0⟩
/-- the token of a value -/
def valT (v : Vl.V) : T := if v.kind = 1 then ⟨2, Vl.mt, v.n, 0⟩ else if v.kind = 2 then ⟨3, v.s, 0, 0⟩ else if v.kind = 3 then (if v.n = 1 then word [116, 114, 117, 101] else word [102, 97, 108, 115, 101]) else word [110, 117, 108, 108]
/-- the token of an op of two -/
def opT (op : Int) : T := if op = 14 ∨ op = 15 then word (sign op) else mark (sign op)
def left (op : Int) : Nat := if lvl op = 3 then 4 else lvl op
def parP (lev : Nat) (c : Nat × List P) : List P := if c.1 < lev then .tok (mark [40]) :: (c.2 ++ [.tok (mark [41])]) else c.2
def kid (cs : List (Nat × List P)) (i : Nat) : Nat × List P := cs.getD i (0, [])
def asm (op : Int) (v : Vl.V) (s : ByteArray) (cs : List (Nat × List P)) : List P :=
  if op = 1 then [.tok (valT v)] else if op = 2 then [.tok ⟨1, s, 0, 0⟩]
  else if op = 3 then .tok (mark [45]) :: parP 6 (kid cs 0)
  else if op = 16 then [.tok (word [105, 102]), .gap] ++ (parP 0 (kid cs 0) ++ ([.gap, .tok (word [116, 104, 101, 110]), .gap] ++ (parP 0 (kid cs 1) ++ ([.gap, .tok (word [101, 108, 115, 101]), .gap] ++ parP 0 (kid cs 2)))))
  else parP (left op) (kid cs 0) ++ ([.gap, .tok (opT op), .gap] ++ parP (lvl op + 1) (kid cs 1))
mutual
def ps : X → List P
  | .mk op v s l => asm op v s (psL l)
def psL : List X → List (Nat × List P)
  | [] => []
  | x :: r => (lvl x.op, ps x) :: psL r
end
/-- an expression at a level, in pieces -/
def wr (x : X) (lev : Nat) : List P := parP lev (lvl x.op, ps x)
def flat1 : P → List UInt8
  | .tok t => Lx.textL t
  | .gap => [32]
def flat (l : List P) : List UInt8 := l.flatMap flat1
def toks : List P → List T
  | [] => []
  | .tok t :: r => t :: toks r
  | .gap :: r => toks r
theorem flat_app (a b : List P) : flat (a ++ b) = flat a ++ flat b := List.flatMap_append
theorem toks_app : ∀ a b : List P, toks (a ++ b) = toks a ++ toks b
  | [], _ => rfl
  | .tok t :: a, b => congrArg (t :: ·) (toks_app a b)
  | .gap :: a, b => toks_app a b
/-- an expression's tokens at a level -/
def tk (x : X) (lev : Nat) : List T := toks (wr x lev)
/-! reading -/
def isT (t : Option T) (kind : Int) (s : List UInt8) : Bool := match t with
  | some t => decide (t.kind = kind) && decide (t.s = Lx.mk s)
  | none => false
/-- what one token is by itself -/
def leaf (t : T) : Option X :=
  if t.kind = 2 then some (.mk 1 ⟨1, t.n, Vl.mt⟩ Vl.mt [])
  else if t.kind = 3 then some (.mk 1 ⟨2, 0, t.s⟩ Vl.mt [])
  else if t.kind = 1 then
    if t.s = Lx.mk [110, 117, 108, 108] then some (.mk 1 Vl.no Vl.mt [])
    else if t.s = Lx.mk [116, 114, 117, 101] then some (.mk 1 ⟨3, 1, Vl.mt⟩ Vl.mt [])
    else if t.s = Lx.mk [102, 97, 108, 115, 101] then some (.mk 1 ⟨3, 0, Vl.mt⟩ Vl.mt [])
    else if Lx.nameB t.s then some (.mk 2 Vl.no t.s []) else none
  else none
def ops : List Int := [4, 5, 6, 7, 8, 9, 10, 11, 12, 13, 14, 15]
def kindOf (op : Int) : Int := if op = 14 ∨ op = 15 then 1 else 4
def isOp (t : Option T) (lev : Nat) (op : Int) : Bool := decide (lvl op = lev) && isT t (kindOf op) (sign op)
/-- the op of two of a level that stands here -/
def opAt (t : Option T) (lev : Nat) : Option Int := ops.find? (isOp t lev)
abbrev bin (op : Int) (a b : X) : X := .mk op Vl.no Vl.mt [a, b]
mutual
/-- an expression of a level, from place p on; none: the first place that does not go on -/
def rd (g : Nat → Option T) : Nat → Nat → Nat → Option X × Nat
  | 0, _, p => (none, p)
  | f + 1, lev, p =>
    if lev = 7 then
      match g p with
      | none => (none, p)
      | some t => match leaf t with
        | some x => (some x, p + 1)
        | none => if isT (g p) 4 [40] then
            match rd g f 0 (p + 1) with
            | (none, q) => (none, q)
            | (some x, q) => if isT (g q) 4 [41] then (some x, q + 1) else (none, q)
          else (none, p)
    else if lev = 0 ∧ isT (g p) 1 [105, 102] then
      match rd g f 0 (p + 1) with
      | (none, q) => (none, q)
      | (some a, q) => if isT (g q) 1 [116, 104, 101, 110] then
          match rd g f 0 (q + 1) with
          | (none, q) => (none, q)
          | (some b, q) => if isT (g q) 1 [101, 108, 115, 101] then
              match rd g f 0 (q + 1) with
              | (none, q) => (none, q)
              | (some c, q) => (some (.mk 16 Vl.no Vl.mt [a, b, c]), q)
            else (none, q)
        else (none, q)
    else if lev = 6 ∧ isT (g p) 4 [45] then
      match rd g f 6 (p + 1) with
      | (none, q) => (none, q)
      | (some a, q) => (some (.mk 3 Vl.no Vl.mt [a]), q)
    else if lev = 0 ∨ lev = 6 then rd g f (lev + 1) p
    else match rd g f (lev + 1) p with
      | (none, q) => (none, q)
      | (some x, q) => go g f lev x q
def go (g : Nat → Option T) : Nat → Nat → X → Nat → Option X × Nat
  | 0, _, _, p => (none, p)
  | f + 1, lev, x, p => match opAt (g p) lev with
    | none => (some x, p)
    | some op => match rd g f (lev + 1) (p + 1) with
      | (none, q) => (none, q)
      | (some y, q) => if lev = 3 then (some (bin op x y), q) else go g f lev (bin op x y) q
end
end Go.Proofs.YtmkllibfblacfaaDoor.Sx

/-
  Layer 14, plain mathematics: the tokens that an expression is written as are read as it.
-/
namespace Go.Proofs.YtmkllibfblacfaaDoor.Sx
open Lx (T)
/-! small -/
theorem psL_map : ∀ l : List X, psL l = l.map fun x => (lvl x.op, ps x)
  | [] => rfl
  | x :: r => congrArg ((lvl x.op, ps x) :: ·) (psL_map r)
theorem rightL_all : ∀ l : List X, rightL l = true ↔ ∀ x ∈ l, right x = true
  | [] => by simp [rightL]
  | x :: r => by rw [rightL, Bool.and_eq_true, rightL_all r]; simp
/-- the five forms -/
inductive Form : X → Prop
  | val (v : Vl.V) (h : Vl.right v) (hn : v.kind ≠ 1 ∨ 0 ≤ v.n) : Form (.mk 1 v Vl.mt [])
  | name (s : ByteArray) (h : Lx.nameB s = true) : Form (.mk 2 Vl.no s [])
  | neg (a : X) (h : right a = true) : Form (.mk 3 Vl.no Vl.mt [a])
  | bin (op : Int) (a b : X) (h4 : 4 ≤ op) (h15 : op ≤ 15) (ha : right a = true) (hb : right b = true) : Form (bin op a b)
  | cond (a b c : X) (ha : right a = true) (hb : right b = true) (hc : right c = true) : Form (.mk 16 Vl.no Vl.mt [a, b, c])
theorem len1 {l : List X} (h : l.length = 1) : ∃ a, l = [a] := by
  match l, h with
  | [a], _ => exact ⟨a, rfl⟩
theorem len2 {l : List X} (h : l.length = 2) : ∃ a b, l = [a, b] := by
  match l, h with
  | [a, b], _ => exact ⟨a, b, rfl⟩
theorem len3 {l : List X} (h : l.length = 3) : ∃ a b c, l = [a, b, c] := by
  match l, h with
  | [a, b, c], _ => exact ⟨a, b, c, rfl⟩
theorem form_of {x : X} (h : right x = true) : Form x := by
  obtain ⟨op, v, s, l⟩ := x
  rw [right, Bool.and_eq_true, decide_eq_true_eq] at h
  obtain ⟨hl, h⟩ := h
  by_cases h1 : op = 1
  · subst h1
    rw [if_pos rfl] at h
    simp only [Bool.and_eq_true, Bool.or_eq_true, decide_eq_true_eq] at h
    obtain ⟨⟨rfl, h2⟩, h3⟩ := h
    have hl : (l.length : Int) = 0 := hl
    obtain rfl : l = [] := List.eq_nil_of_length_eq_zero (by omega)
    exact .val v h2 h3
  · rw [if_neg h1] at h
    by_cases h2 : op = 2
    · subst h2
      rw [if_pos rfl] at h
      simp only [Bool.and_eq_true, decide_eq_true_eq] at h
      obtain ⟨rfl, h3⟩ := h
      have hl : (l.length : Int) = 0 := hl
      obtain rfl : l = [] := List.eq_nil_of_length_eq_zero (by omega)
      exact .name s h3
    · rw [if_neg h2] at h
      simp only [Bool.and_eq_true, decide_eq_true_eq] at h
      obtain ⟨h3, rfl, rfl⟩ := h
      rw [rightL_all] at h3
      unfold count at hl
      rw [if_neg (by omega)] at hl
      by_cases h4 : op = 3
      · subst h4
        rw [if_pos rfl] at hl
        obtain ⟨a, rfl⟩ := len1 (l := l) (by omega)
        exact .neg a (h3 a (by simp))
      · rw [if_neg h4] at hl
        by_cases h5 : op = 16
        · subst h5
          rw [if_pos rfl] at hl
          obtain ⟨a, b, c, rfl⟩ := len3 (l := l) (by omega)
          exact .cond a b c (h3 a (by simp)) (h3 b (by simp)) (h3 c (by simp))
        · rw [if_neg h5] at hl
          by_cases h6 : 4 ≤ op ∧ op ≤ 15
          · rw [if_pos h6] at hl
            obtain ⟨a, b, rfl⟩ := len2 (l := l) (by omega)
            exact .bin op a b h6.1 h6.2 (h3 a (by simp)) (h3 b (by simp))
          · rw [if_neg h6] at hl
            omega
/-! the tokens of each form -/
theorem tk_paren {x : X} {lev : Nat} (h : lvl x.op < lev) : tk x lev = mark [40] :: (tk x 0 ++ [mark [41]]) := by
  unfold tk wr parP
  rw [if_pos (show (lvl x.op, ps x).1 < lev from h), if_neg (Nat.not_lt_zero _)]
  show mark [40] :: toks (ps x ++ _) = _
  rw [toks_app]; rfl
theorem tk_open {x : X} {lev : Nat} (h : lev ≤ lvl x.op) : tk x lev = toks (ps x) := by
  unfold tk wr parP
  rw [if_neg (show ¬ (lvl x.op, ps x).1 < lev from by show ¬ lvl x.op < lev; omega)]
theorem tk_val (v : Vl.V) {lev : Nat} (h : lev ≤ 7) : tk (.mk 1 v Vl.mt []) lev = [valT v] := by rw [tk_open (show lev ≤ lvl 1 from h)]; rfl
theorem tk_name (s : ByteArray) {lev : Nat} (h : lev ≤ 7) : tk (.mk 2 Vl.no s []) lev = [⟨1, s, 0, 0⟩] := by rw [tk_open (show lev ≤ lvl 2 from h)]; rfl
theorem tk_neg (a : X) {lev : Nat} (h : lev ≤ 6) : tk (.mk 3 Vl.no Vl.mt [a]) lev = mark [45] :: tk a 6 := by rw [tk_open (show lev ≤ lvl 3 from h)]; rfl
theorem op_facts {op : Int} (h4 : 4 ≤ op) (h15 : op ≤ 15) : op = 4 ∨ op = 5 ∨ op = 6 ∨ op = 7 ∨ op = 8 ∨ op = 9 ∨ op = 10 ∨ op = 11 ∨ op = 12 ∨ op = 13 ∨ op = 14 ∨ op = 15 := by omega
theorem tk_bin {op : Int} (a b : X) (h4 : 4 ≤ op) (h15 : op ≤ 15) {lev : Nat} (h : lev ≤ lvl op) : tk (bin op a b) lev = tk a (left op) ++ opT op :: tk b (lvl op + 1) := by
  rw [tk_open (show lev ≤ lvl (bin op a b).op from h)]
  show toks (asm op Vl.no Vl.mt (psL [a, b])) = _
  unfold asm
  rw [if_neg (by omega), if_neg (by omega), if_neg (by omega), if_neg (by omega), toks_app, toks_app]
  rfl
theorem tk_cond (a b c : X) : tk (.mk 16 Vl.no Vl.mt [a, b, c]) 0 = word [105, 102] :: (tk a 0 ++ word [116, 104, 101, 110] :: (tk b 0 ++ word [101, 108, 115, 101] :: tk c 0)) := by
  rw [tk_open (Nat.zero_le _)]
  show toks (asm 16 Vl.no Vl.mt (psL [a, b, c])) = _
  unfold asm
  rw [if_neg (by decide), if_neg (by decide), if_neg (by decide), if_pos rfl, toks_app, toks_app, toks_app, toks_app, toks_app]
  rfl
/-! levels -/
theorem lvl_bin {op : Int} (h4 : 4 ≤ op) (h15 : op ≤ 15) : 1 ≤ lvl op ∧ lvl op ≤ 5 := by
  rcases op_facts h4 h15 with rfl | rfl | rfl | rfl | rfl | rfl | rfl | rfl | rfl | rfl | rfl | rfl <;> decide
theorem opAt_op {op : Int} (h4 : 4 ≤ op) (h15 : op ≤ 15) : opAt (some (opT op)) (lvl op) = some op ∧ ∀ m, m ≤ 7 → m ≠ lvl op → opAt (some (opT op)) m = none := by
  rcases op_facts h4 h15 with rfl | rfl | rfl | rfl | rfl | rfl | rfl | rfl | rfl | rfl | rfl | rfl
  all_goals refine ⟨by decide +kernel, fun m hm hne => ?_⟩
  all_goals have h8 : m = 0 ∨ m = 1 ∨ m = 2 ∨ m = 3 ∨ m = 4 ∨ m = 5 ∨ m = 6 ∨ m = 7 := by omega
  all_goals rcases h8 with rfl | rfl | rfl | rfl | rfl | rfl | rfl | rfl
  all_goals first | exact absurd rfl hne | decide +kernel
/-! tokens in their places -/
def Has (g : Nat → Option T) (p : Nat) (l : List T) : Prop := ∀ i (h : i < l.length), g (p + i) = some l[i]
theorem has_app {g : Nat → Option T} {p : Nat} {a b : List T} (h : Has g p (a ++ b)) : Has g p a ∧ Has g (p + a.length) b := by
  refine ⟨fun i hi => ?_, fun i hi => ?_⟩
  · have := h i (by rw [List.length_append]; omega)
    rwa [List.getElem_append_left hi] at this
  · have := h (a.length + i) (by rw [List.length_append]; omega)
    rw [List.getElem_append_right (by omega)] at this
    rw [Nat.add_assoc, this]
    simp
theorem has_cons {g : Nat → Option T} {p : Nat} {t : T} {b : List T} (h : Has g p (t :: b)) : g p = some t ∧ Has g (p + 1) b := by
  refine ⟨h 0 (by simp), fun i hi => ?_⟩
  have := h (i + 1) (by rw [List.length_cons]; omega)
  rw [List.getElem_cons_succ] at this
  rw [← this]; congr 1; omega
/-- nothing of that level or a greater one goes on here -/
def Stop (g : Nat → Option T) (q lev : Nat) : Prop := ∀ m, lev ≤ m → m ≤ 5 → opAt (g q) m = none
theorem stop_mono {g : Nat → Option T} {q a b : Nat} (h : Stop g q a) (hab : a ≤ b) : Stop g q b := fun m h1 h2 => h m (by omega) h2
/-- it is read, whatever fuel there is above the least -/
def Rds (g : Nat → Option T) (n : Nat) (x : X) (lev p q : Nat) : Prop := ∀ f, 10 * (n - p) + (8 - lev) ≤ f → rd g f lev p = (some x, q)
theorem rd_7 (g : Nat → Option T) (f p : Nat) : rd g (f + 1) 7 p = (match g p with
      | none => (none, p)
      | some t => match leaf t with
        | some x => (some x, p + 1)
        | none => if isT (g p) 4 [40] then
            match rd g f 0 (p + 1) with
            | (none, q) => (none, q)
            | (some x, q) => if isT (g q) 4 [41] then (some x, q + 1) else (none, q)
          else (none, p)) := by rw [rd, if_pos rfl] <;> rfl
theorem rd_up0 {g : Nat → Option T} (f : Nat) {p : Nat} (h : isT (g p) 1 [105, 102] = false) : rd g (f + 1) 0 p = rd g f 1 p := by
  rw [rd, if_neg (by decide), if_neg (by rw [h]; simp), if_neg (by simp), if_pos (.inl rfl)]
theorem rd_up6 {g : Nat → Option T} (f : Nat) {p : Nat} (h : isT (g p) 4 [45] = false) : rd g (f + 1) 6 p = rd g f 7 p := by
  rw [rd, if_neg (by decide), if_neg (by simp), if_neg (by rw [h]; simp), if_pos (.inr rfl)]
theorem rd_mid {g : Nat → Option T} (f : Nat) {lev p : Nat} (h1 : 1 ≤ lev) (h5 : lev ≤ 5) : rd g (f + 1) lev p = (match rd g f (lev + 1) p with
      | (none, q) => (none, q)
      | (some x, q) => go g f lev x q) := by
  rw [rd, if_neg (by omega), if_neg (by omega), if_neg (by omega), if_neg (by omega)] <;> rfl
theorem go_end {g : Nat → Option T} {f lev p : Nat} {x : X} (hf : 0 < f) (h : opAt (g p) lev = none) : go g f lev x p = (some x, p) := by
  obtain ⟨f, rfl⟩ : ∃ k, f = k + 1 := ⟨f - 1, by omega⟩
  rw [go, h]
theorem down_mid {g : Nat → Option T} {n lev p q : Nat} {x : X} (h1 : 1 ≤ lev) (h5 : lev ≤ 5) (h : Rds g n x (lev + 1) p q) (hs : opAt (g q) lev = none) : Rds g n x lev p q := by
  intro f hf
  obtain ⟨f, rfl⟩ : ∃ k, f = k + 1 := ⟨f - 1, by omega⟩
  rw [rd_mid f h1 h5, h f (by omega)]
  exact go_end (by omega) hs
theorem down_0 {g : Nat → Option T} {n p q : Nat} {x : X} (h : Rds g n x 1 p q) (hi : isT (g p) 1 [105, 102] = false) : Rds g n x 0 p q := by
  intro f hf
  obtain ⟨f, rfl⟩ : ∃ k, f = k + 1 := ⟨f - 1, by omega⟩
  rw [rd_up0 f hi, h f (by omega)]
theorem down_6 {g : Nat → Option T} {n p q : Nat} {x : X} (h : Rds g n x 7 p q) (hi : isT (g p) 4 [45] = false) : Rds g n x 6 p q := by
  intro f hf
  obtain ⟨f, rfl⟩ : ∃ k, f = k + 1 := ⟨f - 1, by omega⟩
  rw [rd_up6 f hi, h f (by omega)]
/-- from a level down to a lower one -/
theorem down {g : Nat → Option T} {n p q : Nat} {x : X} {lev : Nat} (hs : Stop g q lev) (hi : isT (g p) 1 [105, 102] = false) : ∀ (j b : Nat), b = lev + j → b ≤ 7 → (b = 7 → isT (g p) 4 [45] = false) → Rds g n x b p q → Rds g n x lev p q
  | 0, b, hb, _, _, h => by
    obtain rfl : b = lev := by omega
    exact h
  | j + 1, b, hb, hb7, hm, h => by
    obtain ⟨c, rfl⟩ : ∃ c, b = c + 1 := ⟨b - 1, by omega⟩
    refine down hs hi j c (by omega) (by omega) (fun h7 => by omega) ?_
    by_cases h0 : c = 0
    · subst h0; exact down_0 h hi
    · by_cases h6 : c = 6
      · subst h6; exact down_6 h (hm rfl)
      · exact down_mid (by omega) (by omega) h (hs c (by omega) (by omega))
/-! the first token -/
theorem valT_first (v : Vl.V) : isT (some (valT v)) 1 [105, 102] = false ∧ isT (some (valT v)) 4 [45] = false := by
  unfold valT
  split
  · exact ⟨rfl, rfl⟩
  · split
    · exact ⟨rfl, rfl⟩
    · split
      · split
        · exact ⟨by decide +kernel, by decide +kernel⟩
        · exact ⟨by decide +kernel, by decide +kernel⟩
      · exact ⟨by decide +kernel, by decide +kernel⟩
theorem isT_name (s : ByteArray) (h : Lx.nameB s = true) : isT (some (⟨1, s, 0, 0⟩ : T)) 1 [105, 102] = false ∧ isT (some (⟨1, s, 0, 0⟩ : T)) 4 [45] = false := by
  refine ⟨?_, rfl⟩
  cases hh : isT (some (⟨1, s, 0, 0⟩ : T)) 1 [105, 102] with
  | false => rfl
  | true =>
    unfold isT at hh
    simp only [Bool.and_eq_true, decide_eq_true_eq] at hh
    rw [hh.2] at h
    exact absurd h (by decide +kernel)
/-- written at a level of 1 or more it does not begin with 'if' -/
theorem first_if : ∀ (k : Nat) (x : X), size x ≤ k → right x = true → ∀ lev, 1 ≤ lev → ∃ t r, tk x lev = t :: r ∧ isT (some t) 1 [105, 102] = false := by
  intro k
  induction k with
  | zero => intro x hk; obtain ⟨_, _, _, _⟩ := x; rw [size] at hk; omega
  | succ k ih =>
    intro x hk hr lev hlev
    by_cases hlt : lvl x.op < lev
    · exact ⟨_, _, tk_paren hlt, by decide +kernel⟩
    · have hle : lev ≤ lvl x.op := by omega
      cases form_of hr with
      | val v h hn => exact ⟨_, _, tk_val v (hle), (valT_first v).1⟩
      | name s h => exact ⟨_, _, tk_name s hle, (isT_name s h).1⟩
      | neg a h => exact ⟨_, _, tk_neg a hle, by decide +kernel⟩
      | bin op a b h4 h15 ha hb =>
        have hl := lvl_bin h4 h15
        obtain ⟨t, r, h1, h2⟩ := ih a (by rw [size, sizeL] at hk; omega) ha (left op) (by unfold left; split <;> omega)
        exact ⟨t, r ++ opT op :: tk b (lvl op + 1), by rw [tk_bin a b h4 h15 hle, h1]; rfl, h2⟩
      | cond a b c ha hb hc =>
        have : lev ≤ 0 := hle
        omega
/-! reading each form -/
section
variable {g : Nat → Option T} {n : Nat}
theorem leaf_val {v : Vl.V} (h : Vl.right v) : leaf (valT v) = some (.mk 1 v Vl.mt []) := by
  obtain ⟨k, m, s⟩ := v
  rcases h with ⟨h1, h2, h3⟩ | ⟨h1, h3⟩ | ⟨h1, h2, h3⟩ | ⟨h1, h2, h3⟩
  · simp only at h1 h2 h3; subst h1 h2 h3; kernel_rfl
  · simp only at h1 h3; subst h1 h3; rfl
  · simp only at h1 h2; subst h1 h2; rfl
  · simp only at h1 h2 h3; subst h1 h3
    rcases h2 with rfl | rfl
    · kernel_rfl
    · kernel_rfl
theorem leaf_name {s : ByteArray} (h : Lx.nameB s = true) : leaf ⟨1, s, 0, 0⟩ = some (.mk 2 Vl.no s []) := by
  have hne : ∀ l : List UInt8, Lx.nameB (Lx.mk l) = false → ¬ s = Lx.mk l := fun l hl e => by rw [e, hl] at h; cases h
  unfold leaf
  rw [if_neg (show ¬ (1 : Int) = 2 by decide), if_neg (show ¬ (1 : Int) = 3 by decide), if_pos rfl, if_neg (hne _ (by decide +kernel)), if_neg (hne _ (by decide +kernel)), if_neg (hne _ (by decide +kernel)), if_pos h]
/-- a token that is an expression by itself -/
theorem reads_leaf {x : X} {t : T} {p lev : Nat} (hg : g p = some t) (hl : leaf t = some x) (hi : isT (some t) 1 [105, 102] = false) (hm : isT (some t) 4 [45] = false) (h7 : lev ≤ 7) (hs : Stop g (p + 1) lev) : Rds g n x lev p (p + 1) := by
  refine down hs (by rw [hg]; exact hi) (7 - lev) 7 (by omega) (Nat.le_refl _) (fun _ => by rw [hg]; exact hm) fun f hf => ?_
  obtain ⟨f, rfl⟩ : ∃ k, f = k + 1 := ⟨f - 1, by omega⟩
  rw [rd_7, hg]
  simp only [hl]
/-- in brackets -/
theorem reads_paren {x : X} {p q lev : Nat} (hg : g p = some (mark [40])) (h : Rds g n x 0 (p + 1) q) (hq : g q = some (mark [41])) (hqn : q < n) (hpq : p < q) (h7 : lev ≤ 7) (hs : Stop g (q + 1) lev) : Rds g n x lev p (q + 1) := by
  refine down hs (by rw [hg]; decide +kernel) (7 - lev) 7 (by omega) (Nat.le_refl _) (fun _ => by rw [hg]; decide +kernel) fun f hf => ?_
  obtain ⟨f, rfl⟩ : ∃ k, f = k + 1 := ⟨f - 1, by omega⟩
  have hl : leaf (mark [40]) = none := by kernel_rfl
  have h1 : isT (some (mark [40])) 4 [40] = true := by decide +kernel
  have h2 : isT (some (mark [41])) 4 [41] = true := by decide +kernel
  rw [rd_7, hg]
  simp only [hl, h1, if_true]
  rw [h f (by omega)]
  simp only [hq, h2, if_true]
theorem stop_tok {q : Nat} {t : T} (hg : g q = some t) (h : ∀ m, m ≤ 5 → opAt (some t) m = none) (lev : Nat) : Stop g q lev := fun m _ h5 => by rw [hg]; exact h m h5
theorem none_word (l : List UInt8) (h : ∀ m, m ∈ [0, 1, 2, 3, 4, 5] → opAt (some (word l)) m = none) : ∀ m, m ≤ 5 → opAt (some (word l)) m = none := fun m hm => h m (by
  have : m = 0 ∨ m = 1 ∨ m = 2 ∨ m = 3 ∨ m = 4 ∨ m = 5 := by omega
  rcases this with rfl | rfl | rfl | rfl | rfl | rfl <;> simp)
theorem no_then : ∀ m, m ≤ 5 → opAt (some (word [116, 104, 101, 110])) m = none := none_word _ (by decide +kernel)
theorem no_else : ∀ m, m ≤ 5 → opAt (some (word [101, 108, 115, 101])) m = none := none_word _ (by decide +kernel)
theorem no_close : ∀ m, m ≤ 5 → opAt (some (mark [41])) m = none := fun m hm => by
  have : m = 0 ∨ m = 1 ∨ m = 2 ∨ m = 3 ∨ m = 4 ∨ m = 5 := by omega
  rcases this with rfl | rfl | rfl | rfl | rfl | rfl <;> decide +kernel
theorem stop_opT {q : Nat} {op : Int} (h4 : 4 ≤ op) (h15 : op ≤ 15) (hg : g q = some (opT op)) {lev : Nat} (h : lvl op < lev) : Stop g q lev := fun m h1 h5 => by
  rw [hg]; exact (opAt_op h4 h15).2 m (by omega) (by omega)
/-- what the two claims say of all expressions up to a size -/
def Reads (g : Nat → Option T) (n k : Nat) : Prop := ∀ x, size x ≤ k → right x = true → ∀ lev p, lev ≤ 7 → Has g p (tk x lev) → p + (tk x lev).length ≤ n → Stop g (p + (tk x lev).length) lev → Rds g n x lev p (p + (tk x lev).length)
/-- read on a level that goes from left to right, and behind it more may go on -/
def Chain (g : Nat → Option T) (n k : Nat) : Prop := ∀ x, size x ≤ k → right x = true → ∀ lev p, (lev = 1 ∨ lev = 2 ∨ lev = 4 ∨ lev = 5) → Has g p (tk x lev) → p + (tk x lev).length ≤ n → Stop g (p + (tk x lev).length) (lev + 1) →
  ∀ f, 10 * (n - p) + (8 - lev) ≤ f → ∃ f', 10 * (n - (p + (tk x lev).length)) + 1 ≤ f' ∧ rd g f lev p = go g f' lev x (p + (tk x lev).length)
theorem tk_pos {x : X} (lev : Nat) (h : right x = true) : 0 < (tk x lev).length := by
  by_cases hlt : lvl x.op < lev
  · rw [tk_paren hlt]; simp
  · have hle : lev ≤ lvl x.op := by omega
    cases form_of h with
    | val v h hn => rw [tk_val v hle]; simp
    | name s h => rw [tk_name s hle]; simp
    | neg a h => rw [tk_neg a hle]; simp
    | bin op a b h4 h15 ha hb => rw [tk_bin a b h4 h15 hle]; simp; omega
    | cond a b c ha hb hc =>
      obtain rfl : lev = 0 := by have : lev ≤ 0 := hle; omega
      rw [tk_cond]; simp
/-- an op of two on such a level -/
theorem chain_bin {k : Nat} (hA : Reads g n k) (hC : Chain g n k) {op : Int} {a b : X} (h4 : 4 ≤ op) (h15 : op ≤ 15) (ha : right a = true) (hb : right b = true) (hk : size (bin op a b) ≤ k + 1) {p : Nat} (h3 : lvl op ≠ 3)
    (hh : Has g p (tk (bin op a b) (lvl op))) (hn : p + (tk (bin op a b) (lvl op)).length ≤ n) (hs : Stop g (p + (tk (bin op a b) (lvl op)).length) (lvl op + 1)) :
    ∀ f, 10 * (n - p) + (8 - lvl op) ≤ f → ∃ f', 10 * (n - (p + (tk (bin op a b) (lvl op)).length)) + 1 ≤ f' ∧ rd g f (lvl op) p = go g f' (lvl op) (bin op a b) (p + (tk (bin op a b) (lvl op)).length) := by
  have hl := lvl_bin h4 h15
  have hleft : left op = lvl op := by unfold left; rw [if_neg h3]
  have hsz : size a + size b + 1 ≤ k + 1 := by
    have h : size (bin op a b) = 1 + (size a + (size b + 0)) := rfl
    omega
  have hb1 := tk_pos (lvl op + 1) hb
  rw [tk_bin a b h4 h15 (Nat.le_refl _), hleft] at hh hn hs ⊢
  rw [List.length_append, List.length_cons] at hn hs ⊢
  obtain ⟨hh1, hh2⟩ := has_app hh
  obtain ⟨hop, hh3⟩ := has_cons hh2
  intro f hf
  obtain ⟨f1, hf1, e1⟩ := hC a (by omega) ha (lvl op) p (by omega) hh1 (by omega) (stop_opT h4 h15 hop (Nat.lt_succ_self _)) f hf
  obtain ⟨f2, rfl⟩ : ∃ j, f1 = j + 1 := ⟨f1 - 1, by omega⟩
  have hB := hA b (by omega) hb (lvl op + 1) (p + (tk a (lvl op)).length + 1) (by omega) hh3 (by omega) (by
    have : p + (tk a (lvl op)).length + 1 + (tk b (lvl op + 1)).length = p + ((tk a (lvl op)).length + ((tk b (lvl op + 1)).length + 1)) := by omega
    rw [this]; exact hs)
  refine ⟨f2, by omega, ?_⟩
  rw [e1, go, hop, (opAt_op h4 h15).1]
  simp only
  rw [hB f2 (by omega)]
  simp only
  rw [if_neg h3]
  congr 1
  omega
theorem size_pos (x : X) : 1 ≤ size x := by
  obtain ⟨_, _, _, _⟩ := x
  rw [size]; omega
theorem rd_neg {f p : Nat} (h : isT (g p) 4 [45] = true) : rd g (f + 1) 6 p = (match rd g f 6 (p + 1) with
      | (none, q) => (none, q)
      | (some a, q) => (some (.mk 3 Vl.no Vl.mt [a]), q)) := by
  rw [rd, if_neg (by decide), if_neg (by simp), if_pos ⟨rfl, h⟩] <;> rfl
theorem rd_if {f p : Nat} (h : isT (g p) 1 [105, 102] = true) : rd g (f + 1) 0 p = (match rd g f 0 (p + 1) with
      | (none, q) => (none, q)
      | (some a, q) => if isT (g q) 1 [116, 104, 101, 110] then
          match rd g f 0 (q + 1) with
          | (none, q) => (none, q)
          | (some b, q) => if isT (g q) 1 [101, 108, 115, 101] then
              match rd g f 0 (q + 1) with
              | (none, q) => (none, q)
              | (some c, q) => (some (.mk 16 Vl.no Vl.mt [a, b, c]), q)
            else (none, q)
        else (none, q)) := by
  rw [rd, if_neg (by decide), if_pos ⟨rfl, h⟩] <;> rfl
/-- read as it is written, at the op's own level or a lower one -/
theorem reads_own {k : Nat} (hA : Reads g n k) (hC : Chain g n k) (x : X) (hk : size x ≤ k + 1) (hr : right x = true) {lev p : Nat} (hlev : lev ≤ lvl x.op) (hh : Has g p (tk x lev)) (hn : p + (tk x lev).length ≤ n) (hs : Stop g (p + (tk x lev).length) lev) : Rds g n x lev p (p + (tk x lev).length) := by
  cases form_of hr with
  | val v h hn2 =>
    rw [tk_val v hlev] at hh hs ⊢
    obtain ⟨hg, _⟩ := has_cons hh
    exact reads_leaf hg (leaf_val h) (valT_first v).1 (valT_first v).2 hlev hs
  | name s h =>
    rw [tk_name s hlev] at hh hs ⊢
    obtain ⟨hg, _⟩ := has_cons hh
    exact reads_leaf hg (leaf_name h) (isT_name s h).1 (isT_name s h).2 hlev hs
  | neg a h =>
    have hsz : size a + 1 ≤ k + 1 := by
      have h : size (.mk 3 Vl.no Vl.mt [a]) = 1 + (size a + 0) := rfl
      omega
    have hl6 : lev ≤ 6 := hlev
    rw [tk_neg a hl6] at hh hs hn ⊢
    rw [List.length_cons] at hs hn ⊢
    obtain ⟨hg, hh2⟩ := has_cons hh
    have e : p + ((tk a 6).length + 1) = p + 1 + (tk a 6).length := by omega
    rw [e] at hs hn ⊢
    refine down hs (by rw [hg]; decide +kernel) (6 - lev) 6 (by omega) (by omega) (fun h => by omega) fun f hf => ?_
    obtain ⟨f, rfl⟩ : ∃ j, f = j + 1 := ⟨f - 1, by omega⟩
    rw [rd_neg (by rw [hg]; decide +kernel), hA a (by omega) h 6 (p + 1) (by omega) hh2 hn (stop_mono hs hl6) f (by omega)]
  | bin op a b h4 h15 ha hb =>
    have hl := lvl_bin h4 h15
    have hlev : lev ≤ lvl op := hlev
    have hsz : size a + size b + 1 ≤ k + 1 := by
      have h : size (bin op a b) = 1 + (size a + (size b + 0)) := rfl
      omega
    have etk : tk (bin op a b) lev = tk (bin op a b) (lvl op) := by rw [tk_bin a b h4 h15 hlev, tk_bin a b h4 h15 (Nat.le_refl _)]
    obtain ⟨t, r, ht, hti⟩ := first_if _ (bin op a b) (Nat.le_refl _) hr (lvl op) hl.1
    have hgp : g p = some t := by
      rw [etk, ht] at hh
      exact (has_cons hh).1
    rw [etk] at hh hn hs ⊢
    refine down hs (by rw [hgp]; exact hti) (lvl op - lev) (lvl op) (by omega) (by omega) (fun h => by omega) ?_
    have hso := stop_mono hs hlev
    by_cases h3 : lvl op = 3
    · have hb1 := tk_pos (lvl op + 1) hb
      have hleft : left op = 4 := by unfold left; rw [if_pos h3]
      rw [tk_bin a b h4 h15 (Nat.le_refl _), hleft, h3] at hh hn hs hso ⊢
      simp only [show 3 + 1 = 4 from rfl] at hh hn hs hso ⊢
      rw [List.length_append, List.length_cons] at hn hs hso ⊢
      have hb1 : 0 < (tk b 4).length := by rw [h3] at hb1; exact hb1
      obtain ⟨hh1, hh2⟩ := has_app hh
      obtain ⟨hop, hh3⟩ := has_cons hh2
      intro f hf
      obtain ⟨f, rfl⟩ : ∃ j, f = j + 1 := ⟨f - 1, by omega⟩
      have ha1 := tk_pos 4 ha
      have hAa := hA a (by omega) ha 4 p (by omega) hh1 (by omega) (stop_opT h4 h15 hop (by omega)) f (by omega)
      obtain ⟨f, rfl⟩ : ∃ j, f = j + 1 := ⟨f - 1, by omega⟩
      have eq : p + (tk a 4).length + 1 + (tk b 4).length = p + ((tk a 4).length + ((tk b 4).length + 1)) := by omega
      have hAb := hA b (by omega) hb 4 (p + (tk a 4).length + 1) (by omega) hh3 (by omega) (by
        rw [eq]; exact stop_mono hso (by omega)) f (by omega)
      have hoo := (opAt_op h4 h15).1
      rw [h3] at hoo
      rw [rd_mid _ (by omega) (by omega), hAa]
      simp only
      rw [go, hop, hoo]
      simp only
      rw [hAb]
      simp only [if_true]
      rw [eq]
    · intro f hf
      obtain ⟨f', hf', e⟩ := chain_bin hA hC h4 h15 ha hb hk h3 hh hn (stop_mono hso (Nat.le_succ _)) f hf
      rw [e]
      exact go_end (by omega) (hso (lvl op) (Nat.le_refl _) hl.2)
  | cond a b c ha hb hc =>
    have hsz : size a + size b + size c + 1 ≤ k + 1 := by
      have h : size (.mk 16 Vl.no Vl.mt [a, b, c]) = 1 + (size a + (size b + (size c + 0))) := rfl
      omega
    obtain rfl : lev = 0 := by have : lev ≤ 0 := hlev; omega
    rw [tk_cond] at hh hn hs ⊢
    obtain ⟨hg, hh1⟩ := has_cons hh
    obtain ⟨hh2, hh3⟩ := has_app hh1
    obtain ⟨hg2, hh4⟩ := has_cons hh3
    obtain ⟨hh5, hh6⟩ := has_app hh4
    obtain ⟨hg3, hh7⟩ := has_cons hh6
    simp only [List.length_cons, List.length_append] at hn hs ⊢
    have hc1 := tk_pos 0 hc
    generalize hla : (tk a 0).length = la at *
    generalize hlb : (tk b 0).length = lb at *
    generalize hlc : (tk c 0).length = lc at *
    have eq : p + (la + (lb + (lc + 1) + 1) + 1) = p + 1 + la + 1 + lb + 1 + lc := by omega
    rw [eq] at hs hn ⊢
    intro f hf
    obtain ⟨f, rfl⟩ : ∃ j, f = j + 1 := ⟨f - 1, by omega⟩
    have hAa := hA a (by omega) ha 0 (p + 1) (by omega) hh2 (by omega) (by rw [hla]; exact stop_tok hg2 no_then 0) f (by omega)
    have hAb := hA b (by omega) hb 0 (p + 1 + la + 1) (by omega) hh5 (by omega) (by rw [hlb]; exact stop_tok hg3 no_else 0) f (by omega)
    have hAc := hA c (by omega) hc 0 (p + 1 + la + 1 + lb + 1) (by omega) hh7 (by omega) (by rw [hlc]; exact hs) f (by omega)
    rw [hla] at hAa
    rw [hlb] at hAb
    rw [hlc] at hAc
    have i1 : isT (some (word [105, 102])) 1 [105, 102] = true := by decide +kernel
    have i2 : isT (some (word [116, 104, 101, 110])) 1 [116, 104, 101, 110] = true := by decide +kernel
    have i3 : isT (some (word [101, 108, 115, 101])) 1 [101, 108, 115, 101] = true := by decide +kernel
    rw [rd_if (by rw [hg]; exact i1), hAa]
    simp only [hg2, i2, if_true]
    rw [hAb]
    simp only [hg3, i3, if_true]
    rw [hAc]
theorem reads_all : ∀ k, Reads g n k ∧ Chain g n k
  | 0 => ⟨fun x hk => by have := size_pos x; omega, fun x hk => by have := size_pos x; omega⟩
  | k + 1 => by
    obtain ⟨hA, hC⟩ := reads_all k
    have hA' : Reads g n (k + 1) := fun x hk hr lev p hlev hh hn hs => by
      by_cases hlt : lvl x.op < lev
      · have hp := tk_pos 0 hr
        rw [tk_paren hlt] at hh hn hs ⊢
        rw [List.length_cons, List.length_append] at hn hs ⊢
        obtain ⟨hg, hh1⟩ := has_cons hh
        obtain ⟨hh2, hh3⟩ := has_app hh1
        obtain ⟨hg2, _⟩ := has_cons hh3
        have e : p + ((tk x 0).length + [mark [41]].length + 1) = p + 1 + (tk x 0).length + 1 := by show p + ((tk x 0).length + 1 + 1) = _; omega
        rw [e] at hn hs ⊢
        exact reads_paren hg (reads_own hA hC x hk hr (Nat.zero_le _) hh2 (by omega) (stop_tok hg2 no_close 0)) hg2 (by omega) (by omega) hlev hs
      · exact reads_own hA hC x hk hr (by omega) hh hn hs
    refine ⟨hA', fun x hk hr lev p hlev hh hn hs f hf => ?_⟩
    by_cases hx : lvl x.op = lev
    · subst hx
      cases form_of hr with
      | val v h hn2 => exact absurd (show (7 : Nat) = 1 ∨ 7 = 2 ∨ 7 = 4 ∨ 7 = 5 from hlev) (by decide)
      | name s h => exact absurd (show (7 : Nat) = 1 ∨ 7 = 2 ∨ 7 = 4 ∨ 7 = 5 from hlev) (by decide)
      | neg a h => exact absurd (show (6 : Nat) = 1 ∨ 6 = 2 ∨ 6 = 4 ∨ 6 = 5 from hlev) (by decide)
      | bin op a b h4 h15 ha hb =>
        have hlev : lvl op = 1 ∨ lvl op = 2 ∨ lvl op = 4 ∨ lvl op = 5 := hlev
        exact chain_bin hA hC h4 h15 ha hb hk (by omega) hh hn hs f hf
      | cond a b c ha hb hc => exact absurd (show (0 : Nat) = 1 ∨ 0 = 2 ∨ 0 = 4 ∨ 0 = 5 from hlev) (by decide)
    · have etk : tk x lev = tk x (lev + 1) := by
        by_cases hlt : lvl x.op < lev
        · exact (tk_paren hlt).trans (tk_paren (show lvl x.op < lev + 1 by omega)).symm
        · rw [tk_open (show lev ≤ lvl x.op by omega), tk_open (show lev + 1 ≤ lvl x.op by omega)]
      have hp := tk_pos (lev + 1) hr
      rw [etk] at hh hn hs ⊢
      have h := hA' x hk hr (lev + 1) p (by omega) hh hn hs
      obtain ⟨f, rfl⟩ : ∃ j, f = j + 1 := ⟨f - 1, by omega⟩
      refine ⟨f, by omega, ?_⟩
      rw [rd_mid f (by omega) (by omega), h f (by omega)]
end
end Go.Proofs.YtmkllibfblacfaaDoor.Sx

/-
  Layer 14, plain mathematics: what an expression is written as has the tokens that it is made of.
-/
namespace Go.Proofs.YtmkllibfblacfaaDoor
theorem Sx.mark_appB (m : List UInt8) (hm : m ∈ Lx.marks) (q : List UInt8) : Lx.marks.find? (fun x => x.isPrefixOf (m ++ 41 :: q)) = some m := by
  simp only [Lx.marks, List.mem_cons, List.not_mem_nil, or_false] at hm
  rcases hm with rfl | rfl | rfl | rfl | rfl | rfl | rfl | rfl | rfl | rfl | rfl | rfl | rfl | rfl | rfl | rfl <;> simp [Lx.marks, List.find?, List.isPrefixOf]
namespace Lx
open Vl (val esc quoteL plain)
set_option maxRecDepth 4000 in
/-- a right token's text, and a bracket that closes behind it -/
theorem one_close {t : T} (h : right t) (hn : t.n ≤ maxI) (q0 : List UInt8) : one (textL t ++ 41 :: q0) = (strip t, (textL t).length, 0) := by
  obtain ⟨c, q, hc, h32⟩ := text_first h
  obtain ⟨k, s, n, a⟩ := t
  have hh := h
  rcases h with ⟨hk, hn0, hs, hw, h16⟩ | ⟨hk, hn0, hs⟩ | ⟨hk, hn0, hs⟩ | ⟨hk, hm, hn0⟩
  · simp only at hk hs hw hn0 h16
    subst hk hn0
    have hT : textL ⟨1, s, 0, a⟩ = s.data.toList := rfl
    rw [hT] at hc ⊢
    have hlen : s.data.toList.length = s.size := by rw [Array.length_toList]; rfl
    have hwa := word_app false s.data.toList (41 :: q0) (by rw [hw, hlen]) (.inr ⟨41, q0, rfl, by decide, by decide⟩)
    have hcl : letter c = true := by
      have h1 := hw
      rw [hc] at h1
      unfold word at h1
      by_cases hl : (letter c || (false && digit c)) = true
      · simpa using hl
      · rw [if_neg hl] at h1
        exfalso
        exact hs (by apply Sl.ba_ext; exact List.eq_nil_of_length_eq_zero (by rw [hlen]; exact h1.symm))
    rw [hc, List.cons_append]
    rw [one_cons, if_pos hcl, ← List.cons_append, ← hc]
    unfold nameT
    rw [hwa, hlen, if_neg (by omega)]
    refine Prod.ext ?_ rfl
    exact t_ext rfl (by show mk _ = s; rw [← hlen, List.take_left, list_mk]) rfl rfl
  · simp only at hk hn0 hs hn
    subst hk hs
    obtain ⟨u, rfl⟩ : ∃ u : Nat, n = (u : Int) := ⟨n.toNat, by omega⟩
    have hT : textL ⟨2, Vl.mt, (u : Int), a⟩ = Lib.decDigits u := itoa_nat u
    rw [hT] at hc ⊢
    have hds : digs (Lib.decDigits u ++ 41 :: q0) = Lib.decDigits u := takeWhile_app _ _ (dec_digits u) (.inr ⟨41, q0, rfl, by decide⟩)
    have hcd : digit c = true := dec_digits u c (by rw [hc]; simp)
    rw [hc, List.cons_append]
    rw [one_cons, if_neg (by rw [letter_digit hcd]; simp), if_pos hcd, ← List.cons_append, ← hc]
    unfold numT
    rw [hds, Vl.val_dec, if_neg, if_neg (by omega)]
    · refine Prod.ext ?_ rfl
      exact t_ext rfl rfl rfl rfl
    · rintro ⟨h1, h2⟩
      have h3 := dec_head u (dec_len u h1)
      rw [hc] at h3 h2
      simp only [List.cons_append, List.head?_cons] at h2 h3
      exact h3 h2
  · simp only at hk hn0 hs
    subst hk hn0
    have hT : textL ⟨3, s, 0, a⟩ = 34 :: (esc s.data.toList ++ [34]) := rfl
    rw [hT]
    have hx : (34 :: (esc s.data.toList ++ [34])) ++ 41 :: q0 = 34 :: (esc s.data.toList ++ 34 :: 41 :: q0) := by simp
    rw [hx]
    rw [one_cons, if_neg (by rw [letter_34]; simp), if_neg (by rw [digit_34]; simp), if_pos rfl]
    unfold txtT
    rw [List.tail_cons, txt_esc _ _ _ hs.2]
    simp only [List.nil_append]
    have hlen : s.data.toList.length = s.size := by rw [Array.length_toList]; rfl
    rw [if_neg (by rw [hlen]; have := hs.1; omega)]
    refine Prod.ext (t_ext rfl (list_mk s) rfl rfl) (Prod.ext ?_ rfl)
    simp; omega
  · simp only at hk hn0 hm
    subst hk hn0
    have hT : textL ⟨4, s, 0, a⟩ = s.data.toList := rfl
    rw [hT] at hc ⊢
    obtain ⟨c', q', hc', h1, h2, h3, _⟩ := mark_first _ hm
    rw [hc] at hc'
    injection hc' with e1 e2
    subst e1 e2
    rw [hc, List.cons_append]
    rw [one_cons, if_neg (by rw [h1]; simp), if_neg (by rw [h2]; simp), if_neg h3, ← List.cons_append, ← hc]
    unfold markT
    rw [Sx.mark_appB _ hm q0]
    refine Prod.ext (t_ext rfl (list_mk s) rfl rfl) rfl
/-- the two marks that nothing makes longer -/
theorem one_open (r : List UInt8) : one (40 :: r) = (⟨4, mk [40], 0, 0⟩, 1, 0) := by
  rw [one_cons, if_neg (by decide), if_neg (by decide), if_neg (by decide)]
  unfold markT
  have : marks.find? (fun m => m.isPrefixOf (40 :: r)) = some [40] := by simp [marks, List.find?, List.isPrefixOf]
  rw [this]; rfl
theorem one_minus (r : List UInt8) : one (45 :: r) = (⟨4, mk [45], 0, 0⟩, 1, 0) := by
  rw [one_cons, if_neg (by decide), if_neg (by decide), if_neg (by decide)]
  unfold markT
  have : marks.find? (fun m => m.isPrefixOf (45 :: r)) = some [45] := by simp [marks, List.find?, List.isPrefixOf]
  rw [this]; rfl
end Lx
namespace Sx
open Lx (T textL strip one)
/-- nothing, a blank or a bracket that closes -/
def EndsB (r : List UInt8) : Prop := r = [] ∨ ∃ c q, r = c :: q ∧ (c = 32 ∨ c = 41)
theorem endsB_gap (l : List P) : EndsB (flat (.gap :: l)) := .inr ⟨32, flat l, rfl, .inl rfl⟩
theorem endsB_close (l : List P) : EndsB (flat (.tok (mark [41]) :: l)) := .inr ⟨41, flat l, rfl, .inr rfl⟩
/-- each token's text ends where it does -/
def Fine : List P → Prop
  | [] => True
  | .gap :: r => Fine r
  | .tok t :: r => Lx.right t ∧ t.n ≤ Lx.maxI ∧ t.spot = 0 ∧ (t = mark [40] ∨ t = mark [45] ∨ EndsB (flat r)) ∧ Fine r
theorem one_fine {t : T} {r : List P} (h : Fine (.tok t :: r)) : one (flat (.tok t :: r)) = (t, (textL t).length, 0) := by
  obtain ⟨hr, hn, hs, hc, _⟩ := h
  have hst : strip t = t := Lx.t_ext rfl rfl rfl hs.symm
  show one (textL t ++ flat r) = _
  rcases hc with rfl | rfl | h | ⟨c, q, hq, rfl | rfl⟩
  · exact Lx.one_open _
  · exact Lx.one_minus _
  · rw [h, Lx.one_text hr hn [] (.inl rfl), hst]
  · rw [hq, Lx.one_text hr hn _ (.inr ⟨q, rfl⟩), hst]
  · rw [hq, Lx.one_close hr hn q, hst]
theorem lex_flat : ∀ (l : List P) (a : Nat), Fine l → ∃ m, Lx.lexAt a (flat l) = (m, 0, 0) ∧ m.map strip = toks l
  | [], a, _ => ⟨[], rfl, rfl⟩
  | .gap :: r, a, h => by
    obtain ⟨m, h1, h2⟩ := lex_flat r (a + 1) h
    exact ⟨m, by show Lx.lexAt a (32 :: flat r) = _; rw [Lx.lexAt_blank, h1], h2⟩
  | .tok t :: r, a, h => by
    have ho := one_fine h
    obtain ⟨hr, hn, hs, hc, hf⟩ := h
    obtain ⟨c, q, hcq, h32⟩ := Lx.text_first hr
    have hfl : flat (.tok t :: r) = c :: (q ++ flat r) := by show textL t ++ flat r = _; rw [hcq]; rfl
    rw [hfl] at ho
    obtain ⟨m, h1, h2⟩ := lex_flat r (a + (textL t).length) hf
    have hd : (c :: (q ++ flat r)).drop (textL t).length = flat r := by
      rw [← hfl]
      show (textL t ++ flat r).drop (textL t).length = _
      rw [List.drop_left]
    refine ⟨Lx.put t a :: m, ?_, ?_⟩
    · rw [hfl, Lx.lexAt_more h32 (by rw [ho]), ho]
      simp only
      rw [hd, h1, if_neg (by simp)]
    · rw [List.map_cons, h2]
      show strip (Lx.put t a) :: toks r = t :: toks r
      congr 1
      exact Lx.t_ext rfl rfl rfl hs.symm
/-! what is written is fine -/
mutual
/-- no number in it is beyond the greatest -/
def fit : X → Bool
  | .mk _ v _ l => decide (v.n ≤ 9223372036854775807) && fitL l
def fitL : List X → Bool
  | [] => true
  | x :: r => fit x && fitL r
end
theorem valT_right {v : Vl.V} (h : Vl.right v) (hn : v.kind ≠ 1 ∨ 0 ≤ v.n) (hm : v.n ≤ 9223372036854775807) : Lx.right (valT v) ∧ (valT v).n ≤ Lx.maxI ∧ (valT v).spot = 0 := by
  obtain ⟨k, m, s⟩ := v
  rcases h with ⟨h1, h2, h3⟩ | ⟨h1, h3⟩ | ⟨h1, h2, h3⟩ | ⟨h1, h2, h3⟩
  · simp only at h1 h2 h3; subst h1 h2 h3; exact ⟨by decide +kernel, by decide, rfl⟩
  · simp only at h1 h3 hn; subst h1 h3
    exact ⟨.inr (.inl ⟨rfl, hn.elim (fun h => absurd rfl h) id, rfl⟩), hm, rfl⟩
  · simp only at h1 h2 h3; subst h1 h2
    exact ⟨.inr (.inr (.inl ⟨rfl, rfl, h3⟩)), by show (0 : Int) ≤ _; decide, rfl⟩
  · simp only at h1 h2 h3; subst h1 h3
    rcases h2 with rfl | rfl
    · exact ⟨by decide +kernel, by decide, rfl⟩
    · exact ⟨by decide +kernel, by decide, rfl⟩
theorem nameT_right {s : ByteArray} (h : Lx.nameB s = true) : Lx.right ⟨1, s, 0, 0⟩ := by
  unfold Lx.nameB at h
  simp only [Bool.and_eq_true, Bool.not_eq_true', decide_eq_false_iff_not, decide_eq_true_eq] at h
  exact .inl ⟨rfl, rfl, h.1.1.1, h.1.1.2, h.1.2⟩
theorem opT_right {op : Int} (h4 : 4 ≤ op) (h15 : op ≤ 15) : Lx.right (opT op) ∧ (opT op).n ≤ Lx.maxI ∧ (opT op).spot = 0 := by
  rcases op_facts h4 h15 with rfl | rfl | rfl | rfl | rfl | rfl | rfl | rfl | rfl | rfl | rfl | rfl <;> exact ⟨by decide +kernel, by decide +kernel, rfl⟩
theorem word_fine (l : List UInt8) (r : List P) (h : Lx.right (word l)) (hr : Fine r) (he : EndsB (flat r)) : Fine (.tok (word l) :: r) := ⟨h, by show (0 : Int) ≤ _; decide, rfl, .inr (.inr he), hr⟩
theorem wr_paren {x : X} {lev : Nat} (h : lvl x.op < lev) : wr x lev = .tok (mark [40]) :: (wr x 0 ++ [.tok (mark [41])]) := by
  unfold wr parP
  rw [if_pos (show (lvl x.op, ps x).1 < lev from h), if_neg (Nat.not_lt_zero _)]
theorem wr_open {x : X} {lev : Nat} (h : lev ≤ lvl x.op) : wr x lev = ps x := by
  unfold wr parP
  rw [if_neg (show ¬ (lvl x.op, ps x).1 < lev from by show ¬ lvl x.op < lev; omega)]
theorem ps_neg (a : X) : ps (.mk 3 Vl.no Vl.mt [a]) = .tok (mark [45]) :: wr a 6 := rfl
theorem ps_bin {op : Int} (a b : X) (h4 : 4 ≤ op) (h15 : op ≤ 15) : ps (bin op a b) = wr a (left op) ++ ([.gap, .tok (opT op), .gap] ++ wr b (lvl op + 1)) := by
  show asm op Vl.no Vl.mt (psL [a, b]) = _
  unfold asm
  rw [if_neg (by omega), if_neg (by omega), if_neg (by omega), if_neg (by omega)]
  rfl
theorem ps_cond (a b c : X) : ps (.mk 16 Vl.no Vl.mt [a, b, c]) = [.tok (word [105, 102]), .gap] ++ (wr a 0 ++ ([.gap, .tok (word [116, 104, 101, 110]), .gap] ++ (wr b 0 ++ ([.gap, .tok (word [101, 108, 115, 101]), .gap] ++ wr c 0)))) := rfl
theorem fine_wr : ∀ (k : Nat) (x : X), size x ≤ k → right x = true → fit x = true → ∀ (lev : Nat) (r : List P), Fine r → EndsB (flat r) → Fine (wr x lev ++ r) := by
  intro k
  induction k with
  | zero => intro x hk; have := size_pos x; omega
  | succ k ih =>
    have own : ∀ x : X, size x ≤ k + 1 → right x = true → fit x = true → ∀ (r : List P), Fine r → EndsB (flat r) → Fine (ps x ++ r) := by
      intro x hk hr hf r hF hE
      cases form_of hr with
      | val v h hn =>
        have hm : v.n ≤ 9223372036854775807 := by
          simp only [fit, Bool.and_eq_true, decide_eq_true_eq] at hf; exact hf.1
        obtain ⟨h1, h2, h3⟩ := valT_right h hn hm
        exact ⟨h1, h2, h3, .inr (.inr hE), hF⟩
      | name s h => exact ⟨nameT_right h, by show (0 : Int) ≤ _; decide, rfl, .inr (.inr hE), hF⟩
      | neg a h =>
        have hsz : size (.mk 3 Vl.no Vl.mt [a]) = 1 + (size a + 0) := rfl
        have hfa : fit a = true := by simp only [fit, fitL, Bool.and_eq_true] at hf; exact hf.2.1
        rw [ps_neg]
        exact ⟨by decide +kernel, by decide, rfl, .inr (.inl rfl), ih a (by omega) h hfa 6 r hF hE⟩
      | bin op a b h4 h15 ha hb =>
        have hsz : size (bin op a b) = 1 + (size a + (size b + 0)) := rfl
        have hfa : fit a = true ∧ fit b = true := by simp only [fit, fitL, Bool.and_eq_true] at hf; exact ⟨hf.2.1, hf.2.2.1⟩
        obtain ⟨h1, h2, h3⟩ := opT_right h4 h15
        rw [ps_bin a b h4 h15, List.append_assoc, List.append_assoc]
        refine ih a (by omega) ha hfa.1 _ _ ?_ (endsB_gap _)
        exact ⟨h1, h2, h3, .inr (.inr (endsB_gap _)), ih b (by omega) hb hfa.2 _ r hF hE⟩
      | cond a b c ha hb hc =>
        have hsz : size (.mk 16 Vl.no Vl.mt [a, b, c]) = 1 + (size a + (size b + (size c + 0))) := rfl
        have hfa : fit a = true ∧ fit b = true ∧ fit c = true := by simp only [fit, fitL, Bool.and_eq_true] at hf; exact ⟨hf.2.1, hf.2.2.1, hf.2.2.2.1⟩
        rw [ps_cond, List.append_assoc, List.append_assoc, List.append_assoc, List.append_assoc, List.append_assoc]
        refine word_fine _ _ (by decide +kernel) ?_ (endsB_gap _)
        refine ih a (by omega) ha hfa.1 0 _ ?_ (endsB_gap _)
        refine word_fine _ _ (by decide +kernel) ?_ (endsB_gap _)
        refine ih b (by omega) hb hfa.2.1 0 _ ?_ (endsB_gap _)
        refine word_fine _ _ (by decide +kernel) ?_ (endsB_gap _)
        exact ih c (by omega) hc hfa.2.2 0 r hF hE
    intro x hk hr hf lev r hF hE
    by_cases hlt : lvl x.op < lev
    · rw [wr_paren hlt, wr_open (Nat.zero_le _)]
      show Fine (.tok (mark [40]) :: (ps x ++ [.tok (mark [41])] ++ r))
      rw [List.append_assoc]
      refine ⟨by decide +kernel, by decide, rfl, .inl rfl, own x hk hr hf _ ?_ (endsB_close r)⟩
      exact ⟨by decide +kernel, by decide, rfl, .inr (.inr hE), hF⟩
    · rw [wr_open (by omega)]
      exact own x hk hr hf r hF hE
/-- the tokens of an expression's text -/
theorem lex_wr {x : X} (hr : right x = true) (hf : fit x = true) : ∃ m, Lx.lexAt 0 (flat (wr x 0)) = (m, 0, 0) ∧ m.map strip = tk x 0 := by
  have h := fine_wr _ x (Nat.le_refl _) hr hf 0 [] trivial (.inl rfl)
  rw [List.append_nil] at h
  exact lex_flat _ 0 h
end Sx
end Go.Proofs.YtmkllibfblacfaaDoor

/-
  Layer 14, plain mathematics: what is parsed is right; what was written is parsed as it was; places.
-/
namespace Go.Proofs.YtmkllibfblacfaaDoor
namespace Sx
open Lx (T textL strip one)
/-! what is read is right -/
theorem leaf_right {t : T} (h : Lx.right t) (hm : t.n ≤ Lx.maxI) {x : X} (hl : leaf t = some x) : right x = true ∧ fit x = true := by
  unfold leaf at hl
  rcases h with ⟨hk, hn, hs, hw, h16⟩ | ⟨hk, hn, hs⟩ | ⟨hk, hn, hs⟩ | ⟨hk, hmm, hn⟩
  · rw [if_neg (by omega), if_neg (by omega), if_pos hk] at hl
    split at hl
    · cases hl; exact ⟨by decide +kernel, by decide +kernel⟩
    · split at hl
      · cases hl; exact ⟨by decide +kernel, by decide +kernel⟩
      · split at hl
        · cases hl; exact ⟨by decide +kernel, by decide +kernel⟩
        · split at hl
          · rename_i hb
            cases hl
            refine ⟨?_, ?_⟩
            · simp [right, count, hb]
            · simp [fit, fitL, Vl.no]
          · cases hl
  · rw [if_pos hk] at hl
    cases hl
    refine ⟨?_, ?_⟩
    · have hr : Vl.right ⟨1, t.n, Vl.mt⟩ := .inr (.inl ⟨rfl, rfl⟩)
      simp [right, count, hr, hn]
    · have : t.n ≤ 9223372036854775807 := hm
      simp [fit, fitL, this]
  · rw [if_neg (by omega), if_pos hk] at hl
    cases hl
    refine ⟨?_, ?_⟩
    · have hr : Vl.right ⟨2, 0, t.s⟩ := .inr (.inr (.inl ⟨rfl, rfl, hs⟩))
      simp [right, count, hr]
    · simp [fit, fitL]
  · rw [if_neg (by omega), if_neg (by omega), if_neg (by omega)] at hl
    cases hl
theorem right_bin {op : Int} {a b : X} (h4 : 4 ≤ op) (h15 : op ≤ 15) (ha : right a = true) (hb : right b = true) : right (bin op a b) = true := by
  show right (.mk op Vl.no Vl.mt [a, b]) = true
  have hc : count op = 2 := by unfold count; rw [if_neg (by omega), if_neg (by omega), if_neg (by omega), if_pos ⟨h4, h15⟩]
  rw [right, hc, if_neg (by omega), if_neg (by omega), rightL, rightL, rightL, ha, hb]
  simp
theorem right_neg {a : X} (ha : right a = true) : right (.mk 3 Vl.no Vl.mt [a]) = true := by
  rw [right, if_neg (by decide), if_neg (by decide), rightL, rightL, ha]
  simp [count]
theorem right_cond {a b c : X} (ha : right a = true) (hb : right b = true) (hc : right c = true) : right (.mk 16 Vl.no Vl.mt [a, b, c]) = true := by
  rw [right, if_neg (by decide), if_neg (by decide), rightL, rightL, rightL, rightL, ha, hb, hc]
  simp [count]
theorem no_n : (Vl.no).n ≤ 9223372036854775807 := by decide
theorem fit_bin {op : Int} {a b : X} (ha : fit a = true) (hb : fit b = true) : fit (bin op a b) = true := by
  show fit (.mk op Vl.no Vl.mt [a, b]) = true
  rw [fit, fitL, fitL, fitL, ha, hb, decide_eq_true no_n]; rfl
theorem opAt_range {t : Option T} {lev : Nat} {op : Int} (h : opAt t lev = some op) : 4 ≤ op ∧ op ≤ 15 ∧ t.isSome = true ∧ lvl op = lev := by
  have hm := List.mem_of_find?_eq_some h
  have hp := List.find?_some h
  have h2 : t.isSome = true ∧ lvl op = lev := by
    unfold isOp at hp
    rw [Bool.and_eq_true, decide_eq_true_eq] at hp
    refine ⟨?_, hp.1⟩
    cases t with
    | none => exact absurd hp.2 (by simp [isT])
    | some t => rfl
  simp only [ops, List.mem_cons, List.not_mem_nil, or_false] at hm
  exact ⟨by omega, by omega, h2⟩
theorem isT_some {t : Option T} {k : Int} {s : List UInt8} (h : isT t k s = true) : t.isSome = true := by
  cases t with
  | none => simp [isT] at h
  | some t => rfl
section
variable {g : Nat → Option T} {n : Nat}
/-- what is known of a reading: a right expression behind where it began, or a place within -/
def Out (n p : Nat) (r : Option X × Nat) : Prop := p ≤ r.2 ∧ r.2 ≤ n ∧ ∀ x, r.1 = some x → right x = true ∧ fit x = true ∧ p < r.2
theorem out_none {p q : Nat} (h1 : p ≤ q) (h2 : q ≤ n) : Out n p (none, q) := ⟨h1, h2, fun _ h => by cases h⟩
theorem out_some {p q : Nat} {x : X} (h1 : p < q) (h2 : q ≤ n) (hr : right x = true) (hf : fit x = true) : Out n p (some x, q) := ⟨Nat.le_of_lt h1, h2, fun y h => by cases h; exact ⟨hr, hf, h1⟩⟩
theorem out_mono {p p' : Nat} {r : Option X × Nat} (h : Out n p' r) (hp : p ≤ p') : Out n p r := ⟨Nat.le_trans hp h.1, h.2.1, fun x hx => by
  obtain ⟨h1, h2, h3⟩ := h.2.2 x hx
  exact ⟨h1, h2, by omega⟩⟩
theorem out_then {p p' : Nat} {r : Option X × Nat} (h : Out n p' r) (hp : p ≤ p') {K : X → Nat → Option X × Nat} (hK : ∀ x q, right x = true → fit x = true → p' < q → q ≤ n → Out n p (K x q)) :
    Out n p (match (generalizing := false) r with
      | (none, q) => (none, q)
      | (some x, q) => K x q) := by
  obtain ⟨o, q⟩ := r
  cases o with
  | none => exact out_mono h hp
  | some x =>
    obtain ⟨h1, h2, h3⟩ := h.2.2 x rfl
    exact hK x q h1 h2 h3 h.2.1
theorem rd_out (hg : ∀ p t, g p = some t → p < n ∧ Lx.right t ∧ t.n ≤ Lx.maxI) : ∀ f, (∀ lev p, p ≤ n → Out n p (rd g f lev p)) ∧ (∀ lev x p, 0 < p → p ≤ n → right x = true → fit x = true → Out n (p - 1) (go g f lev x p))
  | 0 => ⟨fun lev p hp => out_none (Nat.le_refl _) hp, fun lev x p h0 hp hr hf => out_none (Nat.sub_le _ _) hp⟩
  | f + 1 => by
    obtain ⟨ihr, ihg⟩ := rd_out hg f
    have lt_of : ∀ p, (g p).isSome = true → p < n := fun p h => by
      cases hh : g p with
      | none => rw [hh] at h; cases h
      | some t => exact (hg p t hh).1
    refine ⟨fun lev p hp => ?_, fun lev x p h0 hp hr hf => ?_⟩
    · rw [rd]
      split
      · split
        · exact out_none (Nat.le_refl _) hp
        · rename_i t ht
          obtain ⟨h1, h2, h3⟩ := hg p t ht
          split
          · rename_i x hx
            obtain ⟨h4, h5⟩ := leaf_right h2 h3 hx
            exact out_some (Nat.lt_succ_self _) h1 h4 h5
          · split
            · refine out_then (ihr 0 (p + 1) h1) (Nat.le_succ _) fun x q hx hfx hq hqn => ?_
              split
              · rename_i hc
                exact out_some (by omega) (lt_of q (isT_some hc)) hx hfx
              · exact out_none (by omega) hqn
            · exact out_none (Nat.le_refl _) hp
      · split
        · rename_i hi
          have h1 := lt_of p (isT_some hi.2)
          refine out_then (ihr 0 (p + 1) h1) (Nat.le_succ _) fun a q ha hfa hq hqn => ?_
          split
          · rename_i hc
            refine out_then (ihr 0 (q + 1) (lt_of q (isT_some hc))) (by omega) fun b q2 hb hfb hq2 hq2n => ?_
            split
            · rename_i hc2
              refine out_then (ihr 0 (q2 + 1) (lt_of q2 (isT_some hc2))) (by omega) fun c q3 hcc hfc hq3 hq3n => ?_
              refine out_some (by omega) hq3n (right_cond ha hb hcc) ?_
              rw [fit, fitL, fitL, fitL, fitL, hfa, hfb, hfc, decide_eq_true no_n]; rfl
            · exact out_none (by omega) hq2n
          · exact out_none (by omega) hqn
        · split
          · rename_i hi
            have h1 := lt_of p (isT_some hi.2)
            refine out_then (ihr 6 (p + 1) h1) (Nat.le_succ _) fun a q ha hfa hq hqn => ?_
            refine out_some (by omega) hqn (right_neg ha) ?_
            rw [fit, fitL, fitL, hfa, decide_eq_true no_n]; rfl
          · split
            · exact ihr (lev + 1) p hp
            · refine out_then (ihr (lev + 1) p hp) (Nat.le_refl _) fun x q hx hfx hq hqn => ?_
              have h2 := ihg lev x q (by omega) hqn hx hfx
              refine ⟨by have := h2.1; omega, h2.2.1, fun y hy => ?_⟩
              obtain ⟨h3, h4, h5⟩ := h2.2.2 y hy
              exact ⟨h3, h4, by omega⟩
    · rw [go]
      split
      · exact out_some (by omega) hp hr hf
      · rename_i op hop
        obtain ⟨h4, h15, hs, hl⟩ := opAt_range hop
        have h1 := lt_of p hs
        refine out_then (ihr (lev + 1) (p + 1) h1) (by omega) fun y q hy hfy hq hqn => ?_
        have hb := right_bin h4 h15 hr hy
        have hfb : fit (bin op x y) = true := fit_bin hf hfy
        split
        · exact out_some (by omega) hqn hb hfb
        · exact out_mono (ihg lev (bin op x y) q (by omega) hqn hb hfb) (by omega)
end
end Sx
end Go.Proofs.YtmkllibfblacfaaDoor

/-
  Layer 14, plain mathematics: parsing and writing as wholes; fuel is of no matter.
-/
namespace Go.Proofs.YtmkllibfblacfaaDoor
namespace Sx
open Lx (T textL strip one)
section
variable {g : Nat → Option T} {n : Nat}
/-- the fuel is of no matter, if there is enough -/
theorem rd_fuel (hg : ∀ p t, g p = some t → p < n ∧ Lx.right t ∧ t.n ≤ Lx.maxI) : ∀ f f', (∀ lev p, lev ≤ 7 → p ≤ n → 10 * (n - p) + (8 - lev) ≤ f → 10 * (n - p) + (8 - lev) ≤ f' → rd g f lev p = rd g f' lev p) ∧ (∀ lev x p, 1 ≤ lev → lev ≤ 5 → p ≤ n → 10 * (n - p) + 1 ≤ f → 10 * (n - p) + 1 ≤ f' → go g f lev x p = go g f' lev x p)
  | 0, _ => ⟨fun lev p h7 _ h => by omega, fun lev x p _ _ _ h => by omega⟩
  | f + 1, 0 => ⟨fun lev p h7 _ _ h => by omega, fun lev x p _ _ _ _ h => by omega⟩
  | f + 1, f' + 1 => by
    obtain ⟨ihr, ihg⟩ := rd_fuel hg f f'
    have hout := fun f => (rd_out hg f).1
    have lt_of : ∀ p, (g p).isSome = true → p < n := fun p h => by
      cases hh : g p with
      | none => rw [hh] at h; cases h
      | some t => exact (hg p t hh).1
    refine ⟨fun lev p h7 hp h1 h2 => ?_, fun lev x p hl1 hl5 hp h1 h2 => ?_⟩
    · rw [rd, rd]
      split
      · split
        · rfl
        · rename_i t ht
          have hlt := (hg p t ht).1
          split
          · rfl
          · rw [ihr 0 (p + 1) (by omega) hlt (by omega) (by omega)]
      · split
        · rename_i hi
          have hlt := lt_of p (isT_some hi.2)
          rw [ihr 0 (p + 1) (by omega) hlt (by omega) (by omega)]
          have ho := hout f' 0 (p + 1) hlt
          generalize rd g f' 0 (p + 1) = r at *
          obtain ⟨o, q⟩ := r
          cases o with
          | none => rfl
          | some a =>
            have hq := (ho.2.2 a rfl).2.2
            have hqn := ho.2.1
            simp only at hq hqn ⊢
            split
            · rename_i hc
              have hlt2 := lt_of q (isT_some hc)
              rw [ihr 0 (q + 1) (by omega) hlt2 (by omega) (by omega)]
              have ho2 := hout f' 0 (q + 1) hlt2
              generalize rd g f' 0 (q + 1) = r2 at *
              obtain ⟨o2, q2⟩ := r2
              cases o2 with
              | none => rfl
              | some b =>
                have hq2 := (ho2.2.2 b rfl).2.2
                have hqn2 := ho2.2.1
                simp only at hq2 hqn2 ⊢
                split
                · rename_i hc2
                  have hlt3 := lt_of q2 (isT_some hc2)
                  rw [ihr 0 (q2 + 1) (by omega) hlt3 (by omega) (by omega)]
                · rfl
            · rfl
        · split
          · rename_i hi
            have hlt := lt_of p (isT_some hi.2)
            rw [ihr 6 (p + 1) (by omega) hlt (by omega) (by omega)]
          · split
            · rename_i h06
              exact ihr (lev + 1) p (by omega) hp (by omega) (by omega)
            · rename_i hn7 _ _ h06
              rw [ihr (lev + 1) p (by omega) hp (by omega) (by omega)]
              have ho := hout f' (lev + 1) p hp
              generalize rd g f' (lev + 1) p = r at *
              obtain ⟨o, q⟩ := r
              cases o with
              | none => rfl
              | some x =>
                have hq := (ho.2.2 x rfl).2.2
                have hqn := ho.2.1
                simp only at hq hqn ⊢
                exact ihg lev x q (by omega) (by omega) hqn (by omega) (by omega)
    · rw [go, go]
      split
      · rfl
      · rename_i op hop
        obtain ⟨h4, h15, hs, hl⟩ := opAt_range hop
        have hlt := lt_of p hs
        rw [ihr (lev + 1) (p + 1) (by omega) hlt (by omega) (by omega)]
        have ho := hout f' (lev + 1) (p + 1) hlt
        generalize rd g f' (lev + 1) (p + 1) = r at *
        obtain ⟨o, q⟩ := r
        cases o with
        | none => rfl
        | some y =>
          have hq := (ho.2.2 y rfl).2.2
          have hqn := ho.2.1
          simp only at hq hqn ⊢
          split
          · rfl
          · exact ihg lev _ q hl1 hl5 hqn (by omega) (by omega)
end
/-! parsing -/
/-- a list of tokens, each where it stands, and without its place in the text -/
def toksOf (L : List T) : Nat → Option T := fun p => (L[p]?).map strip
def readE (L : List T) (lev p : Nat) : Option X × Nat := rd (toksOf L) (10 * L.length + 8) lev p
theorem toksOf_right {L : List T} (h : ∀ t ∈ L, Lx.right t ∧ t.n ≤ Lx.maxI) : ∀ p t, toksOf L p = some t → p < L.length ∧ Lx.right t ∧ t.n ≤ Lx.maxI := by
  intro p t ht
  unfold toksOf at ht
  by_cases hp : p < L.length
  · rw [List.getElem?_eq_getElem hp, Option.map_some] at ht
    cases ht
    exact ⟨hp, h L[p] (List.getElem_mem hp)⟩
  · rw [List.getElem?_eq_none (by omega)] at ht; cases ht
theorem toksOf_has {L M : List T} (h : L.map strip = M) : Has (toksOf L) 0 M := by
  subst h
  intro i hi
  have hi2 : i < L.length := by rwa [List.length_map] at hi
  unfold toksOf
  rw [Nat.zero_add, List.getElem?_eq_getElem hi2, List.getElem_map]; rfl
/-- the answer of Parse, of a text of n bytes with these tokens -/
def parseT (n : Nat) (t : List T × Int × Int) : X × Int × Int :=
  if t.2.2 ≠ 0 then (no, t.2.1, t.2.2)
  else if h : (readE t.1 0 0).2 < t.1.length then (no, (t.1[(readE t.1 0 0).2]).spot, 11)
  else match (readE t.1 0 0).1 with
    | none => (no, (n : Int), 11)
    | some x => if 12 < deep x then (no, 0, 12) else (x, 0, 0)
theorem parse_back {x : X} (hr : right x = true) (hd : deep x ≤ 12) {m : List T} (hm : m.map strip = tk x 0) (n : Nat) : parseT n (m, 0, 0) = (x, 0, 0) := by
  have hl : m.length = (tk x 0).length := by rw [← hm, List.length_map]
  have hstop : Stop (toksOf m) (0 + (tk x 0).length) 0 := fun k _ _ => by
    unfold toksOf
    rw [List.getElem?_eq_none (by omega)]
    have h0 : ∀ lev, ops.find? (isOp none lev) = none := fun lev => by
      rw [List.find?_eq_none]
      intro op _
      simp [isOp, isT]
    exact h0 k
  have hrd := (reads_all (g := toksOf m) (n := m.length) (size x)).1 x (Nat.le_refl _) hr 0 0 (by omega) (toksOf_has hm) (by omega) hstop (10 * m.length + 8) (by omega)
  have e : readE m 0 0 = (some x, 0 + (tk x 0).length) := hrd
  unfold parseT
  rw [if_neg (by simp)]
  simp only
  rw [e]
  simp only
  rw [dif_neg (by omega), if_neg (by omega)]
/-- what Parse tells as right is so -/
theorem parse_ok {n : Nat} {t : List T × Int × Int} (ht : ∀ u ∈ t.1, Lx.right u ∧ u.n ≤ Lx.maxI) (h : (parseT n t).2.2 = 0) : right (parseT n t).1 = true ∧ fit (parseT n t).1 = true ∧ deep (parseT n t).1 ≤ 12 ∧ (parseT n t).2.1 = 0 := by
  have ho := (rd_out (toksOf_right ht) (10 * t.1.length + 8)).1 0 0 (Nat.zero_le _)
  revert h
  unfold parseT
  split
  · rename_i hne
    intro h; exact absurd h hne
  · split
    · intro h; exact absurd (show (11 : Int) = 0 from h) (by decide)
    · split
      · intro h; exact absurd (show (11 : Int) = 0 from h) (by decide)
      · rename_i x hx
        split
        · intro h; exact absurd (show (12 : Int) = 0 from h) (by decide)
        · rename_i hd
          intro _
          obtain ⟨h1, h2, _⟩ := ho.2.2 x hx
          exact ⟨h1, h2, by show deep x ≤ 12; omega, rfl⟩
/-- where Parse fails it tells no expression, and a place within -/
theorem parse_err {n : Nat} {t : List T × Int × Int} (h0 : t.2.2 ≠ 0 → 0 ≤ t.2.1 ∧ t.2.1 ≤ n) (hs : ∀ u ∈ t.1, 0 ≤ u.spot ∧ u.spot ≤ n) (h : (parseT n t).2.2 ≠ 0) : (parseT n t).1 = no ∧ 0 ≤ (parseT n t).2.1 ∧ (parseT n t).2.1 ≤ n := by
  revert h
  unfold parseT
  split
  · rename_i hne
    intro _; exact ⟨rfl, h0 hne⟩
  · split
    · intro _; exact ⟨rfl, hs _ (List.getElem_mem _)⟩
    · split
      · intro _; exact ⟨rfl, by show (0 : Int) ≤ n; omega, Int.le_refl _⟩
      · split
        · intro _; exact ⟨rfl, Int.le_refl _, by show (0 : Int) ≤ n; omega⟩
        · intro h; exact absurd rfl h
/-! writing -/
def textE (x : X) : ByteArray × Int :=
  if right x = true then if 12 < deep x then (Vl.mt, 12) else if 200 < (flat (wr x 0)).length then (Vl.mt, 5) else (Lx.mk (flat (wr x 0)), 0) else (Vl.mt, 2)
theorem textE_ok {x : X} (h : (textE x).2 = 0) : right x = true ∧ deep x ≤ 12 ∧ (flat (wr x 0)).length ≤ 200 ∧ (textE x).1 = Lx.mk (flat (wr x 0)) := by
  revert h
  unfold textE
  split
  · rename_i hr
    split
    · intro h; exact absurd (show (12 : Int) = 0 from h) (by decide)
    · split
      · intro h; exact absurd (show (5 : Int) = 0 from h) (by decide)
      · rename_i h1 h2
        intro _; exact ⟨hr, by omega, by omega, rfl⟩
  · intro h; exact absurd (show (2 : Int) = 0 from h) (by decide)
end Sx
end Go.Proofs.YtmkllibfblacfaaDoor

/-
  Layer 14, plain mathematics: reading with a list of what waits, place by place, tells what the reading by levels tells.
-/
namespace Go.Proofs.YtmkllibfblacfaaDoor
namespace Sx
open Lx (T textL strip one)
/-- an op that waits for a part, with those that it has (0: what stands in brackets), and the level at which it is read itself -/
structure B where
  op : Int
  parts : List X
  lev : Nat
/-- what must stand behind the part for which it waits -/
def askW (b : B) : Option (Int × List UInt8) :=
  if b.op = 0 then some (4, [41]) else if b.op = 16 ∧ b.parts.length = 0 then some (1, [116, 104, 101, 110]) else if b.op = 16 ∧ b.parts.length = 1 then some (1, [101, 108, 115, 101]) else none
/-- the op of two that stands here -/
def opOf (t : Option T) : Option Int := ops.find? fun op => isT t (kindOf op) (sign op)
def leafO (t : Option T) : Option X := t.bind leaf
/-- no op goes on here -/
def NoOp (g : Nat → Option T) (p lev h : Nat) : Prop := ∀ op, opOf (g p) = some op → ¬ (lev ≤ lvl op ∧ left op ≤ h)
abbrev Res := Option X × Nat
mutual
/-- a part is to be read -/
inductive Pt (g : Nat → Option T) : Nat → Nat → Nat → List B → Res → Prop
  | opens {n p lev W R} : isT (g p) 4 [40] = true → Pt g n (p + 1) 0 (W ++ [⟨0, [], lev⟩]) R → Pt g (n + 1) p lev W R
  | neg {n p lev W R} : isT (g p) 4 [45] = true → lev ≤ 6 → Pt g n (p + 1) 6 (W ++ [⟨3, [], lev⟩]) R → Pt g (n + 1) p lev W R
  | cond {n p W R} : isT (g p) 1 [105, 102] = true → Pt g n (p + 1) 0 (W ++ [⟨16, [], 0⟩]) R → Pt g (n + 1) p 0 W R
  | fails {n p lev W} : isT (g p) 4 [40] = false → (isT (g p) 4 [45] = false ∨ 6 < lev) → (isT (g p) 1 [105, 102] = false ∨ 0 < lev) → leafO (g p) = none → Pt g n p lev W (none, p)
  | leaf {n p lev W R x} : isT (g p) 4 [40] = false → (isT (g p) 4 [45] = false ∨ 6 < lev) → (isT (g p) 1 [105, 102] = false ∨ 0 < lev) → leafO (g p) = some x → Bh g n (p + 1) lev W x 7 R → Pt g (n + 1) p lev W R
/-- a part was read -/
inductive Bh (g : Nat → Option T) : Nat → Nat → Nat → List B → X → Nat → Res → Prop
  | two {n p lev W x h R op} : opOf (g p) = some op → lev ≤ lvl op → left op ≤ h → Pt g n (p + 1) (lvl op + 1) (W ++ [⟨op, [x], lev⟩]) R → Bh g (n + 1) p lev W x h R
  | stop {n p lev x h} : NoOp g p lev h → Bh g n p lev [] x h (some x, p)
  | miss {n p lev V b x h k s} : NoOp g p lev h → askW b = some (k, s) → isT (g p) k s = false → Bh g n p lev (V ++ [b]) x h (none, p)
  | shut {n p lev V b x h R k s} : NoOp g p lev h → askW b = some (k, s) → isT (g p) k s = true → Hd g n (p + 1) lev V b x R → Bh g (n + 1) p lev (V ++ [b]) x h R
  | over {n p lev V b x h R} : NoOp g p lev h → askW b = none → Hd g n p lev V b x R → Bh g (n + 1) p lev (V ++ [b]) x h R
/-- a part is handed to what waits for it -/
inductive Hd (g : Nat → Option T) : Nat → Nat → Nat → List B → B → X → Res → Prop
  | bra {n p lev V b x R} : b.op = 0 → Bh g n p b.lev V x 7 R → Hd g n p lev V b x R
  | more {n p lev V b x R} : b.op ≠ 0 → ((b.parts.length : Int) + 1 < count b.op) → Pt g n p lev (V ++ [⟨b.op, b.parts ++ [x], b.lev⟩]) R → Hd g n p lev V b x R
  | whole {n p lev V b x R} : b.op ≠ 0 → ¬ ((b.parts.length : Int) + 1 < count b.op) → Bh g n p b.lev V (.mk b.op Vl.no Vl.mt (b.parts ++ [x])) (lvl b.op) R → Hd g n p lev V b x R
end
/-! tokens that are right -/
theorem isT_right {t : T} {k : Int} {s : List UInt8} (hk : isT (some t) k s = true) : t.kind = k ∧ t.s = Lx.mk s := by
  simpa [isT] using hk
theorem ops_cases {op : Int} (h4 : 4 ≤ op) (h15 : op ≤ 15) : op ∈ ops := by
  simp only [ops, List.mem_cons, List.not_mem_nil, or_false]; omega
theorem opOf_some {t : Option T} {op : Int} (h : opOf t = some op) : op ∈ ops ∧ isT t (kindOf op) (sign op) = true := ⟨List.mem_of_find?_eq_some h, by simpa using List.find?_some h⟩
theorem sign_inj : ∀ a ∈ ops, ∀ b ∈ ops, sign a = sign b → a = b := by decide +kernel
theorem mk_inj {a b : List UInt8} (h : Lx.mk a = Lx.mk b) : a = b := by
  have := congrArg (fun x : ByteArray => x.toList) h
  simpa [Lx.mk] using this
/-- the op that stands here, by its level -/
theorem opAt_of {t : Option T} {op : Int} (h : opOf t = some op) : opAt t (lvl op) = some op := by
  obtain ⟨hm, hi⟩ := opOf_some h
  unfold opAt
  cases hf : ops.find? (isOp t (lvl op)) with
  | none =>
    rw [List.find?_eq_none] at hf
    have := hf op hm
    rw [isOp, hi, decide_eq_true rfl] at this
    exact absurd rfl this
  | some o =>
    have h1 := List.mem_of_find?_eq_some hf
    have h2 := List.find?_some hf
    simp only [isOp, Bool.and_eq_true, decide_eq_true_eq] at h2
    have : sign o = sign op := by
      cases t with
      | none => simp [isT] at hi
      | some t =>
        simp only [isT, Bool.and_eq_true, decide_eq_true_eq] at hi h2
        exact mk_inj (h2.2.2.symm.trans hi.2)
    rw [sign_inj o h1 op hm this]
theorem opOf_at {t : Option T} {lev : Nat} {op : Int} (h : opAt t lev = some op) : opOf t = some op ∧ lvl op = lev := by
  have h1 := List.mem_of_find?_eq_some h
  have h2 := List.find?_some h
  simp only [isOp, Bool.and_eq_true, decide_eq_true_eq] at h2
  refine ⟨?_, h2.1⟩
  unfold opOf
  cases hf : ops.find? (fun op => isT t (kindOf op) (sign op)) with
  | none =>
    rw [List.find?_eq_none] at hf
    exact absurd h2.2 (hf op h1)
  | some o =>
    have h3 := List.mem_of_find?_eq_some hf
    have h4 := List.find?_some hf
    have : sign o = sign op := by
      cases t with
      | none => simp [isT] at h4
      | some t =>
        simp only [isT, Bool.and_eq_true, decide_eq_true_eq] at h4 h2
        exact mk_inj (h4.2.symm.trans h2.2.2)
    rw [sign_inj o h3 op h1 this]
theorem lvl_two {op : Int} (h : op ∈ ops) : 1 ≤ lvl op ∧ lvl op ≤ 5 ∧ lvl op ≤ left op ∧ (lvl op = 3 → left op = 4) ∧ (lvl op ≠ 3 → left op = lvl op) ∧ op ≠ 0 ∧ op ≠ 16 ∧ count op = 2 := by
  have : ∀ o ∈ ops, 1 ≤ lvl o ∧ lvl o ≤ 5 ∧ lvl o ≤ left o ∧ (lvl o = 3 → left o = 4) ∧ (lvl o ≠ 3 → left o = lvl o) ∧ o ≠ 0 ∧ o ≠ 16 ∧ count o = 2 := by decide +kernel
  exact this op h
section
variable {g : Nat → Option T} {n : Nat}
theorem noOp_high {p lev h : Nat} (hl : 6 ≤ lev) : NoOp g p lev h := fun op ho hh => by
  have := lvl_two (opOf_some ho).1; omega
theorem noOp_low {p lev h : Nat} (hh : h < lev) : NoOp g p lev h := fun op ho hc => by
  have := lvl_two (opOf_some ho).1; omega
theorem noOp_zero {p lev : Nat} : NoOp g p lev 0 := fun op ho hc => by
  have := lvl_two (opOf_some ho).1; omega
theorem noOp_mono {p lev lev' h : Nat} (hl : lev ≤ lev') (hn : NoOp g p lev h) : NoOp g p lev' h := fun op ho hc => hn op ho ⟨by omega, hc.2⟩
theorem noOp_step {p lev h : Nat} (hn : NoOp g p (lev + 1) h) (h0 : opAt (g p) lev = none) : NoOp g p lev h := fun op ho hc => by
  by_cases e : lvl op = lev
  · rw [← e, opAt_of ho] at h0; cases h0
  · exact hn op ho ⟨by omega, hc.2⟩
theorem leafO_ne {t : Option T} {k : Int} {s : List UInt8} (hi : isT t k s = true) (hs : (k = 4) ∨ (k = 1 ∧ s = [105, 102])) : leafO t = none := by
  cases t with
  | none => rfl
  | some t =>
    obtain ⟨h1, h2⟩ := isT_right hi
    show leaf t = none
    unfold leaf
    rcases hs with hk | ⟨hk, hs⟩
    · rw [if_neg (by omega), if_neg (by omega), if_neg (by omega)]
    · rw [if_neg (by omega), if_neg (by omega), if_pos (by omega), h2, hs]
      decide +kernel
/-- what is to be shown of a reading: where the list of what waits is W it comes to the part that it reads, or fails where it fails -/
def Goes (g : Nat → Option T) (p L lev : Nat) (r : Option X × Nat) : Prop := match r with
  | (none, q) => ∀ W, ∃ m, Pt g m p L W (none, q)
  | (some x, q) => ∃ h, lev ≤ h ∧ NoOp g q lev h ∧ ∀ W m R, Bh g m q L W x h R → ∃ k, Pt g k p L W R
/-- .. from a part that was read -/
def GoesB (g : Nat → Option T) (p L lev : Nat) (x : X) (h : Nat) (r : Option X × Nat) : Prop := match r with
  | (none, q) => ∀ W, ∃ m, Bh g m p L W x h (none, q)
  | (some y, q) => ∃ h', lev ≤ h' ∧ NoOp g q lev h' ∧ ∀ W m R, Bh g m q L W y h' R → ∃ k, Bh g k p L W x h R
theorem goes_all (hg : ∀ p t, g p = some t → p < n ∧ Lx.right t ∧ t.n ≤ Lx.maxI) : ∀ f,
    (∀ lev p L, lev ≤ 7 → L ≤ lev → p ≤ n → 10 * (n - p) + (8 - lev) ≤ f → (L = 0 → lev = 0 ∨ isT (g p) 1 [105, 102] = false) → (L ≤ 6 → lev ≤ 6 ∨ isT (g p) 4 [45] = false) → Goes g p L lev (rd g f lev p)) ∧
    (∀ lev x p L h, 1 ≤ lev → lev ≤ 5 → L ≤ lev → p ≤ n → 10 * (n - p) + 1 ≤ f → lev ≤ h → (lev = 3 → 4 ≤ h) → NoOp g p (lev + 1) h → GoesB g p L lev x h (go g f lev x p))
  | 0 => ⟨fun lev p L h7 _ _ h => by omega, fun lev x p L h _ _ _ _ h => by omega⟩
  | f + 1 => by
    obtain ⟨ihr, ihg⟩ := goes_all hg f
    have hout := fun f => (rd_out hg f).1
    have lt_of : ∀ p, (g p).isSome = true → p < n := fun p h => by
      cases hh : g p with
      | none => rw [hh] at h; cases h
      | some t => exact (hg p t hh).1
    have kinds : ∀ p k s k' s', isT (g p) k s = true → k ≠ k' → isT (g p) k' s' = false := fun p k s k' s' h hk => by
      cases hh : g p with
      | none => rfl
      | some t => rw [hh] at h; simp only [isT, Bool.and_eq_true, decide_eq_true_eq] at h; simp [isT, h.1, hk]
    have texts : ∀ p k s s', isT (g p) k s = true → s ≠ s' → isT (g p) k s' = false := fun p k s s' h hk => by
      cases hh : g p with
      | none => rfl
      | some t =>
        rw [hh] at h
        simp only [isT, Bool.and_eq_true, decide_eq_true_eq] at h
        have hne : ¬ t.s = Lx.mk s' := fun e => hk (mk_inj (h.2.symm.trans e))
        simp [isT, h.1, hne]
    refine ⟨fun lev p L h7 hL hp hf hif hneg => ?_, fun lev x p L h hl1 hl5 hL hp hf hh h3 hno => ?_⟩
    · rw [rd]
      split
      · rename_i e7
        subst e7
        have hif' : isT (g p) 1 [105, 102] = false ∨ 0 < L := by
          by_cases e : L = 0
          · exact (hif e).elim (fun e => by omega) .inl
          · exact .inr (by omega)
        have hneg' : isT (g p) 4 [45] = false ∨ 6 < L := by
          by_cases e : L ≤ 6
          · exact (hneg e).elim (fun e => by omega) .inl
          · exact .inr (by omega)
        split
        · rename_i h0
          intro W
          exact ⟨0, .fails (by rw [h0]; rfl) hneg' hif' (by rw [h0]; rfl)⟩
        · rename_i t ht
          have hlt := (hg p t ht).1
          split
          · rename_i x hx
            have hlx : leafO (g p) = some x := by rw [ht]; exact hx
            have hno : isT (g p) 4 [40] = false := by
              cases hb : isT (g p) 4 [40] with
              | false => rfl
              | true => rw [leafO_ne hb (.inl rfl)] at hlx; cases hlx
            exact ⟨7, Nat.le_refl _, noOp_high (by omega), fun W m R hB => ⟨m + 1, .leaf hno hneg' hif' hlx hB⟩⟩
          · rename_i hx
            have hlx : leafO (g p) = none := by rw [ht]; exact hx
            split
            · rename_i hb
              have hr := ihr 0 (p + 1) 0 (by omega) (Nat.le_refl _) hlt (by omega) (fun _ => .inl rfl) (fun _ => .inl (by omega))
              have ho := hout f 0 (p + 1) hlt
              generalize rd g f 0 (p + 1) = r at *
              obtain ⟨o, q⟩ := r
              cases o with
              | none =>
                intro W
                obtain ⟨m, hm⟩ := hr (W ++ [⟨0, [], L⟩])
                exact ⟨m + 1, .opens hb hm⟩
              | some a =>
                obtain ⟨h', _, hn', hk⟩ := hr
                have ha : askW ⟨0, [], L⟩ = some (4, [41]) := rfl
                simp only
                split
                · rename_i hc
                  refine ⟨7, Nat.le_refl _, noOp_high (by omega), fun W m R hB => ?_⟩
                  obtain ⟨k, hk2⟩ := hk (W ++ [⟨0, [], L⟩]) _ R (.shut hn' ha hc (.bra rfl hB))
                  exact ⟨k + 1, .opens hb hk2⟩
                · rename_i hc
                  intro W
                  obtain ⟨k, hk2⟩ := hk (W ++ [⟨0, [], L⟩]) 0 _ (.miss hn' ha (by simpa using hc))
                  exact ⟨k + 1, .opens hb hk2⟩
            · rename_i hb
              intro W
              exact ⟨0, .fails (by simpa using hb) hneg' hif' hlx⟩
      · rename_i n7
        split
        · rename_i hi
          obtain ⟨e0, hi⟩ := hi
          obtain rfl : L = 0 := by omega
          subst e0
          have hlt := lt_of p (isT_some hi)
          have hr := ihr 0 (p + 1) 0 (by omega) (Nat.le_refl _) hlt (by omega) (fun _ => .inl rfl) (fun _ => .inl (by omega))
          have ho := hout f 0 (p + 1) hlt
          generalize rd g f 0 (p + 1) = r at *
          obtain ⟨o, q⟩ := r
          cases o with
          | none =>
            intro W
            obtain ⟨m, hm⟩ := hr (W ++ [⟨16, [], 0⟩])
            exact ⟨m + 1, .cond hi hm⟩
          | some a =>
            obtain ⟨h', _, hn', hk⟩ := hr
            have hqn := ho.2.1
            have hq := (ho.2.2 a rfl).2.2
            have ha : askW ⟨16, [], 0⟩ = some (1, [116, 104, 101, 110]) := rfl
            simp only at hqn hq ⊢
            split
            · rename_i hc
              have hlt2 := lt_of q (isT_some hc)
              have hr2 := ihr 0 (q + 1) 0 (by omega) (Nat.le_refl _) hlt2 (by omega) (fun _ => .inl rfl) (fun _ => .inl (by omega))
              have ho2 := hout f 0 (q + 1) hlt2
              generalize rd g f 0 (q + 1) = r2 at *
              obtain ⟨o2, q2⟩ := r2
              have step1 : ∀ W m R, Pt g m (q + 1) 0 (W ++ [⟨16, [a], 0⟩]) R → ∃ k, Pt g k p 0 W R := fun W m R hP => by
                obtain ⟨k, hk2⟩ := hk (W ++ [⟨16, [], 0⟩]) _ R (.shut hn' ha hc (.more (b := ⟨16, [], 0⟩) (show (16 : Int) ≠ 0 by decide) (show (((0 : Nat) : Int) + 1 < count 16) by decide) hP))
                exact ⟨k + 1, .cond hi hk2⟩
              cases o2 with
              | none =>
                intro W
                obtain ⟨m, hm⟩ := hr2 (W ++ [⟨16, [a], 0⟩])
                exact step1 W m _ hm
              | some b =>
                obtain ⟨h2', _, hn2', hk2⟩ := hr2
                have hqn2 := ho2.2.1
                have hq2 := (ho2.2.2 b rfl).2.2
                have ha2 : askW ⟨16, [a], 0⟩ = some (1, [101, 108, 115, 101]) := rfl
                simp only at hqn2 hq2 ⊢
                split
                · rename_i hc2
                  have hlt3 := lt_of q2 (isT_some hc2)
                  have hr3 := ihr 0 (q2 + 1) 0 (by omega) (Nat.le_refl _) hlt3 (by omega) (fun _ => .inl rfl) (fun _ => .inl (by omega))
                  generalize rd g f 0 (q2 + 1) = r3 at *
                  obtain ⟨o3, q3⟩ := r3
                  have step2 : ∀ W m R, Pt g m (q2 + 1) 0 (W ++ [⟨16, [a, b], 0⟩]) R → ∃ k, Pt g k p 0 W R := fun W m R hP => by
                    obtain ⟨k, hk3⟩ := hk2 (W ++ [⟨16, [a], 0⟩]) _ R (.shut hn2' ha2 hc2 (.more (b := ⟨16, [a], 0⟩) (show (16 : Int) ≠ 0 by decide) (show (((1 : Nat) : Int) + 1 < count 16) by decide) hP))
                    exact step1 W k R hk3
                  cases o3 with
                  | none =>
                    intro W
                    obtain ⟨m, hm⟩ := hr3 (W ++ [⟨16, [a, b], 0⟩])
                    exact step2 W m _ hm
                  | some c =>
                    obtain ⟨h3', _, hn3', hk3⟩ := hr3
                    have ha3 : askW ⟨16, [a, b], 0⟩ = none := rfl
                    refine ⟨0, Nat.le_refl _, noOp_zero, fun W m R hB => ?_⟩
                    obtain ⟨k, hk4⟩ := hk3 (W ++ [⟨16, [a, b], 0⟩]) _ R (.over hn3' ha3 (.whole (b := ⟨16, [a, b], 0⟩) (show (16 : Int) ≠ 0 by decide) (show ¬ (((2 : Nat) : Int) + 1 < count 16) by decide) hB))
                    exact step2 W k R hk4
                · rename_i hc2
                  intro W
                  obtain ⟨k, hk3⟩ := hk2 (W ++ [⟨16, [a], 0⟩]) 0 _ (.miss hn2' ha2 (by simpa using hc2))
                  exact step1 W k _ hk3
            · rename_i hc
              intro W
              obtain ⟨k, hk2⟩ := hk (W ++ [⟨16, [], 0⟩]) 0 _ (.miss hn' ha (by simpa using hc))
              exact ⟨k + 1, .cond hi hk2⟩
        · rename_i nif
          have nif' : L = 0 → isT (g p) 1 [105, 102] = false := fun e => by
            rcases hif e with h | h
            · cases hb : isT (g p) 1 [105, 102] with
              | false => rfl
              | true => exact absurd ⟨h, hb⟩ nif
            · exact h
          split
          · rename_i hi
            obtain ⟨e6, hi⟩ := hi
            subst e6
            have hlt := lt_of p (isT_some hi)
            have hr := ihr 6 (p + 1) 6 (by omega) (Nat.le_refl _) hlt (by omega) (fun e => by omega) (fun _ => .inl (by omega))
            generalize rd g f 6 (p + 1) = r at *
            obtain ⟨o, q⟩ := r
            cases o with
            | none =>
              intro W
              obtain ⟨m, hm⟩ := hr (W ++ [⟨3, [], L⟩])
              exact ⟨m + 1, .neg hi hL hm⟩
            | some a =>
              obtain ⟨h', _, hn', hk⟩ := hr
              have ha : askW ⟨3, [], L⟩ = none := rfl
              refine ⟨6, Nat.le_refl _, noOp_high (by omega), fun W m R hB => ?_⟩
              obtain ⟨k, hk2⟩ := hk (W ++ [⟨3, [], L⟩]) _ R (.over hn' ha (.whole (b := ⟨3, [], L⟩) (show (3 : Int) ≠ 0 by decide) (show ¬ (((0 : Nat) : Int) + 1 < count 3) by decide) hB))
              exact ⟨k + 1, .neg hi hL hk2⟩
          · rename_i nneg
            split
            · rename_i h06
              have hr := ihr (lev + 1) p L (by omega) (by omega) hp (by omega) (fun e => .inr (nif' e)) (fun e => by
                rcases h06 with h | h
                · exact .inl (by omega)
                · rcases hneg e with h' | h'
                  · cases hb : isT (g p) 4 [45] with
                    | false => exact .inr rfl
                    | true => exact absurd ⟨h, hb⟩ nneg
                  · exact .inr h')
              generalize rd g f (lev + 1) p = r at *
              obtain ⟨o, q⟩ := r
              cases o with
              | none => exact hr
              | some x =>
                obtain ⟨h', hh', hn', hk⟩ := hr
                refine ⟨h', by omega, ?_, hk⟩
                rcases h06 with h | h
                · subst h
                  intro op ho hc
                  have := lvl_two (opOf_some ho).1
                  exact hn' op ho ⟨by omega, hc.2⟩
                · exact noOp_high (by omega)
            · rename_i h06
              have hr := ihr (lev + 1) p L (by omega) (by omega) hp (by omega) (fun e => .inr (nif' e)) (fun e => .inl (by omega))
              have ho := hout f (lev + 1) p hp
              generalize rd g f (lev + 1) p = r at *
              obtain ⟨o, q⟩ := r
              cases o with
              | none => exact hr
              | some x =>
                obtain ⟨h', hh', hn', hk⟩ := hr
                have hqn := ho.2.1
                have hq := (ho.2.2 x rfl).2.2
                simp only at hqn hq ⊢
                have hb := ihg lev x q L h' (by omega) (by omega) hL hqn (by omega) (by omega) (fun e => by omega) hn'
                generalize go g f lev x q = r2 at *
                obtain ⟨o2, q2⟩ := r2
                cases o2 with
                | none =>
                  intro W
                  obtain ⟨m, hm⟩ := hb W
                  exact hk W m _ hm
                | some y =>
                  obtain ⟨h2, hh2, hn2, hk2⟩ := hb
                  exact ⟨h2, hh2, hn2, fun W m R hB => (hk2 W m R hB).elim fun k hk3 => hk W k R hk3⟩
    · rw [go]
      split
      · rename_i h0
        exact ⟨h, hh, noOp_step hno h0, fun W m R hB => ⟨m, hB⟩⟩
      · rename_i op hop
        obtain ⟨ho, hl⟩ := opOf_at hop
        obtain ⟨_, _, _, hs⟩ := opAt_range hop
        have h2 := lvl_two (opOf_some ho).1
        have hlt : p < n := lt_of p (by obtain ⟨_, _, h, _⟩ := opAt_range hop; exact h)
        have hleft : left op ≤ h := by
          by_cases e : lev = 3
          · have := h3 e; have := h2.2.2.2.1 (by omega); omega
          · have := h2.2.2.2.2.1 (by omega); omega
        have hr := ihr (lev + 1) (p + 1) (lev + 1) (by omega) (Nat.le_refl _) hlt (by omega) (fun e => by omega) (fun _ => .inl (by omega))
        have hou := hout f (lev + 1) (p + 1) hlt
        generalize rd g f (lev + 1) (p + 1) = r at *
        obtain ⟨o, q⟩ := r
        cases o with
        | none =>
          intro W
          obtain ⟨m, hm⟩ := hr (W ++ [⟨op, [x], L⟩])
          exact ⟨m + 1, .two ho (by omega) hleft (by rw [hl]; exact hm)⟩
        | some y =>
          obtain ⟨h', hh', hn', hk⟩ := hr
          have hqn := hou.2.1
          have hq := (hou.2.2 y rfl).2.2
          simp only at hqn hq ⊢
          have ha : askW ⟨op, [x], L⟩ = none := by
            unfold askW
            rw [if_neg h2.2.2.2.2.2.1, if_neg (fun e => h2.2.2.2.2.2.2.1 e.1), if_neg (fun e => h2.2.2.2.2.2.2.1 e.1)]
          have step : ∀ W m R, Bh g m q L W (bin op x y) lev R → ∃ k, Bh g k p L W x h R := fun W m R hB => by
            obtain ⟨k, hk2⟩ := hk (W ++ [⟨op, [x], L⟩]) _ R (.over hn' ha (.whole h2.2.2.2.2.2.1 (by show ¬ (((1 : Nat) : Int) + 1 < count op); rw [h2.2.2.2.2.2.2.2]; decide) (by show Bh g m q L W (bin op x y) (lvl op) R; rw [hl]; exact hB)))
            exact ⟨k + 1, .two ho (by omega) hleft (by rw [hl]; exact hk2)⟩
          split
          · rename_i e3
            refine ⟨lev, Nat.le_refl _, ?_, step⟩
            subst e3
            intro op' ho' hc
            have := lvl_two (opOf_some ho').1
            have := this.2.2.2.1
            have := this
            by_cases e : lvl op' = 3
            · have := this e; omega
            · omega
          · rename_i n3
            have hb := ihg lev (bin op x y) q L lev hl1 hl5 hL hqn (by omega) (Nat.le_refl _) (fun e => absurd e n3) (noOp_low (Nat.lt_succ_self _))
            generalize go g f lev (bin op x y) q = r2 at *
            obtain ⟨o2, q2⟩ := r2
            cases o2 with
            | none =>
              intro W
              obtain ⟨m, hm⟩ := hb W
              exact step W m _ hm
            | some z =>
              obtain ⟨h2', hh2, hn2, hk2⟩ := hb
              exact ⟨h2', hh2, hn2, fun W m R hB => (hk2 W m R hB).elim fun k hk3 => step W k R hk3⟩
end
/-- **the machine tells what the reading by levels tells** -/
theorem pt_read {L : List T} (h : ∀ t ∈ L, Lx.right t ∧ t.n ≤ Lx.maxI) {lev p : Nat} (hl : lev ≤ 7) (hp : p ≤ L.length) : ∃ m, Pt (toksOf L) m p lev [] (readE L lev p) := by
  have hg := toksOf_right h
  have hG := (goes_all (n := L.length) hg (10 * L.length + 8)).1 lev p lev hl (Nat.le_refl _) hp (by omega) (fun e => .inl e) (fun e => .inl e)
  show ∃ m, Pt (toksOf L) m p lev [] (rd (toksOf L) (10 * L.length + 8) lev p)
  generalize rd (toksOf L) (10 * L.length + 8) lev p = r at *
  obtain ⟨o, q⟩ := r
  cases o with
  | none => exact hG []
  | some x =>
    obtain ⟨h', _, hn, hk⟩ := hG
    exact hk [] 0 _ (.stop hn)
end Sx
end Go.Proofs.YtmkllibfblacfaaDoor

/-
  Layer 14, plain mathematics: an expression's names: each once, and in the order of its tokens.
-/
namespace Go.Proofs.YtmkllibfblacfaaDoor
namespace Sx
open Lx (T textL strip one)
mutual
/-- all names, as often as they stand -/
def allN : X → List ByteArray
  | .mk op _ s l => (if op = 2 then [s] else []) ++ allL l
def allL : List X → List ByteArray
  | [] => []
  | x :: r => allN x ++ allL r
end
theorem memB_iff (m : ByteArray) (o : List ByteArray) : memB m o = true ↔ m ∈ o := by
  unfold memB
  rw [List.any_eq_true]
  constructor
  · rintro ⟨x, hx, h⟩
    rw [decide_eq_true_eq] at h
    subst h; exact hx
  · intro h; exact ⟨m, h, decide_eq_true rfl⟩
theorem add1_mem {o : List ByteArray} {m : ByteArray} (h : m ∈ o) : add1 o m = o := if_pos ((memB_iff m o).2 h)
theorem add1_new {o : List ByteArray} {m : ByteArray} (h : m ∉ o) : add1 o m = o ++ [m] := if_neg fun e => h ((memB_iff m o).1 e)
theorem mem_add1 {o : List ByteArray} {m x : ByteArray} : x ∈ add1 o m ↔ x ∈ o ∨ x = m := by
  by_cases h : m ∈ o
  · rw [add1_mem h]
    constructor
    · exact .inl
    · rintro (h1 | rfl)
      · exact h1
      · exact h
  · rw [add1_new h]; simp
theorem addN_cons (o : List ByteArray) (m : ByteArray) (r : List ByteArray) : addN o (m :: r) = addN (add1 o m) r := rfl
theorem addN_app (o a b : List ByteArray) : addN o (a ++ b) = addN (addN o a) b := List.foldl_append
theorem mem_addN : ∀ (l o : List ByteArray) (x : ByteArray), x ∈ addN o l ↔ x ∈ o ∨ x ∈ l
  | [], o, x => by simp [addN]
  | m :: l, o, x => by
    rw [addN_cons, mem_addN l, mem_add1, List.mem_cons, or_assoc]
/-- what is there already adds nothing -/
theorem addN_in : ∀ (l o : List ByteArray), (∀ x ∈ l, x ∈ o) → addN o l = o
  | [], _, _ => rfl
  | m :: l, o, h => by
    rw [addN_cons, add1_mem (h m (by simp))]
    exact addN_in l o fun x hx => h x (by simp [hx])
theorem addN_end (o a : List ByteArray) (m : ByteArray) : addN o (a ++ [m]) = add1 (addN o a) m := addN_app o a [m]
theorem addN_self (o : List ByteArray) : ∀ (k : Nat) (l : List ByteArray), l.length = k → addN o (addN [] l) = addN o l := by
  intro k
  induction k with
  | zero =>
    intro l hl
    obtain rfl := List.eq_nil_of_length_eq_zero hl
    rfl
  | succ k ih =>
    intro l hl
    obtain ⟨a, m, rfl⟩ : ∃ a m, l = a ++ [m] := ⟨l.dropLast, l.getLast (by intro h; rw [h] at hl; cases hl), (List.dropLast_concat_getLast _).symm⟩
    have ha : a.length = k := by rw [List.length_append] at hl; simp at hl; exact hl
    have h1 := ih a ha
    rw [addN_end, addN_end]
    by_cases hm : m ∈ addN [] a
    · rw [add1_mem hm, h1, add1_mem]
      rw [mem_addN] at hm ⊢
      exact .inr (hm.elim (fun h => absurd h (by simp)) id)
    · rw [add1_new hm, addN_end, h1]
mutual
theorem names_all : ∀ x : X, names x = addN [] (allN x)
  | .mk op v s l => by
    rw [names, allN, namesL_all l, addN_app]
    split
    · rfl
    · rfl
theorem namesL_all : ∀ (l : List X) (o : List ByteArray), namesL l o = addN o (allL l)
  | [], o => rfl
  | x :: r, o => by
    rw [namesL, allL, addN_app, namesL_all r, names_all x, addN_self o _ _ rfl]
end
/-- each once -/
theorem addN_nodup : ∀ (l o : List ByteArray), o.Nodup → (addN o l).Nodup
  | [], _, h => h
  | m :: l, o, h => by
    rw [addN_cons]
    refine addN_nodup l _ ?_
    by_cases hm : m ∈ o
    · rw [add1_mem hm]; exact h
    · rw [add1_new hm, List.nodup_append]
      exact ⟨h, by simp, fun a ha b hb => by simp at hb; subst hb; intro e; subst e; exact hm ha⟩
theorem names_nodup (x : X) : (names x).Nodup := by rw [names_all]; exact addN_nodup _ _ List.nodup_nil
/-- in order -/
theorem addN_sub : ∀ (l o : List ByteArray), ∃ r, addN o l = o ++ r ∧ r.Sublist l
  | [], o => ⟨[], (List.append_nil o).symm, List.Sublist.refl _⟩
  | m :: l, o => by
    rw [addN_cons]
    by_cases hm : m ∈ o
    · rw [add1_mem hm]
      obtain ⟨r, h1, h2⟩ := addN_sub l o
      exact ⟨r, h1, h2.cons m⟩
    · rw [add1_new hm]
      obtain ⟨r, h1, h2⟩ := addN_sub l (o ++ [m])
      exact ⟨m :: r, by rw [h1, List.append_assoc]; rfl, h2.cons_cons m⟩
theorem names_sub (x : X) : (names x).Sublist (allN x) := by
  rw [names_all]
  obtain ⟨r, h1, h2⟩ := addN_sub (allN x) []
  rw [h1]; exact h2
/-- the texts of the tokens that are names or words -/
def words (l : List T) : List ByteArray := (l.filter fun t => decide (t.kind = 1)).map (·.s)
theorem words_app (a b : List T) : words (a ++ b) = words a ++ words b := by unfold words; rw [List.filter_append, List.map_append]
theorem words_cons_sub (t : T) (l : List T) {r : List ByteArray} (h : r.Sublist (words l)) : r.Sublist (words (t :: l)) := by
  have e : t :: l = [t] ++ l := rfl
  rw [e, words_app]
  exact h.trans (List.sublist_append_right _ _)
theorem names_words : ∀ (k : Nat) (x : X), size x ≤ k → right x = true → ∀ lev, lev ≤ 7 → (allN x).Sublist (words (tk x lev)) := by
  intro k
  induction k with
  | zero => intro x hk; have := size_pos x; omega
  | succ k ih =>
    have own : ∀ x : X, size x ≤ k + 1 → right x = true → ∀ lev, lev ≤ lvl x.op → (allN x).Sublist (words (tk x lev)) := by
      intro x hk hr lev hlev
      cases form_of hr with
      | val v h hn => exact List.nil_sublist _
      | name s h => rw [tk_name s hlev]; exact List.Sublist.refl _
      | neg a h =>
        have hsz : size (.mk 3 Vl.no Vl.mt [a]) = 1 + (size a + 0) := rfl
        rw [tk_neg a hlev]
        have e : allN (.mk 3 Vl.no Vl.mt [a]) = allN a ++ [] := rfl
        rw [e, List.append_nil]
        exact words_cons_sub _ _ (ih a (by omega) h 6 (by omega))
      | bin op a b h4 h15 ha hb =>
        have hsz : size (bin op a b) = 1 + (size a + (size b + 0)) := rfl
        have hl := lvl_bin h4 h15
        rw [tk_bin a b h4 h15 hlev, words_app]
        have e : allN (bin op a b) = allN a ++ (allN b ++ []) := by
          show (if op = 2 then [Vl.mt] else []) ++ (allN a ++ (allN b ++ [])) = _
          rw [if_neg (by omega)]; rfl
        rw [e, List.append_nil]
        exact (ih a (by omega) ha (left op) (by unfold left; split <;> omega)).append (words_cons_sub _ _ (ih b (by omega) hb (lvl op + 1) (by omega)))
      | cond a b c ha hb hc =>
        have hsz : size (.mk 16 Vl.no Vl.mt [a, b, c]) = 1 + (size a + (size b + (size c + 0))) := rfl
        obtain rfl : lev = 0 := by have : lev ≤ 0 := hlev; omega
        rw [tk_cond]
        have e : allN (.mk 16 Vl.no Vl.mt [a, b, c]) = allN a ++ (allN b ++ (allN c ++ [])) := rfl
        rw [e, List.append_nil]
        refine words_cons_sub _ _ ?_
        rw [words_app]
        refine (ih a (by omega) ha 0 (by omega)).append (words_cons_sub _ _ ?_)
        rw [words_app]
        exact (ih b (by omega) hb 0 (by omega)).append (words_cons_sub _ _ (ih c (by omega) hc 0 (by omega)))
    intro x hk hr lev h7
    by_cases hlt : lvl x.op < lev
    · rw [tk_paren hlt]
      refine words_cons_sub _ _ ?_
      rw [words_app]
      exact (own x hk hr 0 (Nat.zero_le _)).trans (List.sublist_append_left _ _)
    · exact own x hk hr lev (by omega)
/-- each is a name -/
theorem names_name : ∀ (k : Nat) (x : X), size x ≤ k → right x = true → ∀ s ∈ allN x, Lx.nameB s = true := by
  intro k
  induction k with
  | zero => intro x hk; have := size_pos x; omega
  | succ k ih =>
    intro x hk hr s hs
    cases form_of hr with
    | val v h hn => cases hs
    | name s' h =>
      have : s ∈ [s'] ++ [] := hs
      simp at this; subst this; exact h
    | neg a h =>
      have hsz : size (.mk 3 Vl.no Vl.mt [a]) = 1 + (size a + 0) := rfl
      have : s ∈ allN a ++ [] := hs
      rw [List.append_nil] at this
      exact ih a (by omega) h s this
    | bin op a b h4 h15 ha hb =>
      have hsz : size (bin op a b) = 1 + (size a + (size b + 0)) := rfl
      have : s ∈ (if op = 2 then [Vl.mt] else []) ++ (allN a ++ (allN b ++ [])) := hs
      rw [if_neg (by omega), List.append_nil, List.nil_append, List.mem_append] at this
      rcases this with h | h
      · exact ih a (by omega) ha s h
      · exact ih b (by omega) hb s h
    | cond a b c ha hb hc =>
      have hsz : size (.mk 16 Vl.no Vl.mt [a, b, c]) = 1 + (size a + (size b + (size c + 0))) := rfl
      have : s ∈ allN a ++ (allN b ++ (allN c ++ [])) := hs
      rw [List.append_nil, List.mem_append, List.mem_append] at this
      rcases this with h | h | h
      · exact ih a (by omega) ha s h
      · exact ih b (by omega) hb s h
      · exact ih c (by omega) hc s h
theorem names_are (x : X) (hr : right x = true) : ∀ s ∈ names x, Lx.nameB s = true := fun s hs => names_name _ x (Nat.le_refl _) hr s ((names_sub x).subset hs)
/-- going through the words one finds the names, one behind the other -/
def scan : List ByteArray → List ByteArray → List ByteArray
  | [], ns => ns
  | _ :: _, [] => []
  | w :: ws, m :: ns => if w = m then scan ws ns else scan ws (m :: ns)
theorem scan_nil (ws : List ByteArray) : scan ws [] = [] := by cases ws <;> rfl
theorem scan_sub : ∀ (ws ns : List ByteArray), ns.Sublist ws → scan ws ns = []
  | [], ns, h => by rw [List.sublist_nil.1 h]; rfl
  | w :: ws, [], _ => rfl
  | w :: ws, m :: ns, h => by
    rw [scan]
    by_cases e : w = m
    · rw [if_pos e]
      subst e
      exact scan_sub ws ns (List.cons_sublist_cons.1 h)
    · rw [if_neg e]
      refine scan_sub ws _ ?_
      cases h with
      | cons _ h => exact h
      | cons_cons _ _ => exact absurd rfl e
end Sx
end Go.Proofs.YtmkllibfblacfaaDoor

/-
  Layer 14: an expression in memory.
-/
namespace Go.Proofs.YtmkllibfblacfaaDoor
open Go.RowKit
open Sx (X)
/-- an expression's cells, with where its list lies -/
abbrev xC (x : X) (a : Option Addr) (c : Nat) : Array Value := #[.int .i64 x.op, .int .i64 x.v.kind, .int .i64 x.v.n, .string x.v.s, .string x.s, .slice a x.l.length c]
abbrev xV (x : X) (a : Option Addr) (c : Nat) : Value := .agg (xC x a c)
theorem info_expr : (Tryd.prog.info? 35).map (·.size) = some 6 := by kernel_rfl
/-- the six cells at a place -/
def Cells6 (w : World) (b o : Nat) (x : X) (a : Option Addr) (c : Nat) : Prop :=
  w.cell? ⟨b, o, none⟩ = some (.int .i64 x.op) ∧ w.cell? ⟨b, o + 1, none⟩ = some (.int .i64 x.v.kind) ∧ w.cell? ⟨b, o + 2, none⟩ = some (.int .i64 x.v.n) ∧ w.cell? ⟨b, o + 3, none⟩ = some (.string x.v.s) ∧ w.cell? ⟨b, o + 4, none⟩ = some (.string x.s) ∧ w.cell? ⟨b, o + 5, none⟩ = some (.slice a x.l.length c)
theorem cells6_only {F : Nat → Prop} {w w' : World} {b o : Nat} {x : X} {a : Option Addr} {c : Nat} (h : Cells6 w b o x a c) (ho : Only F w w') (hn : ¬ F b) : Cells6 w' b o x a c := by
  have hl := fun {p : Addr} {v : Value} (hc : w.cell? p = some v) => World.block_lt_of_cell? w p hc
  obtain ⟨h1, h2, h3, h4, h5, h6⟩ := h
  exact ⟨(ho.cell (hl h1) hn).trans h1, (ho.cell (hl h2) hn).trans h2, (ho.cell (hl h3) hn).trans h3, (ho.cell (hl h4) hn).trans h4, (ho.cell (hl h5) hn).trans h5, (ho.cell (hl h6) hn).trans h6⟩
mutual
/-- what stands below an expression whose list lies at ad: in blocks of S -/
def XAt (w : World) (S : Nat → Prop) : X → Option Addr → Prop
  | .mk _ _ _ l, ad => l = [] ∨ ∃ b o, ad = some ⟨b, o, none⟩ ∧ S b ∧ LAt w S l b o
def LAt (w : World) (S : Nat → Prop) : List X → Nat → Nat → Prop
  | [], _, _ => True
  | x :: r, b, o => (∃ a c, Cells6 w b o x a c ∧ XAt w S x a) ∧ LAt w S r b (o + 6)
end
mutual
theorem xat_only {F : Nat → Prop} {w w' : World} {S : Nat → Prop} (ho : Only F w w') (hn : ∀ j, S j → ¬ F j) : ∀ (x : X) (ad : Option Addr), XAt w S x ad → XAt w' S x ad
  | .mk _ _ _ l, ad, h => by
    rw [XAt] at h ⊢
    rcases h with h | ⟨b, o, h1, h2, h3⟩
    · exact .inl h
    · exact .inr ⟨b, o, h1, h2, lat_only ho hn l b o h2 h3⟩
theorem lat_only {F : Nat → Prop} {w w' : World} {S : Nat → Prop} (ho : Only F w w') (hn : ∀ j, S j → ¬ F j) : ∀ (l : List X) (b o : Nat), S b → LAt w S l b o → LAt w' S l b o
  | [], _, _, _, _ => by rw [LAt]; trivial
  | x :: r, b, o, hb, h => by
    rw [LAt] at h ⊢
    obtain ⟨⟨a, c, h1, h2⟩, h3⟩ := h
    exact ⟨⟨a, c, cells6_only h1 ho (hn b hb), xat_only ho hn x a h2⟩, lat_only ho hn r b (o + 6) hb h3⟩
end
mutual
theorem xat_mono {w : World} {S S' : Nat → Prop} (hs : ∀ j, S j → S' j) : ∀ (x : X) (ad : Option Addr), XAt w S x ad → XAt w S' x ad
  | .mk _ _ _ l, ad, h => by
    rw [XAt] at h ⊢
    rcases h with h | ⟨b, o, h1, h2, h3⟩
    · exact .inl h
    · exact .inr ⟨b, o, h1, hs b h2, lat_mono hs l b o h3⟩
theorem lat_mono {w : World} {S S' : Nat → Prop} (hs : ∀ j, S j → S' j) : ∀ (l : List X) (b o : Nat), LAt w S l b o → LAt w S' l b o
  | [], _, _, _ => by rw [LAt]; trivial
  | x :: r, b, o, h => by
    rw [LAt] at h ⊢
    obtain ⟨⟨a, c, h1, h2⟩, h3⟩ := h
    exact ⟨⟨a, c, h1, xat_mono hs x a h2⟩, lat_mono hs r b (o + 6) h3⟩
end
theorem xat_below {w w' : World} {S : Nat → Prop} {x : X} {ad : Option Addr} (h : XAt w S x ad) (hb : Below w.heap.size w w') : XAt w' S x ad :=
  xat_only (Only.of_none (F := fun _ => False) hb) (fun _ _ h => h) x ad h
theorem lat_at {w : World} {S : Nat → Prop} : ∀ (l : List X) (b o : Nat), LAt w S l b o → ∀ i (h : i < l.length), ∃ a c, Cells6 w b (o + i * 6) l[i] a c ∧ XAt w S l[i] a
  | [], _, _, _, i, h => absurd h (Nat.not_lt_zero _)
  | x :: r, b, o, hl, i, h => by
    rw [LAt] at hl
    match i, h with
    | 0, _ => simpa using hl.1
    | i + 1, h =>
      have hi : i < r.length := by simpa using h
      obtain ⟨a, c, h1, h2⟩ := lat_at r b (o + 6) hl.2 i hi
      refine ⟨a, c, ?_, h2⟩
      rw [show o + (i + 1) * 6 = o + 6 + i * 6 by omega]
      exact h1
/-- the i-th below an expression -/
theorem xat_at {w : World} {S : Nat → Prop} {x : X} {ad : Option Addr} (h : XAt w S x ad) (i : Nat) (hi : i < x.l.length) : ∃ b o a c, ad = some ⟨b, o, none⟩ ∧ Cells6 w b (o + i * 6) x.l[i] a c ∧ XAt w S x.l[i] a := by
  obtain ⟨op, v, s, l⟩ := x
  rw [XAt] at h
  rcases h with h | ⟨b, o, h1, _, h3⟩
  · subst h; exact absurd hi (Nat.not_lt_zero _)
  · obtain ⟨a, c, h4, h5⟩ := lat_at l b o h3 i hi
    exact ⟨b, o, a, c, h1, h4, h5⟩
theorem xat_no (w : World) (S : Nat → Prop) (ad : Option Addr) : XAt w S Sx.no ad := by rw [Sx.no, XAt]; exact .inl rfl
/-- in a new box -/
theorem x_new (x : X) (a : Option Addr) (c : Nat) (w : World) : RowV (w.alloc (.cells (xC x a c) 35)) w.heap.size 35 (xC x a c).toList ∧ Below w.heap.size w (w.alloc (.cells (xC x a c) 35)) ∧ (w.alloc (.cells (xC x a c) 35)).heap.size = w.heap.size + 1 :=
  ⟨rowV_new w _ [_, _, _, _, _, _], (Below.refl w.heap.size w).alloc (Nat.le_refl _) _, World.size_alloc _ _⟩
theorem x_cells {w : World} {g : Nat} {x : X} {a : Option Addr} {c : Nat} (h : RowV w g 35 (xC x a c).toList) : Cells6 w g 0 x a c :=
  ⟨rowV_cell h 0, rowV_cell h 1, rowV_cell h 2, rowV_cell h 3, rowV_cell h 4, rowV_cell h 5⟩
/-- the box, whatever was made since -/
theorem x_box {x : X} {a : Option Addr} {c : Nat} {w w1 : World} (hb : Below (w.alloc (.cells (xC x a c) 35)).heap.size (w.alloc (.cells (xC x a c) 35)) w1) : RowV w1 w.heap.size 35 (xC x a c).toList ∧ Below w.heap.size w w1 := by
  obtain ⟨r, b, s⟩ := x_new x a c w
  exact ⟨rowV_below r hb (by rw [s]; omega), b.trans (hb.mono (by rw [s]; omega))⟩
/-- the i-th of a list is less deep -/
theorem Sx.deepL_at : ∀ (l : List X) (i : Nat) (h : i < l.length), Sx.deep l[i] ≤ Sx.deepL l
  | [], i, h => absurd h (Nat.not_lt_zero _)
  | x :: r, 0, _ => by rw [Sx.deepL]; exact Nat.le_max_left _ _
  | x :: r, i + 1, h => by
    have := Sx.deepL_at r i (by simpa using h)
    rw [Sx.deepL, List.getElem_cons_succ]; omega
theorem Sx.deep_at {x : X} {i : Nat} (h : i < x.l.length) : Sx.deep x.l[i] < Sx.deep x := by
  obtain ⟨op, v, s, l⟩ := x
  have := Sx.deepL_at l i h
  rw [Sx.deep]
  show Sx.deep l[i] < _
  omega
theorem Sx.deep_pos (x : X) : 1 ≤ Sx.deep x := by
  obtain ⟨_, _, _, _⟩ := x
  rw [Sx.deep]; omega
mutual
/-- numbers are ints, texts and lists are not too long -/
def Sx.okX : X → Prop
  | .mk _ v s l => (-9223372036854775808 ≤ v.n ∧ v.n ≤ 9223372036854775807) ∧ v.s.size ≤ maxLen ∧ s.size ≤ maxLen ∧ l.length ≤ maxLen ∧ Sx.okL l
def Sx.okL : List X → Prop
  | [] => True
  | x :: r => Sx.okX x ∧ Sx.okL r
end
theorem Sx.okL_at : ∀ (l : List X), Sx.okL l → ∀ i (h : i < l.length), Sx.okX l[i]
  | [], _, i, h => absurd h (Nat.not_lt_zero _)
  | x :: r, hk, 0, _ => by rw [Sx.okL] at hk; exact hk.1
  | x :: r, hk, i + 1, h => by rw [Sx.okL] at hk; exact Sx.okL_at r hk.2 i (by simpa using h)
theorem Sx.okX_at {x : X} (h : Sx.okX x) {i : Nat} (hi : i < x.l.length) : Sx.okX x.l[i] := by
  obtain ⟨op, v, s, l⟩ := x
  rw [Sx.okX] at h
  exact Sx.okL_at l h.2.2.2.2 i hi
theorem Sx.okX_is {x : X} (h : Sx.okX x) : (-9223372036854775808 ≤ x.v.n ∧ x.v.n ≤ 9223372036854775807) ∧ x.v.s.size ≤ maxLen ∧ x.s.size ≤ maxLen ∧ x.l.length ≤ maxLen := by
  obtain ⟨op, v, s, l⟩ := x
  rw [Sx.okX] at h
  exact ⟨h.1, h.2.1, h.2.2.1, h.2.2.2.1⟩
end Go.Proofs.YtmkllibfblacfaaDoor

/-
  Layer 13, plain mathematics: what strconv.Atoi makes of digits; names and digits as runs of bytes.
-/
namespace Go.Proofs.YtmkllibfblacfaaDoor.Lx
open Vl (val)
theorem val_ge : ∀ (l : List UInt8) (a : Nat), a ≤ val l a
  | [], a => Nat.le_refl _
  | b :: l, a => Nat.le_trans (by omega) (val_ge l (a * 10 + (b.toNat - 48)))
theorem pu10 : ∀ (l : List UInt8) (a : Nat), (∀ b ∈ l, digit b = true) → a < 18446744073709551616 → Lib.parseUint10 a l = if 18446744073709551616 ≤ val l a then .range else .ok (val l a)
  | [], a, _, ha => by
    show Lib.NumEnd.ok a = _
    rw [if_neg (by show ¬ 18446744073709551616 ≤ a; omega)]; rfl
  | c :: r, a, h, ha => by
    have hc := (digit_iff c).1 (h c (by simp))
    have hg := val_ge r (a * 10 + (c.toNat - 48))
    have ev : val (c :: r) a = val r (a * 10 + (c.toNat - 48)) := rfl
    rw [Lib.parseUint10, if_pos hc, ev]
    by_cases h1 : 1844674407370955162 ≤ a
    · rw [if_pos h1, if_pos (by omega)]
    · rw [if_neg h1]
      by_cases h2 : 18446744073709551616 ≤ a * 10 + (c.toNat - 48)
      · rw [if_pos h2, if_pos (by omega)]
      · rw [if_neg h2, pu10 r _ (fun b hb => h b (by simp [hb])) (by omega)]
theorem atoi_digits (l : List UInt8) (hne : l ≠ []) (h : ∀ b ∈ l, digit b = true) : Lib.atoiAll l = if maxI < val l 0 then .range else .ok (val l 0 : Nat) := by
  cases l with
  | nil => exact absurd rfl hne
  | cons c r =>
    have hc := (digit_iff c).1 (h c (by simp))
    have e43 : ¬ c.toNat = 43 := by omega
    have e45 : ¬ c.toNat = 45 := by omega
    have e : Lib.parseMag (c :: r) = if 18446744073709551616 ≤ val (c :: r) 0 then .range else .ok (val (c :: r) 0) := by
      unfold Lib.parseMag; rw [if_neg (by simp), pu10 _ 0 h (by omega)]
    unfold Lib.atoiAll
    simp only [e43, e45, or_self, if_false, not_false_eq_true, true_and, false_and, e]
    unfold maxI
    by_cases h1 : 18446744073709551616 ≤ val (c :: r) 0
    · rw [if_pos h1, if_pos (by omega)]
    · rw [if_neg h1]
      by_cases h2 : 9223372036854775808 ≤ val (c :: r) 0
      · simp only [h2, if_true]; rw [if_pos (by omega)]
      · simp only [h2, if_false]; rw [if_neg (by omega)]
/-- a byte that a name may have -/
def inName (c : UInt8) : Bool := letter c || digit c
theorem word_true : ∀ l : List UInt8, word true l = (l.takeWhile inName).length
  | [] => rfl
  | c :: r => by
    have ih := word_true r
    rw [word, List.takeWhile_cons]
    by_cases h : (letter c || digit c) = true
    · rw [if_pos (by simpa using h), if_pos (show inName c = true from h), List.length_cons, ih]
    · rw [if_neg (by simpa using h), if_neg (show ¬ inName c = true from h)]; rfl
theorem word_run {c : UInt8} {r : List UInt8} (h : letter c = true) : word false (c :: r) = ((c :: r).takeWhile inName).length := by
  rw [word, if_pos (by rw [h]; rfl), List.takeWhile_cons, if_pos (show inName c = true by unfold inName; rw [h]; rfl), List.length_cons, word_true]
end Go.Proofs.YtmkllibfblacfaaDoor.Lx
