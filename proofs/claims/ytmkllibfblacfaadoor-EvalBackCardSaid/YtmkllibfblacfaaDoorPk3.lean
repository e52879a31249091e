/-
  Texts of the layers, part 3: LexProg, LexNum, Atoi, LexProg2, LexTxt, BldF, Pfx, LexProg3, QTail, NodQuiet, HTail, Plan, LexOne, LexProg4, LexProg5, Dump, DskArr, ListAt, AppOne, Slice1, LexAll, LexProg6, LexProgA.
-/
import Derived.Test.YtmkllibfblacfaaDoorPk2
import Derived.Shelf.Abstract
import Derived.Shelf.Strconv.AtoiAll
import Derived.Test.YtmkllibfblacfaaDoorProg
import Derived.WalkKit
import Derived.Lib.AtoiAllCases
import Derived.Shelf.Strings.BuilderRune
import Derived.Shelf.Strings.Prefix
import Derived.Shelf.Strings.BuilderF
import Derived.BigQuiet
import Derived.Test.YtmkllibfblacfaaDoorPk1
import Derived.StillTail
import Derived.Deep.Quiet
import Derived.OrdersHeld
import Derived.Laws.Tables
import Derived.SliceStrings
import Derived.Deep.MidRow
import Derived.ChangeKeysEq
import Derived.Laws.MakeOwn
import Derived.Deep.DeepAppendWide
import Derived.ArgAppend
import Derived.Deep.AppendLies
import Derived.Great.FillDense
import Derived.Great.BuildSlice
import Derived.Deep.LoopGhost
import Derived.Deep.Cut
/-
  Layer 13, the program's: letters, digits, runs of bytes, names.
-/
namespace Go.Proofs.YtmkllibfblacfaaDoor
open Go.RowKit
set_option maxRecDepth 100000 in
theorem digit13_any (c : UInt8) (w : World) : Calls Tryd.prog 38 #[.int .u8 (c.toNat : Int)] w fun e w' => e = .returned (.bool (Lx.digit c)) ∧ w' = w := by
  have hc := c.toNat_lt
  by_cases h1 : (c.toNat : Int) ≥ 48
  · go_enter Tryd.func38, Tryd.ntmps38
    go_wp2_with fail
    go_ret
    exact ⟨ret_bool (by unfold Lx.digit; rw [decide_eq_true (show 48 ≤ c.toNat by omega), Bool.true_and]; exact decide_eq_decide.2 (by omega)), rfl⟩
  · go_enter Tryd.func38, Tryd.ntmps38
    go_wp2_with fail
    go_ret
    exact ⟨ret_bool (by unfold Lx.digit; rw [decide_eq_false (show ¬ 48 ≤ c.toNat by omega), Bool.false_and]), rfl⟩
set_option maxRecDepth 100000 in
set_option maxHeartbeats 1600000 in
theorem letter13_any (c : UInt8) (w : World) : Calls Tryd.prog 36 #[.int .u8 (c.toNat : Int)] w fun e w' => e = .returned (.bool (Lx.letter c)) ∧ w' = w := by
  have hc := c.toNat_lt
  by_cases h0 : c.toNat = 95
  · rw [letter_yes (.inr (.inr h0))]
    have t0 : ((c.toNat : Int) == 95) = true := by rw [h0]; rfl
    clear h0
    go_enter Tryd.func36, Tryd.ntmps36
    go_wp2_with fail
    go_ret
    exact ⟨rfl, rfl⟩
  · have t0 : ((c.toNat : Int) == 95) = false := by simp; omega
    by_cases h1 : 97 ≤ c.toNat ∧ c.toNat ≤ 122
    · rw [letter_yes (.inl h1)]
      have g1 : decide (97 ≤ (c.toNat : Int)) = true := decide_eq_true (by omega)
      have g2 : decide ((c.toNat : Int) ≤ 122) = true := decide_eq_true (by omega)
      clear h1 h0
      go_enter Tryd.func36, Tryd.ntmps36
      go_wp2_with fail
      go_ret
      exact ⟨rfl, rfl⟩
    · have g1 : decide (97 ≤ (c.toNat : Int)) = false ∨ (decide (97 ≤ (c.toNat : Int)) = true ∧ decide ((c.toNat : Int) ≤ 122) = false) := by
        by_cases h : 97 ≤ c.toNat
        · exact .inr ⟨decide_eq_true (by omega), decide_eq_false (by omega)⟩
        · exact .inl (decide_eq_false (by omega))
      by_cases h2 : 65 ≤ c.toNat ∧ c.toNat ≤ 90
      · rw [letter_yes (.inr (.inl h2))]
        have g2 : decide (65 ≤ (c.toNat : Int)) = true := decide_eq_true (by omega)
        have g3 : decide ((c.toNat : Int) ≤ 90) = true := decide_eq_true (by omega)
        clear h1 h2 h0
        rcases g1 with g1 | ⟨g1, g1'⟩
        all_goals go_enter Tryd.func36, Tryd.ntmps36
        all_goals go_wp2_with fail
        all_goals go_ret
        all_goals exact ⟨rfl, rfl⟩
      · have g2 : decide (65 ≤ (c.toNat : Int)) = false ∨ (decide (65 ≤ (c.toNat : Int)) = true ∧ decide ((c.toNat : Int) ≤ 90) = false) := by
          by_cases h : 65 ≤ c.toNat
          · exact .inr ⟨decide_eq_true (by omega), decide_eq_false (by omega)⟩
          · exact .inl (decide_eq_false (by omega))
        rw [letter_no (c := c) (by omega)]
        clear h1 h2 h0
        rcases g1 with g1 | ⟨g1, g1'⟩ <;> rcases g2 with g2 | ⟨g2, g2'⟩
        all_goals go_enter Tryd.func36, Tryd.ntmps36
        all_goals go_wp2_with fail
        all_goals go_ret
        all_goals exact ⟨rfl, rfl⟩
set_option maxRecDepth 100000 in
theorem inName13_any (c : UInt8) (w : World) : Calls Tryd.prog 51 #[.int .u8 (c.toNat : Int)] w fun e w' => e = .returned (.bool (Lx.inName c)) ∧ w' = w := by
  have cL := fun w => letter13_any c w
  have cD := fun w => digit13_any c w
  unfold Lx.inName
  cases hL : Lx.letter c with
  | true =>
    rw [hL] at cL
    have H := Lib.hid cL
    clear cL cD hL
    go_enter Tryd.func51, Tryd.ntmps51
    go_wp2_with (go_at_call 36; refine (H.out _).mono ?_; rintro e w1 ⟨rfl, rfl⟩)
    go_ret
    exact ⟨rfl, rfl⟩
  | false =>
    rw [hL] at cL
    generalize Lx.digit c = D at *
    have H := Lib.hid (And.intro cL cD)
    clear cL cD hL
    go_enter Tryd.func51, Tryd.ntmps51
    go_wp2_with (first | (go_at_call 36; refine (H.out.1 _).mono ?_; rintro e w1 ⟨rfl, rfl⟩) | (go_at_call 38; refine (H.out.2 _).mono ?_; rintro e w1 ⟨rfl, rfl⟩))
    go_ret
    exact ⟨rfl, rfl⟩
/-! runs -/
def RunTo (p : UInt8 → Bool) (s : ByteArray) (k : Nat) : Prop := (s.data.toList.takeWhile p).length = k + ((s.data.toList.drop k).takeWhile p).length
theorem runTo_start (p : UInt8 → Bool) (s : ByteArray) : RunTo p s 0 := by unfold RunTo; simp
theorem runTo_all {p : UInt8 → Bool} {s : ByteArray} {k : Nat} (h : RunTo p s k) (hk : k = s.size) : (s.data.toList.takeWhile p).length = k := by
  unfold RunTo at h
  rw [h, List.drop_eq_nil_of_le (by rw [Array.length_toList]; show s.size ≤ k; omega)]; rfl
theorem runTo_end {p : UInt8 → Bool} {s : ByteArray} {k : Nat} (h : RunTo p s k) (hk : k < s.size) (hc : p s[k] = false) : (s.data.toList.takeWhile p).length = k := by
  have hl : k < s.data.toList.length := by simpa using hk
  unfold RunTo at h
  rw [h, Oct.drop_at _ _ hl, show s.data.toList[k] = s[k] from rfl, List.takeWhile_cons, hc]; rfl
theorem runTo_next {p : UInt8 → Bool} {s : ByteArray} {k : Nat} (h : RunTo p s k) (hk : k < s.size) (hc : p s[k] = true) : RunTo p s (k + 1) := by
  have hl : k < s.data.toList.length := by simpa using hk
  unfold RunTo at h ⊢
  rw [h, Oct.drop_at _ _ hl, show s.data.toList[k] = s[k] from rfl, List.takeWhile_cons, hc]
  simp only [if_true, List.length_cons]; omega
set_option maxRecDepth 100000 in
set_option maxHeartbeats 1600000 in
theorem run13_any (F : Nat) (p : UInt8 → Bool) (hF : ∀ args w, (callFunc F args).run Tryd.prog w = .ok (.enter F args) w)
    (hp : ∀ (c : UInt8) (w : World), Calls Tryd.prog F #[.int .u8 (c.toNat : Int)] w fun e w' => e = .returned (.bool (p c)) ∧ w' = w) (s : ByteArray) (w : World) (hs : s.size ≤ maxLen) :
    Calls Tryd.prog 50 #[.string s, .func (.func F) #[] #[]] w fun e w' => e = .returned (.int .i64 ((s.data.toList.takeWhile p).length : Nat)) ∧ w' = w := by
  unfold maxLen at hs
  go_enter Tryd.func50, Tryd.ntmps50
  go_wp2
  go_loop [5] (fun i => ∃ k : Nat, i = .int .i64 (k : Int) ∧ k ≤ s.size ∧ Hid (RunTo p s k)) (fun i => s.size - (intOf i).toNat)
  case atStart => exact ⟨0, rfl, Nat.zero_le _, Lib.hid (runTo_start p s)⟩
  case round =>
    obtain ⟨k, rfl, hle, HW⟩ := hrel
    by_cases hlt : k < s.size
    · have cP := fun w => hp s[k] w
      cases hL : p s[k] with
      | true =>
        rw [hL] at cP
        have HN := Lib.hid (runTo_next HW.out hlt hL)
        have HC := Lib.hid cP
        clear cP hL hp
        go_wp2_with (go_at_fn F; refine (HC.out _).mono ?_; rintro e w1 ⟨rfl, rfl⟩)
        go_round
        case rel => exact ⟨k + 1, by go_num, by omega, HN⟩
        case measure => simp [intOf]; omega
      | false =>
        rw [hL] at cP
        have HE := Lib.hid (runTo_end HW.out hlt hL)
        have HC := Lib.hid cP
        clear cP hL hp
        go_wp2_with (go_at_fn F; refine (HC.out _).mono ?_; rintro e w1 ⟨rfl, rfl⟩)
        go_ret
        exact ⟨ret_int (by rw [HE.out]), rfl⟩
    · have HE := Lib.hid (runTo_all HW.out (by omega))
      clear hp
      go_wp2_with fail
      go_ret
      exact ⟨ret_int (by rw [HE.out]), rfl⟩
theorem enter_inName (args : Array Value) (w : World) : (callFunc 51 args).run Tryd.prog w = .ok (.enter 51 args) w := by kernel_rfl
theorem enter_digit (args : Array Value) (w : World) : (callFunc 38 args).run Tryd.prog w = .ok (.enter 38 args) w := by kernel_rfl
theorem run13_name (s : ByteArray) (w : World) (hs : s.size ≤ maxLen) :
    Calls Tryd.prog 50 #[.string s, .func (.func 51) #[] #[]] w fun e w' => e = .returned (.int .i64 ((s.data.toList.takeWhile Lx.inName).length : Nat)) ∧ w' = w :=
  run13_any _ _ enter_inName inName13_any s w hs
theorem run13_digit (s : ByteArray) (w : World) (hs : s.size ≤ maxLen) :
    Calls Tryd.prog 50 #[.string s, .func (.func 38) #[] #[]] w fun e w' => e = .returned (.int .i64 ((Lx.digs s.data.toList).length : Nat)) ∧ w' = w :=
  run13_any _ _ enter_digit digit13_any s w hs
/-! names -/
theorem nameT_run {s : ByteArray} (h0 : 0 < s.size) (hL : Lx.letter s[0] = true) : Lx.word false s.data.toList = (s.data.toList.takeWhile Lx.inName).length := by
  have hl : 0 < s.data.toList.length := by simpa using h0
  have e := Oct.drop_at s.data.toList 0 hl
  rw [List.drop_zero] at e
  rw [e]
  exact Lx.word_run hL
set_option maxRecDepth 100000 in
set_option maxHeartbeats 1600000 in
theorem name13_any (s : ByteArray) (w : World) (hs : s.size ≤ maxLen) (h0 : 0 < s.size) (hL : Lx.letter s[0] = true) :
    Calls Tryd.prog 37 #[.string s] w fun e w' => e = .returned (.tuple #[tokV (Lx.nameT s.data.toList).1, .int .i64 ((Lx.nameT s.data.toList).2.1 : Nat), .int .i64 (Lx.nameT s.data.toList).2.2]) ∧ Below w.heap.size w w' := by
  have cW := fun w => run13_name s w hs
  rw [← nameT_run h0 hL] at cW
  have hle := Lx.word_le false s.data.toList
  rw [Array.length_toList] at hle
  have hle2 : Lx.word false s.data.toList ≤ s.size := hle
  have hx := take_list s (Lx.word false s.data.toList)
  unfold Lx.nameT
  by_cases h16 : 16 < Lx.word false s.data.toList
  · rw [if_pos h16]
    simp only
    obtain ⟨r0, b0, s0⟩ := tok_new Lx.no w
    generalize Lx.word false s.data.toList = k at *
    obtain ⟨a0, a1, a2, a3, g0, g1, g2, g3⟩ := tok_cells r0
    have H := Lib.hid (And.intro cW (And.intro r0 (And.intro b0 s0)))
    clear cW r0 b0 s0 hx hle hL
    go_enter Tryd.func37, Tryd.ntmps37
    go_wp2_with (go_at_call 50; refine (H.out.1 _).mono ?_; rintro e w1 ⟨rfl, rfl⟩)
    exact bodyPost_ret (v := .tuple #[tokV Lx.no, .int .i64 0, .int .i64 5]) (results_tok (p := 2) (u := 3) (x := 4) rfl _ _ w.heap.size Lx.no rfl H.out.2.1) rfl ⟨rfl, H.out.2.2.1⟩
  · rw [if_neg h16]
    simp only
    rw [← hx]
    generalize Lx.word false s.data.toList = k at *
    obtain ⟨X, hX⟩ : ∃ X, X = s.extract 0 k := ⟨_, rfl⟩
    obtain ⟨r0, b0, s0⟩ := tok_new ⟨1, X, 0, 0⟩ w
    rw [← hX]
    have H := Lib.hid (And.intro cW (And.intro r0 (And.intro b0 s0)))
    have HX := Lib.hid hX
    clear cW r0 b0 s0 hx hle hX hL
    go_enter Tryd.func37, Tryd.ntmps37
    go_wp2_with (go_at_call 50; refine (H.out.1 _).mono ?_; rintro e w1 ⟨rfl, rfl⟩)
    rw [← HX.out]
    exact bodyPost_ret (v := .tuple #[tokV ⟨1, X, 0, 0⟩, .int .i64 (k : Int), .int .i64 0]) (results_tok (p := 2) (u := 3) (x := 4) rfl _ _ w.heap.size ⟨1, X, 0, 0⟩ rfl H.out.2.1) rfl ⟨rfl, H.out.2.2.1⟩
end Go.Proofs.YtmkllibfblacfaaDoor

/-
  Layer 13: the document's first token of a text: numbers.
-/
namespace Go.Proofs.YtmkllibfblacfaaDoor
open Go.RowKit
/-- k digits are told: v is what they say, or it is too much -/
structure NumTo (s : ByteArray) (k : Nat) (v : Nat) (over : Bool) : Prop where
  all : Lx.digs s.data.toList = s.data.toList.take k ++ Lx.digs (s.data.toList.drop k)
  le : k ≤ s.size
  most : v ≤ Lx.maxI
  is : over = decide (Lx.maxI < Vl.val (s.data.toList.take k) 0)
  eq : over = false → v = Vl.val (s.data.toList.take k) 0
theorem numTo_start (s : ByteArray) : NumTo s 0 0 false := ⟨by simp, Nat.zero_le _, by decide, by simp [Vl.val, Lx.maxI], fun _ => rfl⟩
theorem digs_cons_yes {c : UInt8} (r : List UInt8) (h : Lx.digit c = true) : Lx.digs (c :: r) = c :: Lx.digs r := by unfold Lx.digs; rw [List.takeWhile_cons, if_pos h]
theorem digs_cons_no {c : UInt8} (r : List UInt8) (h : Lx.digit c = false) : Lx.digs (c :: r) = [] := by unfold Lx.digs; rw [List.takeWhile_cons, h]; simp
theorem take_next (s : ByteArray) (k : Nat) (hk : k < s.size) : s.data.toList.take (k + 1) = s.data.toList.take k ++ [s[k]] := by
  have hl : k < s.data.toList.length := by simpa using hk
  rw [List.take_succ_eq_append_getElem hl]; rfl
theorem drop_next (s : ByteArray) (k : Nat) (hk : k < s.size) : s.data.toList.drop k = s[k] :: s.data.toList.drop (k + 1) := by
  have hl : k < s.data.toList.length := by simpa using hk
  exact Oct.drop_at _ _ hl
theorem numTo_digs {s : ByteArray} {k v : Nat} {over : Bool} (h : NumTo s k v over) (hk : k < s.size) (hd : Lx.digit s[k] = true) : Lx.digs s.data.toList = s.data.toList.take (k + 1) ++ Lx.digs (s.data.toList.drop (k + 1)) := by
  rw [h.all, drop_next s k hk, digs_cons_yes _ hd, take_next s k hk, List.append_assoc]; rfl
theorem val_next (s : ByteArray) (k : Nat) (hk : k < s.size) : Vl.val (s.data.toList.take (k + 1)) 0 = Vl.val (s.data.toList.take k) 0 * 10 + (s[k].toNat - 48) := by
  rw [take_next s k hk, Vl.val_append]; rfl
/-- it was too much, and is -/
theorem numTo_over {s : ByteArray} {k v : Nat} (h : NumTo s k v true) (hk : k < s.size) (hd : Lx.digit s[k] = true) : NumTo s (k + 1) v true := by
  have hi := of_decide_eq_true h.is.symm
  refine ⟨numTo_digs h hk hd, by omega, h.most, ?_, fun e => by cases e⟩
  rw [val_next s k hk]; symm; apply decide_eq_true; omega
/-- it is too much now -/
theorem numTo_much {s : ByteArray} {k v : Nat} (h : NumTo s k v false) (hk : k < s.size) (hd : Lx.digit s[k] = true) (hv : Lx.maxI < 10 * v + (s[k].toNat - 48)) : NumTo s (k + 1) v true := by
  refine ⟨numTo_digs h hk hd, by omega, h.most, ?_, fun e => by cases e⟩
  rw [val_next s k hk, ← h.eq rfl]; symm; apply decide_eq_true; omega
theorem numTo_more {s : ByteArray} {k v : Nat} (h : NumTo s k v false) (hk : k < s.size) (hd : Lx.digit s[k] = true) (hv : ¬ Lx.maxI < 10 * v + (s[k].toNat - 48)) : NumTo s (k + 1) (10 * v + (s[k].toNat - 48)) false := by
  refine ⟨numTo_digs h hk hd, by omega, by omega, ?_, fun _ => ?_⟩
  · rw [val_next s k hk, ← h.eq rfl]; symm; apply decide_eq_false; omega
  · rw [val_next s k hk, ← h.eq rfl]; omega
/-- where the digits end -/
theorem numTo_end {s : ByteArray} {k v : Nat} {over : Bool} (h : NumTo s k v over) (he : ∀ hk : k < s.size, Lx.digit s[k] = false) : Lx.digs s.data.toList = s.data.toList.take k ∧ (Lx.digs s.data.toList).length = k := by
  have h1 : Lx.digs s.data.toList = s.data.toList.take k := by
    rw [h.all]
    by_cases hk : k < s.size
    · rw [drop_next s k hk, digs_cons_no _ (he hk), List.append_nil]
    · rw [List.drop_eq_nil_of_le (by rw [Array.length_toList]; show s.size ≤ k; omega)]; exact List.append_nil _
  refine ⟨h1, ?_⟩
  rw [h1, List.length_take, Array.length_toList]
  have := h.le
  show min k s.size = k
  omega
theorem head_at0 (s : ByteArray) (h : 0 < s.size) : s.data.toList.head? = some s[0] := by
  have := drop_next s 0 h
  rw [List.drop_zero] at this
  rw [this]; rfl
/-- what the number's loop ends in -/
theorem num_syntax {s : ByteArray} {k v : Nat} {over : Bool} (h : NumTo s k v over) (he : ∀ hk : k < s.size, Lx.digit s[k] = false) (h1 : 1 < k) (h0 : 0 < s.size) (hz : s[0] = 48) : Lx.numT s.data.toList = (Lx.no, 0, 11) := by
  obtain ⟨_, e2⟩ := numTo_end h he
  unfold Lx.numT; rw [if_pos ⟨by omega, by rw [head_at0 s h0, hz]⟩]
theorem num_over {s : ByteArray} {k v : Nat} (h : NumTo s k v true) (he : ∀ hk : k < s.size, Lx.digit s[k] = false) (hz : ¬ (1 < k ∧ ∃ h0 : 0 < s.size, s[0] = 48)) : Lx.numT s.data.toList = (Lx.no, 0, 15) := by
  obtain ⟨e1, e2⟩ := numTo_end h he
  have hi := of_decide_eq_true h.is.symm
  unfold Lx.numT
  rw [if_neg, if_pos (by rw [e1]; exact hi)]
  rintro ⟨a, b⟩
  have h0 : 0 < s.size := by have := h.le; omega
  rw [head_at0 s h0] at b
  exact hz ⟨by omega, h0, by injection b⟩
theorem num_ok {s : ByteArray} {k v : Nat} (h : NumTo s k v false) (he : ∀ hk : k < s.size, Lx.digit s[k] = false) (hz : ¬ (1 < k ∧ ∃ h0 : 0 < s.size, s[0] = 48)) : Lx.numT s.data.toList = (⟨2, Vl.mt, (v : Nat), 0⟩, k, 0) := by
  obtain ⟨e1, e2⟩ := numTo_end h he
  have hi := of_decide_eq_false h.is.symm
  unfold Lx.numT
  rw [if_neg, if_neg (by rw [e1]; exact hi), e2, e1, ← h.eq rfl]
  rintro ⟨a, b⟩
  have h0 : 0 < s.size := by have := h.le; omega
  rw [head_at0 s h0] at b
  exact hz ⟨by omega, h0, by injection b⟩
end Go.Proofs.YtmkllibfblacfaaDoor

/-
  strconv.Atoi: the library's contract at this program's own numbers: what spells an int, and what spells a number that no int holds.
-/
namespace Go.Proofs
open Go.Shelf
def Tryd.ato_ren : Go.Shelf.Ren := ⟨fun | 129 => 93 | 171 => 83 | 172 => 52 | 205 => 82 | 243 => 86 | 244 => 66 | 245 => 67 | 246 => 87 | 247 => 73 | 279 => 74 | 280 => 75 | 281 => 76 | 282 => 77 | 283 => 88 | 284 => 89 | 285 => 90 | 286 => 91 | 287 => 80 | 316 => 81 | 317 => 92 | 318 => 94 | 319 => 95 | 320 => 96 | 321 => 84 | 322 => 85 | 337 => 97 | 338 => 98 | n => n, fun | 0 => 0 | 2 => 2 | 3 => 3 | 4 => 4 | 5 => 5 | 9 => 9 | 20 => 20 | 21 => 21 | 37 => 99 | 46 => 130 | 51 => 149 | 53 => 127 | 75 => 95 | 76 => 96 | 80 => 103 | 85 => 120 | 127 => 116 | 143 => 137 | 145 => 139 | 167 => 119 | 168 => 122 | 171 => 141 | 173 => 144 | 175 => 128 | 210 => 133 | 212 => 148 | 213 => 150 | 232 => 153 | 233 => 154 | n => n, fun | 15 => 1 | 16 => 2 | 17 => 3 | 18 => 4 | 19 => 5 | n => n⟩
theorem Tryd.ato172 : Go.Proofs.LaysC.n172 Tryd.prog Tryd.ato_ren := {
  mixed := by kernel_rfl
  f129 := Tryd.func93.trans (congrArg some (by kernel_rfl))
  f171 := Tryd.func83.trans (congrArg some (by kernel_rfl))
  f172 := Tryd.func52.trans (congrArg some (by kernel_rfl))
  f205 := Tryd.func82.trans (congrArg some (by kernel_rfl))
  f243 := Tryd.func86.trans (congrArg some (by kernel_rfl))
  f244 := Tryd.func66.trans (congrArg some (by kernel_rfl))
  f245 := Tryd.func67.trans (congrArg some (by kernel_rfl))
  f246 := Tryd.func87.trans (congrArg some (by kernel_rfl))
  f247 := Tryd.func73.trans (congrArg some (by kernel_rfl))
  f279 := Tryd.func74.trans (congrArg some (by kernel_rfl))
  f280 := Tryd.func75.trans (congrArg some (by kernel_rfl))
  f281 := Tryd.func76.trans (congrArg some (by kernel_rfl))
  f282 := Tryd.func77.trans (congrArg some (by kernel_rfl))
  f283 := Tryd.func88.trans (congrArg some (by kernel_rfl))
  f284 := Tryd.func89.trans (congrArg some (by kernel_rfl))
  f285 := Tryd.func90.trans (congrArg some (by kernel_rfl))
  f286 := Tryd.func91.trans (congrArg some (by kernel_rfl))
  f287 := Tryd.func80.trans (congrArg some (by kernel_rfl))
  f316 := Tryd.func81.trans (congrArg some (by kernel_rfl))
  f317 := Tryd.func92.trans (congrArg some (by kernel_rfl))
  f318 := Tryd.func94.trans (congrArg some (by kernel_rfl))
  f319 := Tryd.func95.trans (congrArg some (by kernel_rfl))
  f320 := Tryd.func96.trans (congrArg some (by kernel_rfl))
  f321 := Tryd.func84.trans (congrArg some (by kernel_rfl))
  f322 := Tryd.func85.trans (congrArg some (by kernel_rfl))
  f337 := Tryd.func97.trans (congrArg some (by kernel_rfl))
  f338 := Tryd.func98.trans (congrArg some (by kernel_rfl))
  t0 := Tryd.underlying0
  a0 := Tryd.isAgg0
  z0 := Tryd.sizeOf0
  v0 := Tryd.zeroValue0
  t2 := Tryd.underlying2
  a2 := Tryd.isAgg2
  z2 := Tryd.sizeOf2
  v2 := Tryd.zeroValue2
  t3 := Tryd.underlying3
  a3 := Tryd.isAgg3
  z3 := Tryd.sizeOf3
  v3 := Tryd.zeroValue3
  t4 := Tryd.underlying4
  a4 := Tryd.isAgg4
  z4 := Tryd.sizeOf4
  v4 := Tryd.zeroValue4
  t5 := Tryd.underlying5
  a5 := Tryd.isAgg5
  z5 := Tryd.sizeOf5
  v5 := Tryd.zeroValue5
  t9 := Tryd.underlying9
  a9 := Tryd.isAgg9
  z9 := Tryd.sizeOf9
  v9 := Tryd.zeroValue9
  t20 := Tryd.underlying20
  a20 := Tryd.isAgg20
  z20 := Tryd.sizeOf20
  v20 := Tryd.zeroValue20
  t21 := Tryd.underlying21
  a21 := Tryd.isAgg21
  z21 := Tryd.sizeOf21
  v21 := Tryd.zeroValue21
  t37 := Tryd.underlying99
  a37 := Tryd.isAgg99
  z37 := Tryd.sizeOf99
  v37 := Tryd.zeroValue99
  t46 := Tryd.underlying130
  a46 := Tryd.isAgg130
  z46 := Tryd.sizeOf130
  v46 := Tryd.zeroValue130
  t51 := Tryd.underlying149
  a51 := Tryd.isAgg149
  z51 := Tryd.sizeOf149
  v51 := Tryd.zeroValue149
  t53 := Tryd.underlying127
  a53 := Tryd.isAgg127
  z53 := Tryd.sizeOf127
  v53 := Tryd.zeroValue127
  t75 := Tryd.underlying95
  a75 := Tryd.isAgg95
  z75 := Tryd.sizeOf95
  v75 := Tryd.zeroValue95
  t76 := Tryd.underlying96
  a76 := Tryd.isAgg96
  z76 := Tryd.sizeOf96
  v76 := Tryd.zeroValue96
  t85 := Tryd.underlying120
  a85 := Tryd.isAgg120
  z85 := Tryd.sizeOf120
  v85 := Tryd.zeroValue120
  t127 := Tryd.underlying116
  a127 := Tryd.isAgg116
  z127 := Tryd.sizeOf116
  v127 := Tryd.zeroValue116
  t143 := Tryd.underlying137
  a143 := Tryd.isAgg137
  z143 := Tryd.sizeOf137
  v143 := Tryd.zeroValue137
  t145 := Tryd.underlying139
  a145 := Tryd.isAgg139
  z145 := Tryd.sizeOf139
  v145 := Tryd.zeroValue139
  t167 := Tryd.underlying119
  a167 := Tryd.isAgg119
  z167 := Tryd.sizeOf119
  v167 := Tryd.zeroValue119
  t168 := Tryd.underlying122
  a168 := Tryd.isAgg122
  z168 := Tryd.sizeOf122
  v168 := Tryd.zeroValue122
  t171 := Tryd.underlying141
  a171 := Tryd.isAgg141
  z171 := Tryd.sizeOf141
  v171 := Tryd.zeroValue141
  t173 := Tryd.underlying144
  a173 := Tryd.isAgg144
  z173 := Tryd.sizeOf144
  v173 := Tryd.zeroValue144
  t175 := Tryd.underlying128
  a175 := Tryd.isAgg128
  z175 := Tryd.sizeOf128
  v175 := Tryd.zeroValue128
  t210 := Tryd.underlying133
  a210 := Tryd.isAgg133
  z210 := Tryd.sizeOf133
  v210 := Tryd.zeroValue133
  t212 := Tryd.underlying148
  a212 := Tryd.isAgg148
  z212 := Tryd.sizeOf148
  v212 := Tryd.zeroValue148
  t213 := Tryd.underlying150
  a213 := Tryd.isAgg150
  z213 := Tryd.sizeOf150
  t232 := Tryd.underlying153
  a232 := Tryd.isAgg153
  z232 := Tryd.sizeOf153
  v232 := Tryd.zeroValue153
  t233 := Tryd.underlying154
  a233 := Tryd.isAgg154
  z233 := Tryd.sizeOf154
  v233 := Tryd.zeroValue154
  g15 := by kernel_rfl
  g16 := by kernel_rfl
  g17 := by kernel_rfl
  g18 := by kernel_rfl
  g19 := by kernel_rfl
  t80 := Tryd.underlying103
  a80 := Tryd.isAgg103
  z80 := Tryd.sizeOf103
  v80 := Tryd.zeroValue103
  i0 := by kernel_rfl
  i2 := by kernel_rfl
  i3 := by kernel_rfl
  i4 := by kernel_rfl
  i5 := by kernel_rfl
  i9 := by kernel_rfl
  i20 := by kernel_rfl
  i21 := by kernel_rfl
  i37 := by kernel_rfl
  i46 := by kernel_rfl
  i51 := by kernel_rfl
  i53 := by kernel_rfl
  i75 := by kernel_rfl
  i76 := by kernel_rfl
  i80 := by kernel_rfl
  i85 := by kernel_rfl
  i127 := by kernel_rfl
  i143 := by kernel_rfl
  i145 := by kernel_rfl
  i167 := by kernel_rfl
  i168 := by kernel_rfl
  i171 := by kernel_rfl
  i173 := by kernel_rfl
  i175 := by kernel_rfl
  i210 := by kernel_rfl
  i212 := by kernel_rfl
  i232 := by kernel_rfl
  i233 := by kernel_rfl
  m15 := by kernel_rfl
  m16 := by kernel_rfl
  m17 := by kernel_rfl
  m18 := by kernel_rfl
  m19 := by kernel_rfl
  c0 := by kernel_rfl
  c2 := by kernel_rfl
  c3 := by kernel_rfl
  c4 := by kernel_rfl
  c5 := by kernel_rfl
  c9 := by kernel_rfl
  c20 := by kernel_rfl
  c21 := by kernel_rfl
  c37 := by kernel_rfl
  c46 := by kernel_rfl
  c51 := by kernel_rfl
  c53 := by kernel_rfl
  c75 := by kernel_rfl
  c76 := by kernel_rfl
  c80 := by kernel_rfl
  c85 := by kernel_rfl
  c127 := by kernel_rfl
  c143 := by kernel_rfl
  c145 := by kernel_rfl
  c167 := by kernel_rfl
  c168 := by kernel_rfl
  c171 := by kernel_rfl
  c173 := by kernel_rfl
  c175 := by kernel_rfl
  c210 := by kernel_rfl
  c212 := by kernel_rfl
  c213 := by kernel_rfl
  c232 := by kernel_rfl
  c233 := by kernel_rfl }
namespace YtmkllibfblacfaaDoor
open Go.RowKit
/-- the variable strconv.ErrRange holds an error -/
def ErrR (w : World) : Prop := ∃ te pe, w.cell? ⟨2, 0, none⟩ = some (.iface te pe)
theorem errR_below {w w' : World} (h : ErrR w) (hb : Below w.heap.size w w') : ErrR w' := by
  obtain ⟨te, pe, h⟩ := h
  exact ⟨te, pe, (hb.cell (p := ⟨2, 0, none⟩) (World.block_lt_of_cell? _ _ h)).trans h⟩
theorem atoi_ok (s : ByteArray) (hs : s.size ≤ 281474976710656) (v : Int) (h : Lib.atoiAll s.data.toList = .ok v) (w : World) :
    Calls Tryd.prog 52 #[.string s] w fun e w' => e = .returned (.tuple #[.int .i64 v, .nilIface]) ∧ Below w.heap.size w w' :=
  (Any.strconv_Atoi_ok Tryd.ato172 s (by omega) v h w).mono fun e w' ⟨he, hw⟩ => ⟨he, by
    rcases hw with rfl | ⟨t, rfl⟩
    · exact Below.refl _ _
    · exact Lib.bytesWorld_below _ _ _⟩
theorem atoi_range (s : ByteArray) (hs : s.size ≤ 281474976710656) (h : Lib.atoiAll s.data.toList = .range) (w : World) (hE : ErrR w) :
    Calls Tryd.prog 52 #[.string s] w fun e w' => ∃ N, e = .returned (.tuple #[.int .i64 (Lib.atoiSat s.data.toList), .iface 122 (.pointer (some ⟨N, 0, none⟩))]) ∧ Below w.heap.size w w' := by
  obtain ⟨te, pe, hv⟩ := hE
  exact (Any.strconv_Atoi_range Tryd.ato172 s hs h (.iface te pe) w hv (.inr ⟨te, pe, rfl⟩)).mono fun e w' ⟨N, he, _, _, hb⟩ => ⟨N, he, hb⟩
end YtmkllibfblacfaaDoor
end Go.Proofs

/-
  Layer 13, the program's: numbers.
-/
namespace Go.Proofs.YtmkllibfblacfaaDoor
open Go.RowKit
theorem digs_take (l : List UInt8) : l.take (Lx.digs l).length = Lx.digs l := Lx.takeWhile_take l
theorem digs_all (l : List UInt8) : ∀ b ∈ Lx.digs l, Lx.digit b = true := Lx.takeWhile_all l
theorem digs_cons {s : ByteArray} (h0 : 0 < s.size) (hD : Lx.digit s[0] = true) : Lx.digs s.data.toList ≠ [] := by
  have hl : 0 < s.data.toList.length := by simpa using h0
  have e := Oct.drop_at s.data.toList 0 hl
  rw [List.drop_zero] at e
  rw [e, digs_cons_yes _ (show Lx.digit s.data.toList[0] = true from hD)]
  simp
set_option maxRecDepth 100000 in
set_option maxHeartbeats 1600000 in
theorem number13_any (s : ByteArray) (w : World) (hs : s.size ≤ 1000000) (h0 : 0 < s.size) (hD : Lx.digit s[0] = true) (hE : ErrR w) :
    Calls Tryd.prog 39 #[.string s] w fun e w' => e = .returned (.tuple #[tokV (Lx.numT s.data.toList).1, .int .i64 ((Lx.numT s.data.toList).2.1 : Nat), .int .i64 (Lx.numT s.data.toList).2.2]) ∧ Below w.heap.size w w' := by
  have cR := fun w => run13_digit s w (by unfold maxLen; omega)
  have hle := Lx.takeWhile_le (p := Lx.digit) s.data.toList
  rw [Array.length_toList] at hle
  have hle2 : (Lx.digs s.data.toList).length ≤ s.size := hle
  have hx := take_list s (Lx.digs s.data.toList).length
  rw [digs_take] at hx
  have hne := digs_cons h0 hD
  have hpos : 0 < (Lx.digs s.data.toList).length := List.length_pos_iff.2 hne
  have hat := Lx.atoi_digits _ hne (digs_all _)
  have hsat : Lib.atoiSat (Lx.digs s.data.toList) = 9223372036854775807 := by
    cases hd : Lx.digs s.data.toList with
    | nil => exact absurd hd hne
    | cons c r =>
      have := (Lx.digit_iff c).1 (digs_all s.data.toList c (by rw [hd]; simp))
      exact Lib.atoiSat_other c r (by omega)
  have hh : s.data.toList.head? = some s[0] := head_at0 s h0
  have hN : Lx.numT s.data.toList = if 1 < (Lx.digs s.data.toList).length ∧ s.data.toList.head? = some 48 then (Lx.no, 0, 11) else if Lx.maxI < Vl.val (Lx.digs s.data.toList) 0 then (Lx.no, 0, 15) else (⟨2, Vl.mt, (Vl.val (Lx.digs s.data.toList) 0 : Nat), 0⟩, (Lx.digs s.data.toList).length, 0) := rfl
  rw [hh] at hN
  obtain ⟨r0, b0, s0⟩ := tok_new Lx.no w
  have aO := fun v (h : Lib.atoiAll (Lx.digs s.data.toList) = .ok v) wx => atoi_ok (Lx.mk (Lx.digs s.data.toList)) (by rw [← hx, ByteArray.size_extract]; omega) v h wx
  have aR := fun (h : Lib.atoiAll (Lx.digs s.data.toList) = .range) wx hw => atoi_range (Lx.mk (Lx.digs s.data.toList)) (by rw [← hx, ByteArray.size_extract]; omega) h wx hw
  rw [← hx] at aO aR
  have hsat2 : Lib.atoiSat (s.extract 0 (Lx.digs s.data.toList).length).data.toList = 9223372036854775807 := by rw [hx]; exact hsat
  rw [hsat2] at aR
  obtain ⟨V, hV⟩ : ∃ V, V = Vl.val (Lx.digs s.data.toList) 0 := ⟨_, rfl⟩
  rw [← hV] at hat hN
  by_cases hz : 1 < (Lx.digs s.data.toList).length ∧ s[0] = 48
  · rw [if_pos ⟨hz.1, by rw [hz.2]⟩] at hN
    have t1 : ((s[0].toNat : Int) == 48) = true := by rw [hz.2]; rfl
    have t2 : decide (((Lx.digs s.data.toList).length : Int) > 1) = true := decide_eq_true (by omega)
    have hz1 : 1 < (Lx.digs s.data.toList).length := hz.1
    generalize (Lx.digs s.data.toList).length = k at *
    have H := Lib.hid (And.intro cR (And.intro hN (And.intro r0 (And.intro b0 s0))))
    clear cR hN r0 b0 s0 hat hsat hsat2 hh aO aR hx hne hle hle2 hD hz hE hV
    go_enter Tryd.func39, Tryd.ntmps39
    go_wp2_with (go_at_call 50; refine (H.out.1 _).mono ?_; rintro e w1 ⟨rfl, rfl⟩)
    rw [H.out.2.1]
    exact bodyPost_ret (v := .tuple #[tokV Lx.no, .int .i64 0, .int .i64 11]) (results_tok (p := 2) (u := 3) (x := 4) rfl _ _ w.heap.size Lx.no rfl H.out.2.2.1) rfl ⟨rfl, H.out.2.2.2.1⟩
  · rw [if_neg (by rintro ⟨a, b⟩; exact hz ⟨a, by injection b⟩)] at hN
    have hE1 := errR_below hE b0
    have hT : decide (((Lx.digs s.data.toList).length : Int) > 1) = false ∨ (decide (((Lx.digs s.data.toList).length : Int) > 1) = true ∧ ((s[0].toNat : Int) == 48) = false) := by
      by_cases h1 : 1 < (Lx.digs s.data.toList).length
      · refine .inr ⟨decide_eq_true (by omega), ?_⟩
        have : ¬ s[0].toNat = 48 := fun e => hz ⟨h1, UInt8.toNat_inj.1 e⟩
        simp; omega
      · exact .inl (decide_eq_false (by omega))
    by_cases hv : Lx.maxI < V
    · rw [if_pos hv] at hat hN
      have aR := fun wx hw => aR hat wx hw
      generalize (Lx.digs s.data.toList).length = k at *
      have H := Lib.hid (And.intro cR (And.intro hN (And.intro r0 (And.intro b0 s0))))
      have HA := Lib.hid (And.intro aR hE1)
      clear cR hN r0 b0 s0 hat hsat hsat2 hh aO aR hx hne hle hD hz hE hE1 hV hv
      rcases hT with hT | ⟨hT, hT'⟩
      · go_enter Tryd.func39, Tryd.ntmps39
        go_wp2_with (first | (go_at_call 50; refine (H.out.1 _).mono ?_; rintro e w1 ⟨rfl, rfl⟩))
        refine (HA.out.1 _ HA.out.2).mono ?_
        rintro e w2 ⟨N, rfl, hb2⟩
        have ra := rowV_below H.out.2.2.1 hb2 (by rw [World.size_alloc]; omega)
        have hb := H.out.2.2.2.1.trans (hb2.mono (by rw [World.size_alloc]; omega))
        obtain ⟨a0, a1, a2, a3, g0, g1, g2, g3⟩ := tok_cells ra
        have L := Lib.hid (And.intro ra hb)
        clear ra hb hb2
        go_wp2_with fail
        rw [H.out.2.1]
        exact bodyPost_ret (v := .tuple #[tokV ⟨0, Vl.mt, 0, 0⟩, .int .i64 0, .int .i64 15]) (results_tok (p := 2) (u := 3) (x := 4) rfl _ _ w.heap.size ⟨0, Vl.mt, 0, 0⟩ rfl (tok_put (v := Lx.no) L.out.1 0 Vl.mt 0 0).1) rfl ⟨rfl, L.out.2.trans ((tok_put (v := Lx.no) L.out.1 0 Vl.mt 0 0).2 _ (Nat.le_refl _))⟩
      · go_enter Tryd.func39, Tryd.ntmps39
        go_wp2_with (first | (go_at_call 50; refine (H.out.1 _).mono ?_; rintro e w1 ⟨rfl, rfl⟩))
        refine (HA.out.1 _ HA.out.2).mono ?_
        rintro e w2 ⟨N, rfl, hb2⟩
        have ra := rowV_below H.out.2.2.1 hb2 (by rw [World.size_alloc]; omega)
        have hb := H.out.2.2.2.1.trans (hb2.mono (by rw [World.size_alloc]; omega))
        obtain ⟨a0, a1, a2, a3, g0, g1, g2, g3⟩ := tok_cells ra
        have L := Lib.hid (And.intro ra hb)
        clear ra hb hb2
        go_wp2_with fail
        rw [H.out.2.1]
        exact bodyPost_ret (v := .tuple #[tokV ⟨0, Vl.mt, 0, 0⟩, .int .i64 0, .int .i64 15]) (results_tok (p := 2) (u := 3) (x := 4) rfl _ _ w.heap.size ⟨0, Vl.mt, 0, 0⟩ rfl (tok_put (v := Lx.no) L.out.1 0 Vl.mt 0 0).1) rfl ⟨rfl, L.out.2.trans ((tok_put (v := Lx.no) L.out.1 0 Vl.mt 0 0).2 _ (Nat.le_refl _))⟩
    · rw [if_neg hv] at hat hN
      have aO := fun wx => aO _ hat wx
      generalize (Lx.digs s.data.toList).length = k at *
      have H := Lib.hid (And.intro cR (And.intro hN (And.intro r0 (And.intro b0 s0))))
      have HA := Lib.hid aO
      have hvm : V ≤ 9223372036854775807 := by unfold Lx.maxI at hv; omega
      clear cR hN r0 b0 s0 hat hsat hsat2 hh aO aR hx hne hle hD hz hE hE1 hV hv
      rcases hT with hT | ⟨hT, hT'⟩
      · go_enter Tryd.func39, Tryd.ntmps39
        go_wp2_with (first | (go_at_call 50; refine (H.out.1 _).mono ?_; rintro e w1 ⟨rfl, rfl⟩))
        refine (HA.out _).mono ?_
        rintro e w2 ⟨rfl, hb2⟩
        have ra := rowV_below H.out.2.2.1 hb2 (by rw [World.size_alloc]; omega)
        have hb := H.out.2.2.2.1.trans (hb2.mono (by rw [World.size_alloc]; omega))
        obtain ⟨a0, a1, a2, a3, g0, g1, g2, g3⟩ := tok_cells ra
        have L := Lib.hid (And.intro ra hb)
        clear ra hb hb2
        go_wp2_with fail
        rw [H.out.2.1]
        exact bodyPost_ret (v := .tuple #[tokV ⟨2, Vl.mt, (V : Int), 0⟩, .int .i64 (k : Int), .int .i64 0]) (results_tok (p := 2) (u := 3) (x := 4) rfl _ _ w.heap.size ⟨2, Vl.mt, (V : Int), 0⟩ rfl (tok_put (v := Lx.no) L.out.1 2 Vl.mt (V : Int) 0).1) rfl ⟨rfl, L.out.2.trans ((tok_put (v := Lx.no) L.out.1 2 Vl.mt (V : Int) 0).2 _ (Nat.le_refl _))⟩
      · go_enter Tryd.func39, Tryd.ntmps39
        go_wp2_with (first | (go_at_call 50; refine (H.out.1 _).mono ?_; rintro e w1 ⟨rfl, rfl⟩))
        refine (HA.out _).mono ?_
        rintro e w2 ⟨rfl, hb2⟩
        have ra := rowV_below H.out.2.2.1 hb2 (by rw [World.size_alloc]; omega)
        have hb := H.out.2.2.2.1.trans (hb2.mono (by rw [World.size_alloc]; omega))
        obtain ⟨a0, a1, a2, a3, g0, g1, g2, g3⟩ := tok_cells ra
        have L := Lib.hid (And.intro ra hb)
        clear ra hb hb2
        go_wp2_with fail
        rw [H.out.2.1]
        exact bodyPost_ret (v := .tuple #[tokV ⟨2, Vl.mt, (V : Int), 0⟩, .int .i64 (k : Int), .int .i64 0]) (results_tok (p := 2) (u := 3) (x := 4) rfl _ _ w.heap.size ⟨2, Vl.mt, (V : Int), 0⟩ rfl (tok_put (v := Lx.no) L.out.1 2 Vl.mt (V : Int) 0).1) rfl ⟨rfl, L.out.2.trans ((tok_put (v := Lx.no) L.out.1 2 Vl.mt (V : Int) 0).2 _ (Nat.le_refl _))⟩
end Go.Proofs.YtmkllibfblacfaaDoor

/-
  Layer 13: the document's first token of a text: texts.
-/
namespace Go.Proofs.YtmkllibfblacfaaDoor
open Go.RowKit
/-- what is told ahead of place i -/
structure TxtTo (s : ByteArray) (i : Nat) (acc : List UInt8) : Prop where
  eq : Lx.txt s.data.toList.tail [] = Lx.txt (s.data.toList.drop i) acc
  one : 1 ≤ i
  len : acc.length ≤ i
theorem txtTo_start (s : ByteArray) : TxtTo s 1 [] := ⟨by rw [List.drop_one], Nat.le_refl _, Nat.zero_le _⟩
theorem txtTo_quote {s : ByteArray} {i : Nat} {acc : List UInt8} (h : TxtTo s i acc) (hi : i < s.size) (hc : s[i] = 34) : Lx.txtT s.data.toList = if 40 < acc.length then (Lx.no, 0, 5) else (⟨3, Lx.mk acc, 0, 0⟩, i + 1, 0) := by
  have e : Lx.txt s.data.toList.tail [] = some (acc, s.data.toList.drop (i + 1)) := by rw [h.eq, drop_next s i hi, hc, Lx.txt_end]
  have hl : s.data.toList.length = s.size := by rw [Array.length_toList]; rfl
  unfold Lx.txtT
  rw [e]
  simp only [List.length_drop, hl]
  rw [show s.size - (s.size - (i + 1)) = i + 1 by omega]
theorem txt_none {s : ByteArray} (h : Lx.txt s.data.toList.tail [] = none) : Lx.txtT s.data.toList = (Lx.no, 0, 11) := by unfold Lx.txtT; rw [h]
theorem txtTo_end {s : ByteArray} {i : Nat} {acc : List UInt8} (h : TxtTo s i acc) (hi : ¬ i < s.size) : Lx.txtT s.data.toList = (Lx.no, 0, 11) := by
  refine txt_none ?_
  rw [h.eq, List.drop_eq_nil_of_le (by rw [Array.length_toList]; show s.size ≤ i; omega)]; rfl
theorem txtTo_slash0 {s : ByteArray} {i : Nat} {acc : List UInt8} (h : TxtTo s i acc) (hi : i < s.size) (hc : s[i] = 92) (he : i + 1 = s.size) : Lx.txtT s.data.toList = (Lx.no, 0, 11) := by
  refine txt_none ?_
  rw [h.eq, drop_next s i hi, hc, List.drop_eq_nil_of_le (by rw [Array.length_toList]; show s.size ≤ i + 1; omega), Lx.txt_slash0]
theorem txtTo_slash_bad {s : ByteArray} {i : Nat} {acc : List UInt8} (h : TxtTo s i acc) (hi : i < s.size) (hc : s[i] = 92) (he : i + 1 < s.size) (hd : ¬ (s[i + 1] = 34 ∨ s[i + 1] = 92)) : Lx.txtT s.data.toList = (Lx.no, 0, 11) := by
  refine txt_none ?_
  rw [h.eq, drop_next s i hi, hc, drop_next s (i + 1) he, Lx.txt_slash, if_neg hd]
theorem txtTo_slash {s : ByteArray} {i : Nat} {acc : List UInt8} (h : TxtTo s i acc) (hi : i < s.size) (hc : s[i] = 92) (he : i + 1 < s.size) (hd : s[i + 1] = 34 ∨ s[i + 1] = 92) : TxtTo s (i + 1 + 1) (acc ++ [s[i + 1]]) := by
  refine ⟨?_, by omega, by rw [List.length_append]; have := h.len; show _ + 1 ≤ _; omega⟩
  rw [h.eq, drop_next s i hi, hc, drop_next s (i + 1) he, Lx.txt_slash, if_pos hd]
theorem txtTo_bad {s : ByteArray} {i : Nat} {acc : List UInt8} (h : TxtTo s i acc) (hi : i < s.size) (h1 : ¬ s[i] = 34) (h2 : ¬ s[i] = 92) (hb : s[i].toNat < 32 ∨ 126 < s[i].toNat) : Lx.txtT s.data.toList = (Lx.no, 0, 11) := by
  refine txt_none ?_
  rw [h.eq, drop_next s i hi, Lx.txt_plain _ _ h1 h2, if_pos hb]
theorem txtTo_plain {s : ByteArray} {i : Nat} {acc : List UInt8} (h : TxtTo s i acc) (hi : i < s.size) (h1 : ¬ s[i] = 34) (h2 : ¬ s[i] = 92) (hb : ¬ (s[i].toNat < 32 ∨ 126 < s[i].toNat)) : TxtTo s (i + 1) (acc ++ [s[i]]) := by
  refine ⟨?_, by omega, by rw [List.length_append]; have := h.len; show _ + 1 ≤ _; omega⟩
  rw [h.eq, drop_next s i hi, Lx.txt_plain _ _ h1 h2, if_neg hb]
theorem mk_app (acc : List UInt8) (s : ByteArray) (i : Nat) (hi : i < s.size) : Lx.mk acc ++ s.extract i (i + 1) = Lx.mk (acc ++ [s[i]]) := by
  have hl : i < s.data.toList.length := by simpa using hi
  apply Sl.ba_ext
  rw [ByteArray.data_append, Array.toList_append, Sl.ext_list, show i + 1 - i = 1 by omega, Oct.drop_at _ _ hl]
  rfl
theorem mk_size (acc : List UInt8) : (Lx.mk acc).size = acc.length := by show acc.toArray.size = _; rw [List.size_toArray]
end Go.Proofs.YtmkllibfblacfaaDoor

/-
  strings.Builder: WriteByte and WriteRune (of ASCII) too, over a builder that String() may have read: the library's contracts at this program's own numbers.
-/
namespace Go.Proofs
open Go.Shelf
def Tryd.blf_renB : Go.Shelf.Ren := ⟨fun | 167 => 55 | 169 => 54 | 240 => 68 | 276 => 78 | n => n, fun | 0 => 0 | 3 => 3 | 4 => 4 | 5 => 5 | 9 => 9 | 20 => 20 | 37 => 99 | 70 => 98 | 72 => 101 | 75 => 95 | 80 => 103 | 127 => 116 | 164 => 125 | n => n, fun | n => n⟩
theorem Tryd.blf167 : Go.Proofs.Lays.n167 Tryd.prog Tryd.blf_renB := {
  mixed := by kernel_rfl
  f167 := Tryd.func55.trans (congrArg some (by kernel_rfl))
  f240 := Tryd.func68.trans (congrArg some (by kernel_rfl))
  f276 := Tryd.func78.trans (congrArg some (by kernel_rfl))
  t0 := Tryd.underlying0
  a0 := Tryd.isAgg0
  z0 := Tryd.sizeOf0
  v0 := Tryd.zeroValue0
  t4 := Tryd.underlying4
  a4 := Tryd.isAgg4
  z4 := Tryd.sizeOf4
  v4 := Tryd.zeroValue4
  t5 := Tryd.underlying5
  a5 := Tryd.isAgg5
  z5 := Tryd.sizeOf5
  v5 := Tryd.zeroValue5
  t9 := Tryd.underlying9
  a9 := Tryd.isAgg9
  z9 := Tryd.sizeOf9
  v9 := Tryd.zeroValue9
  t20 := Tryd.underlying20
  a20 := Tryd.isAgg20
  z20 := Tryd.sizeOf20
  v20 := Tryd.zeroValue20
  t37 := Tryd.underlying99
  a37 := Tryd.isAgg99
  z37 := Tryd.sizeOf99
  v37 := Tryd.zeroValue99
  t70 := Tryd.underlying98
  a70 := Tryd.isAgg98
  z70 := Tryd.sizeOf98
  v70 := Tryd.zeroValue98
  t72 := Tryd.underlying101
  a72 := Tryd.isAgg101
  z72 := Tryd.sizeOf101
  v72 := Tryd.zeroValue101
  t75 := Tryd.underlying95
  a75 := Tryd.isAgg95
  z75 := Tryd.sizeOf95
  v75 := Tryd.zeroValue95
  t164 := Tryd.underlying125
  a164 := Tryd.isAgg125
  z164 := Tryd.sizeOf125
  v164 := Tryd.zeroValue125 }
theorem Tryd.blf169 : Go.Proofs.Lays.n169 Tryd.prog Tryd.blf_renB := {
  mixed := by kernel_rfl
  f169 := Tryd.func54.trans (congrArg some (by kernel_rfl))
  t0 := Tryd.underlying0
  a0 := Tryd.isAgg0
  z0 := Tryd.sizeOf0
  v0 := Tryd.zeroValue0
  t3 := Tryd.underlying3
  a3 := Tryd.isAgg3
  z3 := Tryd.sizeOf3
  v3 := Tryd.zeroValue3
  t9 := Tryd.underlying9
  a9 := Tryd.isAgg9
  z9 := Tryd.sizeOf9
  v9 := Tryd.zeroValue9
  t37 := Tryd.underlying99
  a37 := Tryd.isAgg99
  z37 := Tryd.sizeOf99
  v37 := Tryd.zeroValue99
  t70 := Tryd.underlying98
  a70 := Tryd.isAgg98
  z70 := Tryd.sizeOf98
  v70 := Tryd.zeroValue98
  t72 := Tryd.underlying101
  a72 := Tryd.isAgg101
  z72 := Tryd.sizeOf101
  v72 := Tryd.zeroValue101
  t127 := Tryd.underlying116
  a127 := Tryd.isAgg116
  z127 := Tryd.sizeOf116
  v127 := Tryd.zeroValue116 }
theorem Tryd.blfExtraB : Builder.Extra Tryd.prog Tryd.blf_renB := {
  sizeBuilder := by kernel_rfl
  liesBuilder := by kernel_rfl
  t5 := Tryd.underlying5
  a5 := Tryd.isAgg5
  z5 := Tryd.sizeOf5
  v5 := Tryd.zeroValue5
  infoByte := by kernel_rfl
  cellsByte := by kernel_rfl
  sizeByte := by kernel_rfl
  neB5 := by decide }
namespace YtmkllibfblacfaaDoor
open Go.RowKit
/-- a builder that holds the bytes l -/
def BldF (w : World) (B b : Nat) (l : List UInt8) : Prop := Lib.IsBuilderF 101 5 B b (Lib.byteCells l) w
/-- what a call to a builder leaves: its own blocks, and those of bytes above it, alone -/
abbrev KeptF (b : Nat) (w w' : World) : Prop := Lib.OthersKept 5 (some b) w w'
theorem bldf_byte (B b : Nat) (l : List UInt8) (c : UInt8) (w : World) (h : BldF w B b l) (hlen : l.length + 1 ≤ 140737488355328) (hBw : B ≤ w.heap.size) :
    Calls Tryd.prog 55 #[.pointer (some ⟨b, 0, none⟩), .int .u8 (c.toNat : Int)] w fun e w' => e = .returned .nilIface ∧ BldF w' B b (l ++ [c]) ∧ Below B w w' ∧ KeptF b w w' :=
  (Any.Builder_WriteByte_k Tryd.blf167 Tryd.blfExtraB B b (Lib.byteCells l) (c.toNat : Int) w h (by rw [Lib.byteCells_length]; exact hlen) hBw).mono fun _ _ ⟨h1, h2, h3, h4⟩ =>
    ⟨h1, .inr (by rw [Lib.byteCells_append]; exact h2), h3, h4⟩
theorem bldf_string (B b : Nat) (l : List UInt8) (w : World) (h : BldF w B b l) (hBw : B ≤ w.heap.size) :
    Calls Tryd.prog 54 #[.pointer (some ⟨b, 0, none⟩)] w fun e w' => e = .returned (.string ⟨l.toArray⟩) ∧ Below B w w' :=
  (Any.Builder_String_any_k Tryd.blf169 Tryd.blfExtraB B b l w h hBw).mono fun _ _ ⟨h1, _, h3, _⟩ => ⟨h1, h3⟩
theorem bldf_fresh (w : World) : BldF (w.alloc (.cells #[.pointer none, .slice none 0 0] 101)) w.heap.size w.heap.size [] := Lib.IsBuilderF.of (Lib.fresh_isBuilder _ _ w)
theorem bldf_at_below {T e B b : Nat} {p : Value} {bs : List Value} {w w' : World} (h : Lib.BuilderAtF T e B b p bs w) (hb : Below w.heap.size w w') : Lib.BuilderAtF T e B b p bs w' := by
  have hlt := h.lt
  obtain ⟨h1, v, h2, h3, h4⟩ := h
  refine ⟨h1, v, by rw [hb.block b hlt]; exact h2, h3.kept (row := none) ⟨hb.os, hb.tape, hb.output, hb.size, fun k hk _ => hb.block k hk⟩ ?_, h4⟩
  cases v.ownBlock with
  | none => exact .inl rfl
  | some k => exact .inr (by simp)
theorem bldf_below {B b : Nat} {l : List UInt8} {w w' : World} (h : BldF w B b l) (hb : Below w.heap.size w w') : BldF w' B b l := by
  rcases h with h | h
  · exact .inl (bldf_at_below h hb)
  · exact .inr (bldf_at_below h hb)
end YtmkllibfblacfaaDoor
end Go.Proofs

/-
  strings.HasPrefix and (*strings.Builder).Len: the library's contracts at this program's own numbers.
-/
namespace Go.Proofs
open Go.Shelf
def Tryd.bln_ren : Go.Shelf.Ren := ⟨fun | 99 => 59 | 170 => 53 | 206 => 69 | n => n, fun | 0 => 0 | 3 => 3 | 4 => 4 | 5 => 5 | 9 => 9 | 37 => 99 | 70 => 98 | 72 => 101 | n => n, fun | n => n⟩
theorem Tryd.bln170 : Go.Proofs.Lays.n170 Tryd.prog Tryd.bln_ren := {
  mixed := by kernel_rfl
  f170 := Tryd.func53.trans (congrArg some (by kernel_rfl))
  t0 := Tryd.underlying0
  a0 := Tryd.isAgg0
  z0 := Tryd.sizeOf0
  v0 := Tryd.zeroValue0
  t3 := Tryd.underlying3
  a3 := Tryd.isAgg3
  z3 := Tryd.sizeOf3
  v3 := Tryd.zeroValue3
  t37 := Tryd.underlying99
  a37 := Tryd.isAgg99
  z37 := Tryd.sizeOf99
  v37 := Tryd.zeroValue99
  t70 := Tryd.underlying98
  a70 := Tryd.isAgg98
  z70 := Tryd.sizeOf98
  v70 := Tryd.zeroValue98
  t72 := Tryd.underlying101
  a72 := Tryd.isAgg101
  z72 := Tryd.sizeOf101
  v72 := Tryd.zeroValue101 }
theorem Tryd.bln99 : Go.Proofs.Lays.n99 Tryd.prog Tryd.bln_ren := {
  mixed := by kernel_rfl
  f99 := Tryd.func59.trans (congrArg some (by kernel_rfl))
  f206 := Tryd.func69.trans (congrArg some (by kernel_rfl))
  t3 := Tryd.underlying3
  a3 := Tryd.isAgg3
  z3 := Tryd.sizeOf3
  v3 := Tryd.zeroValue3
  t4 := Tryd.underlying4
  a4 := Tryd.isAgg4
  z4 := Tryd.sizeOf4
  v4 := Tryd.zeroValue4
  t9 := Tryd.underlying9
  a9 := Tryd.isAgg9
  z9 := Tryd.sizeOf9
  v9 := Tryd.zeroValue9 }
namespace YtmkllibfblacfaaDoor
open Go.RowKit
theorem bldf_len (B b : Nat) (l : List UInt8) (w : World) (h : BldF w B b l) :
    Calls Tryd.prog 53 #[.pointer (some ⟨b, 0, none⟩)] w fun e w' => e = .returned (.int .i64 l.length) ∧ w' = w :=
  (Any.Builder_Len_f Tryd.bln170 B b (Lib.byteCells l) w h).mono fun _ _ ⟨h1, h2⟩ => ⟨by rw [h1, Lib.byteCells_length], h2⟩
theorem hasPre_any (s p : ByteArray) (w : World) :
    Calls Tryd.prog 59 #[.string s, .string p] w fun e w' => e = .returned (.bool (p.data.toList.isPrefixOf s.data.toList)) ∧ w' = w :=
  Any.strings_HasPrefix Tryd.bln99 s p w
end YtmkllibfblacfaaDoor
end Go.Proofs

/-
  Layer 13, the program's: texts.
-/
namespace Go.Proofs.YtmkllibfblacfaaDoor
open Go.RowKit
/-- the loop's world: the result's box, the builder -/
structure TxtAt (w : World) (acc : List UInt8) (wr : World) : Prop where
  box : RowV wr w.heap.size 74 (tokC Lx.no).toList
  bld : BldF wr (w.heap.size + 1) (w.heap.size + 1) acc
  bel : Below w.heap.size w wr
  siz : w.heap.size + 1 ≤ wr.heap.size
theorem txtAt_next {w wr w' : World} {acc acc' : List UInt8} (h : TxtAt w acc wr) (hb : BldF w' (w.heap.size + 1) (w.heap.size + 1) acc') (hk : Below (w.heap.size + 1) wr w') : TxtAt w acc' w' :=
  ⟨rowV_below h.box hk (Nat.lt_succ_self _), hb, h.bel.trans (hk.mono (Nat.le_succ _)), Nat.le_trans h.siz hk.size⟩
theorem txtAt_start (w : World) : TxtAt w [] ((w.alloc (.cells (tokC Lx.no) 74)).alloc (.cells #[.pointer none, .slice none 0 0] 101)) := by
  obtain ⟨r0, b0, s0⟩ := tok_new Lx.no w
  have hb := bldf_fresh (w.alloc (.cells (tokC Lx.no) 74))
  rw [s0] at hb
  exact ⟨rowV_alloc r0 _, hb, b0.alloc (by rw [s0]; omega) _, by rw [World.size_alloc, s0]; omega⟩
set_option maxRecDepth 100000 in
set_option maxHeartbeats 6400000 in
theorem text13_any (s : ByteArray) (w : World) (hs : s.size ≤ 1000000) :
    Calls Tryd.prog 40 #[.string s] w fun e w' => e = .returned (.tuple #[tokV (Lx.txtT s.data.toList).1, .int .i64 ((Lx.txtT s.data.toList).2.1 : Nat), .int .i64 (Lx.txtT s.data.toList).2.2]) ∧ Below w.heap.size w w' := by
  have HS := Lib.hid (txtAt_start w)
  go_enter Tryd.func40, Tryd.ntmps40
  go_wp2_with fail
  go_loopw [6] (fun i wr => ∃ (k : Nat) (acc : List UInt8), i = .int .i64 (k : Int) ∧ k ≤ s.size + 1 ∧ Hid (TxtTo s k acc) ∧ Hid (TxtAt w acc wr)) (fun i _ => s.size + 1 - (intOf i).toNat)
  case atStart => exact ⟨1, [], rfl, by omega, Lib.hid (txtTo_start s), HS⟩
  case round =>
    obtain ⟨k, acc, rfl, hle, HI, HT⟩ := hrel
    have hal := HI.out.len
    by_cases hlt : k < s.size
    · obtain ⟨c, hcc⟩ : ∃ c, c = s[k] := ⟨_, rfl⟩
      have c256 := c.toNat_lt
      by_cases h34 : s[k] = 34
      · have hres := txtTo_quote HI.out hlt h34
        have t1 : ((s[k].toNat : Int) == 34) = true := by rw [h34]; rfl
        have cL := bldf_len _ _ _ wr HT.out.bld
        by_cases h40 : 40 < acc.length
        · have HN := Lib.hid (hres.trans (if_pos h40))
          have HC := Lib.hid cL
          have t2 : decide ((acc.length : Int) > 40) = true := decide_eq_true (by omega)
          clear hres h34 hcc cL
          obtain ⟨a0, a1, a2, a3, g0, g1, g2, g3⟩ := tok_cells HT.out.box
          go_wp2_with fail
          refine HC.out.mono ?_
          rintro e w1 ⟨rfl, rfl⟩
          go_wp2_with fail
          rw [HN.out]
          exact bodyPost_ret (v := .tuple #[tokV ⟨0, Vl.mt, 0, 0⟩, .int .i64 0, .int .i64 5]) (results_tok (p := 2) (u := 3) (x := 4) rfl _ _ w.heap.size ⟨0, Vl.mt, 0, 0⟩ rfl (tok_put (v := Lx.no) HT.out.box 0 Vl.mt 0 0).1) rfl ⟨by push_cast; rfl, HT.out.bel.trans ((tok_put (v := Lx.no) HT.out.box 0 Vl.mt 0 0).2 _ (Nat.le_refl _))⟩
        · have HN := Lib.hid (hres.trans (if_neg h40))
          have HC := Lib.hid (And.intro cL (bldf_string _ _ acc wr HT.out.bld HT.out.siz))
          have t2 : decide ((acc.length : Int) > 40) = false := decide_eq_false (by omega)
          clear hres h34 hcc cL
          go_wp2_with fail
          refine HC.out.1.mono ?_
          rintro e w1 ⟨rfl, rfl⟩
          go_wp2_with fail
          refine HC.out.2.mono ?_
          rintro e w1 ⟨rfl, hb1⟩
          have hbox := rowV_below HT.out.box hb1 (Nat.lt_succ_self _)
          have hbel := HT.out.bel.trans (hb1.mono (Nat.le_succ _))
          obtain ⟨a0, a1, a2, a3, g0, g1, g2, g3⟩ := tok_cells hbox
          have HB := Lib.hid (And.intro hbox hbel)
          clear hb1 hbox hbel
          go_wp2_with fail
          rw [HN.out]
          exact bodyPost_ret (v := .tuple #[tokV ⟨3, Lx.mk acc, 0, 0⟩, .int .i64 ((k : Int) + 1), .int .i64 0]) (results_tok (p := 2) (u := 3) (x := 4) rfl _ _ w.heap.size ⟨3, Lx.mk acc, 0, 0⟩ rfl (tok_put (v := Lx.no) HB.out.1 3 (Lx.mk acc) 0 0).1) rfl ⟨by push_cast; rfl, HB.out.2.trans ((tok_put (v := Lx.no) HB.out.1 3 (Lx.mk acc) 0 0).2 _ (Nat.le_refl _))⟩
      · have t1 : ((s[k].toNat : Int) == 34) = false := by
          have : ¬ s[k].toNat = 34 := fun e => h34 (UInt8.toNat_inj.1 e)
          simp; omega
        by_cases hb : s[k].toNat < 32 ∨ 126 < s[k].toNat
        · have h92 : ¬ s[k] = 92 := fun e => by rw [e] at hb; revert hb; decide
          have HN := Lib.hid (txtTo_bad HI.out hlt h34 h92 hb)
          have t3 : decide ((s[k].toNat : Int) < 32) = true ∨ (decide ((s[k].toNat : Int) < 32) = false ∧ decide (126 < (s[k].toNat : Int)) = true) := by
            by_cases h : s[k].toNat < 32
            · exact .inl (decide_eq_true (by omega))
            · exact .inr ⟨decide_eq_false (by omega), decide_eq_true (by omega)⟩
          clear h34 h92 hcc hb
          rcases t3 with t3 | ⟨t3, t3'⟩
          · obtain ⟨a0, a1, a2, a3, g0, g1, g2, g3⟩ := tok_cells HT.out.box
            go_wp2_with fail
            rw [HN.out]
            exact bodyPost_ret (v := .tuple #[tokV ⟨0, Vl.mt, 0, 0⟩, .int .i64 0, .int .i64 11]) (results_tok (p := 2) (u := 3) (x := 4) rfl _ _ w.heap.size ⟨0, Vl.mt, 0, 0⟩ rfl (tok_put (v := Lx.no) HT.out.box 0 Vl.mt 0 0).1) rfl ⟨by push_cast; rfl, HT.out.bel.trans ((tok_put (v := Lx.no) HT.out.box 0 Vl.mt 0 0).2 _ (Nat.le_refl _))⟩
          · obtain ⟨a0, a1, a2, a3, g0, g1, g2, g3⟩ := tok_cells HT.out.box
            go_wp2_with fail
            rw [HN.out]
            exact bodyPost_ret (v := .tuple #[tokV ⟨0, Vl.mt, 0, 0⟩, .int .i64 0, .int .i64 11]) (results_tok (p := 2) (u := 3) (x := 4) rfl _ _ w.heap.size ⟨0, Vl.mt, 0, 0⟩ rfl (tok_put (v := Lx.no) HT.out.box 0 Vl.mt 0 0).1) rfl ⟨by push_cast; rfl, HT.out.bel.trans ((tok_put (v := Lx.no) HT.out.box 0 Vl.mt 0 0).2 _ (Nat.le_refl _))⟩
        · have t3 : decide ((s[k].toNat : Int) < 32) = false := decide_eq_false (by omega)
          have t4 : decide (126 < (s[k].toNat : Int)) = false := decide_eq_false (by omega)
          by_cases h92 : s[k] = 92
          · have t2 : ((s[k].toNat : Int) == 92) = true := by rw [h92]; rfl
            by_cases he : k + 1 = s.size
            · have HN := Lib.hid (txtTo_slash0 HI.out hlt h92 he)
              have t5 : (((k : Int) + 1) == (s.size : Int)) = true := by simp; omega
              clear h34 h92 hcc he hb
              obtain ⟨a0, a1, a2, a3, g0, g1, g2, g3⟩ := tok_cells HT.out.box
              go_wp2_with fail
              rw [HN.out]
              exact bodyPost_ret (v := .tuple #[tokV ⟨0, Vl.mt, 0, 0⟩, .int .i64 0, .int .i64 11]) (results_tok (p := 2) (u := 3) (x := 4) rfl _ _ w.heap.size ⟨0, Vl.mt, 0, 0⟩ rfl (tok_put (v := Lx.no) HT.out.box 0 Vl.mt 0 0).1) rfl ⟨by push_cast; rfl, HT.out.bel.trans ((tok_put (v := Lx.no) HT.out.box 0 Vl.mt 0 0).2 _ (Nat.le_refl _))⟩
            · have he2 : k + 1 < s.size := by omega
              have t5 : (((k : Int) + 1) == (s.size : Int)) = false := by simp; omega
              by_cases hd : s[k + 1] = 34 ∨ s[k + 1] = 92
              · have HN := Lib.hid (txtTo_slash HI.out hlt h92 he2 hd)
                have t6 : ((s[k + 1].toNat : Int) != 34) = false ∨ (((s[k + 1].toNat : Int) != 34) = true ∧ ((s[k + 1].toNat : Int) != 92) = false) := by
                  rcases hd with hd | hd
                  · exact .inl (by rw [hd]; rfl)
                  · exact .inr ⟨by rw [hd]; rfl, by rw [hd]; rfl⟩
                clear h34 h92 hcc hd he hb
                rcases t6 with t6 | ⟨t6, t6'⟩
                · go_wp2_with fail
                  refine (bldf_byte _ _ acc s[k + 1] wr HT.out.bld (by omega) HT.out.siz).mono ?_
                  rintro e w1 ⟨rfl, hb1, hb2, -⟩
                  have HT1 := Lib.hid (txtAt_next HT.out hb1 hb2)
                  clear hb1 hb2
                  go_wp2_with fail
                  go_roundw
                  case rel => exact ⟨k + 1 + 1, _, by go_num, by omega, HN, HT1⟩
                  case measure => simp [intOf]; omega
                · go_wp2_with fail
                  refine (bldf_byte _ _ acc s[k + 1] wr HT.out.bld (by omega) HT.out.siz).mono ?_
                  rintro e w1 ⟨rfl, hb1, hb2, -⟩
                  have HT1 := Lib.hid (txtAt_next HT.out hb1 hb2)
                  clear hb1 hb2
                  go_wp2_with fail
                  go_roundw
                  case rel => exact ⟨k + 1 + 1, _, by go_num, by omega, HN, HT1⟩
                  case measure => simp [intOf]; omega
              · have HN := Lib.hid (txtTo_slash_bad HI.out hlt h92 he2 hd)
                have t6 : ((s[k + 1].toNat : Int) != 34) = true := by
                  have : ¬ s[k + 1].toNat = 34 := fun e => hd (.inl (UInt8.toNat_inj.1 e))
                  simp; omega
                have t7 : ((s[k + 1].toNat : Int) != 92) = true := by
                  have : ¬ s[k + 1].toNat = 92 := fun e => hd (.inr (UInt8.toNat_inj.1 e))
                  simp; omega
                clear h34 h92 hcc hd he hb
                obtain ⟨a0, a1, a2, a3, g0, g1, g2, g3⟩ := tok_cells HT.out.box
                go_wp2_with fail
                rw [HN.out]
                exact bodyPost_ret (v := .tuple #[tokV ⟨0, Vl.mt, 0, 0⟩, .int .i64 0, .int .i64 11]) (results_tok (p := 2) (u := 3) (x := 4) rfl _ _ w.heap.size ⟨0, Vl.mt, 0, 0⟩ rfl (tok_put (v := Lx.no) HT.out.box 0 Vl.mt 0 0).1) rfl ⟨by push_cast; rfl, HT.out.bel.trans ((tok_put (v := Lx.no) HT.out.box 0 Vl.mt 0 0).2 _ (Nat.le_refl _))⟩
          · have t2 : ((s[k].toNat : Int) == 92) = false := by
              have : ¬ s[k].toNat = 92 := fun e => h92 (UInt8.toNat_inj.1 e)
              simp; omega
            have HN := Lib.hid (txtTo_plain HI.out hlt h34 h92 hb)
            clear h34 h92 hcc hb
            go_wp2_with fail
            refine (bldf_byte _ _ acc s[k] wr HT.out.bld (by omega) HT.out.siz).mono ?_
            rintro e w1 ⟨rfl, hb1, hb2, -⟩
            have HT1 := Lib.hid (txtAt_next HT.out hb1 hb2)
            clear hb1 hb2
            go_wp2_with fail
            go_roundw
            case rel => exact ⟨k + 1, _, by go_num, by omega, HN, HT1⟩
            case measure => simp [intOf]; omega
    · have HN := Lib.hid (txtTo_end HI.out hlt)
      obtain ⟨a0, a1, a2, a3, g0, g1, g2, g3⟩ := tok_cells HT.out.box
      go_wp2_with fail
      rw [HN.out]
      exact bodyPost_ret (v := .tuple #[tokV ⟨0, Vl.mt, 0, 0⟩, .int .i64 0, .int .i64 11]) (results_tok (p := 2) (u := 3) (x := 4) rfl _ _ w.heap.size ⟨0, Vl.mt, 0, 0⟩ rfl (tok_put (v := Lx.no) HT.out.box 0 Vl.mt 0 0).1) rfl ⟨by push_cast; rfl, HT.out.bel.trans ((tok_put (v := Lx.no) HT.out.box 0 Vl.mt 0 0).2 _ (Nat.le_refl _))⟩
end Go.Proofs.YtmkllibfblacfaaDoor

/-
  A region that draws its order, whose operations but the last ones (these in one forced order) read, or call what makes memory of its own and always hands back the same: one walk, in the order of the text. What the kit has for one world ('wp_region_still_tail') and for a class of worlds without a tail ('wp_region_quiet'), put together.
-/
namespace Go.Proofs.YtmkllibfblacfaaDoor
open Go.RowKit

section
variable {P : Program} {ops : Array Oper} {md : Region.Mode} {C : World → Prop}
/-- whatever order is picked among the first n -/
def HeadQ (P : Program) (md : Region.Mode) (ops : Array Oper) (C : World → Prop) (n : Nat) (L : Array Bool → Act → Prop) : Nat → Array Bool → Act → Prop
  | 0, listed, a => L listed a
  | f + 1, listed, a => Region.ready md ops listed ≠ [] ∧ ∀ i ∈ Region.ready md ops listed, i < n ∧ qOp P ops C i (HeadQ P md ops C n L f (listed.setIfInBounds i true)) a
theorem headQ_any {n g : Nat} {L : Array Bool → Act → Prop} {Q : Exit → Act → World → Prop} (hL : ∀ listed a, L listed a → ∀ w, C w → wpAny P md ops Q g listed a w) :
    ∀ (f : Nat) (listed : Array Bool) (a : Act), HeadQ P md ops C n L f listed a → ∀ w, C w → wpAny P md ops Q (f + g) listed a w := by
  intro f
  induction f with
  | zero => intro listed a h w hw; rw [Nat.zero_add]; exact hL _ _ h w hw
  | succ f ih =>
    intro listed a h w hw
    rw [show f + 1 + g = (f + g) + 1 by omega]
    exact ⟨fun h0 => absurd h0 h.1, fun i hi => wpOp_of_qOp hw (fun a' w' hw' k => ih _ a' k w' hw') (h.2 i hi).2⟩
theorem headQ_first {n i : Nat} {oi : Oper} {v : Value} {L : Array Bool → Act → Prop} (hi : ops[i]? = some oi) (hsel : ∀ (j : Nat) (o : Oper) cs b, ops[j]? = some o → o.op ≠ .select cs b)
    (hs : Region.sinkB md ops n = true) (hc : Region.chainB md ops n = true) (hn : n < ops.size) (hin : i < n) (hdone : ∀ listed a, L listed a → ∀ j ∈ Region.ready md ops listed, n ≤ j) :
    ∀ (f : Nat) (listed : Array Bool) (a : Act), HeadInv md ops n listed →
      (∀ j oj, ops[j]? = some oj → j ≠ i → listed.getD j true = false → (∀ e ∈ oj.after, Region.binds md e = true → e.on ≠ i) → oi.apart ops oj = true) →
      i ∈ Region.ready md ops listed → YieldsIn P ops C oi v a → HeadQ P md ops C n L f (listed.setIfInBounds i true) (a.put oi.dst v) → HeadQ P md ops C n L (f + 1) listed a := by
  intro f
  induction f with
  | zero =>
    intro listed a inv _ hr hy H
    have hun := (mem_ready.1 hr).1
    refine ⟨fun h => (by rw [h] at hr; cases hr), fun j hj => ?_⟩
    have hjn : j < n := Nat.lt_of_not_le fun h => absurd hj (tail_waits hs hc hn inv _ i rfl hin hun j h)
    refine ⟨hjn, ?_⟩
    by_cases hji : j = i
    · subst hji; exact hy.qOp hi H
    · have := hdone _ _ H j (ready_mono hj hji)
      omega
  | succ f ih =>
    intro listed a inv hfree hr hy H
    have hun := (mem_ready.1 hr).1
    refine ⟨fun h => (by rw [h] at hr; cases hr), fun j hj => ?_⟩
    have hjn : j < n := Nat.lt_of_not_le fun h => absurd hj (tail_waits hs hc hn inv _ i rfl hin hun j h)
    refine ⟨hjn, ?_⟩
    by_cases hji : j = i
    · subst hji; exact hy.qOp hi H
    · have h1 := (H.2 j (ready_mono hj hji)).2
      obtain ⟨hjun, oj, hoj, hall⟩ := mem_ready.1 hj
      have hnot : ∀ e ∈ oj.after, Region.binds md e = true → e.on ≠ i := fun e he hb heq => by
        have h2 := hall e he hb
        rw [heq, getD_both hun] at h2
        cases h2
      have h2 := qOp_put hoj (hfree j oj hoj hji hjun hnot) (fun cs b => hsel i oi cs b hi) (fun cs b => hsel j oj cs b hoj) hy h1
      refine qOp_mono (fun a' h3 => ih (listed.setIfInBounds j true) a' (inv.set hj hjn) (fun k ok hk hki hunk hno => hfree k ok hk hki ?_ hno) (ready_mono hr (Ne.symm hji)) h3.1 ?_) h2
      · by_cases hjk : j = k
        · subst hjk; exact hjun
        · rw [getD_set_ne true hjk] at hunk; exact hunk
      · rw [Array.setIfInBounds_comm _ _ hji]
        exact h3.2
theorem headQ_lex {n g : Nat} {Lq : Act → Prop} (hsel : Region.noSelect ops = true) (hs : Region.sinkB md ops n = true) (hc : Region.chainB md ops n = true) (hn : n < ops.size) :
    ∀ (l : List Oper) (k : Nat) (listed : Array Bool) (a : Act), (∀ j, j < l.length → l[j]? = ops[k + j]?) → k + l.length = n → HeadInv md ops n listed →
    Region.lexHead md ops g l.length k listed = true → wpQuiet P ops C Lq l a → HeadQ P md ops C n (fun listed' a' => Region.seqB md ops g n listed' = true ∧ Lq a') l.length listed a := by
  intro l
  induction l with
  | nil =>
    intro k listed a _ hk _ hB h
    obtain rfl : k = n := by simpa using hk
    exact ⟨by simpa [Region.lexHead] using hB, h⟩
  | cons o l ih =>
    intro k listed a hl hk inv hB h
    have h0 : ops[k]? = some o := by simpa using (hl 0 (by simp)).symm
    simp only [List.length_cons, Region.lexHead, Bool.and_eq_true] at hB
    obtain ⟨⟨hr, hf⟩, hB'⟩ := hB
    have hkn : k < n := by simp only [List.length_cons] at hk; omega
    have hr' : k ∈ Region.ready md ops listed := by simpa using hr
    have hst : qOp P ops C k (wpQuiet P ops C Lq l) a := by unfold qOp; simp only [h0]; exact h
    obtain ⟨v, hy, hK⟩ := yieldsIn_of_qOp h0 hst
    exact headQ_first h0 (Region.noSelect_spec hsel) hs hc hn hkn (fun listed' a' hL => seqB_ready hL.1) l.length listed a inv (Region.free_spec h0 hf) hr' hy
      (ih (k + 1) _ _ (fun j hj => by have := hl (j + 1) (by simp; omega); simpa [Nat.add_assoc, Nat.add_comm 1 j] using this) (by simp only [List.length_cons] at hk; omega) (inv.set hr' hkn) hB' hK)
/-- the law -/
theorem wp_region_quiet_tail {id : Nat} {Q : Exit → Act → World → Prop} {a : Act} {w : World} {l : List Oper} (n : Nat) (hm : P.follows .mixedOrders = true) (hB : Region.lexTailB .any l.toArray n = true) (hC : C w.drew)
    (h : wpQuiet P l.toArray C (fun a' => ∀ w', C w' → wpList P l.toArray Q (l.drop n) a' w') (l.take n) a) : (Code.region id l.toArray true).wp P Q a w := by
  simp only [Region.lexTailB, Bool.and_eq_true, decide_eq_true_eq] at hB
  obtain ⟨⟨⟨⟨hsel, hn⟩, hs⟩, hc⟩, hlex⟩ := hB
  have hn' : n < l.length := by simpa using hn
  have htl : (l.take n).length = n := by simp; omega
  have hdl : (l.drop n).length = l.toArray.size - n := by simp
  have inv0 : HeadInv .any l.toArray n (Array.replicate l.toArray.size false) :=
    ⟨by simp, fun j oj _ hl => (by rw [getD_replicate_false] at hl; cases hl), fun t _ ht => getD_in (by simpa using ht) (getD_replicate_false _ _)⟩
  have H := headQ_lex (md := .any) (g := l.toArray.size - n) hsel hs hc hn (l.take n) 0 _ a (fun j hj => by
    have hj' : j < n := by rw [htl] at hj; exact hj
    simp [hj']) (by simpa using htl) inv0 (by rw [htl]; exact hlex) h
  refine wp_region_any hm ?_
  have := headQ_any (Q := Q) (g := l.toArray.size - n) (fun listed a' hL w' hw' => by
    have := wpAny_of_seq (md := .any) (Q' := Q) (l.drop n) n listed a' w' (fun j => by simp [List.getElem?_drop]) (by rw [hdl]; exact hL.1) (hL.2 w' hw')
    rwa [hdl] at this) _ _ _ H w.drew hC
  rw [htl, show n + (l.toArray.size - n) = l.toArray.size by omega] at this
  exact this
/-- a load of an array or a struct, in whatever class of worlds -/
theorem wpQuiet_load_rows {Q : Act → Prop} {op : Oper} {rest : List Oper} {a : Act} (hgd : op.guard = none) (ty : TypeId) (x : Operand) (ho : op.op = .load ty x)
    (b o : Nat) (hx : a.eval x = .pointer (some ⟨b, o, none⟩)) (cs : Array Value) (hc : ∀ w, C w → (loadVar ty ⟨b, o, none⟩).run P w = .ok (.agg cs) w)
    (h : wpQuiet P ops C Q rest (a.put op.dst (.agg cs))) : wpQuiet P ops C Q (op :: rest) a := by
  refine wpQuiet_step fun K hK => ?_
  have hw : Region.wanted op (yielded ops a.tmps) = true := by simp [Region.wanted, hgd]
  rw [if_pos hw]
  refine ⟨.agg cs, ?_, hK _ h⟩
  intro w' hw'
  unfold Oper.quietAt execOp
  simp only [ho, hx, Instr.loadAt, Instr.sureAddr, Sem.run_bind, Sem.run_pure, Result.andThen_ok, hc w' hw']
  exact ⟨rfl, rfl⟩
/-- a call by its contract, in whatever class of worlds -/
theorem wpQuiet_call {Q : Act → Prop} {op : Oper} {rest : List Oper} {a : Act} (hgd : op.guard = none) (f : FuncId) (args : Array Value) (v : Value) (hrun : ∀ w, C w → (execOp a.eval op).run P w = .ok (.enter f args) w)
    (hc : ∀ w, C w → Calls P f args w fun e w' => e = .returned v ∧ C w') (h : wpQuiet P ops C Q rest (a.put op.dst v)) : wpQuiet P ops C Q (op :: rest) a := by
  refine wpQuiet_step fun K hK => ?_
  have hw : Region.wanted op (yielded ops a.tmps) = true := by simp [Region.wanted, hgd]
  rw [if_pos hw]
  refine ⟨v, ?_, hK _ h⟩
  intro w' hw'
  unfold Oper.quietAt
  rw [hrun w' hw']
  exact ⟨rfl, hc w' hw'⟩
/-- any operation that only reads -/
theorem wpQuiet_value {Q : Act → Prop} {op : Oper} {rest : List Oper} {a : Act} (hgd : op.guard = none) (v : Value) (hrun : ∀ w, C w → (execOp a.eval op).run P w = .ok (.value v) w)
    (h : wpQuiet P ops C Q rest (a.put op.dst v)) : wpQuiet P ops C Q (op :: rest) a := by
  refine wpQuiet_step fun K hK => ?_
  have hw : Region.wanted op (yielded ops a.tmps) = true := by simp [Region.wanted, hgd]
  rw [if_pos hw]
  refine ⟨v, ?_, hK _ h⟩
  intro w' hw'
  unfold Oper.quietAt
  rw [hrun w' hw']
  exact ⟨rfl, rfl⟩
/-- one step that only reads; its value is found by the walk -/
theorem wpQuiet_read {Q : Act → Prop} {op : Oper} {rest : List Oper} {a : Act} (h : ∃ v, (Region.wanted op (yielded ops a.tmps) = true ∧ ∀ w, C w → (execOp a.eval op).run P w = .ok (.value v) w) ∧ wpQuiet P ops C Q rest (a.put op.dst v)) : wpQuiet P ops C Q (op :: rest) a := by
  obtain ⟨v, ⟨h1, h2⟩, h3⟩ := h
  refine wpQuiet_step fun K hK => ?_
  rw [if_pos h1]
  refine ⟨v, ?_, hK _ h3⟩
  intro w' hw'
  unfold Oper.quietAt
  rw [h2 w' hw']
  exact ⟨rfl, rfl⟩
end
end Go.Proofs.YtmkllibfblacfaaDoor

/-
  A call, guarded or not, in a drawn region that is walked in the order of its text (used with go_big_quiet_want).
-/
namespace Go.Proofs.YtmkllibfblacfaaDoor
open Go.RowKit
theorem quietAt_call {P : Program} {op : Oper} {a : Act} {C : World → Prop} {w : World} {v : Value} (f : FuncId) (args : Array Value) (hrun : (execOp a.eval op).run P w = .ok (.enter f args) w)
    (h : Calls P f args w fun e w' => e = .returned v ∧ C w') : op.quietAt P a C w v := by
  unfold Oper.quietAt
  rw [hrun]
  exact ⟨rfl, h⟩
end Go.Proofs.YtmkllibfblacfaaDoor

/-
  A region that draws its order: first operations that only read (under a condition S on the world), then some that write and keep S, then last ones that need not keep it; the second and third in one forced order. One walk, in the order of the text.
-/
namespace Go.Proofs.YtmkllibfblacfaaDoor
open Go.RowKit

section
variable {P : Program} {ops : Array Oper} {md : Region.Mode} {S : World → Prop} {Q : Exit → Act → World → Prop}
/-- operations that only read, one by one -/
def wpYield (P : Program) (ops : Array Oper) (S : World → Prop) (R : Act → Prop) : List Oper → Act → Prop
  | [], a => R a
  | o :: rest, a => ∃ v, YieldsIf P ops S o v a ∧ wpYield P ops S R rest (a.put o.dst v)
/-- operations that keep S, one by one -/
def wpKeep (P : Program) (ops : Array Oper) (S : World → Prop) (Q : Exit → Act → World → Prop) (R : Act → World → Prop) (i : Nat) : Nat → Act → World → Prop
  | 0, a, w => R a w
  | f + 1, a, w => wpOp P ops Q i (fun a' w' => S w' ∧ wpKeep P ops S Q R (i + 1) f a' w') a w
/-- whatever order is picked among the first n, S kept -/
def HeadH (P : Program) (md : Region.Mode) (ops : Array Oper) (S : World → Prop) (Q : Exit → Act → World → Prop) (n : Nat) (L : Array Bool → Act → World → Prop) : Nat → Array Bool → Act → World → Prop
  | 0, listed, a, w => L listed a w
  | f + 1, listed, a, w => Region.ready md ops listed ≠ [] ∧ ∀ i ∈ Region.ready md ops listed, i < n ∧ wpOp P ops Q i (fun a' w' => S w' ∧ HeadH P md ops S Q n L f (listed.setIfInBounds i true) a' w') a w
theorem headH_any {n g : Nat} {L : Array Bool → Act → World → Prop} (hL : ∀ listed a w, L listed a w → wpAny P md ops Q g listed a w) :
    ∀ (f : Nat) (listed : Array Bool) (a : Act) (w : World), HeadH P md ops S Q n L f listed a w → wpAny P md ops Q (f + g) listed a w := by
  intro f
  induction f with
  | zero => intro listed a w h; rw [Nat.zero_add]; exact hL _ _ _ h
  | succ f ih =>
    intro listed a w h
    rw [show f + 1 + g = (f + g) + 1 by omega]
    exact ⟨fun h0 => absurd h0 h.1, fun i hi => wpOp_mono (fun a' w' k => ih _ a' w' k.2) (h.2 i hi).2⟩
theorem headH_first {n i : Nat} {oi : Oper} {v : Value} {L : Array Bool → Act → World → Prop} (hi : ops[i]? = some oi) (hsel : ∀ (j : Nat) (o : Oper) cs b, ops[j]? = some o → o.op ≠ .select cs b)
    (hQ : ∀ c a w, Q (.panic c) (a.put oi.dst v) w → Q (.panic c) a w)
    (hs : Region.sinkB md ops n = true) (hc : Region.chainB md ops n = true) (hn : n < ops.size) (hin : i < n) (hdone : ∀ listed a w, L listed a w → ∀ j ∈ Region.ready md ops listed, n ≤ j) :
    ∀ (f : Nat) (listed : Array Bool) (a : Act) (w : World), HeadInv md ops n listed →
      (∀ j oj, ops[j]? = some oj → j ≠ i → listed.getD j true = false → (∀ e ∈ oj.after, Region.binds md e = true → e.on ≠ i) → oi.apart ops oj = true) →
      i ∈ Region.ready md ops listed → YieldsIf P ops S oi v a → S w → HeadH P md ops S Q n L f (listed.setIfInBounds i true) (a.put oi.dst v) w → HeadH P md ops S Q n L (f + 1) listed a w := by
  intro f
  induction f with
  | zero =>
    intro listed a w inv _ hr hy hS H
    have hun := (mem_ready.1 hr).1
    refine ⟨fun h => (by rw [h] at hr; cases hr), fun j hj => ?_⟩
    have hjn : j < n := Nat.lt_of_not_le fun h => absurd hj (tail_waits hs hc hn inv _ i rfl hin hun j h)
    refine ⟨hjn, ?_⟩
    by_cases hji : j = i
    · subst hji; exact hy.wpOp hi hS ⟨hS, H⟩
    · have := hdone _ _ _ H j (ready_mono hj hji)
      omega
  | succ f ih =>
    intro listed a w inv hfree hr hy hS H
    have hun := (mem_ready.1 hr).1
    refine ⟨fun h => (by rw [h] at hr; cases hr), fun j hj => ?_⟩
    have hjn : j < n := Nat.lt_of_not_le fun h => absurd hj (tail_waits hs hc hn inv _ i rfl hin hun j h)
    refine ⟨hjn, ?_⟩
    by_cases hji : j = i
    · subst hji; exact hy.wpOp hi hS ⟨hS, H⟩
    · have h1 := (H.2 j (ready_mono hj hji)).2
      obtain ⟨hjun, oj, hoj, hall⟩ := mem_ready.1 hj
      have hnot : ∀ e ∈ oj.after, Region.binds md e = true → e.on ≠ i := fun e he hb heq => by
        have h2 := hall e he hb
        rw [heq, getD_both hun] at h2
        cases h2
      have h2 := wpOp_putIf hoj (hfree j oj hoj hji hjun hnot) (fun cs b => hsel i oi cs b hi) (fun cs b => hsel j oj cs b hoj) hQ hy h1
      refine wpOp_mono (fun a' w' h3 => ⟨h3.2.1, ih (listed.setIfInBounds j true) a' w' (inv.set hj hjn) (fun k ok hk hki hunk hno => hfree k ok hk hki ?_ hno) (ready_mono hr (Ne.symm hji)) h3.1 h3.2.1 ?_⟩) h2
      · by_cases hjk : j = k
        · subst hjk; exact hjun
        · rw [getD_set_ne true hjk] at hunk; exact hunk
      · rw [Array.setIfInBounds_comm _ _ hji]
        exact h3.2.2
/-- those that keep S, in their forced order -/
theorem headH_seq {n : Nat} {R : Act → World → Prop} : ∀ (f k : Nat) (g : Nat) (listed : Array Bool) (a : Act) (w : World), k + f = n → Region.seqB md ops (f + g) k listed = true → wpKeep P ops S Q R k f a w →
    HeadH P md ops S Q n (fun listed' a' w' => Region.seqB md ops g n listed' = true ∧ R a' w') f listed a w := by
  intro f
  induction f with
  | zero => intro k g listed a w hk hB h; obtain rfl : k = n := by omega
            exact ⟨by simpa using hB, h⟩
  | succ f ih =>
    intro k g listed a w hk hB h
    rw [show f + 1 + g = (f + g) + 1 by omega] at hB
    simp only [Region.seqB, Bool.and_eq_true, decide_eq_true_eq] at hB
    refine ⟨fun h0 => (by rw [hB.1] at h0; cases h0), fun i hi => ?_⟩
    rw [hB.1] at hi
    obtain rfl : i = k := by simpa using hi
    exact ⟨by omega, wpOp_mono (fun a' w' h3 => ⟨h3.1, ih (i + 1) g _ a' w' (by omega) hB.2 h3.2⟩) h⟩
theorem headH_lex {n g : Nat} {R : Act → World → Prop} {w : World} (hsel : Region.noSelect ops = true) (hQ : ∀ c (d : Option Tmp) v a w, Q (.panic c) (a.put d v) w → Q (.panic c) a w) (hs : Region.sinkB md ops n = true) (hc : Region.chainB md ops n = true) (hn : n < ops.size) (hS : S w) :
    ∀ (l : List Oper) (k f : Nat) (listed : Array Bool) (a : Act), (∀ j, j < l.length → l[j]? = ops[k + j]?) → k + l.length + f = n → HeadInv md ops n listed →
    Region.lexHead md ops (f + g) l.length k listed = true → wpYield P ops S (fun a' => wpKeep P ops S Q R (k + l.length) f a' w) l a →
    HeadH P md ops S Q n (fun listed' a' w' => Region.seqB md ops g n listed' = true ∧ R a' w') (l.length + f) listed a w := by
  intro l
  induction l with
  | nil =>
    intro k f listed a _ hk _ hB h
    rw [List.length_nil, Nat.zero_add]
    exact headH_seq f k g listed a w (by simpa using hk) (by simpa [Region.lexHead] using hB) (by simpa [wpYield] using h)
  | cons o l ih =>
    intro k f listed a hl hk inv hB h
    have h0 : ops[k]? = some o := by simpa using (hl 0 (by simp)).symm
    simp only [List.length_cons, Region.lexHead, Bool.and_eq_true] at hB
    obtain ⟨⟨hr, hf⟩, hB'⟩ := hB
    have hkn : k < n := by simp only [List.length_cons] at hk; omega
    have hr' : k ∈ Region.ready md ops listed := by simpa using hr
    obtain ⟨v, hy, hK⟩ := h
    rw [List.length_cons, show l.length + 1 + f = (l.length + f) + 1 by omega]
    refine headH_first h0 (Region.noSelect_spec hsel) (fun c a w => hQ c o.dst v a w) hs hc hn hkn (fun listed' a' w' hL => seqB_ready hL.1) (l.length + f) listed a w inv (Region.free_spec h0 hf) hr' hy hS
      (ih (k + 1) f _ _ (fun j hj => by have := hl (j + 1) (by simp; omega); simpa [Nat.add_assoc, Nat.add_comm 1 j] using this) (by simp only [List.length_cons] at hk; omega) (inv.set hr' hkn) hB' ?_)
    rw [List.length_cons, show k + (l.length + 1) = k + 1 + l.length by omega] at hK
    exact hK
/-- the law: m that only read, n - m that keep S, the rest -/
theorem wp_region_held_tail {id : Nat} {a : Act} {w : World} {l : List Oper} (m n : Nat) (hmn : m ≤ n) (hm : P.follows .mixedOrders = true) (hQ : ∀ c (d : Option Tmp) v a w, Q (.panic c) (a.put d v) w → Q (.panic c) a w)
    (hB : (Region.noSelect l.toArray && decide (n < l.toArray.size) && Region.sinkB .any l.toArray n && Region.chainB .any l.toArray n && Region.lexHead .any l.toArray (n - m + (l.toArray.size - n)) m 0 (Array.replicate l.toArray.size false)) = true) (hS : S w.drew)
    (h : wpYield P l.toArray S (fun a' => wpKeep P l.toArray S Q (fun a'' w'' => wpList P l.toArray Q (l.drop n) a'' w'') m (n - m) a' w.drew) (l.take m) a) : (Code.region id l.toArray true).wp P Q a w := by
  simp only [Bool.and_eq_true, decide_eq_true_eq] at hB
  obtain ⟨⟨⟨⟨hsel, hn⟩, hs⟩, hc⟩, hlex⟩ := hB
  have hn' : n < l.length := by simpa using hn
  have htl : (l.take m).length = m := by simp; omega
  have hdl : (l.drop n).length = l.toArray.size - n := by simp
  have inv0 : HeadInv .any l.toArray n (Array.replicate l.toArray.size false) :=
    ⟨by simp, fun j oj _ hl => (by rw [getD_replicate_false] at hl; cases hl), fun t _ ht => getD_in (by simpa using ht) (getD_replicate_false _ _)⟩
  have H := headH_lex (md := .any) (g := l.toArray.size - n) hsel hQ hs hc hn hS (l.take m) 0 (n - m) _ a (fun j hj => by
    have hj' : j < m := by rw [htl] at hj; exact hj
    simp [hj']) (by rw [htl]; omega) inv0 (by rw [htl]; exact hlex) (by rw [htl, Nat.zero_add]; exact h)
  refine wp_region_any hm ?_
  have := headH_any (g := l.toArray.size - n) (fun listed a' w' hL => by
    have := wpAny_of_seq (md := .any) (Q' := Q) (l.drop n) n listed a' w' (fun j => by simp [List.getElem?_drop]) (by rw [hdl]; exact hL.1) hL.2
    rwa [hdl] at this) _ _ _ _ H
  rw [htl, show m + (n - m) + (l.toArray.size - n) = l.toArray.size by omega] at this
  exact this
/-- one step that only reads; its value is found by the walk -/
theorem wpYield_step {R : Act → Prop} {o : Oper} {rest : List Oper} {a : Act} (h : ∃ v, (Region.wanted o (yielded ops a.tmps) = true ∧ ∀ w, S w → (execOp a.eval o).run P w = .ok (.value v) w) ∧ wpYield P ops S R rest (a.put o.dst v)) : wpYield P ops S R (o :: rest) a := by
  obtain ⟨v, h1, h2⟩ := h
  exact ⟨v, .inl h1, h2⟩
theorem wpYield_load {R : Act → Prop} {o : Oper} {rest : List Oper} {a : Act} (hgd : o.guard = none) (ty : TypeId) (x : Operand) (ho : o.op = .load ty x) (b off : Nat) (hx : a.eval x = .pointer (some ⟨b, off, none⟩)) (cs : Array Value)
    (hc : ∀ w, S w → (loadVar ty ⟨b, off, none⟩).run P w = .ok (.agg cs) w) (h : wpYield P ops S R rest (a.put o.dst (.agg cs))) : wpYield P ops S R (o :: rest) a := by
  refine ⟨_, .inl ⟨by simp [Region.wanted, hgd], fun w hw => ?_⟩, h⟩
  unfold execOp
  simp only [ho, hx, Instr.loadAt, Instr.sureAddr, Sem.run_bind, Sem.run_pure, Result.andThen_ok, hc w hw]
theorem wpYield_build {R : Act → Prop} {o : Oper} {rest : List Oper} {a : Act} (hgd : o.guard = none) (t : TypeId) (parts : Array (Nat × Operand)) (ho : o.op = .build t parts) (cells : Array Value) (vs : List (Nat × Value)) (hv : (parts.map fun (i, x) => (i, a.eval x)).toList = vs) (hb : P.built t vs = some cells)
    (h : wpYield P ops S R rest (a.put o.dst (.agg cells))) : wpYield P ops S R (o :: rest) a := by
  refine ⟨_, .inl ⟨by simp [Region.wanted, hgd], fun w _ => ?_⟩, h⟩
  subst hv
  unfold execOp
  simp only [ho, Sem.run_bind, run_build w t _ cells hb, Result.andThen_ok, Sem.run_pure]
/-- one step that keeps S -/
theorem wpKeep_step {R : Act → World → Prop} {i f : Nat} {o : Oper} {a : Act} {w : World} (hi : ops[i]? = some o) (hgd : o.guard = none)
    (h : ∀ K : Act → World → Prop, (∀ a' w', S w' → wpKeep P ops S Q R (i + 1) f a' w' → K a' w') → Oper.wp P o a w K Q) : wpKeep P ops S Q R i (f + 1) a w := by
  show wpOp P ops Q i _ a w
  unfold wpOp
  simp only [hi]
  rw [if_pos (by simp [Region.wanted, hgd])]
  exact .inl (h _ fun a' w' h1 h2 => ⟨h1, h2⟩)
end
end Go.Proofs.YtmkllibfblacfaaDoor

/-
  A region that draws its order, walked in a planned one: operations that only read (under a condition S on the world), each as soon as it is ready; operations that write or call and keep S, each where nothing else is ready; then the last ones in their forced order. One walk.
-/
namespace Go.Proofs.YtmkllibfblacfaaDoor
open Go.RowKit
section
variable {P : Program} {ops : Array Oper} {md : Region.Mode} {S : World → Prop} {Q : Exit → Act → World → Prop}
/-- the plan: (true, i): operation i only reads; (false, i): it may write, and keeps S -/
def wpPlan (P : Program) (ops : Array Oper) (S : World → Prop) (Q : Exit → Act → World → Prop) (R : Act → World → Prop) : List (Bool × Nat) → Act → World → Prop
  | [], a, w => R a w
  | (true, i) :: r, a, w => ∃ o v, ops[i]? = some o ∧ YieldsIf P ops S o v a ∧ wpPlan P ops S Q R r (a.put o.dst v) w
  | (false, i) :: r, a, w => wpOp P ops Q i (fun a' w' => S w' ∧ wpPlan P ops S Q R r a' w') a w
def planB (md : Region.Mode) (ops : Array Oper) (g n : Nat) : List (Bool × Nat) → Array Bool → Bool
  | [], listed => Region.seqB md ops g n listed
  | (true, i) :: r, listed => decide (i < n) && (Region.ready md ops listed).contains i && Region.free md ops listed i && planB md ops g n r (listed.setIfInBounds i true)
  | (false, i) :: r, listed => decide (i < n) && decide (Region.ready md ops listed = [i]) && planB md ops g n r (listed.setIfInBounds i true)
theorem headH_plan {n g : Nat} {R : Act → World → Prop} (hsel : Region.noSelect ops = true) (hQ : ∀ c (d : Option Tmp) v a w, Q (.panic c) (a.put d v) w → Q (.panic c) a w) (hs : Region.sinkB md ops n = true) (hc : Region.chainB md ops n = true) (hn : n < ops.size) :
    ∀ (pl : List (Bool × Nat)) (listed : Array Bool) (a : Act) (w : World), HeadInv md ops n listed → planB md ops g n pl listed = true → S w → wpPlan P ops S Q R pl a w →
    HeadH P md ops S Q n (fun listed' a' w' => Region.seqB md ops g n listed' = true ∧ R a' w') pl.length listed a w
  | [], listed, a, w, _, hB, _, h => ⟨hB, h⟩
  | (true, i) :: r, listed, a, w, inv, hB, hS, h => by
    simp only [planB, Bool.and_eq_true, decide_eq_true_eq] at hB
    obtain ⟨⟨⟨hin, hr⟩, hf⟩, hB'⟩ := hB
    have hr' : i ∈ Region.ready md ops listed := by simpa using hr
    obtain ⟨o, v, h0, hy, hK⟩ := h
    rw [List.length_cons]
    exact headH_first h0 (Region.noSelect_spec hsel) (fun c a w => hQ c o.dst v a w) hs hc hn hin (fun listed' a' w' hL => seqB_ready hL.1) r.length listed a w inv (Region.free_spec h0 hf) hr' hy hS
      (headH_plan hsel hQ hs hc hn r _ _ w (inv.set hr' hin) hB' hS hK)
  | (false, i) :: r, listed, a, w, inv, hB, hS, h => by
    simp only [planB, Bool.and_eq_true, decide_eq_true_eq] at hB
    obtain ⟨⟨hin, hr⟩, hB'⟩ := hB
    have hr' : i ∈ Region.ready md ops listed := by rw [hr]; simp
    rw [List.length_cons]
    refine ⟨fun h0 => (by rw [h0] at hr; cases hr), fun j hj => ?_⟩
    rw [hr] at hj
    obtain rfl : j = i := by simpa using hj
    exact ⟨hin, wpOp_mono (fun a' w' h3 => ⟨h3.1, headH_plan hsel hQ hs hc hn r _ _ _ (inv.set hr' hin) hB' h3.1 h3.2⟩) h⟩
theorem wp_region_plan {id : Nat} {a : Act} {w : World} {l : List Oper} (n : Nat) (pl : List (Bool × Nat)) (hm : P.follows .mixedOrders = true) (hQ : ∀ c (d : Option Tmp) v a w, Q (.panic c) (a.put d v) w → Q (.panic c) a w)
    (hB : (Region.noSelect l.toArray && decide (n < l.toArray.size) && decide (pl.length = n) && Region.sinkB .any l.toArray n && Region.chainB .any l.toArray n && planB .any l.toArray (l.toArray.size - n) n pl (Array.replicate l.toArray.size false)) = true) (hS : S w.drew)
    (h : wpPlan P l.toArray S Q (fun a'' w'' => wpList P l.toArray Q (l.drop n) a'' w'') pl a w.drew) : (Code.region id l.toArray true).wp P Q a w := by
  simp only [Bool.and_eq_true, decide_eq_true_eq] at hB
  obtain ⟨⟨⟨⟨⟨hsel, hn⟩, hpl⟩, hs⟩, hc⟩, hplan⟩ := hB
  have hn' : n < l.length := by simpa using hn
  have hdl : (l.drop n).length = l.toArray.size - n := by simp
  have inv0 : HeadInv .any l.toArray n (Array.replicate l.toArray.size false) :=
    ⟨by simp, fun j oj _ hl => (by rw [getD_replicate_false] at hl; cases hl), fun t _ ht => getD_in (by simpa using ht) (getD_replicate_false _ _)⟩
  have H := headH_plan (md := .any) (g := l.toArray.size - n) hsel hQ hs hc hn pl _ a w.drew inv0 hplan hS h
  refine wp_region_any hm ?_
  have := headH_any (g := l.toArray.size - n) (fun listed' a' w' hL => by
    have := wpAny_of_seq (md := .any) (Q' := Q) (l.drop n) n listed' a' w' (fun j => by simp [List.getElem?_drop]) (by rw [hdl]; exact hL.1) hL.2
    rwa [hdl] at this) _ _ _ _ H
  rw [hpl, show n + (l.toArray.size - n) = l.toArray.size by omega] at this
  exact this
section
variable {l : List Oper}
/-- a step that only reads; its value is found by the walk -/
theorem wpPlan_step {R : Act → World → Prop} {i : Nat} {r : List (Bool × Nat)} {o : Oper} {a : Act} {w : World} (hi : l[i]? = some o) (h : ∃ v, (Region.wanted o (yielded l.toArray a.tmps) = true ∧ ∀ w, S w → (execOp a.eval o).run P w = .ok (.value v) w) ∧ wpPlan P l.toArray S Q R r (a.put o.dst v) w) : wpPlan P l.toArray S Q R ((true, i) :: r) a w := by
  obtain ⟨v, h1, h2⟩ := h
  exact ⟨o, v, by rw [List.getElem?_toArray]; exact hi, .inl h1, h2⟩
/-- a step that is passed over -/
theorem wpPlan_skip {R : Act → World → Prop} {i : Nat} {r : List (Bool × Nat)} {o : Oper} {a : Act} {w : World} (hi : l[i]? = some o) (hy : YieldsIf P l.toArray S o undef a) (h : wpPlan P l.toArray S Q R r (a.put o.dst undef) w) : wpPlan P l.toArray S Q R ((true, i) :: r) a w :=
  ⟨o, undef, by rw [List.getElem?_toArray]; exact hi, hy, h⟩
/-- a step that keeps S -/
theorem wpPlan_keep {R : Act → World → Prop} {i : Nat} {r : List (Bool × Nat)} {o : Oper} {a : Act} {w : World} (hi : l[i]? = some o) (hw : Region.wanted o (yielded l.toArray a.tmps) = true)
    (h : ∀ K : Act → World → Prop, (∀ a' w', S w' → wpPlan P l.toArray S Q R r a' w' → K a' w') → Oper.wp P o a w K Q) : wpPlan P l.toArray S Q R ((false, i) :: r) a w := by
  show wpOp P l.toArray Q i _ a w
  have hi' : l.toArray[i]? = some o := by rw [List.getElem?_toArray]; exact hi
  unfold wpOp
  simp only [hi']
  rw [if_pos hw]
  exact .inl (h _ fun a' w' h1 h2 => ⟨h1, h2⟩)
/-- a call of a Go function -/
theorem wpPlan_call {R : Act → World → Prop} {i : Nat} {r : List (Bool × Nat)} {o : Oper} {a : Act} {w : World} (hi : l[i]? = some o) (hw : Region.wanted o (yielded l.toArray a.tmps) = true) (f : FuncId) (args : Array Value) (hrun : (execOp a.eval o).run P w = .ok (.enter f args) w)
    {R' : Ending → World → Prop} (hc : Calls P f args w R') (h : ∀ e w', R' e w' → (∃ v, e = .returned v ∧ S w' ∧ wpPlan P l.toArray S Q R r (a.put o.dst v) w') ∨ (∃ c, e = .panicked c ∧ Q (.panic c) a w')) : wpPlan P l.toArray S Q R ((false, i) :: r) a w := by
  show wpOp P l.toArray Q i _ a w
  have hi' : l.toArray[i]? = some o := by rw [List.getElem?_toArray]; exact hi
  unfold wpOp
  simp only [hi']
  rw [if_pos hw]
  refine .inl ?_
  unfold Oper.wp
  rw [hrun, Oper.upon_enter]
  refine hc.mono fun e w' he => ?_
  rcases h e w' he with ⟨v, rfl, h1, h2⟩ | ⟨c, rfl, h1⟩
  · exact ⟨h1, h2⟩
  · exact h1
end
end
end Go.Proofs.YtmkllibfblacfaaDoor

/-
  Layer 13: the document's first token of a text.
-/
namespace Go.Proofs.YtmkllibfblacfaaDoor
open Go.RowKit
/-- the marks as strings in memory -/
abbrev marksV : List Value := Lx.marks.map fun m => .string (Lx.mk m)
theorem marks_len : Lx.marks.length = 16 := rfl
/-- none of the first k marks stands ahead -/
def NoMark (l : List UInt8) (k : Nat) : Prop := ∀ m ∈ Lx.marks.take k, m.isPrefixOf l = false
theorem noMark_start (l : List UInt8) : NoMark l 0 := by intro m hm; simp at hm
theorem noMark_next {l : List UInt8} {k : Nat} (h : NoMark l k) (hk : k < Lx.marks.length) (hp : Lx.marks[k].isPrefixOf l = false) : NoMark l (k + 1) := by
  intro m hm
  rw [List.take_succ_eq_append_getElem hk] at hm
  rcases List.mem_append.1 hm with hm | hm
  · exact h m hm
  · simp only [List.mem_singleton] at hm; subst hm; exact hp
theorem noMark_end {l : List UInt8} (h : NoMark l 16) : Lx.markT l = (Lx.no, 0, 11) := by
  unfold Lx.markT
  have : Lx.marks.find? (fun m => m.isPrefixOf l) = none := by
    rw [List.find?_eq_none]
    intro m hm
    have := h m (by rw [List.take_of_length_le (by rw [marks_len]; omega)]; exact hm)
    simp [this]
  rw [this]
theorem noMark_hit {l : List UInt8} {k : Nat} (h : NoMark l k) (hk : k < Lx.marks.length) (hp : Lx.marks[k].isPrefixOf l = true) : Lx.markT l = (⟨4, Lx.mk Lx.marks[k], 0, 0⟩, Lx.marks[k].length, 0) := by
  have key : Lx.marks.find? (fun m => m.isPrefixOf l) = some Lx.marks[k] := by
    have e : Lx.marks = Lx.marks.take k ++ Lx.marks[k] :: Lx.marks.drop (k + 1) := by rw [List.getElem_cons_drop, List.take_append_drop]
    rw [List.find?_eq_some_iff_append]
    refine ⟨hp, Lx.marks.take k, Lx.marks.drop (k + 1), e, fun m hm => ?_⟩
    simp [h m hm]
  unfold Lx.markT
  rw [key]
theorem prefix_iff (m : List UInt8) (s : ByteArray) : m.isPrefixOf s.data.toList = true ↔ m.length ≤ s.size ∧ s.extract 0 m.length = Lx.mk m := by
  have hl : s.data.toList.length = s.size := by rw [Array.length_toList]; rfl
  rw [List.isPrefixOf_iff_prefix]
  constructor
  · rintro ⟨q, hq⟩
    refine ⟨by rw [← hl, ← hq]; simp, ?_⟩
    rw [take_list, ← hq, List.take_left]
  · rintro ⟨_, h2⟩
    rw [take_list] at h2
    have := congrArg (fun x : ByteArray => x.data.toList) h2
    have h3 : s.data.toList.take m.length = m := this
    exact ⟨s.data.toList.drop m.length, (congrArg (· ++ s.data.toList.drop m.length) h3.symm).trans (List.take_append_drop _ _)⟩
theorem tok_one4 {X : ByteArray} : (#[Value.int IntKind.i64 4, Value.string X, Value.int IntKind.i64 0, Value.int IntKind.i64 0].all (·.oneCell')) = true := by simp [Value.oneCell']
end Go.Proofs.YtmkllibfblacfaaDoor

/-
  Layer 13, the program's: marks.
-/
namespace Go.Proofs.YtmkllibfblacfaaDoor
open Go.RowKit
set_option maxRecDepth 100000 in
theorem mark13_fn (m s : ByteArray) (g : Nat) (w : World) (hc : w.cell? ⟨g, 0, none⟩ = some (.string s)) :
    Calls Tryd.prog 58 #[.string m, .pointer (some ⟨g, 0, none⟩)] w fun e w' => e = .returned (.bool (m.data.toList.isPrefixOf s.data.toList)) ∧ w' = w := by
  have cH := hasPre_any s m w
  generalize m.data.toList.isPrefixOf s.data.toList = B at *
  have H := Lib.hid cH
  clear cH
  go_enter Tryd.func58, Tryd.ntmps58
  go_wp2_with fail
  refine H.out.mono ?_
  rintro e w1 ⟨rfl, rfl⟩
  go_wp2_with fail
  go_ret
  exact ⟨rfl, rfl⟩
set_option maxRecDepth 100000 in
set_option maxHeartbeats 3200000 in
theorem marks13_any (w : World) : Calls Tryd.prog 56 #[] w fun e w' => e = .returned (.slice (some ⟨w.heap.size, 0, none⟩) 16 16) ∧ w' = w.alloc (.cells marksV.toArray 9) := by
  go_enter Tryd.func56, Tryd.ntmps56
  go_wp2_with fail
  go_ret
  exact ⟨rfl, rfl⟩
/-- the first mark that stands ahead, or none -/
def MarkIx (l : List UInt8) (w : World) (e : Ending) (w' : World) : Prop :=
  w' = w ∧ ((∃ k, ∃ hk : k < Lx.marks.length, e = .returned (.int .i64 (k : Int)) ∧ NoMark l k ∧ Lx.marks[k].isPrefixOf l = true) ∨ (e = .returned (.int .i64 (-1)) ∧ NoMark l 16))
theorem marks_cell {w : World} {g : Nat} (h : RowV w g 9 marksV) (k : Nat) (hk : k < Lx.marks.length) : w.cell? ⟨g, k, none⟩ = some (.string (Lx.mk Lx.marks[k])) := by
  rw [rowV_cell h k]
  show (Lx.marks.map fun m => Value.string (Lx.mk m))[k]? = _
  rw [List.getElem?_map, List.getElem?_eq_getElem hk]; rfl
set_option maxRecDepth 100000 in
set_option maxHeartbeats 3200000 in
theorem index13_any (s : ByteArray) (g gm : Nat) (w : World) (hc : w.cell? ⟨g, 0, none⟩ = some (.string s)) (hm : RowV w gm 9 marksV) :
    Calls Tryd.prog 57 #[.slice (some ⟨gm, 0, none⟩) 16 16, .func (.func 58) #[] #[.pointer (some ⟨g, 0, none⟩)]] w (MarkIx s.data.toList w) := by
  have H := Lib.hid (And.intro hc hm)
  clear hc hm
  go_enter Tryd.func57, Tryd.ntmps57
  go_wp2_with fail
  go_loop [8] (fun i => ∃ k : Nat, k ≤ 16 ∧ i = .int .i64 (k : Int) ∧ Hid (NoMark s.data.toList k)) (fun i => 16 - (intOf i).toNat)
  case atStart => exact ⟨0, Nat.zero_le _, rfl, Lib.hid (noMark_start _)⟩
  case round =>
    obtain ⟨k, hk, rfl, HM⟩ := hrel
    by_cases hlt : k < 16
    · have hkl : k < Lx.marks.length := hlt
      have hcell := marks_cell H.out.2 k hkl
      have hF := mark13_fn (Lx.mk Lx.marks[k]) s g w H.out.1
      rw [show (Lx.mk Lx.marks[k]).data.toList = Lx.marks[k] from rfl] at hF
      cases hb : Lx.marks[k].isPrefixOf s.data.toList with
      | true =>
        rw [hb] at hF
        have HX : Hid (MarkIx s.data.toList w (.returned (.int .i64 (k : Int))) w) := Lib.hid ⟨rfl, .inl ⟨k, hkl, rfl, HM.out, hb⟩⟩
        have HC := Lib.hid hF
        clear hF hb
        generalize Lx.mk Lx.marks[k] = M at *
        go_wp2_with fail
        refine HC.out.mono ?_
        rintro e w1 ⟨rfl, hw1⟩
        obtain rfl := hw1.symm; clear hw1
        go_wp2_with fail
        go_ret
        exact HX.out
      | false =>
        rw [hb] at hF
        have HX := Lib.hid (noMark_next HM.out hkl hb)
        have HC := Lib.hid hF
        clear hF hb
        generalize Lx.mk Lx.marks[k] = M at *
        go_wp2_with fail
        refine HC.out.mono ?_
        rintro e w1 ⟨rfl, hw1⟩
        obtain rfl := hw1.symm; clear hw1
        go_wp2_with fail
        go_round
        case rel => exact ⟨k + 1, by omega, by go_num, HX⟩
        case measure => simp [intOf]; omega
    · obtain rfl : k = 16 := by omega
      have HX : Hid (MarkIx s.data.toList w (.returned (.int .i64 (-1))) w) := Lib.hid ⟨rfl, .inr ⟨rfl, HM.out⟩⟩
      go_wp2_with fail
      go_ret
      exact HX.out
end Go.Proofs.YtmkllibfblacfaaDoor

/-
  Layer 13, the program's: a mark; the first token of a text.
-/
namespace Go.Proofs.YtmkllibfblacfaaDoor
open Go.RowKit
theorem mark_world (s : ByteArray) (w : World) :
    (((w.alloc (.cells #[.string s] 9)).alloc (.cells (tokC Lx.no) 74)).alloc (.cells marksV.toArray 9)).cell? ⟨w.heap.size, 0, none⟩ = some (.string s) ∧
    RowV (((w.alloc (.cells #[.string s] 9)).alloc (.cells (tokC Lx.no) 74)).alloc (.cells marksV.toArray 9)) (w.heap.size + 1) 74 (tokC Lx.no).toList ∧
    RowV (((w.alloc (.cells #[.string s] 9)).alloc (.cells (tokC Lx.no) 74)).alloc (.cells marksV.toArray 9)) (w.heap.size + 2) 9 marksV ∧
    Below w.heap.size w (((w.alloc (.cells #[.string s] 9)).alloc (.cells (tokC Lx.no) 74)).alloc (.cells marksV.toArray 9)) := by
  have s1 : (w.alloc (.cells #[.string s] 9)).heap.size = w.heap.size + 1 := World.size_alloc _ _
  have s2 : ((w.alloc (.cells #[.string s] 9)).alloc (.cells (tokC Lx.no) 74)).heap.size = w.heap.size + 2 := by rw [World.size_alloc, s1]
  have r1 : RowV (w.alloc (.cells #[.string s] 9)) w.heap.size 9 [.string s] := rowV_new w _ [.string s]
  have r2 := (tok_new Lx.no (w.alloc (.cells #[.string s] 9))).1
  have r3 := rowV_new ((w.alloc (.cells #[.string s] 9)).alloc (.cells (tokC Lx.no) 74)) 9 marksV
  rw [s1] at r2
  rw [s2] at r3
  exact ⟨rowV_cell (rowV_alloc (rowV_alloc r1 _) _) 0, rowV_alloc r2 _, r3, (((Below.refl w.heap.size w).alloc (Nat.le_refl _) _).alloc (by rw [s1]; omega) _).alloc (by rw [s2]; omega) _⟩
set_option maxRecDepth 100000 in
set_option maxHeartbeats 6400000 in
theorem mark13_any (s : ByteArray) (w : World) :
    Calls Tryd.prog 41 #[.string s] w fun e w' => e = .returned (.tuple #[tokV (Lx.markT s.data.toList).1, .int .i64 ((Lx.markT s.data.toList).2.1 : Nat), .int .i64 (Lx.markT s.data.toList).2.2]) ∧ Below w.heap.size w w' := by
  obtain ⟨c0, ra, rm, hb⟩ := mark_world s w
  have s1 : (w.alloc (.cells #[.string s] 9)).heap.size = w.heap.size + 1 := World.size_alloc _ _
  have s2 : ((w.alloc (.cells #[.string s] 9)).alloc (.cells (tokC Lx.no) 74)).heap.size = w.heap.size + 2 := by rw [World.size_alloc, s1]
  have cM := marks13_any ((w.alloc (.cells #[.string s] 9)).alloc (.cells (tokC Lx.no) 74))
  rw [s2] at cM
  have cI := index13_any s w.heap.size (w.heap.size + 2) _ c0 rm
  generalize hwq : ((w.alloc (.cells #[.string s] 9)).alloc (.cells (tokC Lx.no) 74)).alloc (.cells marksV.toArray 9) = wq at *
  have H := Lib.hid (And.intro cM (And.intro cI (And.intro ra (And.intro hb rm))))
  clear cM cI hwq s1 s2 c0 ra rm hb
  go_enter Tryd.func41, Tryd.ntmps41
  go_wp2_with fail
  refine H.out.1.mono ?_
  rintro e w1 ⟨rfl, rfl⟩
  go_wp2_with fail
  refine H.out.2.1.mono ?_
  rintro e w2 ⟨hw2, hr⟩
  obtain rfl := hw2.symm; clear hw2
  rcases hr with ⟨k, hkl, rfl, hN, hP⟩ | ⟨rfl, hN⟩
  · have hp := noMark_hit hN hkl hP
    have hcq := marks_cell H.out.2.2.2.2 k hkl
    have hk16 : k < 16 := hkl
    have hp2 : Lx.markT s.data.toList = (⟨4, Lx.mk (Lx.marks[k]'hkl), 0, 0⟩, (Lx.mk (Lx.marks[k]'hkl)).size, 0) := hp.trans (by rw [mk_size])
    clear hp
    have HP := Lib.hid hp2
    generalize Lx.mk (Lx.marks[k]'hkl) = X at *
    clear hN hP hkl hp2
    have hra : RowV w1 (w.heap.size + 1) 74 (tokC Lx.no).toList := H.out.2.2.1
    have ra : RowV w1.drew (w.heap.size + 1) 74 (tokC Lx.no).toList := hra
    have hb := H.out.2.2.2.1
    go_wp2_with fail
    refine wp_region_plan (S := fun wx => wx.cell? ⟨w.heap.size + 2, k, none⟩ = some (.string X)) 11 [(true, 0), (true, 1), (true, 2), (true, 3), (true, 4), (true, 5), (true, 6), (true, 7), (true, 8), (true, 9), (false, 10)] (by kernel_rfl) (fun _ d _ _ _ h => by cases d <;> exact h) (by kernel_rfl) hcq ?_
    refine wpPlan_step (i := 0) rfl ?_
    apply Exists.intro
    refine ⟨⟨by rfl, fun wx hSx => ?_⟩, ?_⟩
    · obtain hcx := hSx
      go_simp
      with_reducible rfl
    simp only [Act.put, List.setIfInBounds_toArray, List.set_cons_zero, List.set_cons_succ]
    refine wpPlan_step (i := 1) rfl ?_
    apply Exists.intro
    refine ⟨⟨by rfl, fun wx hSx => ?_⟩, ?_⟩
    · obtain hcx := hSx
      go_simp
      with_reducible rfl
    simp only [Act.put, List.setIfInBounds_toArray, List.set_cons_zero, List.set_cons_succ]
    refine wpPlan_step (i := 2) rfl ⟨(.pointer (some ⟨w.heap.size + 2, k, none⟩)), ⟨by rfl, fun wx hSx => ?_⟩, ?_⟩
    · obtain hcx := hSx
      go_simp; try exact fun hx => absurd hx (by omega)
    simp only [Act.put, List.setIfInBounds_toArray, List.set_cons_zero, List.set_cons_succ]
    refine wpPlan_step (i := 3) rfl ⟨(.string X), ⟨by rfl, fun wx hSx => ?_⟩, ?_⟩
    · obtain hcx := hSx
      go_simp
    simp only [Act.put, List.setIfInBounds_toArray, List.set_cons_zero, List.set_cons_succ]
    refine wpPlan_step (i := 4) rfl ⟨(.agg #[.int .i64 4, .string X, .int .i64 0, .int .i64 0]), ⟨by rfl, fun wx hSx => ?_⟩, ?_⟩
    · obtain hcx := hSx
      go_simp
    simp only [Act.put, List.setIfInBounds_toArray, List.set_cons_zero, List.set_cons_succ]
    refine wpPlan_step (i := 5) rfl ?_
    apply Exists.intro
    refine ⟨⟨by rfl, fun wx hSx => ?_⟩, ?_⟩
    · obtain hcx := hSx
      go_simp
      with_reducible rfl
    simp only [Act.put, List.setIfInBounds_toArray, List.set_cons_zero, List.set_cons_succ]
    refine wpPlan_step (i := 6) rfl ?_
    apply Exists.intro
    refine ⟨⟨by rfl, fun wx hSx => ?_⟩, ?_⟩
    · obtain hcx := hSx
      go_simp
      with_reducible rfl
    simp only [Act.put, List.setIfInBounds_toArray, List.set_cons_zero, List.set_cons_succ]
    refine wpPlan_step (i := 7) rfl ⟨(.pointer (some ⟨w.heap.size + 2, k, none⟩)), ⟨by rfl, fun wx hSx => ?_⟩, ?_⟩
    · obtain hcx := hSx
      go_simp; try exact fun hx => absurd hx (by omega)
    simp only [Act.put, List.setIfInBounds_toArray, List.set_cons_zero, List.set_cons_succ]
    refine wpPlan_step (i := 8) rfl ⟨(.string X), ⟨by rfl, fun wx hSx => ?_⟩, ?_⟩
    · obtain hcx := hSx
      go_simp
    simp only [Act.put, List.setIfInBounds_toArray, List.set_cons_zero, List.set_cons_succ]
    refine wpPlan_step (i := 9) rfl ⟨(.int .i64 (X.size : Int)), ⟨by rfl, fun wx hSx => ?_⟩, ?_⟩
    · obtain hcx := hSx
      go_simp
    simp only [Act.put, List.setIfInBounds_toArray, List.set_cons_zero, List.set_cons_succ]
    have r4 := rowV_row ra [.int .i64 4, .string X, .int .i64 0, .int .i64 0]
    have o4 : Only (fun j => j = w.heap.size + 1) w1.drew (w1.drew.setRow (w.heap.size + 1) [.int .i64 4, .string X, .int .i64 0, .int .i64 0].toArray) := ⟨rfl, rfl, rfl, by simp [World.setRow], fun j _ hj => setRow_far _ _ j _ hj⟩
    refine wpPlan_keep (i := 10) rfl (by rfl) fun K hK => wp_store_row 74 (.tmp 2) (.tmp 18) rfl (w.heap.size + 1) #[.int .i64 4, .string X, .int .i64 0, .int .i64 0] rfl rfl 74 _ ra info_tok rfl tok_one4 (hK _ _ ((o4.cell (World.block_lt_of_cell? _ _ hcq) (by show ¬ w.heap.size + 2 = w.heap.size + 1; omega)).trans hcq) ?_)
    simp only [Act.put]
    have hb4 := Lib.hid ((hb.trans (Below.refl w.heap.size w1).drew).trans ((o4.below (B := w.heap.size) (fun j _ e => by omega) (by have := rowV_lt ra; omega))))
    have HR4 := Lib.hid r4
    clear hra ra hb r4 o4
    show wpList _ _ _ _ _ _
    simp only [List.drop_succ_cons, List.drop_zero]
    go_wp2_with fail
    rw [HP.out]
    exact bodyPost_ret (v := .tuple #[tokV ⟨4, X, 0, 0⟩, .int .i64 (X.size : Int), .int .i64 0]) (results_tok (p := 2) (u := 3) (x := 4) rfl _ _ (w.heap.size + 1) ⟨4, X, 0, 0⟩ rfl HR4.out) rfl ⟨rfl, hb4.out⟩
  · have HE := Lib.hid (noMark_end hN)
    obtain ⟨a0, a1, a2, a3, g0, g1, g2, g3⟩ := tok_cells H.out.2.2.1
    clear hN
    go_wp2_with fail
    rw [HE.out]
    refine bodyPost_ret (v := .tuple #[tokV Lx.no, .int .i64 0, .int .i64 11]) (results_tok (p := 2) (u := 3) (x := 4) rfl _ _ (w.heap.size + 1) Lx.no rfl (tok_put (v := Lx.no) H.out.2.2.1 0 Vl.mt 0 0).1) rfl ⟨rfl, ?_⟩
    exact H.out.2.2.2.1.trans ((tok_put (v := Lx.no) H.out.2.2.1 0 Vl.mt 0 0).2 _ (Nat.le_succ _))
theorem one_mt : Lx.one [] = (Lx.no, 0, 11) := rfl
set_option maxRecDepth 100000 in
set_option maxHeartbeats 6400000 in
theorem first13_any (s : ByteArray) (w : World) (hs : s.size ≤ 1000000) (hE : ErrR w) :
    Calls Tryd.prog 29 #[.string s] w fun e w' => e = .returned (.tuple #[tokV (Lx.one s.data.toList).1, .int .i64 ((Lx.one s.data.toList).2.1 : Nat), .int .i64 (Lx.one s.data.toList).2.2]) ∧ Below w.heap.size w w' := by
  obtain ⟨r0, b0, s0⟩ := tok_new Lx.no w
  have hE1 := errR_below hE b0
  clear hE
  by_cases h0 : 0 < s.size
  · have hone := Lx.one_cons s[0] (s.data.toList.drop 1)
    rw [← drop_next s 0 h0, List.drop_zero] at hone
    rw [hone]
    clear hone
    have e0 : (s.toList == []) = false := by
      have hl : s.toList.length = s.size := by rw [ByteArray.toList_eq, Array.length_toList]; rfl
      cases hh : s.toList with
      | nil => rw [hh] at hl; simp at hl; omega
      | cons a l => rfl
    have e1 : s.toList.isEmpty = false := by simpa using e0
    clear e0
    have cL := fun w => letter13_any s[0] w
    have cD := fun w => digit13_any s[0] w
    have hsm : s.size ≤ maxLen := by unfold maxLen; omega
    cases hL : Lx.letter s[0] with
    | true =>
      rw [hL] at cL
      rw [if_pos rfl]
      have cN := fun w => name13_any s w hsm h0 hL
      generalize (Lx.nameT s.data.toList).2.1 = N at *
      generalize (Lx.nameT s.data.toList).2.2 = E at *
      generalize (Lx.nameT s.data.toList).1 = V at *
      have H := Lib.hid (And.intro (And.intro cL cN) (And.intro r0 (And.intro b0 s0)))
      clear cL cD cN r0 b0 s0 hL hsm hE1
      go_enter Tryd.func29, Tryd.ntmps29
      go_wp2_with (first | (go_at_call 36; refine (H.out.1.1 _).mono ?_; rintro e w1 ⟨rfl, rfl⟩))
      refine (H.out.1.2 _).mono ?_
      rintro e w2 ⟨rfl, hb2⟩
      have ra := rowV_below H.out.2.1 hb2 (by rw [World.size_alloc]; omega)
      have hb := H.out.2.2.1.trans (hb2.mono (by rw [World.size_alloc]; omega))
      obtain ⟨tk, ts, tn, ta⟩ := V
      obtain ⟨a0, a1, a2, a3, g0, g1, g2, g3⟩ := tok_cells ra
      have L := Lib.hid (And.intro ra hb)
      clear ra hb hb2
      go_wp2_with fail
      refine bodyPost_ret (v := .tuple #[tokV ⟨tk, ts, tn, ta⟩, .int .i64 (N : Int), .int .i64 E]) (results_tok (p := 2) (u := 3) (x := 4) rfl _ _ w.heap.size ⟨tk, ts, tn, ta⟩ rfl (tok_put (v := Lx.no) L.out.1 tk ts tn ta).1) rfl ⟨rfl, ?_⟩
      exact L.out.2.trans ((tok_put L.out.1 tk ts tn ta).2 _ (Nat.le_refl _))
    | false =>
      rw [hL] at cL
      rw [if_neg (by simp)]
      cases hD : Lx.digit s[0] with
      | true =>
        rw [hD] at cD
        rw [if_pos rfl]
        have cN := number13_any s (w.alloc (.cells (tokC Lx.no) 74)) hs h0 hD hE1
        generalize (Lx.numT s.data.toList).2.1 = N at *
        generalize (Lx.numT s.data.toList).2.2 = E at *
        generalize (Lx.numT s.data.toList).1 = V at *
        have H := Lib.hid (And.intro (And.intro cL (And.intro cD cN)) (And.intro r0 (And.intro b0 s0)))
        clear cL cD cN r0 b0 s0 hL hsm hD hE1
        go_enter Tryd.func29, Tryd.ntmps29
        go_wp2_with (first | (go_at_call 36; refine (H.out.1.1 _).mono ?_; rintro e w1 ⟨rfl, rfl⟩) | (go_at_call 38; refine (H.out.1.2.1 _).mono ?_; rintro e w1 ⟨rfl, rfl⟩))
        refine H.out.1.2.2.mono ?_
        rintro e w2 ⟨rfl, hb2⟩
        have ra := rowV_below H.out.2.1 hb2 (by rw [World.size_alloc]; omega)
        have hb := H.out.2.2.1.trans (hb2.mono (by rw [World.size_alloc]; omega))
        obtain ⟨tk, ts, tn, ta⟩ := V
        obtain ⟨a0, a1, a2, a3, g0, g1, g2, g3⟩ := tok_cells ra
        have L := Lib.hid (And.intro ra hb)
        clear ra hb hb2
        go_wp2_with fail
        refine bodyPost_ret (v := .tuple #[tokV ⟨tk, ts, tn, ta⟩, .int .i64 (N : Int), .int .i64 E]) (results_tok (p := 2) (u := 3) (x := 4) rfl _ _ w.heap.size ⟨tk, ts, tn, ta⟩ rfl (tok_put (v := Lx.no) L.out.1 tk ts tn ta).1) rfl ⟨rfl, ?_⟩
        exact L.out.2.trans ((tok_put L.out.1 tk ts tn ta).2 _ (Nat.le_refl _))
      | false =>
        rw [hD] at cD
        rw [if_neg (by simp)]
        by_cases h34 : s[0] = 34
        · rw [if_pos h34]
          have t1 : ((s[0].toNat : Int) == 34) = true := by rw [h34]; rfl
          have cN := fun w => text13_any s w hs
          generalize (Lx.txtT s.data.toList).2.1 = N at *
          generalize (Lx.txtT s.data.toList).2.2 = E at *
          generalize (Lx.txtT s.data.toList).1 = V at *
          have H := Lib.hid (And.intro (And.intro cL (And.intro cD cN)) (And.intro r0 (And.intro b0 s0)))
          clear cL cD cN r0 b0 s0 hL hsm hD h34 hE1
          go_enter Tryd.func29, Tryd.ntmps29
          go_wp2_with (first | (go_at_call 36; refine (H.out.1.1 _).mono ?_; rintro e w1 ⟨rfl, rfl⟩) | (go_at_call 38; refine (H.out.1.2.1 _).mono ?_; rintro e w1 ⟨rfl, rfl⟩))
          refine (H.out.1.2.2 _).mono ?_
          rintro e w2 ⟨rfl, hb2⟩
          have ra := rowV_below H.out.2.1 hb2 (by rw [World.size_alloc]; omega)
          have hb := H.out.2.2.1.trans (hb2.mono (by rw [World.size_alloc]; omega))
          obtain ⟨tk, ts, tn, ta⟩ := V
          obtain ⟨a0, a1, a2, a3, g0, g1, g2, g3⟩ := tok_cells ra
          have L := Lib.hid (And.intro ra hb)
          clear ra hb hb2
          go_wp2_with fail
          refine bodyPost_ret (v := .tuple #[tokV ⟨tk, ts, tn, ta⟩, .int .i64 (N : Int), .int .i64 E]) (results_tok (p := 2) (u := 3) (x := 4) rfl _ _ w.heap.size ⟨tk, ts, tn, ta⟩ rfl (tok_put (v := Lx.no) L.out.1 tk ts tn ta).1) rfl ⟨rfl, ?_⟩
          exact L.out.2.trans ((tok_put L.out.1 tk ts tn ta).2 _ (Nat.le_refl _))
        · rw [if_neg h34]
          have t1 : ((s[0].toNat : Int) == 34) = false := by
            have : ¬ s[0].toNat = 34 := fun e => h34 (UInt8.toNat_inj.1 e)
            simp; omega
          have cN := fun w => mark13_any s w
          generalize (Lx.markT s.data.toList).2.1 = N at *
          generalize (Lx.markT s.data.toList).2.2 = E at *
          generalize (Lx.markT s.data.toList).1 = V at *
          have H := Lib.hid (And.intro (And.intro cL (And.intro cD cN)) (And.intro r0 (And.intro b0 s0)))
          clear cL cD cN r0 b0 s0 hL hsm hD h34 hE1
          go_enter Tryd.func29, Tryd.ntmps29
          go_wp2_with (first | (go_at_call 36; refine (H.out.1.1 _).mono ?_; rintro e w1 ⟨rfl, rfl⟩) | (go_at_call 38; refine (H.out.1.2.1 _).mono ?_; rintro e w1 ⟨rfl, rfl⟩))
          refine (H.out.1.2.2 _).mono ?_
          rintro e w2 ⟨rfl, hb2⟩
          have ra := rowV_below H.out.2.1 hb2 (by rw [World.size_alloc]; omega)
          have hb := H.out.2.2.1.trans (hb2.mono (by rw [World.size_alloc]; omega))
          obtain ⟨tk, ts, tn, ta⟩ := V
          obtain ⟨a0, a1, a2, a3, g0, g1, g2, g3⟩ := tok_cells ra
          have L := Lib.hid (And.intro ra hb)
          clear ra hb hb2
          go_wp2_with fail
          refine bodyPost_ret (v := .tuple #[tokV ⟨tk, ts, tn, ta⟩, .int .i64 (N : Int), .int .i64 E]) (results_tok (p := 2) (u := 3) (x := 4) rfl _ _ w.heap.size ⟨tk, ts, tn, ta⟩ rfl (tok_put (v := Lx.no) L.out.1 tk ts tn ta).1) rfl ⟨rfl, ?_⟩
          exact L.out.2.trans ((tok_put L.out.1 tk ts tn ta).2 _ (Nat.le_refl _))
  · have hm : s = Vl.mt := by
      apply Sl.ba_ext
      exact List.eq_nil_of_length_eq_zero (by rw [Array.length_toList]; show s.size = 0; omega)
    subst hm
    have H := Lib.hid (And.intro r0 b0)
    clear r0 b0 s0 hE1
    go_enter Tryd.func29, Tryd.ntmps29
    go_wp2_with fail
    exact bodyPost_ret (v := .tuple #[tokV Lx.no, .int .i64 0, .int .i64 11]) (results_tok (p := 2) (u := 3) (x := 4) rfl _ _ w.heap.size Lx.no rfl H.out.1) rfl ⟨rfl, H.out.2⟩
end Go.Proofs.YtmkllibfblacfaaDoor

/-
  Closed facts of the translation that more than one text uses.
-/
namespace Go.Proofs.YtmkllibfblacfaaDoor
open Go.RowKit
theorem Tryd.info5 : (Tryd.prog.info? 5).map (fun i => (i.zero, i.size, i.bytes)) = some (some (.int .u8 0), 1, 1) := by kernel_rfl
end Go.Proofs.YtmkllibfblacfaaDoor

/-
  Layer 4: blocks as arrays of 512 bytes: their cells; elements of many cells in a row; two arrays held against one another.
-/
namespace Go.Proofs.YtmkllibfblacfaaDoor
open Go.RowKit

/-- a text's bytes as cells -/
def bv (b : ByteArray) : List Value := valB b.data.toList
theorem ba_len (b : ByteArray) : b.data.toList.length = b.size := by rw [Array.length_toList]; rfl
theorem bv_len (b : ByteArray) : (bv b).length = b.size := by unfold bv valB; rw [List.length_map, ba_len]
theorem bv_at (b : ByteArray) (i : Nat) (h : i < b.size) : (bv b)[i]? = some (.int .u8 ((b.data.toList[i]'(by rw [ba_len]; exact h)).toNat : Int)) := by
  unfold bv valB
  rw [List.getElem?_map, List.getElem?_eq_getElem (by rw [ba_len]; exact h)]; rfl
theorem valB_inj {a b : List UInt8} (h : valB a = valB b) : a = b := by
  unfold valB at h
  refine List.map_inj_right (fun x y hxy => ?_) |>.1 h
  simp only [Value.int.injEq, true_and] at hxy
  have : x.toNat = y.toNat := by omega
  exact UInt8.toNat_inj.1 this
theorem bv_inj {a b : ByteArray} (h : bv a = bv b) : a = b := by
  have h2 := valB_inj h
  cases a; cases b
  simp at h2
  rw [h2]
theorem valB_one (l : List UInt8) : ∀ v ∈ valB l, v.oneCell' = true := by
  intro v hv
  obtain ⟨x, _, rfl⟩ := List.mem_map.1 hv; rfl
theorem bv_one (b : ByteArray) : ∀ v ∈ bv b, v.oneCell' = true := valB_one _

/-! elements of k cells each, one behind the other -/
section
variable {α : Type} (f : α → List Value) (k : Nat)
theorem flat_len (bs : List α) (h : ∀ b ∈ bs, (f b).length = k) : (bs.flatMap f).length = bs.length * k := by
  induction bs with
  | nil => simp
  | cons b bs ih =>
    rw [List.flatMap_cons, List.length_append, h b (by simp), ih fun x hx => h x (by simp [hx]), List.length_cons, Nat.add_mul]; omega
theorem flat_at (bs : List α) (h : ∀ b ∈ bs, (f b).length = k) (i : Nat) (hi : i < bs.length) (j : Nat) (hj : j < k) : (bs.flatMap f)[i * k + j]? = (f bs[i])[j]? := by
  induction bs generalizing i with
  | nil => simp at hi
  | cons b bs ih =>
    have hb := h b (by simp)
    rw [List.flatMap_cons]
    cases i with
    | zero => rw [List.getElem?_append_left (by omega)]; simp
    | succ i =>
      rw [List.getElem?_append_right (by rw [hb, Nat.add_mul]; omega), hb, show (i + 1) * k + j - k = i * k + j by rw [Nat.add_mul]; omega]
      exact ih (fun x hx => h x (by simp [hx])) i (by simpa using hi)
theorem flat_set (bs : List α) (h : ∀ b ∈ bs, (f b).length = k) (i : Nat) (hi : i < bs.length) (x : α) (r : List Value) :
    (bs.flatMap f ++ r).take (i * k) ++ f x ++ (bs.flatMap f ++ r).drop (i * k + k) = (bs.set i x).flatMap f ++ r := by
  induction bs generalizing i with
  | nil => simp at hi
  | cons b bs ih =>
    have hb := h b (by simp)
    cases i with
    | zero =>
      simp only [List.flatMap_cons, List.set_cons_zero, Nat.zero_mul, Nat.zero_add, List.take_zero, List.nil_append, List.append_assoc]
      congr 1
      rw [List.drop_append, hb, Nat.sub_self, List.drop_zero, List.drop_of_length_le (by omega), List.nil_append]
    | succ i =>
      have e := ih (fun x hx => h x (by simp [hx])) i (by simpa using hi)
      simp only [List.flatMap_cons, List.set_cons_succ, List.append_assoc] at e ⊢
      rw [← e, List.take_append, List.drop_append, hb, List.take_of_length_le (by rw [hb, Nat.add_mul]; omega), List.drop_of_length_le (by rw [hb, Nat.add_mul]; omega),
        show (i + 1) * k - k = i * k by rw [Nat.add_mul]; omega, show (i + 1) * k + k - k = i * k + k by rw [Nat.add_mul]; omega, List.nil_append, List.append_assoc]
end
/-- what a store of many cells makes of a row -/
theorem rowV_setCells (vs : List Value) : ∀ (o : Nat) {w : World} {g T : Nat} {l : List Value}, RowV w g T l → o + vs.length ≤ l.length → RowV (w.setCells g o vs) g T (l.take o ++ vs ++ l.drop (o + vs.length)) := by
  induction vs with
  | nil => intro o w g T l h _; simpa [World.setCells] using h
  | cons v r ih =>
    intro o w g T l h ho
    rw [World.setCells]
    have h2 := ih (o + 1) (rowV_stored h o v) (by rw [List.length_set]; simp at ho; omega)
    have e : (l.set o v).take (o + 1) ++ r ++ (l.set o v).drop (o + 1 + r.length) = l.take o ++ (v :: r) ++ l.drop (o + (v :: r).length) := by
      have ho2 : o < l.length := by simp at ho; omega
      rw [List.take_set, List.drop_set_of_lt (by omega), List.take_succ_eq_append_getElem ho2, List.set_append_right _ _ (by rw [List.length_take]; omega), List.length_take, show o - min o l.length = 0 by omega, List.set_cons_zero]
      simp [Nat.add_assoc, Nat.add_comm 1]
    rw [e] at h2
    exact h2
theorem setCells_far (g : Nat) (vs : List Value) : ∀ (o : Nat) (w : World) (i : Nat), i ≠ g → (w.setCells g o vs).heap[i]? = w.heap[i]? := by
  induction vs with
  | nil => intro o w i _; rfl
  | cons v r ih => intro o w i h; rw [World.setCells, ih _ _ _ h]; exact Below.heap_setCell w ⟨g, o, none⟩ v i h
theorem setCells_size (g : Nat) (vs : List Value) : ∀ (o : Nat) (w : World), (w.setCells g o vs).heap.size = w.heap.size := by
  induction vs with
  | nil => intro o w; rfl
  | cons v r ih => intro o w; rw [World.setCells, ih]; simp [World.setCell]
theorem setCells_rest (g : Nat) (vs : List Value) : ∀ (o : Nat) (w : World), (w.setCells g o vs).os = w.os ∧ (w.setCells g o vs).tape = w.tape ∧ (w.setCells g o vs).output = w.output := by
  induction vs with
  | nil => intro o w; exact ⟨rfl, rfl, rfl⟩
  | cons v r ih => intro o w; rw [World.setCells]; exact ih _ _
theorem Only.setCells {F : Nat → Prop} {a w : World} (h : Only F a w) {g : Nat} (hg : g < a.heap.size → F g) (o : Nat) (vs : List Value) : Only F a (w.setCells g o vs) :=
  h.trans (G := fun k => k = g) ⟨(setCells_rest _ _ _ _).1, (setCells_rest _ _ _ _).2.1, (setCells_rest _ _ _ _).2.2, by rw [setCells_size]; exact Nat.le_refl _, fun k _ hk => setCells_far g vs o w k hk⟩ fun k hk e => by subst e; exact hg hk
theorem rowV_cellsFar {w : World} {g T g' : Nat} {l : List Value} (h : RowV w g T l) (hg : g ≠ g') (o : Nat) (vs : List Value) : RowV (w.setCells g' o vs) g T l := (setCells_far g' vs o w g hg).trans h
/-- the cells of a row from o on -/
theorem rowV_range {w : World} {g T : Nat} {l : List Value} (h : RowV w g T l) (o : Nat) (cs : List Value) (hc : ∀ j, j < cs.length → l[o + j]? = cs[j]?) : w.rangeAt g o cs := by
  intro j v hv
  have hj : j < cs.length := (List.getElem?_eq_some_iff.1 hv).1
  rw [rowV_cell h, hc j hj, hv]
theorem rowV_there {w : World} {g T : Nat} {l : List Value} (h : RowV w g T l) (o n : Nat) (hn : o + n ≤ l.length) : w.there g o n := by
  intro j hj
  refine ⟨?_, rowV_frozen h _⟩
  rw [rowV_cell h, List.getElem?_eq_getElem (by omega)]; rfl

/-! two arrays of bytes held against one another -/
theorem info_byte : (Tryd.prog.info? 5).map (fun i => (i.zero, i.size, i.bytes)) = some (some (.int .u8 0), 1, 1) := by kernel_rfl
theorem eqItems_int {P : Program} (w : World) (e : TypeId) (k : IntKind) (he : P.underlying e = some (.int k)) (d : Nat) (is : List Nat) : ∀ (X Y : List Int), (∀ i ∈ is, i < X.length ∧ i < Y.length) →
    (Op.eqItems (d + 1) e 1 (X.map (Value.int k)).toArray (Y.map (Value.int k)).toArray is).run P w = .ok (is.all fun i => X.getD i 0 == Y.getD i 0) w := by
  induction is with
  | nil => intro X Y _; simp [Op.eqItems]
  | cons i is ih =>
    intro X Y h
    obtain ⟨h1, h2⟩ := h i (by simp)
    have hag : (isAgg e).run P w = .ok false w := by unfold isAgg; rw [Sem.run_bind, run_underlying he w]; rfl
    have hx : (part e (X.map (Value.int k)).toArray (i * 1)).run P w = .ok (.int k (X.getD i 0)) w := by
      simp [part, hag, List.getElem?_eq_getElem h1, List.getD]
    have hy : (part e (Y.map (Value.int k)).toArray (i * 1)).run P w = .ok (.int k (Y.getD i 0)) w := by
      simp [part, hag, List.getElem?_eq_getElem h2, List.getD]
    simp only [Op.eqItems, Sem.run_bind, hx, hy, Result.andThen_ok, run_equalIn_int w d e k k _ _ he]
    by_cases hq : X.getD i 0 = Y.getD i 0
    · rw [List.all_cons]
      have : (X.getD i 0 == Y.getD i 0) = true := by simpa using hq
      rw [this]
      simpa using ih X Y fun j hj => h j (by simp [hj])
    · have : (X.getD i 0 == Y.getD i 0) = false := by simpa using hq
      rw [List.all_cons, this]
      simp
theorem all_getD {X Y : List Int} {n : Nat} (hX : X.length = n) (hY : Y.length = n) : ((List.range n).all fun i => X.getD i 0 == Y.getD i 0) = decide (X = Y) := by
  rw [Bool.eq_iff_iff, List.all_eq_true, decide_eq_true_iff]
  constructor
  · intro h
    apply List.ext_getElem (by omega)
    intro i h1 h2
    have := h i (List.mem_range.2 (by omega))
    simpa [List.getD, List.getElem?_eq_getElem h1, List.getElem?_eq_getElem h2] using this
  · rintro rfl i _; simp
theorem valB_int (l : List UInt8) : valB l = (l.map fun b => (b.toNat : Int)).map (Value.int .u8) := by unfold valB; rw [List.map_map]; rfl
end Go.Proofs.YtmkllibfblacfaaDoor

/-
  A list in memory that is appended to: its elements of k cells each, one behind the other; what lies behind its length is its own.
-/
namespace Go.Proofs.YtmkllibfblacfaaDoor
open Go.RowKit

section
variable {α : Type} (f : α → List Value) (k : Nat) (E : TypeId)
/-- the slice (la, its length, cap) holds the list W; its block is of S and none of Av -/
def ListAt (w : World) (S Av : Nat → Prop) (la : Option Addr) (cap : Nat) (W : List α) : Prop :=
  (la = none ∧ cap = 0 ∧ W = []) ∨ ∃ g r, la = some ⟨g, 0, none⟩ ∧ RowV w g E (W.flatMap f ++ r) ∧ W.length ≤ cap ∧ cap ≤ maxLen ∧ ¬ Av g ∧ S g ∧ W.length * k + r.length = cap * k
theorem listAt_nil (w : World) (S Av : Nat → Prop) : ListAt f k E w S Av none 0 [] := .inl ⟨rfl, rfl, rfl⟩
variable {f k E} {w w' : World} {S S' Av Av' : Nat → Prop} {la : Option Addr} {cap : Nat} {W : List α}
theorem listAt_only {F : Nat → Prop} (h : ListAt f k E w S Av la cap W) (ho : Only F w w') (hn : ∀ a, la = some a → ¬ F a.block) : ListAt f k E w' S Av la cap W := by
  rcases h with h | ⟨g, r, h1, h2, h3⟩
  · exact .inl h
  · exact .inr ⟨g, r, h1, rowV_only h2 ho (hn _ h1), h3⟩
theorem listAt_mono (h : ListAt f k E w S Av la cap W) (hs : ∀ j, j < w.heap.size → S j → S' j) (ha : ∀ j, j < w.heap.size → Av' j → Av j) : ListAt f k E w S' Av' la cap W := by
  rcases h with h | ⟨g, r, h1, h2, h3, h4, h5, h6, h7⟩
  · exact .inl h
  · exact .inr ⟨g, r, h1, h2, h3, h4, fun h => h5 (ha _ (rowV_lt h2) h), hs _ (rowV_lt h2) h6, h7⟩
theorem listAt_block (h : ListAt f k E w S Av la cap W) : ∀ a, la = some a → ∃ g, a = ⟨g, 0, none⟩ ∧ g < w.heap.size ∧ S g ∧ ¬ Av g := by
  rintro a rfl
  rcases h with ⟨h1, _⟩ | ⟨g, r, h1, h2, h3, h4, h5, h6, h7⟩
  · cases h1
  · cases h1; exact ⟨g, rfl, rowV_lt h2, h6, h5⟩
theorem listAt_len (h : ListAt f k E w S Av la cap W) : W.length ≤ cap ∧ cap ≤ maxLen := by
  rcases h with ⟨_, h2, h3⟩ | ⟨g, r, h1, h2, h3, h4, _⟩
  · rw [h2, h3]; exact ⟨Nat.le_refl _, Nat.zero_le _⟩
  · exact ⟨h3, h4⟩
/-- cell j of element i -/
theorem listAt_cell (h : ListAt f k E w S Av la cap W) (hf : ∀ x ∈ W, (f x).length = k) (i : Nat) (hi : i < W.length) : ∃ g, la = some ⟨g, 0, none⟩ ∧ ∀ j v, (f W[i])[j]? = some v → w.cell? ⟨g, i * k + j, none⟩ = some v ∧ w.frozen? ⟨g, i * k + j, none⟩ = false := by
  rcases h with ⟨_, _, h3⟩ | ⟨g, r, h1, h2, _⟩
  · subst h3; simp at hi
  · refine ⟨g, h1, fun j v hj => ⟨?_, rowV_frozen h2 _⟩⟩
    have hjk : j < k := by rw [← hf _ (List.getElem_mem hi)]; exact (List.getElem?_eq_some_iff.1 hj).1
    have hle := Nat.mul_le_mul_right k (show i + 1 ≤ W.length from hi)
    rw [Nat.add_mul, Nat.one_mul] at hle
    rw [rowV_cell h2, List.getElem?_append_left (by rw [flat_len f k W hf]; omega), flat_at f k W hf i hi j hjk]
    exact hj
theorem room_more (k n r c : Nat) (h : n * k + r = c * k) (h2 : (n + 1) * k ≤ c * k) : (n + 1) * k + (r - k) = c * k := by
  rw [Nat.add_mul, Nat.one_mul] at h2 ⊢
  generalize n * k = a at *
  generalize c * k = b at *
  omega
theorem listAt_owns (h : ListAt f k E w S Av la cap W) (hf : ∀ x ∈ W, (f x).length = k) : w.ownsRow 0 E k (.slice la W.length cap) W.length (W.flatMap f) := by
  have hl := flat_len f k W hf
  refine ⟨hl, ?_⟩
  rcases h with ⟨h1, h2, h3⟩ | ⟨g, r, h1, h2, h3, h4, _, _, h7⟩
  · left; rw [h1, h2, h3]; exact ⟨rfl, rfl⟩
  · right
    refine ⟨g, cap, (W.flatMap f ++ r).toArray, by rw [h1], Nat.zero_le _, h2, h3, h4, ?_, ?_⟩
    · rw [List.size_toArray, List.length_append, hl]; exact h7
    · rw [← hl]; simp
/-- one element more -/
theorem append_list {P : Program} (t ty : TypeId) (i : TypeInfo) (z : Value) (bytes : Nat) (ht : P.underlying t = some (.slice E)) (hi : P.info? E = some i) (hz : i.zero = some z) (hsize : i.size = k) (hby : i.bytes = bytes) (hzs : z.cells.size = k) (hk : 0 < k)
    (h : ListAt f k E w S Av la cap W) (hf : ∀ x ∈ W, (f x).length = k) (x : α) (hx : (f x).length = k) (h1 : ∀ v ∈ f x, v.oneCell' = true) (N : Nat) (hN : RowV w N E (f x)) (hW : ((W.length + 1) + (W.length + 1) / 4 + 192) * bytes ≤ 281474976710656) (hW2 : (W.length + 1) * bytes ≤ 140737488355328) (hm : W.length + 1 ≤ maxLen)
    (hAv : ∀ j, Av j → j < w.heap.size) :
    ∃ la' cap' w', (Builtin.append_ #[t, t] ty #[.slice la W.length cap, .slice (some ⟨N, 0, none⟩) 1 1]).run P w = .ok (.slice la' (W.length + 1) cap') w' ∧
      ListAt f k E w' (fun j => S j ∨ w.heap.size ≤ j) Av la' cap' (W ++ [x]) ∧ Only (fun j => S j ∧ ¬ Av j) w w' := by
  have hsnoc : (W ++ [x]).flatMap f = W.flatMap f ++ f x := by rw [List.flatMap_append]; simp
  have hnews : ∀ j u, (f x)[j]? = some u → w.cell? ((⟨N, 0, none⟩ : Addr).add j) = some u := fun j u hj => by
    rw [Addr.add_mid, Nat.zero_add, rowV_cell hN]; exact hj
  have hb := listAt_block h
  have hlen := flat_len f k W hf
  have fin : ∀ (v' : Value) (w' : World) (row : Option Nat), w'.ownsRow w.heap.size E k v' (W.length + 1) (W.flatMap f ++ f x) → w.grownBy w' row → (∀ j, row = some j → S j ∧ ¬ Av j) →
      ∃ la' cap', v' = .slice la' (W.length + 1) cap' ∧ ListAt f k E w' (fun j => S j ∨ w.heap.size ≤ j) Av la' cap' (W ++ [x]) ∧ Only (fun j => S j ∧ ¬ Av j) w w' := by
    intro v' w' row ho hg hrow
    rcases ho.2 with ⟨_, h0⟩ | ⟨g', cap', cur, rfl, hb', hh, u1, u2, u3, u4⟩
    · omega
    · refine ⟨_, _, rfl, .inr ⟨g', cur.toList.drop ((W.length + 1) * k), rfl, ?_, by simpa using u1, u2, fun h => by have := hAv _ h; omega, .inr hb', ?_⟩, (Only.refl _ w).grown hg (by intro j _ e; exact hrow j e)⟩
      · rw [hsnoc, ← u4, List.take_append_drop]; exact hh
      · have hcl : cur.toList.length = cur.size := Array.length_toList
        rw [List.length_drop, hcl, u3, List.length_append, List.length_singleton]
        have := Nat.mul_le_mul_right k u1
        omega
  rcases h with ⟨rfl, rfl, rfl⟩ | ⟨g, r, rfl, hg, hcap, hmax, hav, hS, hsz⟩
  · obtain ⟨v', w', hr, ho, hgr, _⟩ := run_append_own_wide (P := P) w w.heap.size t ty E i z k bytes ht hi hz hsize hby hzs hk _ 0 [] (World.ownsRow_nil w w.heap.size E k)
      ⟨N, 0, none⟩ 1 1 (f x) (by rw [hx, Nat.one_mul]) hnews h1 (by unfold maxLen; omega) (by simpa using hW) (Nat.le_refl _)
    obtain ⟨la', cap', rfl, rest⟩ := fin v' w' _ (by simpa using ho) hgr (by intro j e; simp [Value.ownBlock] at e)
    exact ⟨la', cap', w', hr, rest⟩
  · by_cases hroom : W.length < cap
    · have hle := Nat.mul_le_mul_right k (show W.length + 1 ≤ cap from hroom)
      have hle2 : W.length * k + k ≤ cap * k := by rw [Nat.add_mul, Nat.one_mul] at hle; exact hle
      have hth := rowV_there hg (W.length * k) k (by rw [List.length_append, hlen]; omega)
      have hr := run_append_room_cells (P := P) w t ty E i ht hi g 0 W.length cap ⟨N, 0, none⟩ 1 1 (f x) (by rw [hsize, hx, Nat.one_mul]) hnews h1 hroom
        (fun j hj => by rw [hsize, Nat.zero_add]; exact (hth j (by omega)).1) (fun j hj => by rw [hsize, Nat.zero_add]; exact (hth j (by omega)).2)
      rw [hsize, Nat.zero_add] at hr
      have hst := rowV_setCells (f x) (W.length * k) hg (by rw [hx, List.length_append, hlen]; omega)
      refine ⟨_, _, _, hr, .inr ⟨g, r.drop k, rfl, ?_, by rw [List.length_append, List.length_singleton]; exact hroom, hmax, hav, .inl hS, ?_⟩, (Only.refl _ w).setCells (fun _ => ⟨hS, hav⟩) _ _⟩
      · have e : (W.flatMap f ++ r).take (W.length * k) ++ f x ++ (W.flatMap f ++ r).drop (W.length * k + (f x).length) = (W ++ [x]).flatMap f ++ r.drop k := by
          rw [hsnoc, ← hlen, List.take_left', List.drop_append, hx, List.drop_of_length_le (by omega), List.nil_append, show (W.flatMap f).length + k - (W.flatMap f).length = k by omega]
          rfl
        rw [← e]; exact hst
      · rw [List.length_drop, List.length_append, List.length_singleton]; exact room_more k _ _ _ hsz hle
    · have hcw : cap = W.length := by omega
      obtain ⟨v', w', hr, ho, hgr⟩ := run_append_arg_grows (P := P) w t ty E i z k bytes ht hi hz hsize hby hzs hk ⟨g, 0, none⟩ W.length cap (W.flatMap f) hlen
        (fun j u hj => by
          have hlt := (List.getElem?_eq_some_iff.1 hj).1
          rw [Addr.add_mid, Nat.zero_add, rowV_cell hg, List.getElem?_append_left hlt]; exact hj)
        ⟨N, 0, none⟩ 1 1 (f x) (by rw [hx, Nat.one_mul]) hnews (by omega) hm hW2
      obtain ⟨la', cap', rfl, rest⟩ := fin v' w' none ho hgr (by intro j e; cases e)
      exact ⟨la', cap', w', hr, rest⟩
end
end Go.Proofs.YtmkllibfblacfaaDoor

/-
  Lists that a call makes, of elements of k cells each (told by f): one element more; read.
-/
namespace Go.Proofs.YtmkllibfblacfaaDoor
open Go.RowKit
/-- what an append asks of the elements' type -/
def ElemOk (P : Program) (E k bytes : Nat) : Prop := ∃ i z, P.info? E = some i ∧ i.zero = some z ∧ i.size = k ∧ i.bytes = bytes ∧ z.cells.size = k ∧ 0 < k ∧ bytes ≤ 1000
theorem elemOk_of {P : Program} {E k bytes : Nat} {z : Value} (h : (P.info? E).map (fun i => (i.zero, i.size, i.bytes)) = some (some z, k, bytes)) (hz : z.cells.size = k) (hk : 0 < k) (hb : bytes ≤ 1000) : ElemOk P E k bytes := by
  obtain ⟨i, hi, e⟩ := Option.map_eq_some_iff.1 h
  simp only [Prod.mk.injEq] at e
  exact ⟨i, z, hi, e.1, e.2.1, e.2.2, hz, hk, hb⟩
section
variable {α : Type} {f : α → List Value} {E k bytes : Nat} {P : Program} {w : World} {B : Nat}
/-- the slice v, its row from block B on, holds the elements l -/
def OwL (f : α → List Value) (E k : Nat) (w : World) (B : Nat) (v : Value) (l : List α) : Prop := w.ownsRow B E k v l.length (l.flatMap f)
theorem owL_nil (w : World) : OwL f E k w B (.slice none 0 0) [] := World.ownsRow_nil _ _ _ _
theorem owL_below {w' : World} {v : Value} {l : List α} (h : OwL f E k w B v l) (hb : Below w.heap.size w w') : OwL f E k w' B v l :=
  ownsRow_only h (Only.of_none (F := fun _ => False) hb) fun _ _ x => x
theorem owL_only {F : Nat → Prop} {w' : World} {v : Value} {l : List α} (h : OwL f E k w B v l) (ho : Only F w w') (hn : ∀ j, v.ownBlock = some j → ¬ F j) : OwL f E k w' B v l := ownsRow_only h ho hn
theorem owL_lt {v : Value} {l : List α} (h : OwL f E k w B v l) : ∀ j, v.ownBlock = some j → B ≤ j ∧ j < w.heap.size := World.ownsRow.lt h
theorem owL_form {v : Value} {l : List α} (h : OwL f E k w B v l) : ∃ a c, v = .slice a l.length c ∧ l.length ≤ c ∧ c ≤ maxLen ∧ (∀ x, a = some x → ∃ g, x = ⟨g, 0, none⟩ ∧ B ≤ g ∧ g < w.heap.size ∧ v.ownBlock = some g) ∧ (a = none → l = []) := by
  rcases h.2 with ⟨rfl, h0⟩ | ⟨g, cap, cur, rfl, hb, hh, u1, u2, u3, u4⟩
  · have : l = [] := List.eq_nil_of_length_eq_zero h0
    subst this
    exact ⟨none, 0, rfl, Nat.le_refl _, Nat.zero_le _, ⟨fun x e => (by cases e), fun _ => rfl⟩⟩
  · exact ⟨_, _, rfl, u1, u2, fun x e => (by cases e; exact ⟨g, rfl, hb, (Array.getElem?_eq_some_iff.1 hh).1, rfl⟩), fun e => (by cases e)⟩
/-- cell j of element i -/
theorem owL_cell {v : Value} {l : List α} (hf : ∀ x ∈ l, (f x).length = k) (h : OwL f E k w B v l) (i : Nat) (hi : i < l.length) : ∃ g c, v = .slice (some ⟨g, 0, none⟩) l.length c ∧ ∀ j u, (f l[i])[j]? = some u → w.cell? ⟨g, i * k + j, none⟩ = some u ∧ w.frozen? ⟨g, i * k + j, none⟩ = false := by
  rcases h.2 with ⟨rfl, h0⟩ | ⟨g, cap, cur, rfl, hb, hh, u1, u2, u3, u4⟩
  · omega
  · refine ⟨g, cap, rfl, fun j u hj => ?_⟩
    have hrow : RowV w g E cur.toList := hh
    have hjk : j < k := by rw [← hf _ (List.getElem_mem hi)]; exact (List.getElem?_eq_some_iff.1 hj).1
    refine ⟨?_, rowV_frozen hrow _⟩
    have h1 := flat_at f k l hf i hi j hjk
    have hlt : i * k + j < l.length * k := by
      have := Nat.mul_le_mul_right k (show i + 1 ≤ l.length from hi)
      rw [Nat.add_mul, Nat.one_mul] at this
      omega
    have h2 : (cur.toList.take (l.length * k))[i * k + j]? = cur.toList[i * k + j]? := by rw [List.getElem?_take, if_pos hlt]
    rw [rowV_cell hrow, ← h2, u4, h1]
    exact hj
/-- one element more, as an operation of a walk: its box at block N -/
theorem wpList_append_one (he : ElemOk P E k bytes) {ops : Array Oper} {rest : List Oper} {o : Oper} {a : Act} {Q : Exit → Act → World → Prop} (hgd : o.guard = none) (s x : Operand) (t : TypeId)
    (ho : o.op = .call { callee := .builtin .append, args := #[s, x], argTypes := #[t, t] }) (ht : P.underlying t = some (.slice E)) (v : Value) (l : List α) (y : α) (hs : a.eval s = v) (hown : OwL f E k w B v l) (N c : Nat) (hx : a.eval x = .slice (some ⟨N, 0, none⟩) 1 c)
    (hN : RowV w N E (f y)) (hfl : (f y).length = k) (h1 : ∀ u ∈ f y, u.oneCell' = true) (hl : l.length ≤ 1000000) (hB : B ≤ w.heap.size)
    (h : ∀ g cap w', OwL f E k w' B (.slice (some ⟨g, 0, none⟩) (l.length + 1) cap) (l ++ [y]) → Only (fun j => v.ownBlock = some j) w w' → (v.ownBlock = some g ∨ g = w.heap.size) → g < w'.heap.size → wpList P ops Q rest (a.put o.dst (.slice (some ⟨g, 0, none⟩) (l.length + 1) cap)) w') :
    wpList P ops Q (o :: rest) a w := by
  obtain ⟨i, z, hi, hz, hsz, hby, hzs, hk, hb⟩ := he
  refine wpList_append_lies w hgd s x t ho B E i z k bytes ht hi hz hsz hby hzs hk v l.length (l.flatMap f) hs hown ⟨N, 0, none⟩ 1 c (f y) hx (by rw [hfl, Nat.one_mul]) (fun j u hj => by rw [Addr.add_mid, Nat.zero_add, rowV_cell hN]; exact hj) h1 (by omega) (by unfold maxLen; omega) ?_ hB _ rfl ?_
  · have := Nat.mul_le_mul (show l.length + 1 ≤ 1000001 by omega) hb
    omega
  · intro g cap w' h2 h3 h4 h5
    refine h g cap w' ?_ ((Only.refl _ w).grown h3 fun j _ e => e) h4 h5
    unfold OwL
    rw [List.flatMap_append, List.length_append]
    simpa using h2
/-- .. as one operation -/
theorem wp_append_one (he : ElemOk P E k bytes) {o : Oper} {a : Act} {K : Act → World → Prop} {Q : Exit → Act → World → Prop} (s x : Operand) (t : TypeId)
    (ho : o.op = .call { callee := .builtin .append, args := #[s, x], argTypes := #[t, t] }) (ht : P.underlying t = some (.slice E)) (v : Value) (l : List α) (y : α) (hs : a.eval s = v) (hown : OwL f E k w B v l) (N c : Nat) (hx : a.eval x = .slice (some ⟨N, 0, none⟩) 1 c)
    (hN : RowV w N E (f y)) (hfl : (f y).length = k) (h1 : ∀ u ∈ f y, u.oneCell' = true) (hl : l.length ≤ 1000000) (hB : B ≤ w.heap.size)
    (h : ∀ g cap w', OwL f E k w' B (.slice (some ⟨g, 0, none⟩) (l.length + 1) cap) (l ++ [y]) → Only (fun j => v.ownBlock = some j) w w' → (v.ownBlock = some g ∨ g = w.heap.size) → g < w'.heap.size → K (a.put o.dst (.slice (some ⟨g, 0, none⟩) (l.length + 1) cap)) w') :
    Oper.wp P o a w K Q := by
  obtain ⟨i, z, hi, hz, hsz, hby, hzs, hk, hb⟩ := he
  refine wp_append_lies w s x t ho B E i z k bytes ht hi hz hsz hby hzs hk v l.length (l.flatMap f) hs hown ⟨N, 0, none⟩ 1 c (f y) hx (by rw [hfl, Nat.one_mul]) (fun j u hj => by rw [Addr.add_mid, Nat.zero_add, rowV_cell hN]; exact hj) h1 (by omega) (by unfold maxLen; omega) ?_ hB _ rfl ?_
  · have := Nat.mul_le_mul (show l.length + 1 ≤ 1000001 by omega) hb
    omega
  · intro g cap w' h2 h3 h4 h5
    refine h g cap w' ?_ ((Only.refl _ w).grown h3 fun j _ e => e) h4 h5
    unfold OwL
    rw [List.flatMap_append, List.length_append]
    simpa using h2
end
end Go.Proofs.YtmkllibfblacfaaDoor

/-
  '[]T{x}': a slice of one element, of k cells, made: as a run, as an operation that keeps its class.
-/
namespace Go.Proofs.YtmkllibfblacfaaDoor
open Go.RowKit
section
variable {P : Program} {E k bytes : Nat}
theorem run_slice_one (he : ElemOk P E k bytes) (hk1 : k ≤ 1000) {t : TypeId} (ht : P.underlying t = some (.slice E)) (w : World) (x : Value) (X : Array Value) (hX : x.cells = X) (hsz : X.size = k) : (Instr.buildSlice t 1 #[(0, x)]).run P w = .ok (.slice (some ⟨w.heap.size, 0, none⟩) 1 1) (w.alloc (.cells X E)) := by
  obtain ⟨i, z, hi, hz, hs, hby, hzs, hk, hb⟩ := he
  refine run_buildSlice w t E 1 _ X i z ht hi hz (by rw [hs]; omega) (by rw [hs]; omega) ?_
  have e := Great.fill_whole (s := i.size) (by rw [hs]; omega) [x] ((Array.range (1 * i.size)).map (z.cells[· % z.cells.size]!)) (by intro v hv; rw [List.mem_singleton] at hv; subst hv; rw [hs, hX]; exact hsz) (by simp)
  simp only [List.zipIdx_cons, List.zipIdx_nil, List.map_cons, List.map_nil, List.flatMap_cons, List.flatMap_nil, List.append_nil, hX, Array.toArray_toList] at e
  exact e
theorem wp_slice_one (he : ElemOk P E k bytes) (hk1 : k ≤ 1000) {t : TypeId} (ht : P.underlying t = some (.slice E)) {o : Oper} {a : Act} {w : World} {K : Act → World → Prop} {Q : Exit → Act → World → Prop} (x : Operand) (ho : o.op = .buildSlice t 1 #[(0, x)]) (v : Value) (X : Array Value) (hx : a.eval x = v) (hX : v.cells = X) (hsz : X.size = k)
    (h : K (a.put o.dst (.slice (some ⟨w.heap.size, 0, none⟩) 1 1)) (w.alloc (.cells X E))) : Oper.wp P o a w K Q := by
  unfold Oper.wp execOp
  have e : (#[(0, x)] : Array (Nat × Operand)).map (fun (i, x) => (i, a.eval x)) = #[(0, v)] := by rw [← hx]; simp
  simp only [ho, e, Sem.run_bind, run_slice_one he hk1 ht w v X hX hsz, Result.andThen_ok]
  exact h
end
end Go.Proofs.YtmkllibfblacfaaDoor

/-
  Layer 13: the document's tokens of a text.
-/
namespace Go.Proofs.YtmkllibfblacfaaDoor
open Go.RowKit
abbrev tCl (t : Lx.T) : List Value := [.int .i64 t.kind, .string t.s, .int .i64 t.n, .int .i64 t.spot]
theorem tok_parts : (Tryd.prog.info? 74).map (fun i => (i.zero, i.size, i.bytes)) = some (some (.agg #[.int .i64 0, .string ⟨#[]⟩, .int .i64 0, .int .i64 0]), 4, 40) := by kernel_rfl
theorem tok_elem : ElemOk Tryd.prog 74 4 40 := elemOk_of tok_parts rfl (by decide) (by decide)
theorem tCl_one (t : Lx.T) : ∀ u ∈ tCl t, u.oneCell' = true := by intro u hu; simp [tCl] at hu; rcases hu with rfl | rfl | rfl | rfl <;> rfl
/-- a slice of tokens, read -/
def ReadsT13 (w : World) (a : Option Addr) (L : List Lx.T) : Prop := ∀ i (h : i < L.length), ∃ b off, a = some ⟨b, off, none⟩ ∧ w.cell? ⟨b, off + i * 4, none⟩ = some (.int .i64 L[i].kind) ∧ w.cell? ⟨b, off + i * 4 + 1, none⟩ = some (.string L[i].s) ∧ w.cell? ⟨b, off + i * 4 + 2, none⟩ = some (.int .i64 L[i].n) ∧ w.cell? ⟨b, off + i * 4 + 3, none⟩ = some (.int .i64 L[i].spot)
theorem readsT13_none (w : World) (a : Option Addr) : ReadsT13 w a [] := by intro i hi; simp at hi
theorem readsT13_only {F : Nat → Prop} {w w' : World} {a : Option Addr} {L : List Lx.T} (h : ReadsT13 w a L) (ho : Only F w w') (hn : ∀ b, a = some b → ¬ F b.block) : ReadsT13 w' a L := by
  intro i hi
  obtain ⟨b, off, h1, h2, h3, h4, h5⟩ := h i hi
  have hF : ¬ F b := hn _ h1
  exact ⟨b, off, h1, (ho.cell (World.block_lt_of_cell? w _ h2) hF).trans h2, (ho.cell (World.block_lt_of_cell? w _ h3) hF).trans h3, (ho.cell (World.block_lt_of_cell? w _ h4) hF).trans h4, (ho.cell (World.block_lt_of_cell? w _ h5) hF).trans h5⟩
theorem readsT13_below {w w' : World} {a : Option Addr} {L : List Lx.T} (h : ReadsT13 w a L) (hb : Below w.heap.size w w') : ReadsT13 w' a L := readsT13_only h (Only.of_none (F := fun _ => False) hb) fun _ _ h => h
theorem owL_readsT13 {w : World} {B : Nat} {ao : Option Addr} {cp k : Nat} {L : List Lx.T} (hk : L.length = k) (h : OwL tCl 74 4 w B (.slice ao k cp) L) : ReadsT13 w ao L := by
  intro i hi
  obtain ⟨g, c, e, hc⟩ := owL_cell (f := tCl) (k := 4) (fun _ _ => rfl) h i hi
  cases e
  refine ⟨g, 0, rfl, ?_, ?_, ?_, ?_⟩
  · have := (hc 0 _ rfl).1; rw [Nat.zero_add]; exact this
  · have := (hc 1 _ rfl).1; rw [Nat.zero_add]; exact this
  · have := (hc 2 _ rfl).1; rw [Nat.zero_add]; exact this
  · have := (hc 3 _ rfl).1; rw [Nat.zero_add]; exact this
/-- what is answered as the tokens of a text -/
def LexPost (t : List Lx.T × Int × Int) (w : World) (e : Ending) (w' : World) : Prop := ∃ a cap, e = .returned (.tuple #[.slice a t.1.length cap, .int .i64 t.2.1, .int .i64 t.2.2]) ∧ ReadsT13 w' a t.1 ∧ t.1.length ≤ cap ∧ Below w.heap.size w w'
theorem lexPost_err {t : List Lx.T × Int × Int} {w w' : World} {p e : Int} (h : t = ([], p, e)) (hb : Below w.heap.size w w') : LexPost t w (.returned (.tuple #[.slice none 0 0, .int .i64 p, .int .i64 e])) w' := by
  subst h; exact ⟨none, 0, rfl, readsT13_none _ _, Nat.le_refl _, hb⟩
theorem lexPost_ok {t : List Lx.T × Int × Int} {L : List Lx.T} {w w' : World} {B k cp : Nat} {ao : Option Addr} (h : t = (L, 0, 0)) (hk : L.length = k) (hown : OwL tCl 74 4 w' B (.slice ao k cp) L) (hb : Below w.heap.size w w') : LexPost t w (.returned (.tuple #[.slice ao k cp, .int .i64 0, .int .i64 0])) w' := by
  subst h
  refine ⟨ao, cp, by rw [hk], owL_readsT13 hk hown, ?_, hb⟩
  obtain ⟨a, c, e, h1, _⟩ := owL_form hown
  cases e
  exact h1
theorem box_tok {w wr : World} {B : Nat} {u : Value} {l : List Lx.T} (v : Lx.T) (h : OwL tCl 74 4 wr B u l) (hb : Below B w wr) (hB : B ≤ w.heap.size) :
    OwL tCl 74 4 (wr.alloc (.cells (tokC v) 74)) B u l ∧ Below B w (wr.alloc (.cells (tokC v) 74)) ∧ B ≤ (wr.alloc (.cells (tokC v) 74)).heap.size ∧ RowV (wr.alloc (.cells (tokC v) 74)) wr.heap.size 74 (tCl v) := by
  have hs := hb.size
  have hz : (wr.alloc (.cells (tokC v) 74)).heap.size = wr.heap.size + 1 := World.size_alloc _ _
  exact ⟨owL_below h ((Below.refl _ _).alloc (Nat.le_refl _) _), hb.alloc (by omega) _, by omega, rowV_new _ _ _⟩
theorem app_tok {w wr w5 : World} {B g n cap : Nat} {u : Value} {l l' : List Lx.T} (h5 : OwL tCl 74 4 w5 B (.slice (some ⟨g, 0, none⟩) n cap) l') (ho : Only (fun j => u.ownBlock = some j) wr w5) (h : OwL tCl 74 4 wr B u l) (hb : Below B w wr) (hB : B ≤ wr.heap.size) :
    OwL tCl 74 4 w5 B (.slice (some ⟨g, 0, none⟩) n cap) l' ∧ Below B w w5 :=
  ⟨h5, hb.trans (ho.below (fun j _ e => (owL_lt h j e).1) hB)⟩
/-- the tokens of a text, or its error -/
def lexS (s : ByteArray) : List Lx.T × Int × Int := if 200 < s.size then ([], 0, 5) else Lx.lexAt 0 s.data.toList
end Go.Proofs.YtmkllibfblacfaaDoor

/-
  Layer 13, the program's: the tokens of a text.
-/
namespace Go.Proofs.YtmkllibfblacfaaDoor
open Go.RowKit
end Go.Proofs.YtmkllibfblacfaaDoor

/-
  Layer 13, the program's: reserved words, and names.
-/
namespace Go.Proofs.YtmkllibfblacfaaDoor
open Go.RowKit
theorem res_ne {s : ByteArray} {m : List UInt8} (h : ¬ s = ⟨m.toArray⟩) : (s.toList == m) = false := by
  have h2 : ¬ s.toList = m := fun e => h (Sl.ba_ext (by rw [← ByteArray.toList_eq, e]))
  simpa using h2
set_option maxRecDepth 100000 in
set_option maxHeartbeats 1600000 in
theorem res13_0 (w : World) : Calls Tryd.prog 30 #[.string ⟨#[97, 110, 100]⟩] w fun e w' => e = .returned (.bool (Lx.reserved (⟨#[97, 110, 100]⟩ : ByteArray).data.toList)) ∧ w' = w := by
  have HE : Hid (Lx.reserved (⟨#[97, 110, 100]⟩ : ByteArray).data.toList = true) := Lib.hid (by decide)
  go_enter Tryd.func30, Tryd.ntmps30
  go_wp2_with fail
  go_ret
  exact ⟨ret_bool HE.out.symm, rfl⟩
set_option maxRecDepth 100000 in
set_option maxHeartbeats 1600000 in
theorem res13_1 (w : World) : Calls Tryd.prog 30 #[.string ⟨#[111, 114]⟩] w fun e w' => e = .returned (.bool (Lx.reserved (⟨#[111, 114]⟩ : ByteArray).data.toList)) ∧ w' = w := by
  have HE : Hid (Lx.reserved (⟨#[111, 114]⟩ : ByteArray).data.toList = true) := Lib.hid (by decide)
  go_enter Tryd.func30, Tryd.ntmps30
  go_wp2_with fail
  go_ret
  exact ⟨ret_bool HE.out.symm, rfl⟩
set_option maxRecDepth 100000 in
set_option maxHeartbeats 1600000 in
theorem res13_2 (w : World) : Calls Tryd.prog 30 #[.string ⟨#[110, 111, 116]⟩] w fun e w' => e = .returned (.bool (Lx.reserved (⟨#[110, 111, 116]⟩ : ByteArray).data.toList)) ∧ w' = w := by
  have HE : Hid (Lx.reserved (⟨#[110, 111, 116]⟩ : ByteArray).data.toList = true) := Lib.hid (by decide)
  go_enter Tryd.func30, Tryd.ntmps30
  go_wp2_with fail
  go_ret
  exact ⟨ret_bool HE.out.symm, rfl⟩
set_option maxRecDepth 100000 in
set_option maxHeartbeats 1600000 in
theorem res13_3 (w : World) : Calls Tryd.prog 30 #[.string ⟨#[105, 102]⟩] w fun e w' => e = .returned (.bool (Lx.reserved (⟨#[105, 102]⟩ : ByteArray).data.toList)) ∧ w' = w := by
  have HE : Hid (Lx.reserved (⟨#[105, 102]⟩ : ByteArray).data.toList = true) := Lib.hid (by decide)
  go_enter Tryd.func30, Tryd.ntmps30
  go_wp2_with fail
  go_ret
  exact ⟨ret_bool HE.out.symm, rfl⟩
set_option maxRecDepth 100000 in
set_option maxHeartbeats 1600000 in
theorem res13_4 (w : World) : Calls Tryd.prog 30 #[.string ⟨#[116, 104, 101, 110]⟩] w fun e w' => e = .returned (.bool (Lx.reserved (⟨#[116, 104, 101, 110]⟩ : ByteArray).data.toList)) ∧ w' = w := by
  have HE : Hid (Lx.reserved (⟨#[116, 104, 101, 110]⟩ : ByteArray).data.toList = true) := Lib.hid (by decide)
  go_enter Tryd.func30, Tryd.ntmps30
  go_wp2_with fail
  go_ret
  exact ⟨ret_bool HE.out.symm, rfl⟩
set_option maxRecDepth 100000 in
set_option maxHeartbeats 1600000 in
theorem res13_5 (w : World) : Calls Tryd.prog 30 #[.string ⟨#[101, 108, 115, 101]⟩] w fun e w' => e = .returned (.bool (Lx.reserved (⟨#[101, 108, 115, 101]⟩ : ByteArray).data.toList)) ∧ w' = w := by
  have HE : Hid (Lx.reserved (⟨#[101, 108, 115, 101]⟩ : ByteArray).data.toList = true) := Lib.hid (by decide)
  go_enter Tryd.func30, Tryd.ntmps30
  go_wp2_with fail
  go_ret
  exact ⟨ret_bool HE.out.symm, rfl⟩
set_option maxRecDepth 100000 in
set_option maxHeartbeats 1600000 in
theorem res13_6 (w : World) : Calls Tryd.prog 30 #[.string ⟨#[116, 114, 117, 101]⟩] w fun e w' => e = .returned (.bool (Lx.reserved (⟨#[116, 114, 117, 101]⟩ : ByteArray).data.toList)) ∧ w' = w := by
  have HE : Hid (Lx.reserved (⟨#[116, 114, 117, 101]⟩ : ByteArray).data.toList = true) := Lib.hid (by decide)
  go_enter Tryd.func30, Tryd.ntmps30
  go_wp2_with fail
  go_ret
  exact ⟨ret_bool HE.out.symm, rfl⟩
set_option maxRecDepth 100000 in
set_option maxHeartbeats 1600000 in
theorem res13_7 (w : World) : Calls Tryd.prog 30 #[.string ⟨#[102, 97, 108, 115, 101]⟩] w fun e w' => e = .returned (.bool (Lx.reserved (⟨#[102, 97, 108, 115, 101]⟩ : ByteArray).data.toList)) ∧ w' = w := by
  have HE : Hid (Lx.reserved (⟨#[102, 97, 108, 115, 101]⟩ : ByteArray).data.toList = true) := Lib.hid (by decide)
  go_enter Tryd.func30, Tryd.ntmps30
  go_wp2_with fail
  go_ret
  exact ⟨ret_bool HE.out.symm, rfl⟩
set_option maxRecDepth 100000 in
set_option maxHeartbeats 1600000 in
theorem res13_8 (w : World) : Calls Tryd.prog 30 #[.string ⟨#[110, 117, 108, 108]⟩] w fun e w' => e = .returned (.bool (Lx.reserved (⟨#[110, 117, 108, 108]⟩ : ByteArray).data.toList)) ∧ w' = w := by
  have HE : Hid (Lx.reserved (⟨#[110, 117, 108, 108]⟩ : ByteArray).data.toList = true) := Lib.hid (by decide)
  go_enter Tryd.func30, Tryd.ntmps30
  go_wp2_with fail
  go_ret
  exact ⟨ret_bool HE.out.symm, rfl⟩
set_option maxRecDepth 100000 in
set_option maxHeartbeats 3200000 in
theorem reserved13_any (s : ByteArray) (w : World) : Calls Tryd.prog 30 #[.string s] w fun e w' => e = .returned (.bool (Lx.reserved s.data.toList)) ∧ w' = w := by
  by_cases h0 : s = ⟨#[97, 110, 100]⟩
  · subst h0
    exact res13_0 w
  · by_cases h1 : s = ⟨#[111, 114]⟩
    · subst h1
      exact res13_1 w
    · by_cases h2 : s = ⟨#[110, 111, 116]⟩
      · subst h2
        exact res13_2 w
      · by_cases h3 : s = ⟨#[105, 102]⟩
        · subst h3
          exact res13_3 w
        · by_cases h4 : s = ⟨#[116, 104, 101, 110]⟩
          · subst h4
            exact res13_4 w
          · by_cases h5 : s = ⟨#[101, 108, 115, 101]⟩
            · subst h5
              exact res13_5 w
            · by_cases h6 : s = ⟨#[116, 114, 117, 101]⟩
              · subst h6
                exact res13_6 w
              · by_cases h7 : s = ⟨#[102, 97, 108, 115, 101]⟩
                · subst h7
                  exact res13_7 w
                · by_cases h8 : s = ⟨#[110, 117, 108, 108]⟩
                  · subst h8
                    exact res13_8 w
                  · have HE : Hid (Lx.reserved s.data.toList = false) := Lib.hid (decide_eq_false (by
                      intro hm
                      simp only [Lx.words, List.mem_cons, List.not_mem_nil, or_false] at hm
                      rcases hm with hm | hm | hm | hm | hm | hm | hm | hm | hm
                      · exact h0 (Sl.ba_ext hm)
                      · exact h1 (Sl.ba_ext hm)
                      · exact h2 (Sl.ba_ext hm)
                      · exact h3 (Sl.ba_ext hm)
                      · exact h4 (Sl.ba_ext hm)
                      · exact h5 (Sl.ba_ext hm)
                      · exact h6 (Sl.ba_ext hm)
                      · exact h7 (Sl.ba_ext hm)
                      · exact h8 (Sl.ba_ext hm)))
                    have t0 : (s.toList == [97, 110, 100]) = false := res_ne h0
                    have t1 : (s.toList == [111, 114]) = false := res_ne h1
                    have t2 : (s.toList == [110, 111, 116]) = false := res_ne h2
                    have t3 : (s.toList == [105, 102]) = false := res_ne h3
                    have t4 : (s.toList == [116, 104, 101, 110]) = false := res_ne h4
                    have t5 : (s.toList == [101, 108, 115, 101]) = false := res_ne h5
                    have t6 : (s.toList == [116, 114, 117, 101]) = false := res_ne h6
                    have t7 : (s.toList == [102, 97, 108, 115, 101]) = false := res_ne h7
                    have t8 : (s.toList == [110, 117, 108, 108]) = false := res_ne h8
                    clear h0 h1 h2 h3 h4 h5 h6 h7 h8
                    go_enter Tryd.func30, Tryd.ntmps30
                    go_wp2_with fail
                    go_ret
                    exact ⟨ret_bool HE.out.symm, rfl⟩
end Go.Proofs.YtmkllibfblacfaaDoor
