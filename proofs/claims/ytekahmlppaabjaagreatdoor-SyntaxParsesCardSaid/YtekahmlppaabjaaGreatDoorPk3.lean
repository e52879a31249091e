/-
  Texts of the layers, part 3: LexProg, LexNum, Atoi, LexProg2, LexTxt, BldF, Pfx, LexProg3, QTail, NodQuiet, HTail, Plan, LexOne, LexProg4, LexProg5, Dump.
-/
import Derived.Test.YtekahmlppaabjaaGreatDoorPk2
import Derived.Shelf.Abstract
import Derived.Shelf.Strconv.AtoiAll
import Derived.Test.YtekahmlppaabjaaGreatDoorProg
import Derived.WalkKit
import Derived.Lib.AtoiAllCases
import Derived.Shelf.Strings.BuilderRune
import Derived.Shelf.Strings.Prefix
import Derived.Shelf.Strings.BuilderF
import Derived.BigQuiet
import Derived.Test.YtekahmlppaabjaaGreatDoorPk1
import Derived.StillTail
import Derived.Deep.Quiet
import Derived.OrdersHeld
import Derived.Laws.Tables
import Derived.SliceStrings
/-
  Layer 13, the program's: letters, digits, runs of bytes, names.
-/
namespace Go.Proofs.YtekahmlppaabjaaGreatDoor
open Go.RowKit
set_option maxRecDepth 100000 in
theorem digit13_any (c : UInt8) (w : World) : Calls Tryz.prog 28 #[.int .u8 (c.toNat : Int)] w fun e w' => e = .returned (.bool (Lx.digit c)) ∧ w' = w := by
  have hc := c.toNat_lt
  by_cases h1 : (c.toNat : Int) ≥ 48
  · go_enter Tryz.func28, Tryz.ntmps28
    go_wp2_with fail
    go_ret
    exact ⟨ret_bool (by unfold Lx.digit; rw [decide_eq_true (show 48 ≤ c.toNat by omega), Bool.true_and]; exact decide_eq_decide.2 (by omega)), rfl⟩
  · go_enter Tryz.func28, Tryz.ntmps28
    go_wp2_with fail
    go_ret
    exact ⟨ret_bool (by unfold Lx.digit; rw [decide_eq_false (show ¬ 48 ≤ c.toNat by omega), Bool.false_and]), rfl⟩
set_option maxRecDepth 100000 in
set_option maxHeartbeats 1600000 in
theorem letter13_any (c : UInt8) (w : World) : Calls Tryz.prog 26 #[.int .u8 (c.toNat : Int)] w fun e w' => e = .returned (.bool (Lx.letter c)) ∧ w' = w := by
  have hc := c.toNat_lt
  by_cases h0 : c.toNat = 95
  · rw [letter_yes (.inr (.inr h0))]
    have t0 : ((c.toNat : Int) == 95) = true := by rw [h0]; rfl
    clear h0
    go_enter Tryz.func26, Tryz.ntmps26
    go_wp2_with fail
    go_ret
    exact ⟨rfl, rfl⟩
  · have t0 : ((c.toNat : Int) == 95) = false := by simp; omega
    by_cases h1 : 97 ≤ c.toNat ∧ c.toNat ≤ 122
    · rw [letter_yes (.inl h1)]
      have g1 : decide (97 ≤ (c.toNat : Int)) = true := decide_eq_true (by omega)
      have g2 : decide ((c.toNat : Int) ≤ 122) = true := decide_eq_true (by omega)
      clear h1 h0
      go_enter Tryz.func26, Tryz.ntmps26
      go_wp2_with fail
      go_ret
      exact ⟨rfl, rfl⟩
    · have g1 : decide (97 ≤ (c.toNat : Int)) = false ∨ (decide (97 ≤ (c.toNat : Int)) = true ∧ decide ((c.toNat : Int) ≤ 122) = false) := by
        by_cases h : 97 ≤ c.toNat
        · exact .inr ⟨decide_eq_true (by omega), decide_eq_false (by omega)⟩
        · exact .inl (decide_eq_false (by omega))
      by_cases h2 : 65 ≤ c.toNat ∧ c.toNat ≤ 90
      · rw [letter_yes (.inr (.inl h2))]
        have g2 : decide (65 ≤ (c.toNat : Int)) = true := decide_eq_true (by omega)
        have g3 : decide ((c.toNat : Int) ≤ 90) = true := decide_eq_true (by omega)
        clear h1 h2 h0
        rcases g1 with g1 | ⟨g1, g1'⟩
        all_goals go_enter Tryz.func26, Tryz.ntmps26
        all_goals go_wp2_with fail
        all_goals go_ret
        all_goals exact ⟨rfl, rfl⟩
      · have g2 : decide (65 ≤ (c.toNat : Int)) = false ∨ (decide (65 ≤ (c.toNat : Int)) = true ∧ decide ((c.toNat : Int) ≤ 90) = false) := by
          by_cases h : 65 ≤ c.toNat
          · exact .inr ⟨decide_eq_true (by omega), decide_eq_false (by omega)⟩
          · exact .inl (decide_eq_false (by omega))
        rw [letter_no (c := c) (by omega)]
        clear h1 h2 h0
        rcases g1 with g1 | ⟨g1, g1'⟩ <;> rcases g2 with g2 | ⟨g2, g2'⟩
        all_goals go_enter Tryz.func26, Tryz.ntmps26
        all_goals go_wp2_with fail
        all_goals go_ret
        all_goals exact ⟨rfl, rfl⟩
set_option maxRecDepth 100000 in
theorem inName13_any (c : UInt8) (w : World) : Calls Tryz.prog 56 #[.int .u8 (c.toNat : Int)] w fun e w' => e = .returned (.bool (Lx.inName c)) ∧ w' = w := by
  have cL := fun w => letter13_any c w
  have cD := fun w => digit13_any c w
  unfold Lx.inName
  cases hL : Lx.letter c with
  | true =>
    rw [hL] at cL
    have H := Lib.hid cL
    clear cL cD hL
    go_enter Tryz.func56, Tryz.ntmps56
    go_wp2_with (go_at_call 26; refine (H.out _).mono ?_; rintro e w1 ⟨rfl, rfl⟩)
    go_ret
    exact ⟨rfl, rfl⟩
  | false =>
    rw [hL] at cL
    generalize Lx.digit c = D at *
    have H := Lib.hid (And.intro cL cD)
    clear cL cD hL
    go_enter Tryz.func56, Tryz.ntmps56
    go_wp2_with (first | (go_at_call 26; refine (H.out.1 _).mono ?_; rintro e w1 ⟨rfl, rfl⟩) | (go_at_call 28; refine (H.out.2 _).mono ?_; rintro e w1 ⟨rfl, rfl⟩))
    go_ret
    exact ⟨rfl, rfl⟩
/-! runs -/
def RunTo (p : UInt8 → Bool) (s : ByteArray) (k : Nat) : Prop := (s.data.toList.takeWhile p).length = k + ((s.data.toList.drop k).takeWhile p).length
theorem runTo_start (p : UInt8 → Bool) (s : ByteArray) : RunTo p s 0 := by unfold RunTo; simp
theorem runTo_all {p : UInt8 → Bool} {s : ByteArray} {k : Nat} (h : RunTo p s k) (hk : k = s.size) : (s.data.toList.takeWhile p).length = k := by
  unfold RunTo at h
  rw [h, List.drop_eq_nil_of_le (by rw [Array.length_toList]; show s.size ≤ k; omega)]; rfl
theorem runTo_end {p : UInt8 → Bool} {s : ByteArray} {k : Nat} (h : RunTo p s k) (hk : k < s.size) (hc : p s[k] = false) : (s.data.toList.takeWhile p).length = k := by
  have hl : k < s.data.toList.length := by simpa using hk
  unfold RunTo at h
  rw [h, Oct.drop_at _ _ hl, show s.data.toList[k] = s[k] from rfl, List.takeWhile_cons, hc]; rfl
theorem runTo_next {p : UInt8 → Bool} {s : ByteArray} {k : Nat} (h : RunTo p s k) (hk : k < s.size) (hc : p s[k] = true) : RunTo p s (k + 1) := by
  have hl : k < s.data.toList.length := by simpa using hk
  unfold RunTo at h ⊢
  rw [h, Oct.drop_at _ _ hl, show s.data.toList[k] = s[k] from rfl, List.takeWhile_cons, hc]
  simp only [if_true, List.length_cons]; omega
set_option maxRecDepth 100000 in
set_option maxHeartbeats 1600000 in
theorem run13_any (F : Nat) (p : UInt8 → Bool) (hF : ∀ args w, (callFunc F args).run Tryz.prog w = .ok (.enter F args) w)
    (hp : ∀ (c : UInt8) (w : World), Calls Tryz.prog F #[.int .u8 (c.toNat : Int)] w fun e w' => e = .returned (.bool (p c)) ∧ w' = w) (s : ByteArray) (w : World) (hs : s.size ≤ maxLen) :
    Calls Tryz.prog 55 #[.string s, .func (.func F) #[] #[]] w fun e w' => e = .returned (.int .i64 ((s.data.toList.takeWhile p).length : Nat)) ∧ w' = w := by
  unfold maxLen at hs
  go_enter Tryz.func55, Tryz.ntmps55
  go_wp2
  go_loop [5] (fun i => ∃ k : Nat, i = .int .i64 (k : Int) ∧ k ≤ s.size ∧ Hid (RunTo p s k)) (fun i => s.size - (intOf i).toNat)
  case atStart => exact ⟨0, rfl, Nat.zero_le _, Lib.hid (runTo_start p s)⟩
  case round =>
    obtain ⟨k, rfl, hle, HW⟩ := hrel
    by_cases hlt : k < s.size
    · have cP := fun w => hp s[k] w
      cases hL : p s[k] with
      | true =>
        rw [hL] at cP
        have HN := Lib.hid (runTo_next HW.out hlt hL)
        have HC := Lib.hid cP
        clear cP hL hp
        go_wp2_with (go_at_fn F; refine (HC.out _).mono ?_; rintro e w1 ⟨rfl, rfl⟩)
        go_round
        case rel => exact ⟨k + 1, by go_num, by omega, HN⟩
        case measure => simp [intOf]; omega
      | false =>
        rw [hL] at cP
        have HE := Lib.hid (runTo_end HW.out hlt hL)
        have HC := Lib.hid cP
        clear cP hL hp
        go_wp2_with (go_at_fn F; refine (HC.out _).mono ?_; rintro e w1 ⟨rfl, rfl⟩)
        go_ret
        exact ⟨ret_int (by rw [HE.out]), rfl⟩
    · have HE := Lib.hid (runTo_all HW.out (by omega))
      clear hp
      go_wp2_with fail
      go_ret
      exact ⟨ret_int (by rw [HE.out]), rfl⟩
theorem enter_inName (args : Array Value) (w : World) : (callFunc 56 args).run Tryz.prog w = .ok (.enter 56 args) w := by kernel_rfl
theorem enter_digit (args : Array Value) (w : World) : (callFunc 28 args).run Tryz.prog w = .ok (.enter 28 args) w := by kernel_rfl
theorem run13_name (s : ByteArray) (w : World) (hs : s.size ≤ maxLen) :
    Calls Tryz.prog 55 #[.string s, .func (.func 56) #[] #[]] w fun e w' => e = .returned (.int .i64 ((s.data.toList.takeWhile Lx.inName).length : Nat)) ∧ w' = w :=
  run13_any _ _ enter_inName inName13_any s w hs
theorem run13_digit (s : ByteArray) (w : World) (hs : s.size ≤ maxLen) :
    Calls Tryz.prog 55 #[.string s, .func (.func 28) #[] #[]] w fun e w' => e = .returned (.int .i64 ((Lx.digs s.data.toList).length : Nat)) ∧ w' = w :=
  run13_any _ _ enter_digit digit13_any s w hs
/-! names -/
theorem nameT_run {s : ByteArray} (h0 : 0 < s.size) (hL : Lx.letter s[0] = true) : Lx.word false s.data.toList = (s.data.toList.takeWhile Lx.inName).length := by
  have hl : 0 < s.data.toList.length := by simpa using h0
  have e := Oct.drop_at s.data.toList 0 hl
  rw [List.drop_zero] at e
  rw [e]
  exact Lx.word_run hL
set_option maxRecDepth 100000 in
set_option maxHeartbeats 1600000 in
theorem name13_any (s : ByteArray) (w : World) (hs : s.size ≤ maxLen) (h0 : 0 < s.size) (hL : Lx.letter s[0] = true) :
    Calls Tryz.prog 27 #[.string s] w fun e w' => e = .returned (.tuple #[tokV (Lx.nameT s.data.toList).1, .int .i64 ((Lx.nameT s.data.toList).2.1 : Nat), .int .i64 (Lx.nameT s.data.toList).2.2]) ∧ Below w.heap.size w w' := by
  have cW := fun w => run13_name s w hs
  rw [← nameT_run h0 hL] at cW
  have hle := Lx.word_le false s.data.toList
  rw [Array.length_toList] at hle
  have hle2 : Lx.word false s.data.toList ≤ s.size := hle
  have hx := take_list s (Lx.word false s.data.toList)
  unfold Lx.nameT
  by_cases h16 : 16 < Lx.word false s.data.toList
  · rw [if_pos h16]
    simp only
    obtain ⟨r0, b0, s0⟩ := tok_new Lx.no w
    generalize Lx.word false s.data.toList = k at *
    obtain ⟨a0, a1, a2, a3, g0, g1, g2, g3⟩ := tok_cells r0
    have H := Lib.hid (And.intro cW (And.intro r0 (And.intro b0 s0)))
    clear cW r0 b0 s0 hx hle hL
    go_enter Tryz.func27, Tryz.ntmps27
    go_wp2_with (go_at_call 55; refine (H.out.1 _).mono ?_; rintro e w1 ⟨rfl, rfl⟩)
    exact bodyPost_ret (v := .tuple #[tokV Lx.no, .int .i64 0, .int .i64 5]) (results_tok (p := 2) (u := 3) (x := 4) rfl _ _ w.heap.size Lx.no rfl H.out.2.1) rfl ⟨rfl, H.out.2.2.1⟩
  · rw [if_neg h16]
    simp only
    rw [← hx]
    generalize Lx.word false s.data.toList = k at *
    obtain ⟨X, hX⟩ : ∃ X, X = s.extract 0 k := ⟨_, rfl⟩
    obtain ⟨r0, b0, s0⟩ := tok_new ⟨1, X, 0, 0⟩ w
    rw [← hX]
    have H := Lib.hid (And.intro cW (And.intro r0 (And.intro b0 s0)))
    have HX := Lib.hid hX
    clear cW r0 b0 s0 hx hle hX hL
    go_enter Tryz.func27, Tryz.ntmps27
    go_wp2_with (go_at_call 55; refine (H.out.1 _).mono ?_; rintro e w1 ⟨rfl, rfl⟩)
    rw [← HX.out]
    exact bodyPost_ret (v := .tuple #[tokV ⟨1, X, 0, 0⟩, .int .i64 (k : Int), .int .i64 0]) (results_tok (p := 2) (u := 3) (x := 4) rfl _ _ w.heap.size ⟨1, X, 0, 0⟩ rfl H.out.2.1) rfl ⟨rfl, H.out.2.2.1⟩
end Go.Proofs.YtekahmlppaabjaaGreatDoor

/-
  Layer 13: the document's first token of a text: numbers.
-/
namespace Go.Proofs.YtekahmlppaabjaaGreatDoor
open Go.RowKit
/-- k digits are told: v is what they say, or it is too much -/
structure NumTo (s : ByteArray) (k : Nat) (v : Nat) (over : Bool) : Prop where
  all : Lx.digs s.data.toList = s.data.toList.take k ++ Lx.digs (s.data.toList.drop k)
  le : k ≤ s.size
  most : v ≤ Lx.maxI
  is : over = decide (Lx.maxI < Vl.val (s.data.toList.take k) 0)
  eq : over = false → v = Vl.val (s.data.toList.take k) 0
theorem numTo_start (s : ByteArray) : NumTo s 0 0 false := ⟨by simp, Nat.zero_le _, by decide, by simp [Vl.val, Lx.maxI], fun _ => rfl⟩
theorem digs_cons_yes {c : UInt8} (r : List UInt8) (h : Lx.digit c = true) : Lx.digs (c :: r) = c :: Lx.digs r := by unfold Lx.digs; rw [List.takeWhile_cons, if_pos h]
theorem digs_cons_no {c : UInt8} (r : List UInt8) (h : Lx.digit c = false) : Lx.digs (c :: r) = [] := by unfold Lx.digs; rw [List.takeWhile_cons, h]; simp
theorem take_next (s : ByteArray) (k : Nat) (hk : k < s.size) : s.data.toList.take (k + 1) = s.data.toList.take k ++ [s[k]] := by
  have hl : k < s.data.toList.length := by simpa using hk
  rw [List.take_succ_eq_append_getElem hl]; rfl
theorem drop_next (s : ByteArray) (k : Nat) (hk : k < s.size) : s.data.toList.drop k = s[k] :: s.data.toList.drop (k + 1) := by
  have hl : k < s.data.toList.length := by simpa using hk
  exact Oct.drop_at _ _ hl
theorem numTo_digs {s : ByteArray} {k v : Nat} {over : Bool} (h : NumTo s k v over) (hk : k < s.size) (hd : Lx.digit s[k] = true) : Lx.digs s.data.toList = s.data.toList.take (k + 1) ++ Lx.digs (s.data.toList.drop (k + 1)) := by
  rw [h.all, drop_next s k hk, digs_cons_yes _ hd, take_next s k hk, List.append_assoc]; rfl
theorem val_next (s : ByteArray) (k : Nat) (hk : k < s.size) : Vl.val (s.data.toList.take (k + 1)) 0 = Vl.val (s.data.toList.take k) 0 * 10 + (s[k].toNat - 48) := by
  rw [take_next s k hk, Vl.val_append]; rfl
/-- it was too much, and is -/
theorem numTo_over {s : ByteArray} {k v : Nat} (h : NumTo s k v true) (hk : k < s.size) (hd : Lx.digit s[k] = true) : NumTo s (k + 1) v true := by
  have hi := of_decide_eq_true h.is.symm
  refine ⟨numTo_digs h hk hd, by omega, h.most, ?_, fun e => by cases e⟩
  rw [val_next s k hk]; symm; apply decide_eq_true; omega
/-- it is too much now -/
theorem numTo_much {s : ByteArray} {k v : Nat} (h : NumTo s k v false) (hk : k < s.size) (hd : Lx.digit s[k] = true) (hv : Lx.maxI < 10 * v + (s[k].toNat - 48)) : NumTo s (k + 1) v true := by
  refine ⟨numTo_digs h hk hd, by omega, h.most, ?_, fun e => by cases e⟩
  rw [val_next s k hk, ← h.eq rfl]; symm; apply decide_eq_true; omega
theorem numTo_more {s : ByteArray} {k v : Nat} (h : NumTo s k v false) (hk : k < s.size) (hd : Lx.digit s[k] = true) (hv : ¬ Lx.maxI < 10 * v + (s[k].toNat - 48)) : NumTo s (k + 1) (10 * v + (s[k].toNat - 48)) false := by
  refine ⟨numTo_digs h hk hd, by omega, by omega, ?_, fun _ => ?_⟩
  · rw [val_next s k hk, ← h.eq rfl]; symm; apply decide_eq_false; omega
  · rw [val_next s k hk, ← h.eq rfl]; omega
/-- where the digits end -/
theorem numTo_end {s : ByteArray} {k v : Nat} {over : Bool} (h : NumTo s k v over) (he : ∀ hk : k < s.size, Lx.digit s[k] = false) : Lx.digs s.data.toList = s.data.toList.take k ∧ (Lx.digs s.data.toList).length = k := by
  have h1 : Lx.digs s.data.toList = s.data.toList.take k := by
    rw [h.all]
    by_cases hk : k < s.size
    · rw [drop_next s k hk, digs_cons_no _ (he hk), List.append_nil]
    · rw [List.drop_eq_nil_of_le (by rw [Array.length_toList]; show s.size ≤ k; omega)]; exact List.append_nil _
  refine ⟨h1, ?_⟩
  rw [h1, List.length_take, Array.length_toList]
  have := h.le
  show min k s.size = k
  omega
theorem head_at0 (s : ByteArray) (h : 0 < s.size) : s.data.toList.head? = some s[0] := by
  have := drop_next s 0 h
  rw [List.drop_zero] at this
  rw [this]; rfl
/-- what the number's loop ends in -/
theorem num_syntax {s : ByteArray} {k v : Nat} {over : Bool} (h : NumTo s k v over) (he : ∀ hk : k < s.size, Lx.digit s[k] = false) (h1 : 1 < k) (h0 : 0 < s.size) (hz : s[0] = 48) : Lx.numT s.data.toList = (Lx.no, 0, 11) := by
  obtain ⟨_, e2⟩ := numTo_end h he
  unfold Lx.numT; rw [if_pos ⟨by omega, by rw [head_at0 s h0, hz]⟩]
theorem num_over {s : ByteArray} {k v : Nat} (h : NumTo s k v true) (he : ∀ hk : k < s.size, Lx.digit s[k] = false) (hz : ¬ (1 < k ∧ ∃ h0 : 0 < s.size, s[0] = 48)) : Lx.numT s.data.toList = (Lx.no, 0, 15) := by
  obtain ⟨e1, e2⟩ := numTo_end h he
  have hi := of_decide_eq_true h.is.symm
  unfold Lx.numT
  rw [if_neg, if_pos (by rw [e1]; exact hi)]
  rintro ⟨a, b⟩
  have h0 : 0 < s.size := by have := h.le; omega
  rw [head_at0 s h0] at b
  exact hz ⟨by omega, h0, by injection b⟩
theorem num_ok {s : ByteArray} {k v : Nat} (h : NumTo s k v false) (he : ∀ hk : k < s.size, Lx.digit s[k] = false) (hz : ¬ (1 < k ∧ ∃ h0 : 0 < s.size, s[0] = 48)) : Lx.numT s.data.toList = (⟨2, Vl.mt, (v : Nat), 0⟩, k, 0) := by
  obtain ⟨e1, e2⟩ := numTo_end h he
  have hi := of_decide_eq_false h.is.symm
  unfold Lx.numT
  rw [if_neg, if_neg (by rw [e1]; exact hi), e2, e1, ← h.eq rfl]
  rintro ⟨a, b⟩
  have h0 : 0 < s.size := by have := h.le; omega
  rw [head_at0 s h0] at b
  exact hz ⟨by omega, h0, by injection b⟩
set_option maxRecDepth 100000 in
set_option maxHeartbeats 3200000 in
theorem rnumber13_any (s : ByteArray) (w : World) (hs : s.size ≤ maxLen) :
    Calls Tryz.prog 42 #[.string s] w fun e w' => e = .returned (.tuple #[tokV (Lx.numT s.data.toList).1, .int .i64 ((Lx.numT s.data.toList).2.1 : Nat), .int .i64 (Lx.numT s.data.toList).2.2]) ∧ Below w.heap.size w w' := by
  unfold maxLen at hs
  go_enter Tryz.func42, Tryz.ntmps42
  go_wp2
  go_loop [5, 6, 7, 8] (fun i v o _ => ∃ (k V : Nat) (over : Bool), i = .int .i64 (k : Int) ∧ v = .int .i64 (V : Int) ∧ o = .bool over ∧ k ≤ s.size ∧ V ≤ 9223372036854775807 ∧ Hid (NumTo s k V over)) (fun i _ _ _ => s.size - (intOf i).toNat)
  case atStart => exact ⟨0, 0, false, rfl, rfl, rfl, Nat.zero_le _, Nat.zero_le _, Lib.hid (numTo_start s)⟩
  case round =>
    obtain ⟨k, V, over, rfl, rfl, rfl, hle, hV, HNT⟩ := hrel
    by_cases hdig : ∃ hk : k < s.size, Lx.digit s[k] = true
    · obtain ⟨hlt, hD⟩ := hdig
      have cD := fun w => rdigit13_any s[k] w
      rw [hD] at cD
      have hd := (Lx.digit_iff _).1 hD
      have hstep : NumTo s k V over := HNT.out
      have HC := Lib.hid (And.intro cD hD)
      clear cD
      cases over with
      | true =>
        have HN := Lib.hid (numTo_over hstep hlt hD)
        clear hstep hD
        go_wp2_with (go_at_call 41; refine (HC.out.1 _).mono ?_; rintro e w1 ⟨rfl, rfl⟩)
        go_round
        case rel => exact ⟨k + 1, V, true, by go_num, rfl, rfl, by omega, hV, HN⟩
        case measure => simp [intOf]; omega
      | false =>
        by_cases hv : Lx.maxI < 10 * V + (s[k].toNat - 48)
        · have HN := Lib.hid (numTo_much hstep hlt hD hv)
          have hv2 : decide ((9223372036854775807 - ((s[k].toNat : Int) - 48)) / 10 < (V : Int)) = true := decide_eq_true (by unfold Lx.maxI at hv; omega)
          clear hstep hD hv
          go_wp2_with (go_at_call 41; refine (HC.out.1 _).mono ?_; rintro e w1 ⟨rfl, rfl⟩)
          go_round
          case rel => exact ⟨k + 1, V, true, by go_num, rfl, rfl, by omega, hV, HN⟩
          case measure => simp [intOf]; omega
        · have HN := Lib.hid (numTo_more hstep hlt hD hv)
          have hv2 : decide ((9223372036854775807 - ((s[k].toNat : Int) - 48)) / 10 < (V : Int)) = false := decide_eq_false (by unfold Lx.maxI at hv; omega)
          have hv3 : 10 * V + (s[k].toNat - 48) ≤ 9223372036854775807 := by unfold Lx.maxI at hv; omega
          clear hstep hD hv
          go_wp2_with (go_at_call 41; refine (HC.out.1 _).mono ?_; rintro e w1 ⟨rfl, rfl⟩)
          go_round
          case rel => exact ⟨k + 1, 10 * V + (s[k].toNat - 48), false, by go_num, by go_num, rfl, by omega, hv3, HN⟩
          case measure => simp [intOf]; omega
    · have he : ∀ hk : k < s.size, Lx.digit s[k] = false := fun hk => by
        cases h : Lx.digit s[k] with
        | false => rfl
        | true => exact absurd ⟨hk, h⟩ hdig
      clear hdig
      by_cases hlt : k < s.size
      · have cD := fun w => rdigit13_any s[k] w
        rw [he hlt] at cD
        have HC := Lib.hid cD
        clear cD
        cases over with
        | true =>
          by_cases h1 : (k : Int) > 1
          · have h0 : 0 < s.size := by omega
            by_cases hz : s[0] = 48
            · have HN := Lib.hid (num_syntax HNT.out he (by omega) h0 hz)
              have hz2 : ((s[0].toNat : Int) == 48) = true := by rw [hz]; rfl
              clear he hz
              have HT := Lib.hid (tok_new Lx.no w)
              clear HNT
              go_wp2_with (go_at_call 41; refine (HC.out _).mono ?_; rintro e w1 ⟨rfl, rfl⟩)
              rw [HN.out]
              exact bodyPost_ret (v := .tuple #[tokV Lx.no, .int .i64 0, .int .i64 11]) (results_tok (p := 2) (u := 3) (x := 4) rfl _ _ w.heap.size Lx.no rfl HT.out.1) rfl ⟨rfl, HT.out.2.1⟩
            · have HN := Lib.hid (num_over HNT.out he (fun x => hz x.2.2))
              have hz2 : ((s[0].toNat : Int) == 48) = false := by
                have : ¬ s[0].toNat = 48 := fun e => hz (UInt8.toNat_inj.1 e)
                simp; omega
              clear he hz
              have HT := Lib.hid (tok_new Lx.no w)
              clear HNT
              go_wp2_with (go_at_call 41; refine (HC.out _).mono ?_; rintro e w1 ⟨rfl, rfl⟩)
              rw [HN.out]
              exact bodyPost_ret (v := .tuple #[tokV Lx.no, .int .i64 0, .int .i64 15]) (results_tok (p := 2) (u := 3) (x := 4) rfl _ _ w.heap.size Lx.no rfl HT.out.1) rfl ⟨rfl, HT.out.2.1⟩
          · have HN := Lib.hid (num_over HNT.out he (fun x => by have := x.1; omega))
            clear he
            have HT := Lib.hid (tok_new Lx.no w)
            clear HNT
            go_wp2_with (go_at_call 41; refine (HC.out _).mono ?_; rintro e w1 ⟨rfl, rfl⟩)
            rw [HN.out]
            exact bodyPost_ret (v := .tuple #[tokV Lx.no, .int .i64 0, .int .i64 15]) (results_tok (p := 2) (u := 3) (x := 4) rfl _ _ w.heap.size Lx.no rfl HT.out.1) rfl ⟨rfl, HT.out.2.1⟩
        | false =>
          by_cases h1 : (k : Int) > 1
          · have h0 : 0 < s.size := by omega
            by_cases hz : s[0] = 48
            · have HN := Lib.hid (num_syntax HNT.out he (by omega) h0 hz)
              have hz2 : ((s[0].toNat : Int) == 48) = true := by rw [hz]; rfl
              clear he hz
              have HT := Lib.hid (tok_new Lx.no w)
              clear HNT
              go_wp2_with (go_at_call 41; refine (HC.out _).mono ?_; rintro e w1 ⟨rfl, rfl⟩)
              rw [HN.out]
              exact bodyPost_ret (v := .tuple #[tokV Lx.no, .int .i64 0, .int .i64 11]) (results_tok (p := 2) (u := 3) (x := 4) rfl _ _ w.heap.size Lx.no rfl HT.out.1) rfl ⟨rfl, HT.out.2.1⟩
            · have HN := Lib.hid (num_ok HNT.out he (fun x => hz x.2.2))
              have hz2 : ((s[0].toNat : Int) == 48) = false := by
                have : ¬ s[0].toNat = 48 := fun e => hz (UInt8.toNat_inj.1 e)
                simp; omega
              clear he hz
              have HT := Lib.hid (tok_new ⟨2, Vl.mt, (V : Int), 0⟩ w)
              clear HNT
              go_wp2_with (go_at_call 41; refine (HC.out _).mono ?_; rintro e w1 ⟨rfl, rfl⟩)
              rw [HN.out]
              exact bodyPost_ret (v := .tuple #[tokV ⟨2, Vl.mt, (V : Int), 0⟩, .int .i64 (k : Int), .int .i64 0]) (results_tok (p := 2) (u := 3) (x := 4) rfl _ _ w.heap.size ⟨2, Vl.mt, (V : Int), 0⟩ rfl HT.out.1) rfl ⟨rfl, HT.out.2.1⟩
          · have HN := Lib.hid (num_ok HNT.out he (fun x => by have := x.1; omega))
            clear he
            have HT := Lib.hid (tok_new ⟨2, Vl.mt, (V : Int), 0⟩ w)
            clear HNT
            go_wp2_with (go_at_call 41; refine (HC.out _).mono ?_; rintro e w1 ⟨rfl, rfl⟩)
            rw [HN.out]
            exact bodyPost_ret (v := .tuple #[tokV ⟨2, Vl.mt, (V : Int), 0⟩, .int .i64 (k : Int), .int .i64 0]) (results_tok (p := 2) (u := 3) (x := 4) rfl _ _ w.heap.size ⟨2, Vl.mt, (V : Int), 0⟩ rfl HT.out.1) rfl ⟨rfl, HT.out.2.1⟩
      · cases over with
        | true =>
          by_cases h1 : (k : Int) > 1
          · have h0 : 0 < s.size := by omega
            by_cases hz : s[0] = 48
            · have HN := Lib.hid (num_syntax HNT.out he (by omega) h0 hz)
              have hz2 : ((s[0].toNat : Int) == 48) = true := by rw [hz]; rfl
              clear he hz
              have HT := Lib.hid (tok_new Lx.no w)
              clear HNT
              go_wp2_with fail
              rw [HN.out]
              exact bodyPost_ret (v := .tuple #[tokV Lx.no, .int .i64 0, .int .i64 11]) (results_tok (p := 2) (u := 3) (x := 4) rfl _ _ w.heap.size Lx.no rfl HT.out.1) rfl ⟨rfl, HT.out.2.1⟩
            · have HN := Lib.hid (num_over HNT.out he (fun x => hz x.2.2))
              have hz2 : ((s[0].toNat : Int) == 48) = false := by
                have : ¬ s[0].toNat = 48 := fun e => hz (UInt8.toNat_inj.1 e)
                simp; omega
              clear he hz
              have HT := Lib.hid (tok_new Lx.no w)
              clear HNT
              go_wp2_with fail
              rw [HN.out]
              exact bodyPost_ret (v := .tuple #[tokV Lx.no, .int .i64 0, .int .i64 15]) (results_tok (p := 2) (u := 3) (x := 4) rfl _ _ w.heap.size Lx.no rfl HT.out.1) rfl ⟨rfl, HT.out.2.1⟩
          · have HN := Lib.hid (num_over HNT.out he (fun x => by have := x.1; omega))
            clear he
            have HT := Lib.hid (tok_new Lx.no w)
            clear HNT
            go_wp2_with fail
            rw [HN.out]
            exact bodyPost_ret (v := .tuple #[tokV Lx.no, .int .i64 0, .int .i64 15]) (results_tok (p := 2) (u := 3) (x := 4) rfl _ _ w.heap.size Lx.no rfl HT.out.1) rfl ⟨rfl, HT.out.2.1⟩
        | false =>
          by_cases h1 : (k : Int) > 1
          · have h0 : 0 < s.size := by omega
            by_cases hz : s[0] = 48
            · have HN := Lib.hid (num_syntax HNT.out he (by omega) h0 hz)
              have hz2 : ((s[0].toNat : Int) == 48) = true := by rw [hz]; rfl
              clear he hz
              have HT := Lib.hid (tok_new Lx.no w)
              clear HNT
              go_wp2_with fail
              rw [HN.out]
              exact bodyPost_ret (v := .tuple #[tokV Lx.no, .int .i64 0, .int .i64 11]) (results_tok (p := 2) (u := 3) (x := 4) rfl _ _ w.heap.size Lx.no rfl HT.out.1) rfl ⟨rfl, HT.out.2.1⟩
            · have HN := Lib.hid (num_ok HNT.out he (fun x => hz x.2.2))
              have hz2 : ((s[0].toNat : Int) == 48) = false := by
                have : ¬ s[0].toNat = 48 := fun e => hz (UInt8.toNat_inj.1 e)
                simp; omega
              clear he hz
              have HT := Lib.hid (tok_new ⟨2, Vl.mt, (V : Int), 0⟩ w)
              clear HNT
              go_wp2_with fail
              rw [HN.out]
              exact bodyPost_ret (v := .tuple #[tokV ⟨2, Vl.mt, (V : Int), 0⟩, .int .i64 (k : Int), .int .i64 0]) (results_tok (p := 2) (u := 3) (x := 4) rfl _ _ w.heap.size ⟨2, Vl.mt, (V : Int), 0⟩ rfl HT.out.1) rfl ⟨rfl, HT.out.2.1⟩
          · have HN := Lib.hid (num_ok HNT.out he (fun x => by have := x.1; omega))
            clear he
            have HT := Lib.hid (tok_new ⟨2, Vl.mt, (V : Int), 0⟩ w)
            clear HNT
            go_wp2_with fail
            rw [HN.out]
            exact bodyPost_ret (v := .tuple #[tokV ⟨2, Vl.mt, (V : Int), 0⟩, .int .i64 (k : Int), .int .i64 0]) (results_tok (p := 2) (u := 3) (x := 4) rfl _ _ w.heap.size ⟨2, Vl.mt, (V : Int), 0⟩ rfl HT.out.1) rfl ⟨rfl, HT.out.2.1⟩
end Go.Proofs.YtekahmlppaabjaaGreatDoor

/-
  strconv.Atoi: the library's contract at this program's own numbers: what spells an int, and what spells a number that no int holds.
-/
namespace Go.Proofs
open Go.Shelf
def Tryz.ato_ren : Go.Shelf.Ren := ⟨fun | 129 => 101 | 171 => 52 | 172 => 57 | 205 => 99 | 243 => 75 | 244 => 78 | 245 => 79 | 246 => 84 | 247 => 86 | 279 => 87 | 280 => 88 | 281 => 89 | 282 => 90 | 283 => 92 | 284 => 93 | 285 => 94 | 286 => 95 | 287 => 97 | 316 => 98 | 317 => 100 | 318 => 102 | 319 => 103 | 320 => 104 | 321 => 105 | 322 => 106 | 337 => 107 | 338 => 108 | n => n, fun | 0 => 0 | 2 => 2 | 3 => 3 | 4 => 4 | 5 => 5 | 9 => 9 | 20 => 20 | 21 => 21 | 37 => 101 | 46 => 140 | 51 => 137 | 53 => 132 | 75 => 97 | 76 => 98 | 80 => 78 | 85 => 124 | 127 => 120 | 143 => 151 | 145 => 153 | 167 => 123 | 168 => 126 | 171 => 131 | 173 => 135 | 175 => 138 | 210 => 142 | 212 => 146 | 213 => 147 | 232 => 155 | 233 => 156 | n => n, fun | 15 => 1 | 16 => 2 | 17 => 3 | 18 => 4 | 19 => 5 | n => n⟩
theorem Tryz.ato172 : Go.Proofs.LaysC.n172 Tryz.prog Tryz.ato_ren := {
  mixed := by kernel_rfl
  f129 := Tryz.func101.trans (congrArg some (by kernel_rfl))
  f171 := Tryz.func52.trans (congrArg some (by kernel_rfl))
  f172 := Tryz.func57.trans (congrArg some (by kernel_rfl))
  f205 := Tryz.func99.trans (congrArg some (by kernel_rfl))
  f243 := Tryz.func75.trans (congrArg some (by kernel_rfl))
  f244 := Tryz.func78.trans (congrArg some (by kernel_rfl))
  f245 := Tryz.func79.trans (congrArg some (by kernel_rfl))
  f246 := Tryz.func84.trans (congrArg some (by kernel_rfl))
  f247 := Tryz.func86.trans (congrArg some (by kernel_rfl))
  f279 := Tryz.func87.trans (congrArg some (by kernel_rfl))
  f280 := Tryz.func88.trans (congrArg some (by kernel_rfl))
  f281 := Tryz.func89.trans (congrArg some (by kernel_rfl))
  f282 := Tryz.func90.trans (congrArg some (by kernel_rfl))
  f283 := Tryz.func92.trans (congrArg some (by kernel_rfl))
  f284 := Tryz.func93.trans (congrArg some (by kernel_rfl))
  f285 := Tryz.func94.trans (congrArg some (by kernel_rfl))
  f286 := Tryz.func95.trans (congrArg some (by kernel_rfl))
  f287 := Tryz.func97.trans (congrArg some (by kernel_rfl))
  f316 := Tryz.func98.trans (congrArg some (by kernel_rfl))
  f317 := Tryz.func100.trans (congrArg some (by kernel_rfl))
  f318 := Tryz.func102.trans (congrArg some (by kernel_rfl))
  f319 := Tryz.func103.trans (congrArg some (by kernel_rfl))
  f320 := Tryz.func104.trans (congrArg some (by kernel_rfl))
  f321 := Tryz.func105.trans (congrArg some (by kernel_rfl))
  f322 := Tryz.func106.trans (congrArg some (by kernel_rfl))
  f337 := Tryz.func107.trans (congrArg some (by kernel_rfl))
  f338 := Tryz.func108.trans (congrArg some (by kernel_rfl))
  t0 := Tryz.underlying0
  a0 := Tryz.isAgg0
  z0 := Tryz.sizeOf0
  v0 := Tryz.zeroValue0
  t2 := Tryz.underlying2
  a2 := Tryz.isAgg2
  z2 := Tryz.sizeOf2
  v2 := Tryz.zeroValue2
  t3 := Tryz.underlying3
  a3 := Tryz.isAgg3
  z3 := Tryz.sizeOf3
  v3 := Tryz.zeroValue3
  t4 := Tryz.underlying4
  a4 := Tryz.isAgg4
  z4 := Tryz.sizeOf4
  v4 := Tryz.zeroValue4
  t5 := Tryz.underlying5
  a5 := Tryz.isAgg5
  z5 := Tryz.sizeOf5
  v5 := Tryz.zeroValue5
  t9 := Tryz.underlying9
  a9 := Tryz.isAgg9
  z9 := Tryz.sizeOf9
  v9 := Tryz.zeroValue9
  t20 := Tryz.underlying20
  a20 := Tryz.isAgg20
  z20 := Tryz.sizeOf20
  v20 := Tryz.zeroValue20
  t21 := Tryz.underlying21
  a21 := Tryz.isAgg21
  z21 := Tryz.sizeOf21
  v21 := Tryz.zeroValue21
  t37 := Tryz.underlying101
  a37 := Tryz.isAgg101
  z37 := Tryz.sizeOf101
  v37 := Tryz.zeroValue101
  t46 := Tryz.underlying140
  a46 := Tryz.isAgg140
  z46 := Tryz.sizeOf140
  v46 := Tryz.zeroValue140
  t51 := Tryz.underlying137
  a51 := Tryz.isAgg137
  z51 := Tryz.sizeOf137
  v51 := Tryz.zeroValue137
  t53 := Tryz.underlying132
  a53 := Tryz.isAgg132
  z53 := Tryz.sizeOf132
  v53 := Tryz.zeroValue132
  t75 := Tryz.underlying97
  a75 := Tryz.isAgg97
  z75 := Tryz.sizeOf97
  v75 := Tryz.zeroValue97
  t76 := Tryz.underlying98
  a76 := Tryz.isAgg98
  z76 := Tryz.sizeOf98
  v76 := Tryz.zeroValue98
  t85 := Tryz.underlying124
  a85 := Tryz.isAgg124
  z85 := Tryz.sizeOf124
  v85 := Tryz.zeroValue124
  t127 := Tryz.underlying120
  a127 := Tryz.isAgg120
  z127 := Tryz.sizeOf120
  v127 := Tryz.zeroValue120
  t143 := Tryz.underlying151
  a143 := Tryz.isAgg151
  z143 := Tryz.sizeOf151
  v143 := Tryz.zeroValue151
  t145 := Tryz.underlying153
  a145 := Tryz.isAgg153
  z145 := Tryz.sizeOf153
  v145 := Tryz.zeroValue153
  t167 := Tryz.underlying123
  a167 := Tryz.isAgg123
  z167 := Tryz.sizeOf123
  v167 := Tryz.zeroValue123
  t168 := Tryz.underlying126
  a168 := Tryz.isAgg126
  z168 := Tryz.sizeOf126
  v168 := Tryz.zeroValue126
  t171 := Tryz.underlying131
  a171 := Tryz.isAgg131
  z171 := Tryz.sizeOf131
  v171 := Tryz.zeroValue131
  t173 := Tryz.underlying135
  a173 := Tryz.isAgg135
  z173 := Tryz.sizeOf135
  v173 := Tryz.zeroValue135
  t175 := Tryz.underlying138
  a175 := Tryz.isAgg138
  z175 := Tryz.sizeOf138
  v175 := Tryz.zeroValue138
  t210 := Tryz.underlying142
  a210 := Tryz.isAgg142
  z210 := Tryz.sizeOf142
  v210 := Tryz.zeroValue142
  t212 := Tryz.underlying146
  a212 := Tryz.isAgg146
  z212 := Tryz.sizeOf146
  v212 := Tryz.zeroValue146
  t213 := Tryz.underlying147
  a213 := Tryz.isAgg147
  z213 := Tryz.sizeOf147
  t232 := Tryz.underlying155
  a232 := Tryz.isAgg155
  z232 := Tryz.sizeOf155
  v232 := Tryz.zeroValue155
  t233 := Tryz.underlying156
  a233 := Tryz.isAgg156
  z233 := Tryz.sizeOf156
  v233 := Tryz.zeroValue156
  g15 := by kernel_rfl
  g16 := by kernel_rfl
  g17 := by kernel_rfl
  g18 := by kernel_rfl
  g19 := by kernel_rfl
  t80 := Tryz.underlying78
  a80 := Tryz.isAgg78
  z80 := Tryz.sizeOf78
  v80 := Tryz.zeroValue78
  i0 := by kernel_rfl
  i2 := by kernel_rfl
  i3 := by kernel_rfl
  i4 := by kernel_rfl
  i5 := by kernel_rfl
  i9 := by kernel_rfl
  i20 := by kernel_rfl
  i21 := by kernel_rfl
  i37 := by kernel_rfl
  i46 := by kernel_rfl
  i51 := by kernel_rfl
  i53 := by kernel_rfl
  i75 := by kernel_rfl
  i76 := by kernel_rfl
  i80 := by kernel_rfl
  i85 := by kernel_rfl
  i127 := by kernel_rfl
  i143 := by kernel_rfl
  i145 := by kernel_rfl
  i167 := by kernel_rfl
  i168 := by kernel_rfl
  i171 := by kernel_rfl
  i173 := by kernel_rfl
  i175 := by kernel_rfl
  i210 := by kernel_rfl
  i212 := by kernel_rfl
  i232 := by kernel_rfl
  i233 := by kernel_rfl
  m15 := by kernel_rfl
  m16 := by kernel_rfl
  m17 := by kernel_rfl
  m18 := by kernel_rfl
  m19 := by kernel_rfl
  c0 := by kernel_rfl
  c2 := by kernel_rfl
  c3 := by kernel_rfl
  c4 := by kernel_rfl
  c5 := by kernel_rfl
  c9 := by kernel_rfl
  c20 := by kernel_rfl
  c21 := by kernel_rfl
  c37 := by kernel_rfl
  c46 := by kernel_rfl
  c51 := by kernel_rfl
  c53 := by kernel_rfl
  c75 := by kernel_rfl
  c76 := by kernel_rfl
  c80 := by kernel_rfl
  c85 := by kernel_rfl
  c127 := by kernel_rfl
  c143 := by kernel_rfl
  c145 := by kernel_rfl
  c167 := by kernel_rfl
  c168 := by kernel_rfl
  c171 := by kernel_rfl
  c173 := by kernel_rfl
  c175 := by kernel_rfl
  c210 := by kernel_rfl
  c212 := by kernel_rfl
  c213 := by kernel_rfl
  c232 := by kernel_rfl
  c233 := by kernel_rfl }
namespace YtekahmlppaabjaaGreatDoor
open Go.RowKit
/-- the variable strconv.ErrRange holds an error -/
def ErrR (w : World) : Prop := ∃ te pe, w.cell? ⟨2, 0, none⟩ = some (.iface te pe)
theorem errR_below {w w' : World} (h : ErrR w) (hb : Below w.heap.size w w') : ErrR w' := by
  obtain ⟨te, pe, h⟩ := h
  exact ⟨te, pe, (hb.cell (p := ⟨2, 0, none⟩) (World.block_lt_of_cell? _ _ h)).trans h⟩
theorem atoi_ok (s : ByteArray) (hs : s.size ≤ 281474976710656) (v : Int) (h : Lib.atoiAll s.data.toList = .ok v) (w : World) :
    Calls Tryz.prog 57 #[.string s] w fun e w' => e = .returned (.tuple #[.int .i64 v, .nilIface]) ∧ Below w.heap.size w w' :=
  (Any.strconv_Atoi_ok Tryz.ato172 s (by omega) v h w).mono fun e w' ⟨he, hw⟩ => ⟨he, by
    rcases hw with rfl | ⟨t, rfl⟩
    · exact Below.refl _ _
    · exact Lib.bytesWorld_below _ _ _⟩
theorem atoi_range (s : ByteArray) (hs : s.size ≤ 281474976710656) (h : Lib.atoiAll s.data.toList = .range) (w : World) (hE : ErrR w) :
    Calls Tryz.prog 57 #[.string s] w fun e w' => ∃ N, e = .returned (.tuple #[.int .i64 (Lib.atoiSat s.data.toList), .iface 126 (.pointer (some ⟨N, 0, none⟩))]) ∧ Below w.heap.size w w' := by
  obtain ⟨te, pe, hv⟩ := hE
  exact (Any.strconv_Atoi_range Tryz.ato172 s hs h (.iface te pe) w hv (.inr ⟨te, pe, rfl⟩)).mono fun e w' ⟨N, he, _, _, hb⟩ => ⟨N, he, hb⟩
end YtekahmlppaabjaaGreatDoor
end Go.Proofs

/-
  Layer 13, the program's: numbers.
-/
namespace Go.Proofs.YtekahmlppaabjaaGreatDoor
open Go.RowKit
theorem digs_take (l : List UInt8) : l.take (Lx.digs l).length = Lx.digs l := Lx.takeWhile_take l
theorem digs_all (l : List UInt8) : ∀ b ∈ Lx.digs l, Lx.digit b = true := Lx.takeWhile_all l
theorem digs_cons {s : ByteArray} (h0 : 0 < s.size) (hD : Lx.digit s[0] = true) : Lx.digs s.data.toList ≠ [] := by
  have hl : 0 < s.data.toList.length := by simpa using h0
  have e := Oct.drop_at s.data.toList 0 hl
  rw [List.drop_zero] at e
  rw [e, digs_cons_yes _ (show Lx.digit s.data.toList[0] = true from hD)]
  simp
set_option maxRecDepth 100000 in
set_option maxHeartbeats 1600000 in
theorem number13_any (s : ByteArray) (w : World) (hs : s.size ≤ 1000000) (h0 : 0 < s.size) (hD : Lx.digit s[0] = true) (hE : ErrR w) :
    Calls Tryz.prog 29 #[.string s] w fun e w' => e = .returned (.tuple #[tokV (Lx.numT s.data.toList).1, .int .i64 ((Lx.numT s.data.toList).2.1 : Nat), .int .i64 (Lx.numT s.data.toList).2.2]) ∧ Below w.heap.size w w' := by
  have cR := fun w => run13_digit s w (by unfold maxLen; omega)
  have hle := Lx.takeWhile_le (p := Lx.digit) s.data.toList
  rw [Array.length_toList] at hle
  have hle2 : (Lx.digs s.data.toList).length ≤ s.size := hle
  have hx := take_list s (Lx.digs s.data.toList).length
  rw [digs_take] at hx
  have hne := digs_cons h0 hD
  have hpos : 0 < (Lx.digs s.data.toList).length := List.length_pos_iff.2 hne
  have hat := Lx.atoi_digits _ hne (digs_all _)
  have hsat : Lib.atoiSat (Lx.digs s.data.toList) = 9223372036854775807 := by
    cases hd : Lx.digs s.data.toList with
    | nil => exact absurd hd hne
    | cons c r =>
      have := (Lx.digit_iff c).1 (digs_all s.data.toList c (by rw [hd]; simp))
      exact Lib.atoiSat_other c r (by omega)
  have hh : s.data.toList.head? = some s[0] := head_at0 s h0
  have hN : Lx.numT s.data.toList = if 1 < (Lx.digs s.data.toList).length ∧ s.data.toList.head? = some 48 then (Lx.no, 0, 11) else if Lx.maxI < Vl.val (Lx.digs s.data.toList) 0 then (Lx.no, 0, 15) else (⟨2, Vl.mt, (Vl.val (Lx.digs s.data.toList) 0 : Nat), 0⟩, (Lx.digs s.data.toList).length, 0) := rfl
  rw [hh] at hN
  obtain ⟨r0, b0, s0⟩ := tok_new Lx.no w
  have aO := fun v (h : Lib.atoiAll (Lx.digs s.data.toList) = .ok v) wx => atoi_ok (Lx.mk (Lx.digs s.data.toList)) (by rw [← hx, ByteArray.size_extract]; omega) v h wx
  have aR := fun (h : Lib.atoiAll (Lx.digs s.data.toList) = .range) wx hw => atoi_range (Lx.mk (Lx.digs s.data.toList)) (by rw [← hx, ByteArray.size_extract]; omega) h wx hw
  rw [← hx] at aO aR
  have hsat2 : Lib.atoiSat (s.extract 0 (Lx.digs s.data.toList).length).data.toList = 9223372036854775807 := by rw [hx]; exact hsat
  rw [hsat2] at aR
  obtain ⟨V, hV⟩ : ∃ V, V = Vl.val (Lx.digs s.data.toList) 0 := ⟨_, rfl⟩
  rw [← hV] at hat hN
  by_cases hz : 1 < (Lx.digs s.data.toList).length ∧ s[0] = 48
  · rw [if_pos ⟨hz.1, by rw [hz.2]⟩] at hN
    have t1 : ((s[0].toNat : Int) == 48) = true := by rw [hz.2]; rfl
    have t2 : decide (((Lx.digs s.data.toList).length : Int) > 1) = true := decide_eq_true (by omega)
    have hz1 : 1 < (Lx.digs s.data.toList).length := hz.1
    generalize (Lx.digs s.data.toList).length = k at *
    have H := Lib.hid (And.intro cR (And.intro hN (And.intro r0 (And.intro b0 s0))))
    clear cR hN r0 b0 s0 hat hsat hsat2 hh aO aR hx hne hle hle2 hD hz hE hV
    go_enter Tryz.func29, Tryz.ntmps29
    go_wp2_with (go_at_call 55; refine (H.out.1 _).mono ?_; rintro e w1 ⟨rfl, rfl⟩)
    rw [H.out.2.1]
    exact bodyPost_ret (v := .tuple #[tokV Lx.no, .int .i64 0, .int .i64 11]) (results_tok (p := 2) (u := 3) (x := 4) rfl _ _ w.heap.size Lx.no rfl H.out.2.2.1) rfl ⟨rfl, H.out.2.2.2.1⟩
  · rw [if_neg (by rintro ⟨a, b⟩; exact hz ⟨a, by injection b⟩)] at hN
    have hE1 := errR_below hE b0
    have hT : decide (((Lx.digs s.data.toList).length : Int) > 1) = false ∨ (decide (((Lx.digs s.data.toList).length : Int) > 1) = true ∧ ((s[0].toNat : Int) == 48) = false) := by
      by_cases h1 : 1 < (Lx.digs s.data.toList).length
      · refine .inr ⟨decide_eq_true (by omega), ?_⟩
        have : ¬ s[0].toNat = 48 := fun e => hz ⟨h1, UInt8.toNat_inj.1 e⟩
        simp; omega
      · exact .inl (decide_eq_false (by omega))
    by_cases hv : Lx.maxI < V
    · rw [if_pos hv] at hat hN
      have aR := fun wx hw => aR hat wx hw
      generalize (Lx.digs s.data.toList).length = k at *
      have H := Lib.hid (And.intro cR (And.intro hN (And.intro r0 (And.intro b0 s0))))
      have HA := Lib.hid (And.intro aR hE1)
      clear cR hN r0 b0 s0 hat hsat hsat2 hh aO aR hx hne hle hD hz hE hE1 hV hv
      rcases hT with hT | ⟨hT, hT'⟩
      · go_enter Tryz.func29, Tryz.ntmps29
        go_wp2_with (first | (go_at_call 55; refine (H.out.1 _).mono ?_; rintro e w1 ⟨rfl, rfl⟩))
        refine (HA.out.1 _ HA.out.2).mono ?_
        rintro e w2 ⟨N, rfl, hb2⟩
        have ra := rowV_below H.out.2.2.1 hb2 (by rw [World.size_alloc]; omega)
        have hb := H.out.2.2.2.1.trans (hb2.mono (by rw [World.size_alloc]; omega))
        obtain ⟨a0, a1, a2, a3, g0, g1, g2, g3⟩ := tok_cells ra
        have L := Lib.hid (And.intro ra hb)
        clear ra hb hb2
        go_wp2_with fail
        rw [H.out.2.1]
        exact bodyPost_ret (v := .tuple #[tokV ⟨0, Vl.mt, 0, 0⟩, .int .i64 0, .int .i64 15]) (results_tok (p := 2) (u := 3) (x := 4) rfl _ _ w.heap.size ⟨0, Vl.mt, 0, 0⟩ rfl (tok_put (v := Lx.no) L.out.1 0 Vl.mt 0 0).1) rfl ⟨rfl, L.out.2.trans ((tok_put (v := Lx.no) L.out.1 0 Vl.mt 0 0).2 _ (Nat.le_refl _))⟩
      · go_enter Tryz.func29, Tryz.ntmps29
        go_wp2_with (first | (go_at_call 55; refine (H.out.1 _).mono ?_; rintro e w1 ⟨rfl, rfl⟩))
        refine (HA.out.1 _ HA.out.2).mono ?_
        rintro e w2 ⟨N, rfl, hb2⟩
        have ra := rowV_below H.out.2.2.1 hb2 (by rw [World.size_alloc]; omega)
        have hb := H.out.2.2.2.1.trans (hb2.mono (by rw [World.size_alloc]; omega))
        obtain ⟨a0, a1, a2, a3, g0, g1, g2, g3⟩ := tok_cells ra
        have L := Lib.hid (And.intro ra hb)
        clear ra hb hb2
        go_wp2_with fail
        rw [H.out.2.1]
        exact bodyPost_ret (v := .tuple #[tokV ⟨0, Vl.mt, 0, 0⟩, .int .i64 0, .int .i64 15]) (results_tok (p := 2) (u := 3) (x := 4) rfl _ _ w.heap.size ⟨0, Vl.mt, 0, 0⟩ rfl (tok_put (v := Lx.no) L.out.1 0 Vl.mt 0 0).1) rfl ⟨rfl, L.out.2.trans ((tok_put (v := Lx.no) L.out.1 0 Vl.mt 0 0).2 _ (Nat.le_refl _))⟩
    · rw [if_neg hv] at hat hN
      have aO := fun wx => aO _ hat wx
      generalize (Lx.digs s.data.toList).length = k at *
      have H := Lib.hid (And.intro cR (And.intro hN (And.intro r0 (And.intro b0 s0))))
      have HA := Lib.hid aO
      have hvm : V ≤ 9223372036854775807 := by unfold Lx.maxI at hv; omega
      clear cR hN r0 b0 s0 hat hsat hsat2 hh aO aR hx hne hle hD hz hE hE1 hV hv
      rcases hT with hT | ⟨hT, hT'⟩
      · go_enter Tryz.func29, Tryz.ntmps29
        go_wp2_with (first | (go_at_call 55; refine (H.out.1 _).mono ?_; rintro e w1 ⟨rfl, rfl⟩))
        refine (HA.out _).mono ?_
        rintro e w2 ⟨rfl, hb2⟩
        have ra := rowV_below H.out.2.2.1 hb2 (by rw [World.size_alloc]; omega)
        have hb := H.out.2.2.2.1.trans (hb2.mono (by rw [World.size_alloc]; omega))
        obtain ⟨a0, a1, a2, a3, g0, g1, g2, g3⟩ := tok_cells ra
        have L := Lib.hid (And.intro ra hb)
        clear ra hb hb2
        go_wp2_with fail
        rw [H.out.2.1]
        exact bodyPost_ret (v := .tuple #[tokV ⟨2, Vl.mt, (V : Int), 0⟩, .int .i64 (k : Int), .int .i64 0]) (results_tok (p := 2) (u := 3) (x := 4) rfl _ _ w.heap.size ⟨2, Vl.mt, (V : Int), 0⟩ rfl (tok_put (v := Lx.no) L.out.1 2 Vl.mt (V : Int) 0).1) rfl ⟨rfl, L.out.2.trans ((tok_put (v := Lx.no) L.out.1 2 Vl.mt (V : Int) 0).2 _ (Nat.le_refl _))⟩
      · go_enter Tryz.func29, Tryz.ntmps29
        go_wp2_with (first | (go_at_call 55; refine (H.out.1 _).mono ?_; rintro e w1 ⟨rfl, rfl⟩))
        refine (HA.out _).mono ?_
        rintro e w2 ⟨rfl, hb2⟩
        have ra := rowV_below H.out.2.2.1 hb2 (by rw [World.size_alloc]; omega)
        have hb := H.out.2.2.2.1.trans (hb2.mono (by rw [World.size_alloc]; omega))
        obtain ⟨a0, a1, a2, a3, g0, g1, g2, g3⟩ := tok_cells ra
        have L := Lib.hid (And.intro ra hb)
        clear ra hb hb2
        go_wp2_with fail
        rw [H.out.2.1]
        exact bodyPost_ret (v := .tuple #[tokV ⟨2, Vl.mt, (V : Int), 0⟩, .int .i64 (k : Int), .int .i64 0]) (results_tok (p := 2) (u := 3) (x := 4) rfl _ _ w.heap.size ⟨2, Vl.mt, (V : Int), 0⟩ rfl (tok_put (v := Lx.no) L.out.1 2 Vl.mt (V : Int) 0).1) rfl ⟨rfl, L.out.2.trans ((tok_put (v := Lx.no) L.out.1 2 Vl.mt (V : Int) 0).2 _ (Nat.le_refl _))⟩
end Go.Proofs.YtekahmlppaabjaaGreatDoor

/-
  Layer 13: the document's first token of a text: texts.
-/
namespace Go.Proofs.YtekahmlppaabjaaGreatDoor
open Go.RowKit
/-- what is told ahead of place i -/
structure TxtTo (s : ByteArray) (i : Nat) (acc : List UInt8) : Prop where
  eq : Lx.txt s.data.toList.tail [] = Lx.txt (s.data.toList.drop i) acc
  one : 1 ≤ i
  len : acc.length ≤ i
theorem txtTo_start (s : ByteArray) : TxtTo s 1 [] := ⟨by rw [List.drop_one], Nat.le_refl _, Nat.zero_le _⟩
theorem txtTo_quote {s : ByteArray} {i : Nat} {acc : List UInt8} (h : TxtTo s i acc) (hi : i < s.size) (hc : s[i] = 34) : Lx.txtT s.data.toList = if 40 < acc.length then (Lx.no, 0, 5) else (⟨3, Lx.mk acc, 0, 0⟩, i + 1, 0) := by
  have e : Lx.txt s.data.toList.tail [] = some (acc, s.data.toList.drop (i + 1)) := by rw [h.eq, drop_next s i hi, hc, Lx.txt_end]
  have hl : s.data.toList.length = s.size := by rw [Array.length_toList]; rfl
  unfold Lx.txtT
  rw [e]
  simp only [List.length_drop, hl]
  rw [show s.size - (s.size - (i + 1)) = i + 1 by omega]
theorem txt_none {s : ByteArray} (h : Lx.txt s.data.toList.tail [] = none) : Lx.txtT s.data.toList = (Lx.no, 0, 11) := by unfold Lx.txtT; rw [h]
theorem txtTo_end {s : ByteArray} {i : Nat} {acc : List UInt8} (h : TxtTo s i acc) (hi : ¬ i < s.size) : Lx.txtT s.data.toList = (Lx.no, 0, 11) := by
  refine txt_none ?_
  rw [h.eq, List.drop_eq_nil_of_le (by rw [Array.length_toList]; show s.size ≤ i; omega)]; rfl
theorem txtTo_slash0 {s : ByteArray} {i : Nat} {acc : List UInt8} (h : TxtTo s i acc) (hi : i < s.size) (hc : s[i] = 92) (he : i + 1 = s.size) : Lx.txtT s.data.toList = (Lx.no, 0, 11) := by
  refine txt_none ?_
  rw [h.eq, drop_next s i hi, hc, List.drop_eq_nil_of_le (by rw [Array.length_toList]; show s.size ≤ i + 1; omega), Lx.txt_slash0]
theorem txtTo_slash_bad {s : ByteArray} {i : Nat} {acc : List UInt8} (h : TxtTo s i acc) (hi : i < s.size) (hc : s[i] = 92) (he : i + 1 < s.size) (hd : ¬ (s[i + 1] = 34 ∨ s[i + 1] = 92)) : Lx.txtT s.data.toList = (Lx.no, 0, 11) := by
  refine txt_none ?_
  rw [h.eq, drop_next s i hi, hc, drop_next s (i + 1) he, Lx.txt_slash, if_neg hd]
theorem txtTo_slash {s : ByteArray} {i : Nat} {acc : List UInt8} (h : TxtTo s i acc) (hi : i < s.size) (hc : s[i] = 92) (he : i + 1 < s.size) (hd : s[i + 1] = 34 ∨ s[i + 1] = 92) : TxtTo s (i + 1 + 1) (acc ++ [s[i + 1]]) := by
  refine ⟨?_, by omega, by rw [List.length_append]; have := h.len; show _ + 1 ≤ _; omega⟩
  rw [h.eq, drop_next s i hi, hc, drop_next s (i + 1) he, Lx.txt_slash, if_pos hd]
theorem txtTo_bad {s : ByteArray} {i : Nat} {acc : List UInt8} (h : TxtTo s i acc) (hi : i < s.size) (h1 : ¬ s[i] = 34) (h2 : ¬ s[i] = 92) (hb : s[i].toNat < 32 ∨ 126 < s[i].toNat) : Lx.txtT s.data.toList = (Lx.no, 0, 11) := by
  refine txt_none ?_
  rw [h.eq, drop_next s i hi, Lx.txt_plain _ _ h1 h2, if_pos hb]
theorem txtTo_plain {s : ByteArray} {i : Nat} {acc : List UInt8} (h : TxtTo s i acc) (hi : i < s.size) (h1 : ¬ s[i] = 34) (h2 : ¬ s[i] = 92) (hb : ¬ (s[i].toNat < 32 ∨ 126 < s[i].toNat)) : TxtTo s (i + 1) (acc ++ [s[i]]) := by
  refine ⟨?_, by omega, by rw [List.length_append]; have := h.len; show _ + 1 ≤ _; omega⟩
  rw [h.eq, drop_next s i hi, Lx.txt_plain _ _ h1 h2, if_neg hb]
theorem mk_app (acc : List UInt8) (s : ByteArray) (i : Nat) (hi : i < s.size) : Lx.mk acc ++ s.extract i (i + 1) = Lx.mk (acc ++ [s[i]]) := by
  have hl : i < s.data.toList.length := by simpa using hi
  apply Sl.ba_ext
  rw [ByteArray.data_append, Array.toList_append, Sl.ext_list, show i + 1 - i = 1 by omega, Oct.drop_at _ _ hl]
  rfl
theorem mk_size (acc : List UInt8) : (Lx.mk acc).size = acc.length := by show acc.toArray.size = _; rw [List.size_toArray]
set_option maxRecDepth 100000 in
set_option maxHeartbeats 3200000 in
theorem rtext13_any (s : ByteArray) (w : World) (hs : s.size ≤ 1000000) :
    Calls Tryz.prog 43 #[.string s] w fun e w' => e = .returned (.tuple #[tokV (Lx.txtT s.data.toList).1, .int .i64 ((Lx.txtT s.data.toList).2.1 : Nat), .int .i64 (Lx.txtT s.data.toList).2.2]) ∧ Below w.heap.size w w' := by
  go_enter Tryz.func43, Tryz.ntmps43
  go_wp2
  go_loop [5, 6, 7] (fun t i _ => ∃ (k : Nat) (acc : List UInt8) (A : ByteArray), t = .string A ∧ i = .int .i64 (k : Int) ∧ k ≤ s.size + 1 ∧ A.size ≤ k ∧ Hid (A = Lx.mk acc ∧ TxtTo s k acc)) (fun _ i _ => s.size + 1 - (intOf i).toNat)
  case atStart => exact ⟨1, [], _, rfl, rfl, by omega, by decide, Lib.hid ⟨rfl, txtTo_start s⟩⟩
  case round =>
    obtain ⟨k, acc, A, rfl, rfl, hle, hA, HI⟩ := hrel
    have hAl : A.size = acc.length := by rw [HI.out.1]; exact mk_size acc
    by_cases hlt : k < s.size
    · obtain ⟨c, hcc⟩ : ∃ c, c = s[k] := ⟨_, rfl⟩
      have c256 := c.toNat_lt
      have hxs : (s.extract k (k + 1)).size = 1 := by rw [ByteArray.size_extract]; omega
      by_cases h34 : s[k] = 34
      · have hres := txtTo_quote HI.out.2 hlt h34
        have t1 : ((s[k].toNat : Int) == 34) = true := by rw [h34]; rfl
        by_cases h40 : (A.size : Int) > 40
        · have HN := Lib.hid (hres.trans (if_pos (by omega)))
          have HT := Lib.hid (tok_new Lx.no w)
          clear hres h34 hcc
          go_wp2_with fail
          rw [HN.out]
          exact bodyPost_ret (v := .tuple #[tokV Lx.no, .int .i64 0, .int .i64 5]) (results_tok (p := 2) (u := 3) (x := 4) rfl _ _ w.heap.size Lx.no rfl HT.out.1) rfl ⟨rfl, HT.out.2.1⟩
        · have HN := Lib.hid (hres.trans (if_neg (by omega)))
          rw [← HI.out.1] at HN
          have HT := Lib.hid (tok_new ⟨3, A, 0, 0⟩ w)
          clear hres h34 hcc
          go_wp2_with fail
          rw [HN.out]
          exact bodyPost_ret (v := .tuple #[tokV ⟨3, A, 0, 0⟩, .int .i64 ((k : Int) + 1), .int .i64 0]) (results_tok (p := 2) (u := 3) (x := 4) rfl _ _ w.heap.size ⟨3, A, 0, 0⟩ rfl HT.out.1) rfl ⟨by push_cast; rfl, HT.out.2.1⟩
      · have t1 : ((s[k].toNat : Int) == 34) = false := by
          have : ¬ s[k].toNat = 34 := fun e => h34 (UInt8.toNat_inj.1 e)
          simp; omega
        by_cases h92 : s[k] = 92
        · have t2 : ((s[k].toNat : Int) == 92) = true := by rw [h92]; rfl
          by_cases he : k + 1 = s.size
          · have HN := Lib.hid (txtTo_slash0 HI.out.2 hlt h92 he)
            have HT := Lib.hid (tok_new Lx.no w)
            have t3 : (((k : Int) + 1) == (s.size : Int)) = true := by simp; omega
            clear h34 h92 hcc he
            go_wp2_with fail
            rw [HN.out]
            exact bodyPost_ret (v := .tuple #[tokV Lx.no, .int .i64 0, .int .i64 11]) (results_tok (p := 2) (u := 3) (x := 4) rfl _ _ w.heap.size Lx.no rfl HT.out.1) rfl ⟨rfl, HT.out.2.1⟩
          · have he2 : k + 1 < s.size := by omega
            have t3 : (((k : Int) + 1) == (s.size : Int)) = false := by simp; omega
            have hx2 : (s.extract (k + 1) (k + 1 + 1)).size = 1 := by rw [ByteArray.size_extract]; omega
            have hmk := mk_app acc s (k + 1) he2
            by_cases hd : s[k + 1] = 34 ∨ s[k + 1] = 92
            · have hst := txtTo_slash HI.out.2 hlt h92 he2 hd
              have HN := Lib.hid (And.intro (show A ++ s.extract (k + 1) (k + 1 + 1) = Lx.mk (acc ++ [s[k + 1]]) by rw [HI.out.1]; exact hmk) hst)
              have t4 : ((s[k + 1].toNat : Int) != 34) = false ∨ (((s[k + 1].toNat : Int) != 34) = true ∧ ((s[k + 1].toNat : Int) != 92) = false) := by
                rcases hd with hd | hd
                · exact .inl (by rw [hd]; rfl)
                · exact .inr ⟨by rw [hd]; rfl, by rw [hd]; rfl⟩
              have t5 : ¬ (s[k + 1].toNat : Int) < 32 := by rcases hd with hd | hd <;> rw [hd] <;> decide
              have t6 : ¬ (s[k + 1].toNat : Int) > 126 := by rcases hd with hd | hd <;> rw [hd] <;> decide
              clear h34 h92 hcc hmk hst hd he
              rcases t4 with t4 | ⟨t4, t4'⟩
              · go_wp2_with fail
                go_round
                case rel => exact ⟨k + 1 + 1, _, _, rfl, by go_num, by omega, by rw [ByteArray.size_append]; omega, HN⟩
                case measure => simp [intOf]; omega
              · go_wp2_with fail
                go_round
                case rel => exact ⟨k + 1 + 1, _, _, rfl, by go_num, by omega, by rw [ByteArray.size_append]; omega, HN⟩
                case measure => simp [intOf]; omega
            · have HN := Lib.hid (txtTo_slash_bad HI.out.2 hlt h92 he2 hd)
              have HT := Lib.hid (tok_new Lx.no w)
              have t4 : ((s[k + 1].toNat : Int) != 34) = true := by
                have : ¬ s[k + 1].toNat = 34 := fun e => hd (.inl (UInt8.toNat_inj.1 e))
                simp; omega
              have t5 : ((s[k + 1].toNat : Int) != 92) = true := by
                have : ¬ s[k + 1].toNat = 92 := fun e => hd (.inr (UInt8.toNat_inj.1 e))
                simp; omega
              clear h34 h92 hcc hmk hd he
              go_wp2_with fail
              rw [HN.out]
              exact bodyPost_ret (v := .tuple #[tokV Lx.no, .int .i64 0, .int .i64 11]) (results_tok (p := 2) (u := 3) (x := 4) rfl _ _ w.heap.size Lx.no rfl HT.out.1) rfl ⟨rfl, HT.out.2.1⟩
        · have t2 : ((s[k].toNat : Int) == 92) = false := by
            have : ¬ s[k].toNat = 92 := fun e => h92 (UInt8.toNat_inj.1 e)
            simp; omega
          by_cases hb : s[k].toNat < 32 ∨ 126 < s[k].toNat
          · have HN := Lib.hid (txtTo_bad HI.out.2 hlt h34 h92 hb)
            have HT := Lib.hid (tok_new Lx.no w)
            have t3 : decide ((s[k].toNat : Int) < 32) = true ∨ (decide ((s[k].toNat : Int) < 32) = false ∧ decide (126 < (s[k].toNat : Int)) = true) := by
              by_cases h : s[k].toNat < 32
              · exact .inl (decide_eq_true (by omega))
              · exact .inr ⟨decide_eq_false (by omega), decide_eq_true (by omega)⟩
            clear h34 h92 hcc hb
            rcases t3 with t3 | ⟨t3, t3'⟩
            · go_wp2_with fail
              rw [HN.out]
              exact bodyPost_ret (v := .tuple #[tokV Lx.no, .int .i64 0, .int .i64 11]) (results_tok (p := 2) (u := 3) (x := 4) rfl _ _ w.heap.size Lx.no rfl HT.out.1) rfl ⟨rfl, HT.out.2.1⟩
            · go_wp2_with fail
              rw [HN.out]
              exact bodyPost_ret (v := .tuple #[tokV Lx.no, .int .i64 0, .int .i64 11]) (results_tok (p := 2) (u := 3) (x := 4) rfl _ _ w.heap.size Lx.no rfl HT.out.1) rfl ⟨rfl, HT.out.2.1⟩
          · have hst := txtTo_plain HI.out.2 hlt h34 h92 hb
            have HN := Lib.hid (And.intro (show A ++ s.extract k (k + 1) = Lx.mk (acc ++ [s[k]]) by rw [HI.out.1]; exact mk_app acc s k hlt) hst)
            have t3 : ¬ (s[k].toNat : Int) < 32 := by omega
            have t4 : ¬ (s[k].toNat : Int) > 126 := by omega
            clear h34 h92 hcc hst hb
            go_wp2_with fail
            go_round
            case rel => exact ⟨k + 1, _, _, rfl, by go_num, by omega, by rw [ByteArray.size_append]; omega, HN⟩
            case measure => simp [intOf]; omega
    · have HN := Lib.hid (txtTo_end HI.out.2 hlt)
      have HT := Lib.hid (tok_new Lx.no w)
      go_wp2_with fail
      rw [HN.out]
      exact bodyPost_ret (v := .tuple #[tokV Lx.no, .int .i64 0, .int .i64 11]) (results_tok (p := 2) (u := 3) (x := 4) rfl _ _ w.heap.size Lx.no rfl HT.out.1) rfl ⟨rfl, HT.out.2.1⟩
end Go.Proofs.YtekahmlppaabjaaGreatDoor

/-
  strings.Builder: WriteByte and WriteRune (of ASCII) too, over a builder that String() may have read: the library's contracts at this program's own numbers.
-/
namespace Go.Proofs
open Go.Shelf
def Tryz.blf_ren : Go.Shelf.Ren := ⟨fun | 167 => 60 | 168 => 76 | 169 => 59 | 240 => 80 | 242 => 85 | 276 => 91 | 278 => 96 | n => n, fun | 0 => 0 | 3 => 3 | 4 => 4 | 5 => 5 | 9 => 9 | 20 => 20 | 21 => 21 | 37 => 101 | 46 => 140 | 51 => 137 | 70 => 100 | 72 => 103 | 75 => 97 | 80 => 78 | 127 => 120 | 164 => 129 | n => n, fun | n => n⟩
theorem Tryz.blf167 : Go.Proofs.Lays.n167 Tryz.prog Tryz.blf_ren := {
  mixed := by kernel_rfl
  f167 := Tryz.func60.trans (congrArg some (by kernel_rfl))
  f240 := Tryz.func80.trans (congrArg some (by kernel_rfl))
  f276 := Tryz.func91.trans (congrArg some (by kernel_rfl))
  t0 := Tryz.underlying0
  a0 := Tryz.isAgg0
  z0 := Tryz.sizeOf0
  v0 := Tryz.zeroValue0
  t4 := Tryz.underlying4
  a4 := Tryz.isAgg4
  z4 := Tryz.sizeOf4
  v4 := Tryz.zeroValue4
  t5 := Tryz.underlying5
  a5 := Tryz.isAgg5
  z5 := Tryz.sizeOf5
  v5 := Tryz.zeroValue5
  t9 := Tryz.underlying9
  a9 := Tryz.isAgg9
  z9 := Tryz.sizeOf9
  v9 := Tryz.zeroValue9
  t20 := Tryz.underlying20
  a20 := Tryz.isAgg20
  z20 := Tryz.sizeOf20
  v20 := Tryz.zeroValue20
  t37 := Tryz.underlying101
  a37 := Tryz.isAgg101
  z37 := Tryz.sizeOf101
  v37 := Tryz.zeroValue101
  t70 := Tryz.underlying100
  a70 := Tryz.isAgg100
  z70 := Tryz.sizeOf100
  v70 := Tryz.zeroValue100
  t72 := Tryz.underlying103
  a72 := Tryz.isAgg103
  z72 := Tryz.sizeOf103
  v72 := Tryz.zeroValue103
  t75 := Tryz.underlying97
  a75 := Tryz.isAgg97
  z75 := Tryz.sizeOf97
  v75 := Tryz.zeroValue97
  t164 := Tryz.underlying129
  a164 := Tryz.isAgg129
  z164 := Tryz.sizeOf129
  v164 := Tryz.zeroValue129 }
theorem Tryz.blf168 : Go.Proofs.Lays.n168 Tryz.prog Tryz.blf_ren := {
  mixed := by kernel_rfl
  f168 := Tryz.func76.trans (congrArg some (by kernel_rfl))
  f240 := Tryz.func80.trans (congrArg some (by kernel_rfl))
  f242 := Tryz.func85.trans (congrArg some (by kernel_rfl))
  f276 := Tryz.func91.trans (congrArg some (by kernel_rfl))
  f278 := Tryz.func96.trans (congrArg some (by kernel_rfl))
  t0 := Tryz.underlying0
  a0 := Tryz.isAgg0
  z0 := Tryz.sizeOf0
  v0 := Tryz.zeroValue0
  t3 := Tryz.underlying3
  a3 := Tryz.isAgg3
  z3 := Tryz.sizeOf3
  v3 := Tryz.zeroValue3
  t4 := Tryz.underlying4
  a4 := Tryz.isAgg4
  z4 := Tryz.sizeOf4
  v4 := Tryz.zeroValue4
  t5 := Tryz.underlying5
  a5 := Tryz.isAgg5
  z5 := Tryz.sizeOf5
  v5 := Tryz.zeroValue5
  t9 := Tryz.underlying9
  a9 := Tryz.isAgg9
  z9 := Tryz.sizeOf9
  v9 := Tryz.zeroValue9
  t20 := Tryz.underlying20
  a20 := Tryz.isAgg20
  z20 := Tryz.sizeOf20
  v20 := Tryz.zeroValue20
  t21 := Tryz.underlying21
  a21 := Tryz.isAgg21
  z21 := Tryz.sizeOf21
  v21 := Tryz.zeroValue21
  t37 := Tryz.underlying101
  a37 := Tryz.isAgg101
  z37 := Tryz.sizeOf101
  v37 := Tryz.zeroValue101
  t46 := Tryz.underlying140
  a46 := Tryz.isAgg140
  z46 := Tryz.sizeOf140
  v46 := Tryz.zeroValue140
  t51 := Tryz.underlying137
  a51 := Tryz.isAgg137
  z51 := Tryz.sizeOf137
  v51 := Tryz.zeroValue137
  t70 := Tryz.underlying100
  a70 := Tryz.isAgg100
  z70 := Tryz.sizeOf100
  v70 := Tryz.zeroValue100
  t72 := Tryz.underlying103
  a72 := Tryz.isAgg103
  z72 := Tryz.sizeOf103
  v72 := Tryz.zeroValue103
  t75 := Tryz.underlying97
  a75 := Tryz.isAgg97
  z75 := Tryz.sizeOf97
  v75 := Tryz.zeroValue97
  t164 := Tryz.underlying129
  a164 := Tryz.isAgg129
  z164 := Tryz.sizeOf129
  v164 := Tryz.zeroValue129 }
theorem Tryz.blf169 : Go.Proofs.Lays.n169 Tryz.prog Tryz.blf_ren := {
  mixed := by kernel_rfl
  f169 := Tryz.func59.trans (congrArg some (by kernel_rfl))
  t0 := Tryz.underlying0
  a0 := Tryz.isAgg0
  z0 := Tryz.sizeOf0
  v0 := Tryz.zeroValue0
  t3 := Tryz.underlying3
  a3 := Tryz.isAgg3
  z3 := Tryz.sizeOf3
  v3 := Tryz.zeroValue3
  t9 := Tryz.underlying9
  a9 := Tryz.isAgg9
  z9 := Tryz.sizeOf9
  v9 := Tryz.zeroValue9
  t37 := Tryz.underlying101
  a37 := Tryz.isAgg101
  z37 := Tryz.sizeOf101
  v37 := Tryz.zeroValue101
  t70 := Tryz.underlying100
  a70 := Tryz.isAgg100
  z70 := Tryz.sizeOf100
  v70 := Tryz.zeroValue100
  t72 := Tryz.underlying103
  a72 := Tryz.isAgg103
  z72 := Tryz.sizeOf103
  v72 := Tryz.zeroValue103
  t127 := Tryz.underlying120
  a127 := Tryz.isAgg120
  z127 := Tryz.sizeOf120
  v127 := Tryz.zeroValue120 }
theorem Tryz.blfExtra : Builder.Extra Tryz.prog Tryz.blf_ren := {
  sizeBuilder := by kernel_rfl
  liesBuilder := by kernel_rfl
  t5 := Tryz.underlying5
  a5 := Tryz.isAgg5
  z5 := Tryz.sizeOf5
  v5 := Tryz.zeroValue5
  infoByte := by kernel_rfl
  cellsByte := by kernel_rfl
  sizeByte := by kernel_rfl
  neB5 := by decide }
namespace YtekahmlppaabjaaGreatDoor
open Go.RowKit
/-- a builder that holds the bytes l -/
def BldF (w : World) (B b : Nat) (l : List UInt8) : Prop := Lib.IsBuilderF 103 5 B b (Lib.byteCells l) w
/-- what a call to a builder leaves: its own blocks, and those of bytes above it, alone -/
abbrev KeptF (b : Nat) (w w' : World) : Prop := Lib.OthersKept 5 (some b) w w'
theorem bldf_byte (B b : Nat) (l : List UInt8) (c : UInt8) (w : World) (h : BldF w B b l) (hlen : l.length + 1 ≤ 140737488355328) (hBw : B ≤ w.heap.size) :
    Calls Tryz.prog 60 #[.pointer (some ⟨b, 0, none⟩), .int .u8 (c.toNat : Int)] w fun e w' => e = .returned .nilIface ∧ BldF w' B b (l ++ [c]) ∧ Below B w w' ∧ KeptF b w w' :=
  (Any.Builder_WriteByte_k Tryz.blf167 Tryz.blfExtra B b (Lib.byteCells l) (c.toNat : Int) w h (by rw [Lib.byteCells_length]; exact hlen) hBw).mono fun _ _ ⟨h1, h2, h3, h4⟩ =>
    ⟨h1, .inr (by rw [Lib.byteCells_append]; exact h2), h3, h4⟩
theorem bldf_rune (B b : Nat) (l : List UInt8) (c : UInt8) (hc : c.toNat < 128) (w : World) (h : BldF w B b l) (hlen : l.length + 4 ≤ 140737488355328) (hBw : B ≤ w.heap.size) :
    Calls Tryz.prog 76 #[.pointer (some ⟨b, 0, none⟩), .int .i32 (c.toNat : Int)] w fun e w' => e = .returned (.tuple #[.int .i64 1, .nilIface]) ∧ BldF w' B b (l ++ [c]) ∧ Below B w w' ∧ KeptF b w w' :=
  (Any.Builder_WriteRune_k Tryz.blf168 Tryz.blfExtra B b (Lib.byteCells l) (c.toNat : Int) (by omega) (by omega) w h (by rw [Lib.byteCells_length]; exact hlen) hBw).mono fun _ _ ⟨h1, h2, h3, h4⟩ => by
    have e : Lib.runeCells (c.toNat : Int) = [.int .u8 (c.toNat : Int)] := by unfold Lib.runeCells; rw [Lib.encodeRuneZ_one (by omega) (by omega)]; rfl
    rw [e] at h1 h2
    exact ⟨h1, .inr (by rw [Lib.byteCells_append]; exact h2), h3, h4⟩
theorem bldf_string (B b : Nat) (l : List UInt8) (w : World) (h : BldF w B b l) (hBw : B ≤ w.heap.size) :
    Calls Tryz.prog 59 #[.pointer (some ⟨b, 0, none⟩)] w fun e w' => e = .returned (.string ⟨l.toArray⟩) ∧ Below B w w' :=
  (Any.Builder_String_any_k Tryz.blf169 Tryz.blfExtra B b l w h hBw).mono fun _ _ ⟨h1, _, h3, _⟩ => ⟨h1, h3⟩
theorem bldf_fresh (w : World) : BldF (w.alloc (.cells #[.pointer none, .slice none 0 0] 103)) w.heap.size w.heap.size [] := Lib.IsBuilderF.of (Lib.fresh_isBuilder _ _ w)
theorem bldf_at_below {T e B b : Nat} {p : Value} {bs : List Value} {w w' : World} (h : Lib.BuilderAtF T e B b p bs w) (hb : Below w.heap.size w w') : Lib.BuilderAtF T e B b p bs w' := by
  have hlt := h.lt
  obtain ⟨h1, v, h2, h3, h4⟩ := h
  refine ⟨h1, v, by rw [hb.block b hlt]; exact h2, h3.kept (row := none) ⟨hb.os, hb.tape, hb.output, hb.size, fun k hk _ => hb.block k hk⟩ ?_, h4⟩
  cases v.ownBlock with
  | none => exact .inl rfl
  | some k => exact .inr (by simp)
theorem bldf_below {B b : Nat} {l : List UInt8} {w w' : World} (h : BldF w B b l) (hb : Below w.heap.size w w') : BldF w' B b l := by
  rcases h with h | h
  · exact .inl (bldf_at_below h hb)
  · exact .inr (bldf_at_below h hb)
end YtekahmlppaabjaaGreatDoor
end Go.Proofs

/-
  strings.HasPrefix and (*strings.Builder).Len: the library's contracts at this program's own numbers.
-/
namespace Go.Proofs
open Go.Shelf
def Tryz.bln_ren : Go.Shelf.Ren := ⟨fun | 99 => 64 | 170 => 58 | 206 => 81 | n => n, fun | 0 => 0 | 3 => 3 | 4 => 4 | 5 => 5 | 9 => 9 | 37 => 101 | 70 => 100 | 72 => 103 | n => n, fun | n => n⟩
theorem Tryz.bln170 : Go.Proofs.Lays.n170 Tryz.prog Tryz.bln_ren := {
  mixed := by kernel_rfl
  f170 := Tryz.func58.trans (congrArg some (by kernel_rfl))
  t0 := Tryz.underlying0
  a0 := Tryz.isAgg0
  z0 := Tryz.sizeOf0
  v0 := Tryz.zeroValue0
  t3 := Tryz.underlying3
  a3 := Tryz.isAgg3
  z3 := Tryz.sizeOf3
  v3 := Tryz.zeroValue3
  t37 := Tryz.underlying101
  a37 := Tryz.isAgg101
  z37 := Tryz.sizeOf101
  v37 := Tryz.zeroValue101
  t70 := Tryz.underlying100
  a70 := Tryz.isAgg100
  z70 := Tryz.sizeOf100
  v70 := Tryz.zeroValue100
  t72 := Tryz.underlying103
  a72 := Tryz.isAgg103
  z72 := Tryz.sizeOf103
  v72 := Tryz.zeroValue103 }
theorem Tryz.bln99 : Go.Proofs.Lays.n99 Tryz.prog Tryz.bln_ren := {
  mixed := by kernel_rfl
  f99 := Tryz.func64.trans (congrArg some (by kernel_rfl))
  f206 := Tryz.func81.trans (congrArg some (by kernel_rfl))
  t3 := Tryz.underlying3
  a3 := Tryz.isAgg3
  z3 := Tryz.sizeOf3
  v3 := Tryz.zeroValue3
  t4 := Tryz.underlying4
  a4 := Tryz.isAgg4
  z4 := Tryz.sizeOf4
  v4 := Tryz.zeroValue4
  t9 := Tryz.underlying9
  a9 := Tryz.isAgg9
  z9 := Tryz.sizeOf9
  v9 := Tryz.zeroValue9 }
namespace YtekahmlppaabjaaGreatDoor
open Go.RowKit
theorem bldf_len (B b : Nat) (l : List UInt8) (w : World) (h : BldF w B b l) :
    Calls Tryz.prog 58 #[.pointer (some ⟨b, 0, none⟩)] w fun e w' => e = .returned (.int .i64 l.length) ∧ w' = w :=
  (Any.Builder_Len_f Tryz.bln170 B b (Lib.byteCells l) w h).mono fun _ _ ⟨h1, h2⟩ => ⟨by rw [h1, Lib.byteCells_length], h2⟩
theorem hasPre_any (s p : ByteArray) (w : World) :
    Calls Tryz.prog 64 #[.string s, .string p] w fun e w' => e = .returned (.bool (p.data.toList.isPrefixOf s.data.toList)) ∧ w' = w :=
  Any.strings_HasPrefix Tryz.bln99 s p w
end YtekahmlppaabjaaGreatDoor
end Go.Proofs

/-
  Layer 13, the program's: texts.
-/
namespace Go.Proofs.YtekahmlppaabjaaGreatDoor
open Go.RowKit
/-- the loop's world: the result's box, the builder -/
structure TxtAt (w : World) (acc : List UInt8) (wr : World) : Prop where
  box : RowV wr w.heap.size 45 (tokC Lx.no).toList
  bld : BldF wr (w.heap.size + 1) (w.heap.size + 1) acc
  bel : Below w.heap.size w wr
  siz : w.heap.size + 1 ≤ wr.heap.size
theorem txtAt_next {w wr w' : World} {acc acc' : List UInt8} (h : TxtAt w acc wr) (hb : BldF w' (w.heap.size + 1) (w.heap.size + 1) acc') (hk : Below (w.heap.size + 1) wr w') : TxtAt w acc' w' :=
  ⟨rowV_below h.box hk (Nat.lt_succ_self _), hb, h.bel.trans (hk.mono (Nat.le_succ _)), Nat.le_trans h.siz hk.size⟩
theorem txtAt_start (w : World) : TxtAt w [] ((w.alloc (.cells (tokC Lx.no) 45)).alloc (.cells #[.pointer none, .slice none 0 0] 103)) := by
  obtain ⟨r0, b0, s0⟩ := tok_new Lx.no w
  have hb := bldf_fresh (w.alloc (.cells (tokC Lx.no) 45))
  rw [s0] at hb
  exact ⟨rowV_alloc r0 _, hb, b0.alloc (by rw [s0]; omega) _, by rw [World.size_alloc, s0]; omega⟩
set_option maxRecDepth 100000 in
set_option maxHeartbeats 6400000 in
theorem text13_any (s : ByteArray) (w : World) (hs : s.size ≤ 1000000) :
    Calls Tryz.prog 30 #[.string s] w fun e w' => e = .returned (.tuple #[tokV (Lx.txtT s.data.toList).1, .int .i64 ((Lx.txtT s.data.toList).2.1 : Nat), .int .i64 (Lx.txtT s.data.toList).2.2]) ∧ Below w.heap.size w w' := by
  have HS := Lib.hid (txtAt_start w)
  go_enter Tryz.func30, Tryz.ntmps30
  go_wp2_with fail
  go_loopw [6] (fun i wr => ∃ (k : Nat) (acc : List UInt8), i = .int .i64 (k : Int) ∧ k ≤ s.size + 1 ∧ Hid (TxtTo s k acc) ∧ Hid (TxtAt w acc wr)) (fun i _ => s.size + 1 - (intOf i).toNat)
  case atStart => exact ⟨1, [], rfl, by omega, Lib.hid (txtTo_start s), HS⟩
  case round =>
    obtain ⟨k, acc, rfl, hle, HI, HT⟩ := hrel
    have hal := HI.out.len
    by_cases hlt : k < s.size
    · obtain ⟨c, hcc⟩ : ∃ c, c = s[k] := ⟨_, rfl⟩
      have c256 := c.toNat_lt
      by_cases h34 : s[k] = 34
      · have hres := txtTo_quote HI.out hlt h34
        have t1 : ((s[k].toNat : Int) == 34) = true := by rw [h34]; rfl
        have cL := bldf_len _ _ _ wr HT.out.bld
        by_cases h40 : 40 < acc.length
        · have HN := Lib.hid (hres.trans (if_pos h40))
          have HC := Lib.hid cL
          have t2 : decide ((acc.length : Int) > 40) = true := decide_eq_true (by omega)
          clear hres h34 hcc cL
          obtain ⟨a0, a1, a2, a3, g0, g1, g2, g3⟩ := tok_cells HT.out.box
          go_wp2_with fail
          refine HC.out.mono ?_
          rintro e w1 ⟨rfl, rfl⟩
          go_wp2_with fail
          rw [HN.out]
          exact bodyPost_ret (v := .tuple #[tokV ⟨0, Vl.mt, 0, 0⟩, .int .i64 0, .int .i64 5]) (results_tok (p := 2) (u := 3) (x := 4) rfl _ _ w.heap.size ⟨0, Vl.mt, 0, 0⟩ rfl (tok_put (v := Lx.no) HT.out.box 0 Vl.mt 0 0).1) rfl ⟨by push_cast; rfl, HT.out.bel.trans ((tok_put (v := Lx.no) HT.out.box 0 Vl.mt 0 0).2 _ (Nat.le_refl _))⟩
        · have HN := Lib.hid (hres.trans (if_neg h40))
          have HC := Lib.hid (And.intro cL (bldf_string _ _ acc wr HT.out.bld HT.out.siz))
          have t2 : decide ((acc.length : Int) > 40) = false := decide_eq_false (by omega)
          clear hres h34 hcc cL
          go_wp2_with fail
          refine HC.out.1.mono ?_
          rintro e w1 ⟨rfl, rfl⟩
          go_wp2_with fail
          refine HC.out.2.mono ?_
          rintro e w1 ⟨rfl, hb1⟩
          have hbox := rowV_below HT.out.box hb1 (Nat.lt_succ_self _)
          have hbel := HT.out.bel.trans (hb1.mono (Nat.le_succ _))
          obtain ⟨a0, a1, a2, a3, g0, g1, g2, g3⟩ := tok_cells hbox
          have HB := Lib.hid (And.intro hbox hbel)
          clear hb1 hbox hbel
          go_wp2_with fail
          rw [HN.out]
          exact bodyPost_ret (v := .tuple #[tokV ⟨3, Lx.mk acc, 0, 0⟩, .int .i64 ((k : Int) + 1), .int .i64 0]) (results_tok (p := 2) (u := 3) (x := 4) rfl _ _ w.heap.size ⟨3, Lx.mk acc, 0, 0⟩ rfl (tok_put (v := Lx.no) HB.out.1 3 (Lx.mk acc) 0 0).1) rfl ⟨by push_cast; rfl, HB.out.2.trans ((tok_put (v := Lx.no) HB.out.1 3 (Lx.mk acc) 0 0).2 _ (Nat.le_refl _))⟩
      · have t1 : ((s[k].toNat : Int) == 34) = false := by
          have : ¬ s[k].toNat = 34 := fun e => h34 (UInt8.toNat_inj.1 e)
          simp; omega
        by_cases hb : s[k].toNat < 32 ∨ 126 < s[k].toNat
        · have h92 : ¬ s[k] = 92 := fun e => by rw [e] at hb; revert hb; decide
          have HN := Lib.hid (txtTo_bad HI.out hlt h34 h92 hb)
          have t3 : decide ((s[k].toNat : Int) < 32) = true ∨ (decide ((s[k].toNat : Int) < 32) = false ∧ decide (126 < (s[k].toNat : Int)) = true) := by
            by_cases h : s[k].toNat < 32
            · exact .inl (decide_eq_true (by omega))
            · exact .inr ⟨decide_eq_false (by omega), decide_eq_true (by omega)⟩
          clear h34 h92 hcc hb
          rcases t3 with t3 | ⟨t3, t3'⟩
          · obtain ⟨a0, a1, a2, a3, g0, g1, g2, g3⟩ := tok_cells HT.out.box
            go_wp2_with fail
            rw [HN.out]
            exact bodyPost_ret (v := .tuple #[tokV ⟨0, Vl.mt, 0, 0⟩, .int .i64 0, .int .i64 11]) (results_tok (p := 2) (u := 3) (x := 4) rfl _ _ w.heap.size ⟨0, Vl.mt, 0, 0⟩ rfl (tok_put (v := Lx.no) HT.out.box 0 Vl.mt 0 0).1) rfl ⟨by push_cast; rfl, HT.out.bel.trans ((tok_put (v := Lx.no) HT.out.box 0 Vl.mt 0 0).2 _ (Nat.le_refl _))⟩
          · obtain ⟨a0, a1, a2, a3, g0, g1, g2, g3⟩ := tok_cells HT.out.box
            go_wp2_with fail
            rw [HN.out]
            exact bodyPost_ret (v := .tuple #[tokV ⟨0, Vl.mt, 0, 0⟩, .int .i64 0, .int .i64 11]) (results_tok (p := 2) (u := 3) (x := 4) rfl _ _ w.heap.size ⟨0, Vl.mt, 0, 0⟩ rfl (tok_put (v := Lx.no) HT.out.box 0 Vl.mt 0 0).1) rfl ⟨by push_cast; rfl, HT.out.bel.trans ((tok_put (v := Lx.no) HT.out.box 0 Vl.mt 0 0).2 _ (Nat.le_refl _))⟩
        · have t3 : decide ((s[k].toNat : Int) < 32) = false := decide_eq_false (by omega)
          have t4 : decide (126 < (s[k].toNat : Int)) = false := decide_eq_false (by omega)
          by_cases h92 : s[k] = 92
          · have t2 : ((s[k].toNat : Int) == 92) = true := by rw [h92]; rfl
            by_cases he : k + 1 = s.size
            · have HN := Lib.hid (txtTo_slash0 HI.out hlt h92 he)
              have t5 : (((k : Int) + 1) == (s.size : Int)) = true := by simp; omega
              clear h34 h92 hcc he hb
              obtain ⟨a0, a1, a2, a3, g0, g1, g2, g3⟩ := tok_cells HT.out.box
              go_wp2_with fail
              rw [HN.out]
              exact bodyPost_ret (v := .tuple #[tokV ⟨0, Vl.mt, 0, 0⟩, .int .i64 0, .int .i64 11]) (results_tok (p := 2) (u := 3) (x := 4) rfl _ _ w.heap.size ⟨0, Vl.mt, 0, 0⟩ rfl (tok_put (v := Lx.no) HT.out.box 0 Vl.mt 0 0).1) rfl ⟨by push_cast; rfl, HT.out.bel.trans ((tok_put (v := Lx.no) HT.out.box 0 Vl.mt 0 0).2 _ (Nat.le_refl _))⟩
            · have he2 : k + 1 < s.size := by omega
              have t5 : (((k : Int) + 1) == (s.size : Int)) = false := by simp; omega
              by_cases hd : s[k + 1] = 34 ∨ s[k + 1] = 92
              · have HN := Lib.hid (txtTo_slash HI.out hlt h92 he2 hd)
                have t6 : ((s[k + 1].toNat : Int) != 34) = false ∨ (((s[k + 1].toNat : Int) != 34) = true ∧ ((s[k + 1].toNat : Int) != 92) = false) := by
                  rcases hd with hd | hd
                  · exact .inl (by rw [hd]; rfl)
                  · exact .inr ⟨by rw [hd]; rfl, by rw [hd]; rfl⟩
                clear h34 h92 hcc hd he hb
                rcases t6 with t6 | ⟨t6, t6'⟩
                · go_wp2_with fail
                  refine (bldf_byte _ _ acc s[k + 1] wr HT.out.bld (by omega) HT.out.siz).mono ?_
                  rintro e w1 ⟨rfl, hb1, hb2, -⟩
                  have HT1 := Lib.hid (txtAt_next HT.out hb1 hb2)
                  clear hb1 hb2
                  go_wp2_with fail
                  go_roundw
                  case rel => exact ⟨k + 1 + 1, _, by go_num, by omega, HN, HT1⟩
                  case measure => simp [intOf]; omega
                · go_wp2_with fail
                  refine (bldf_byte _ _ acc s[k + 1] wr HT.out.bld (by omega) HT.out.siz).mono ?_
                  rintro e w1 ⟨rfl, hb1, hb2, -⟩
                  have HT1 := Lib.hid (txtAt_next HT.out hb1 hb2)
                  clear hb1 hb2
                  go_wp2_with fail
                  go_roundw
                  case rel => exact ⟨k + 1 + 1, _, by go_num, by omega, HN, HT1⟩
                  case measure => simp [intOf]; omega
              · have HN := Lib.hid (txtTo_slash_bad HI.out hlt h92 he2 hd)
                have t6 : ((s[k + 1].toNat : Int) != 34) = true := by
                  have : ¬ s[k + 1].toNat = 34 := fun e => hd (.inl (UInt8.toNat_inj.1 e))
                  simp; omega
                have t7 : ((s[k + 1].toNat : Int) != 92) = true := by
                  have : ¬ s[k + 1].toNat = 92 := fun e => hd (.inr (UInt8.toNat_inj.1 e))
                  simp; omega
                clear h34 h92 hcc hd he hb
                obtain ⟨a0, a1, a2, a3, g0, g1, g2, g3⟩ := tok_cells HT.out.box
                go_wp2_with fail
                rw [HN.out]
                exact bodyPost_ret (v := .tuple #[tokV ⟨0, Vl.mt, 0, 0⟩, .int .i64 0, .int .i64 11]) (results_tok (p := 2) (u := 3) (x := 4) rfl _ _ w.heap.size ⟨0, Vl.mt, 0, 0⟩ rfl (tok_put (v := Lx.no) HT.out.box 0 Vl.mt 0 0).1) rfl ⟨by push_cast; rfl, HT.out.bel.trans ((tok_put (v := Lx.no) HT.out.box 0 Vl.mt 0 0).2 _ (Nat.le_refl _))⟩
          · have t2 : ((s[k].toNat : Int) == 92) = false := by
              have : ¬ s[k].toNat = 92 := fun e => h92 (UInt8.toNat_inj.1 e)
              simp; omega
            have HN := Lib.hid (txtTo_plain HI.out hlt h34 h92 hb)
            clear h34 h92 hcc hb
            go_wp2_with fail
            refine (bldf_byte _ _ acc s[k] wr HT.out.bld (by omega) HT.out.siz).mono ?_
            rintro e w1 ⟨rfl, hb1, hb2, -⟩
            have HT1 := Lib.hid (txtAt_next HT.out hb1 hb2)
            clear hb1 hb2
            go_wp2_with fail
            go_roundw
            case rel => exact ⟨k + 1, _, by go_num, by omega, HN, HT1⟩
            case measure => simp [intOf]; omega
    · have HN := Lib.hid (txtTo_end HI.out hlt)
      obtain ⟨a0, a1, a2, a3, g0, g1, g2, g3⟩ := tok_cells HT.out.box
      go_wp2_with fail
      rw [HN.out]
      exact bodyPost_ret (v := .tuple #[tokV ⟨0, Vl.mt, 0, 0⟩, .int .i64 0, .int .i64 11]) (results_tok (p := 2) (u := 3) (x := 4) rfl _ _ w.heap.size ⟨0, Vl.mt, 0, 0⟩ rfl (tok_put (v := Lx.no) HT.out.box 0 Vl.mt 0 0).1) rfl ⟨by push_cast; rfl, HT.out.bel.trans ((tok_put (v := Lx.no) HT.out.box 0 Vl.mt 0 0).2 _ (Nat.le_refl _))⟩
end Go.Proofs.YtekahmlppaabjaaGreatDoor

/-
  A region that draws its order, whose operations but the last ones (these in one forced order) read, or call what makes memory of its own and always hands back the same: one walk, in the order of the text. What the kit has for one world ('wp_region_still_tail') and for a class of worlds without a tail ('wp_region_quiet'), put together.
-/
namespace Go.Proofs.YtekahmlppaabjaaGreatDoor
open Go.RowKit

section
variable {P : Program} {ops : Array Oper} {md : Region.Mode} {C : World → Prop}
/-- whatever order is picked among the first n -/
def HeadQ (P : Program) (md : Region.Mode) (ops : Array Oper) (C : World → Prop) (n : Nat) (L : Array Bool → Act → Prop) : Nat → Array Bool → Act → Prop
  | 0, listed, a => L listed a
  | f + 1, listed, a => Region.ready md ops listed ≠ [] ∧ ∀ i ∈ Region.ready md ops listed, i < n ∧ qOp P ops C i (HeadQ P md ops C n L f (listed.setIfInBounds i true)) a
theorem headQ_any {n g : Nat} {L : Array Bool → Act → Prop} {Q : Exit → Act → World → Prop} (hL : ∀ listed a, L listed a → ∀ w, C w → wpAny P md ops Q g listed a w) :
    ∀ (f : Nat) (listed : Array Bool) (a : Act), HeadQ P md ops C n L f listed a → ∀ w, C w → wpAny P md ops Q (f + g) listed a w := by
  intro f
  induction f with
  | zero => intro listed a h w hw; rw [Nat.zero_add]; exact hL _ _ h w hw
  | succ f ih =>
    intro listed a h w hw
    rw [show f + 1 + g = (f + g) + 1 by omega]
    exact ⟨fun h0 => absurd h0 h.1, fun i hi => wpOp_of_qOp hw (fun a' w' hw' k => ih _ a' k w' hw') (h.2 i hi).2⟩
theorem headQ_first {n i : Nat} {oi : Oper} {v : Value} {L : Array Bool → Act → Prop} (hi : ops[i]? = some oi) (hsel : ∀ (j : Nat) (o : Oper) cs b, ops[j]? = some o → o.op ≠ .select cs b)
    (hs : Region.sinkB md ops n = true) (hc : Region.chainB md ops n = true) (hn : n < ops.size) (hin : i < n) (hdone : ∀ listed a, L listed a → ∀ j ∈ Region.ready md ops listed, n ≤ j) :
    ∀ (f : Nat) (listed : Array Bool) (a : Act), HeadInv md ops n listed →
      (∀ j oj, ops[j]? = some oj → j ≠ i → listed.getD j true = false → (∀ e ∈ oj.after, Region.binds md e = true → e.on ≠ i) → oi.apart ops oj = true) →
      i ∈ Region.ready md ops listed → YieldsIn P ops C oi v a → HeadQ P md ops C n L f (listed.setIfInBounds i true) (a.put oi.dst v) → HeadQ P md ops C n L (f + 1) listed a := by
  intro f
  induction f with
  | zero =>
    intro listed a inv _ hr hy H
    have hun := (mem_ready.1 hr).1
    refine ⟨fun h => (by rw [h] at hr; cases hr), fun j hj => ?_⟩
    have hjn : j < n := Nat.lt_of_not_le fun h => absurd hj (tail_waits hs hc hn inv _ i rfl hin hun j h)
    refine ⟨hjn, ?_⟩
    by_cases hji : j = i
    · subst hji; exact hy.qOp hi H
    · have := hdone _ _ H j (ready_mono hj hji)
      omega
  | succ f ih =>
    intro listed a inv hfree hr hy H
    have hun := (mem_ready.1 hr).1
    refine ⟨fun h => (by rw [h] at hr; cases hr), fun j hj => ?_⟩
    have hjn : j < n := Nat.lt_of_not_le fun h => absurd hj (tail_waits hs hc hn inv _ i rfl hin hun j h)
    refine ⟨hjn, ?_⟩
    by_cases hji : j = i
    · subst hji; exact hy.qOp hi H
    · have h1 := (H.2 j (ready_mono hj hji)).2
      obtain ⟨hjun, oj, hoj, hall⟩ := mem_ready.1 hj
      have hnot : ∀ e ∈ oj.after, Region.binds md e = true → e.on ≠ i := fun e he hb heq => by
        have h2 := hall e he hb
        rw [heq, getD_both hun] at h2
        cases h2
      have h2 := qOp_put hoj (hfree j oj hoj hji hjun hnot) (fun cs b => hsel i oi cs b hi) (fun cs b => hsel j oj cs b hoj) hy h1
      refine qOp_mono (fun a' h3 => ih (listed.setIfInBounds j true) a' (inv.set hj hjn) (fun k ok hk hki hunk hno => hfree k ok hk hki ?_ hno) (ready_mono hr (Ne.symm hji)) h3.1 ?_) h2
      · by_cases hjk : j = k
        · subst hjk; exact hjun
        · rw [getD_set_ne true hjk] at hunk; exact hunk
      · rw [Array.setIfInBounds_comm _ _ hji]
        exact h3.2
theorem headQ_lex {n g : Nat} {Lq : Act → Prop} (hsel : Region.noSelect ops = true) (hs : Region.sinkB md ops n = true) (hc : Region.chainB md ops n = true) (hn : n < ops.size) :
    ∀ (l : List Oper) (k : Nat) (listed : Array Bool) (a : Act), (∀ j, j < l.length → l[j]? = ops[k + j]?) → k + l.length = n → HeadInv md ops n listed →
    Region.lexHead md ops g l.length k listed = true → wpQuiet P ops C Lq l a → HeadQ P md ops C n (fun listed' a' => Region.seqB md ops g n listed' = true ∧ Lq a') l.length listed a := by
  intro l
  induction l with
  | nil =>
    intro k listed a _ hk _ hB h
    obtain rfl : k = n := by simpa using hk
    exact ⟨by simpa [Region.lexHead] using hB, h⟩
  | cons o l ih =>
    intro k listed a hl hk inv hB h
    have h0 : ops[k]? = some o := by simpa using (hl 0 (by simp)).symm
    simp only [List.length_cons, Region.lexHead, Bool.and_eq_true] at hB
    obtain ⟨⟨hr, hf⟩, hB'⟩ := hB
    have hkn : k < n := by simp only [List.length_cons] at hk; omega
    have hr' : k ∈ Region.ready md ops listed := by simpa using hr
    have hst : qOp P ops C k (wpQuiet P ops C Lq l) a := by unfold qOp; simp only [h0]; exact h
    obtain ⟨v, hy, hK⟩ := yieldsIn_of_qOp h0 hst
    exact headQ_first h0 (Region.noSelect_spec hsel) hs hc hn hkn (fun listed' a' hL => seqB_ready hL.1) l.length listed a inv (Region.free_spec h0 hf) hr' hy
      (ih (k + 1) _ _ (fun j hj => by have := hl (j + 1) (by simp; omega); simpa [Nat.add_assoc, Nat.add_comm 1 j] using this) (by simp only [List.length_cons] at hk; omega) (inv.set hr' hkn) hB' hK)
/-- the law -/
theorem wp_region_quiet_tail {id : Nat} {Q : Exit → Act → World → Prop} {a : Act} {w : World} {l : List Oper} (n : Nat) (hm : P.follows .mixedOrders = true) (hB : Region.lexTailB .any l.toArray n = true) (hC : C w.drew)
    (h : wpQuiet P l.toArray C (fun a' => ∀ w', C w' → wpList P l.toArray Q (l.drop n) a' w') (l.take n) a) : (Code.region id l.toArray true).wp P Q a w := by
  simp only [Region.lexTailB, Bool.and_eq_true, decide_eq_true_eq] at hB
  obtain ⟨⟨⟨⟨hsel, hn⟩, hs⟩, hc⟩, hlex⟩ := hB
  have hn' : n < l.length := by simpa using hn
  have htl : (l.take n).length = n := by simp; omega
  have hdl : (l.drop n).length = l.toArray.size - n := by simp
  have inv0 : HeadInv .any l.toArray n (Array.replicate l.toArray.size false) :=
    ⟨by simp, fun j oj _ hl => (by rw [getD_replicate_false] at hl; cases hl), fun t _ ht => getD_in (by simpa using ht) (getD_replicate_false _ _)⟩
  have H := headQ_lex (md := .any) (g := l.toArray.size - n) hsel hs hc hn (l.take n) 0 _ a (fun j hj => by
    have hj' : j < n := by rw [htl] at hj; exact hj
    simp [hj']) (by simpa using htl) inv0 (by rw [htl]; exact hlex) h
  refine wp_region_any hm ?_
  have := headQ_any (Q := Q) (g := l.toArray.size - n) (fun listed a' hL w' hw' => by
    have := wpAny_of_seq (md := .any) (Q' := Q) (l.drop n) n listed a' w' (fun j => by simp [List.getElem?_drop]) (by rw [hdl]; exact hL.1) (hL.2 w' hw')
    rwa [hdl] at this) _ _ _ H w.drew hC
  rw [htl, show n + (l.toArray.size - n) = l.toArray.size by omega] at this
  exact this
/-- a load of an array or a struct, in whatever class of worlds -/
theorem wpQuiet_load_rows {Q : Act → Prop} {op : Oper} {rest : List Oper} {a : Act} (hgd : op.guard = none) (ty : TypeId) (x : Operand) (ho : op.op = .load ty x)
    (b o : Nat) (hx : a.eval x = .pointer (some ⟨b, o, none⟩)) (cs : Array Value) (hc : ∀ w, C w → (loadVar ty ⟨b, o, none⟩).run P w = .ok (.agg cs) w)
    (h : wpQuiet P ops C Q rest (a.put op.dst (.agg cs))) : wpQuiet P ops C Q (op :: rest) a := by
  refine wpQuiet_step fun K hK => ?_
  have hw : Region.wanted op (yielded ops a.tmps) = true := by simp [Region.wanted, hgd]
  rw [if_pos hw]
  refine ⟨.agg cs, ?_, hK _ h⟩
  intro w' hw'
  unfold Oper.quietAt execOp
  simp only [ho, hx, Instr.loadAt, Instr.sureAddr, Sem.run_bind, Sem.run_pure, Result.andThen_ok, hc w' hw']
  exact ⟨rfl, rfl⟩
/-- a call by its contract, in whatever class of worlds -/
theorem wpQuiet_call {Q : Act → Prop} {op : Oper} {rest : List Oper} {a : Act} (hgd : op.guard = none) (f : FuncId) (args : Array Value) (v : Value) (hrun : ∀ w, C w → (execOp a.eval op).run P w = .ok (.enter f args) w)
    (hc : ∀ w, C w → Calls P f args w fun e w' => e = .returned v ∧ C w') (h : wpQuiet P ops C Q rest (a.put op.dst v)) : wpQuiet P ops C Q (op :: rest) a := by
  refine wpQuiet_step fun K hK => ?_
  have hw : Region.wanted op (yielded ops a.tmps) = true := by simp [Region.wanted, hgd]
  rw [if_pos hw]
  refine ⟨v, ?_, hK _ h⟩
  intro w' hw'
  unfold Oper.quietAt
  rw [hrun w' hw']
  exact ⟨rfl, hc w' hw'⟩
/-- any operation that only reads -/
theorem wpQuiet_value {Q : Act → Prop} {op : Oper} {rest : List Oper} {a : Act} (hgd : op.guard = none) (v : Value) (hrun : ∀ w, C w → (execOp a.eval op).run P w = .ok (.value v) w)
    (h : wpQuiet P ops C Q rest (a.put op.dst v)) : wpQuiet P ops C Q (op :: rest) a := by
  refine wpQuiet_step fun K hK => ?_
  have hw : Region.wanted op (yielded ops a.tmps) = true := by simp [Region.wanted, hgd]
  rw [if_pos hw]
  refine ⟨v, ?_, hK _ h⟩
  intro w' hw'
  unfold Oper.quietAt
  rw [hrun w' hw']
  exact ⟨rfl, rfl⟩
/-- one step that only reads; its value is found by the walk -/
theorem wpQuiet_read {Q : Act → Prop} {op : Oper} {rest : List Oper} {a : Act} (h : ∃ v, (Region.wanted op (yielded ops a.tmps) = true ∧ ∀ w, C w → (execOp a.eval op).run P w = .ok (.value v) w) ∧ wpQuiet P ops C Q rest (a.put op.dst v)) : wpQuiet P ops C Q (op :: rest) a := by
  obtain ⟨v, ⟨h1, h2⟩, h3⟩ := h
  refine wpQuiet_step fun K hK => ?_
  rw [if_pos h1]
  refine ⟨v, ?_, hK _ h3⟩
  intro w' hw'
  unfold Oper.quietAt
  rw [h2 w' hw']
  exact ⟨rfl, rfl⟩
end
end Go.Proofs.YtekahmlppaabjaaGreatDoor

/-
  A call, guarded or not, in a drawn region that is walked in the order of its text (used with go_big_quiet_want).
-/
namespace Go.Proofs.YtekahmlppaabjaaGreatDoor
open Go.RowKit
theorem quietAt_call {P : Program} {op : Oper} {a : Act} {C : World → Prop} {w : World} {v : Value} (f : FuncId) (args : Array Value) (hrun : (execOp a.eval op).run P w = .ok (.enter f args) w)
    (h : Calls P f args w fun e w' => e = .returned v ∧ C w') : op.quietAt P a C w v := by
  unfold Oper.quietAt
  rw [hrun]
  exact ⟨rfl, h⟩
end Go.Proofs.YtekahmlppaabjaaGreatDoor

/-
  A region that draws its order: first operations that only read (under a condition S on the world), then some that write and keep S, then last ones that need not keep it; the second and third in one forced order. One walk, in the order of the text.
-/
namespace Go.Proofs.YtekahmlppaabjaaGreatDoor
open Go.RowKit

section
variable {P : Program} {ops : Array Oper} {md : Region.Mode} {S : World → Prop} {Q : Exit → Act → World → Prop}
/-- operations that only read, one by one -/
def wpYield (P : Program) (ops : Array Oper) (S : World → Prop) (R : Act → Prop) : List Oper → Act → Prop
  | [], a => R a
  | o :: rest, a => ∃ v, YieldsIf P ops S o v a ∧ wpYield P ops S R rest (a.put o.dst v)
/-- operations that keep S, one by one -/
def wpKeep (P : Program) (ops : Array Oper) (S : World → Prop) (Q : Exit → Act → World → Prop) (R : Act → World → Prop) (i : Nat) : Nat → Act → World → Prop
  | 0, a, w => R a w
  | f + 1, a, w => wpOp P ops Q i (fun a' w' => S w' ∧ wpKeep P ops S Q R (i + 1) f a' w') a w
/-- whatever order is picked among the first n, S kept -/
def HeadH (P : Program) (md : Region.Mode) (ops : Array Oper) (S : World → Prop) (Q : Exit → Act → World → Prop) (n : Nat) (L : Array Bool → Act → World → Prop) : Nat → Array Bool → Act → World → Prop
  | 0, listed, a, w => L listed a w
  | f + 1, listed, a, w => Region.ready md ops listed ≠ [] ∧ ∀ i ∈ Region.ready md ops listed, i < n ∧ wpOp P ops Q i (fun a' w' => S w' ∧ HeadH P md ops S Q n L f (listed.setIfInBounds i true) a' w') a w
theorem headH_any {n g : Nat} {L : Array Bool → Act → World → Prop} (hL : ∀ listed a w, L listed a w → wpAny P md ops Q g listed a w) :
    ∀ (f : Nat) (listed : Array Bool) (a : Act) (w : World), HeadH P md ops S Q n L f listed a w → wpAny P md ops Q (f + g) listed a w := by
  intro f
  induction f with
  | zero => intro listed a w h; rw [Nat.zero_add]; exact hL _ _ _ h
  | succ f ih =>
    intro listed a w h
    rw [show f + 1 + g = (f + g) + 1 by omega]
    exact ⟨fun h0 => absurd h0 h.1, fun i hi => wpOp_mono (fun a' w' k => ih _ a' w' k.2) (h.2 i hi).2⟩
theorem headH_first {n i : Nat} {oi : Oper} {v : Value} {L : Array Bool → Act → World → Prop} (hi : ops[i]? = some oi) (hsel : ∀ (j : Nat) (o : Oper) cs b, ops[j]? = some o → o.op ≠ .select cs b)
    (hQ : ∀ c a w, Q (.panic c) (a.put oi.dst v) w → Q (.panic c) a w)
    (hs : Region.sinkB md ops n = true) (hc : Region.chainB md ops n = true) (hn : n < ops.size) (hin : i < n) (hdone : ∀ listed a w, L listed a w → ∀ j ∈ Region.ready md ops listed, n ≤ j) :
    ∀ (f : Nat) (listed : Array Bool) (a : Act) (w : World), HeadInv md ops n listed →
      (∀ j oj, ops[j]? = some oj → j ≠ i → listed.getD j true = false → (∀ e ∈ oj.after, Region.binds md e = true → e.on ≠ i) → oi.apart ops oj = true) →
      i ∈ Region.ready md ops listed → YieldsIf P ops S oi v a → S w → HeadH P md ops S Q n L f (listed.setIfInBounds i true) (a.put oi.dst v) w → HeadH P md ops S Q n L (f + 1) listed a w := by
  intro f
  induction f with
  | zero =>
    intro listed a w inv _ hr hy hS H
    have hun := (mem_ready.1 hr).1
    refine ⟨fun h => (by rw [h] at hr; cases hr), fun j hj => ?_⟩
    have hjn : j < n := Nat.lt_of_not_le fun h => absurd hj (tail_waits hs hc hn inv _ i rfl hin hun j h)
    refine ⟨hjn, ?_⟩
    by_cases hji : j = i
    · subst hji; exact hy.wpOp hi hS ⟨hS, H⟩
    · have := hdone _ _ _ H j (ready_mono hj hji)
      omega
  | succ f ih =>
    intro listed a w inv hfree hr hy hS H
    have hun := (mem_ready.1 hr).1
    refine ⟨fun h => (by rw [h] at hr; cases hr), fun j hj => ?_⟩
    have hjn : j < n := Nat.lt_of_not_le fun h => absurd hj (tail_waits hs hc hn inv _ i rfl hin hun j h)
    refine ⟨hjn, ?_⟩
    by_cases hji : j = i
    · subst hji; exact hy.wpOp hi hS ⟨hS, H⟩
    · have h1 := (H.2 j (ready_mono hj hji)).2
      obtain ⟨hjun, oj, hoj, hall⟩ := mem_ready.1 hj
      have hnot : ∀ e ∈ oj.after, Region.binds md e = true → e.on ≠ i := fun e he hb heq => by
        have h2 := hall e he hb
        rw [heq, getD_both hun] at h2
        cases h2
      have h2 := wpOp_putIf hoj (hfree j oj hoj hji hjun hnot) (fun cs b => hsel i oi cs b hi) (fun cs b => hsel j oj cs b hoj) hQ hy h1
      refine wpOp_mono (fun a' w' h3 => ⟨h3.2.1, ih (listed.setIfInBounds j true) a' w' (inv.set hj hjn) (fun k ok hk hki hunk hno => hfree k ok hk hki ?_ hno) (ready_mono hr (Ne.symm hji)) h3.1 h3.2.1 ?_⟩) h2
      · by_cases hjk : j = k
        · subst hjk; exact hjun
        · rw [getD_set_ne true hjk] at hunk; exact hunk
      · rw [Array.setIfInBounds_comm _ _ hji]
        exact h3.2.2
/-- those that keep S, in their forced order -/
theorem headH_seq {n : Nat} {R : Act → World → Prop} : ∀ (f k : Nat) (g : Nat) (listed : Array Bool) (a : Act) (w : World), k + f = n → Region.seqB md ops (f + g) k listed = true → wpKeep P ops S Q R k f a w →
    HeadH P md ops S Q n (fun listed' a' w' => Region.seqB md ops g n listed' = true ∧ R a' w') f listed a w := by
  intro f
  induction f with
  | zero => intro k g listed a w hk hB h; obtain rfl : k = n := by omega
            exact ⟨by simpa using hB, h⟩
  | succ f ih =>
    intro k g listed a w hk hB h
    rw [show f + 1 + g = (f + g) + 1 by omega] at hB
    simp only [Region.seqB, Bool.and_eq_true, decide_eq_true_eq] at hB
    refine ⟨fun h0 => (by rw [hB.1] at h0; cases h0), fun i hi => ?_⟩
    rw [hB.1] at hi
    obtain rfl : i = k := by simpa using hi
    exact ⟨by omega, wpOp_mono (fun a' w' h3 => ⟨h3.1, ih (i + 1) g _ a' w' (by omega) hB.2 h3.2⟩) h⟩
theorem headH_lex {n g : Nat} {R : Act → World → Prop} {w : World} (hsel : Region.noSelect ops = true) (hQ : ∀ c (d : Option Tmp) v a w, Q (.panic c) (a.put d v) w → Q (.panic c) a w) (hs : Region.sinkB md ops n = true) (hc : Region.chainB md ops n = true) (hn : n < ops.size) (hS : S w) :
    ∀ (l : List Oper) (k f : Nat) (listed : Array Bool) (a : Act), (∀ j, j < l.length → l[j]? = ops[k + j]?) → k + l.length + f = n → HeadInv md ops n listed →
    Region.lexHead md ops (f + g) l.length k listed = true → wpYield P ops S (fun a' => wpKeep P ops S Q R (k + l.length) f a' w) l a →
    HeadH P md ops S Q n (fun listed' a' w' => Region.seqB md ops g n listed' = true ∧ R a' w') (l.length + f) listed a w := by
  intro l
  induction l with
  | nil =>
    intro k f listed a _ hk _ hB h
    rw [List.length_nil, Nat.zero_add]
    exact headH_seq f k g listed a w (by simpa using hk) (by simpa [Region.lexHead] using hB) (by simpa [wpYield] using h)
  | cons o l ih =>
    intro k f listed a hl hk inv hB h
    have h0 : ops[k]? = some o := by simpa using (hl 0 (by simp)).symm
    simp only [List.length_cons, Region.lexHead, Bool.and_eq_true] at hB
    obtain ⟨⟨hr, hf⟩, hB'⟩ := hB
    have hkn : k < n := by simp only [List.length_cons] at hk; omega
    have hr' : k ∈ Region.ready md ops listed := by simpa using hr
    obtain ⟨v, hy, hK⟩ := h
    rw [List.length_cons, show l.length + 1 + f = (l.length + f) + 1 by omega]
    refine headH_first h0 (Region.noSelect_spec hsel) (fun c a w => hQ c o.dst v a w) hs hc hn hkn (fun listed' a' w' hL => seqB_ready hL.1) (l.length + f) listed a w inv (Region.free_spec h0 hf) hr' hy hS
      (ih (k + 1) f _ _ (fun j hj => by have := hl (j + 1) (by simp; omega); simpa [Nat.add_assoc, Nat.add_comm 1 j] using this) (by simp only [List.length_cons] at hk; omega) (inv.set hr' hkn) hB' ?_)
    rw [List.length_cons, show k + (l.length + 1) = k + 1 + l.length by omega] at hK
    exact hK
/-- the law: m that only read, n - m that keep S, the rest -/
theorem wp_region_held_tail {id : Nat} {a : Act} {w : World} {l : List Oper} (m n : Nat) (hmn : m ≤ n) (hm : P.follows .mixedOrders = true) (hQ : ∀ c (d : Option Tmp) v a w, Q (.panic c) (a.put d v) w → Q (.panic c) a w)
    (hB : (Region.noSelect l.toArray && decide (n < l.toArray.size) && Region.sinkB .any l.toArray n && Region.chainB .any l.toArray n && Region.lexHead .any l.toArray (n - m + (l.toArray.size - n)) m 0 (Array.replicate l.toArray.size false)) = true) (hS : S w.drew)
    (h : wpYield P l.toArray S (fun a' => wpKeep P l.toArray S Q (fun a'' w'' => wpList P l.toArray Q (l.drop n) a'' w'') m (n - m) a' w.drew) (l.take m) a) : (Code.region id l.toArray true).wp P Q a w := by
  simp only [Bool.and_eq_true, decide_eq_true_eq] at hB
  obtain ⟨⟨⟨⟨hsel, hn⟩, hs⟩, hc⟩, hlex⟩ := hB
  have hn' : n < l.length := by simpa using hn
  have htl : (l.take m).length = m := by simp; omega
  have hdl : (l.drop n).length = l.toArray.size - n := by simp
  have inv0 : HeadInv .any l.toArray n (Array.replicate l.toArray.size false) :=
    ⟨by simp, fun j oj _ hl => (by rw [getD_replicate_false] at hl; cases hl), fun t _ ht => getD_in (by simpa using ht) (getD_replicate_false _ _)⟩
  have H := headH_lex (md := .any) (g := l.toArray.size - n) hsel hQ hs hc hn hS (l.take m) 0 (n - m) _ a (fun j hj => by
    have hj' : j < m := by rw [htl] at hj; exact hj
    simp [hj']) (by rw [htl]; omega) inv0 (by rw [htl]; exact hlex) (by rw [htl, Nat.zero_add]; exact h)
  refine wp_region_any hm ?_
  have := headH_any (g := l.toArray.size - n) (fun listed a' w' hL => by
    have := wpAny_of_seq (md := .any) (Q' := Q) (l.drop n) n listed a' w' (fun j => by simp [List.getElem?_drop]) (by rw [hdl]; exact hL.1) hL.2
    rwa [hdl] at this) _ _ _ _ H
  rw [htl, show m + (n - m) + (l.toArray.size - n) = l.toArray.size by omega] at this
  exact this
/-- one step that only reads; its value is found by the walk -/
theorem wpYield_step {R : Act → Prop} {o : Oper} {rest : List Oper} {a : Act} (h : ∃ v, (Region.wanted o (yielded ops a.tmps) = true ∧ ∀ w, S w → (execOp a.eval o).run P w = .ok (.value v) w) ∧ wpYield P ops S R rest (a.put o.dst v)) : wpYield P ops S R (o :: rest) a := by
  obtain ⟨v, h1, h2⟩ := h
  exact ⟨v, .inl h1, h2⟩
theorem wpYield_load {R : Act → Prop} {o : Oper} {rest : List Oper} {a : Act} (hgd : o.guard = none) (ty : TypeId) (x : Operand) (ho : o.op = .load ty x) (b off : Nat) (hx : a.eval x = .pointer (some ⟨b, off, none⟩)) (cs : Array Value)
    (hc : ∀ w, S w → (loadVar ty ⟨b, off, none⟩).run P w = .ok (.agg cs) w) (h : wpYield P ops S R rest (a.put o.dst (.agg cs))) : wpYield P ops S R (o :: rest) a := by
  refine ⟨_, .inl ⟨by simp [Region.wanted, hgd], fun w hw => ?_⟩, h⟩
  unfold execOp
  simp only [ho, hx, Instr.loadAt, Instr.sureAddr, Sem.run_bind, Sem.run_pure, Result.andThen_ok, hc w hw]
theorem wpYield_build {R : Act → Prop} {o : Oper} {rest : List Oper} {a : Act} (hgd : o.guard = none) (t : TypeId) (parts : Array (Nat × Operand)) (ho : o.op = .build t parts) (cells : Array Value) (vs : List (Nat × Value)) (hv : (parts.map fun (i, x) => (i, a.eval x)).toList = vs) (hb : P.built t vs = some cells)
    (h : wpYield P ops S R rest (a.put o.dst (.agg cells))) : wpYield P ops S R (o :: rest) a := by
  refine ⟨_, .inl ⟨by simp [Region.wanted, hgd], fun w _ => ?_⟩, h⟩
  subst hv
  unfold execOp
  simp only [ho, Sem.run_bind, run_build w t _ cells hb, Result.andThen_ok, Sem.run_pure]
/-- one step that keeps S -/
theorem wpKeep_step {R : Act → World → Prop} {i f : Nat} {o : Oper} {a : Act} {w : World} (hi : ops[i]? = some o) (hgd : o.guard = none)
    (h : ∀ K : Act → World → Prop, (∀ a' w', S w' → wpKeep P ops S Q R (i + 1) f a' w' → K a' w') → Oper.wp P o a w K Q) : wpKeep P ops S Q R i (f + 1) a w := by
  show wpOp P ops Q i _ a w
  unfold wpOp
  simp only [hi]
  rw [if_pos (by simp [Region.wanted, hgd])]
  exact .inl (h _ fun a' w' h1 h2 => ⟨h1, h2⟩)
end
end Go.Proofs.YtekahmlppaabjaaGreatDoor

/-
  A region that draws its order, walked in a planned one: operations that only read (under a condition S on the world), each as soon as it is ready; operations that write or call and keep S, each where nothing else is ready; then the last ones in their forced order. One walk.
-/
namespace Go.Proofs.YtekahmlppaabjaaGreatDoor
open Go.RowKit
section
variable {P : Program} {ops : Array Oper} {md : Region.Mode} {S : World → Prop} {Q : Exit → Act → World → Prop}
/-- the plan: (true, i): operation i only reads; (false, i): it may write, and keeps S -/
def wpPlan (P : Program) (ops : Array Oper) (S : World → Prop) (Q : Exit → Act → World → Prop) (R : Act → World → Prop) : List (Bool × Nat) → Act → World → Prop
  | [], a, w => R a w
  | (true, i) :: r, a, w => ∃ o v, ops[i]? = some o ∧ YieldsIf P ops S o v a ∧ wpPlan P ops S Q R r (a.put o.dst v) w
  | (false, i) :: r, a, w => wpOp P ops Q i (fun a' w' => S w' ∧ wpPlan P ops S Q R r a' w') a w
def planB (md : Region.Mode) (ops : Array Oper) (g n : Nat) : List (Bool × Nat) → Array Bool → Bool
  | [], listed => Region.seqB md ops g n listed
  | (true, i) :: r, listed => decide (i < n) && (Region.ready md ops listed).contains i && Region.free md ops listed i && planB md ops g n r (listed.setIfInBounds i true)
  | (false, i) :: r, listed => decide (i < n) && decide (Region.ready md ops listed = [i]) && planB md ops g n r (listed.setIfInBounds i true)
theorem headH_plan {n g : Nat} {R : Act → World → Prop} (hsel : Region.noSelect ops = true) (hQ : ∀ c (d : Option Tmp) v a w, Q (.panic c) (a.put d v) w → Q (.panic c) a w) (hs : Region.sinkB md ops n = true) (hc : Region.chainB md ops n = true) (hn : n < ops.size) :
    ∀ (pl : List (Bool × Nat)) (listed : Array Bool) (a : Act) (w : World), HeadInv md ops n listed → planB md ops g n pl listed = true → S w → wpPlan P ops S Q R pl a w →
    HeadH P md ops S Q n (fun listed' a' w' => Region.seqB md ops g n listed' = true ∧ R a' w') pl.length listed a w
  | [], listed, a, w, _, hB, _, h => ⟨hB, h⟩
  | (true, i) :: r, listed, a, w, inv, hB, hS, h => by
    simp only [planB, Bool.and_eq_true, decide_eq_true_eq] at hB
    obtain ⟨⟨⟨hin, hr⟩, hf⟩, hB'⟩ := hB
    have hr' : i ∈ Region.ready md ops listed := by simpa using hr
    obtain ⟨o, v, h0, hy, hK⟩ := h
    rw [List.length_cons]
    exact headH_first h0 (Region.noSelect_spec hsel) (fun c a w => hQ c o.dst v a w) hs hc hn hin (fun listed' a' w' hL => seqB_ready hL.1) r.length listed a w inv (Region.free_spec h0 hf) hr' hy hS
      (headH_plan hsel hQ hs hc hn r _ _ w (inv.set hr' hin) hB' hS hK)
  | (false, i) :: r, listed, a, w, inv, hB, hS, h => by
    simp only [planB, Bool.and_eq_true, decide_eq_true_eq] at hB
    obtain ⟨⟨hin, hr⟩, hB'⟩ := hB
    have hr' : i ∈ Region.ready md ops listed := by rw [hr]; simp
    rw [List.length_cons]
    refine ⟨fun h0 => (by rw [h0] at hr; cases hr), fun j hj => ?_⟩
    rw [hr] at hj
    obtain rfl : j = i := by simpa using hj
    exact ⟨hin, wpOp_mono (fun a' w' h3 => ⟨h3.1, headH_plan hsel hQ hs hc hn r _ _ _ (inv.set hr' hin) hB' h3.1 h3.2⟩) h⟩
theorem wp_region_plan {id : Nat} {a : Act} {w : World} {l : List Oper} (n : Nat) (pl : List (Bool × Nat)) (hm : P.follows .mixedOrders = true) (hQ : ∀ c (d : Option Tmp) v a w, Q (.panic c) (a.put d v) w → Q (.panic c) a w)
    (hB : (Region.noSelect l.toArray && decide (n < l.toArray.size) && decide (pl.length = n) && Region.sinkB .any l.toArray n && Region.chainB .any l.toArray n && planB .any l.toArray (l.toArray.size - n) n pl (Array.replicate l.toArray.size false)) = true) (hS : S w.drew)
    (h : wpPlan P l.toArray S Q (fun a'' w'' => wpList P l.toArray Q (l.drop n) a'' w'') pl a w.drew) : (Code.region id l.toArray true).wp P Q a w := by
  simp only [Bool.and_eq_true, decide_eq_true_eq] at hB
  obtain ⟨⟨⟨⟨⟨hsel, hn⟩, hpl⟩, hs⟩, hc⟩, hplan⟩ := hB
  have hn' : n < l.length := by simpa using hn
  have hdl : (l.drop n).length = l.toArray.size - n := by simp
  have inv0 : HeadInv .any l.toArray n (Array.replicate l.toArray.size false) :=
    ⟨by simp, fun j oj _ hl => (by rw [getD_replicate_false] at hl; cases hl), fun t _ ht => getD_in (by simpa using ht) (getD_replicate_false _ _)⟩
  have H := headH_plan (md := .any) (g := l.toArray.size - n) hsel hQ hs hc hn pl _ a w.drew inv0 hplan hS h
  refine wp_region_any hm ?_
  have := headH_any (g := l.toArray.size - n) (fun listed' a' w' hL => by
    have := wpAny_of_seq (md := .any) (Q' := Q) (l.drop n) n listed' a' w' (fun j => by simp [List.getElem?_drop]) (by rw [hdl]; exact hL.1) hL.2
    rwa [hdl] at this) _ _ _ _ H
  rw [hpl, show n + (l.toArray.size - n) = l.toArray.size by omega] at this
  exact this
section
variable {l : List Oper}
/-- a step that only reads; its value is found by the walk -/
theorem wpPlan_step {R : Act → World → Prop} {i : Nat} {r : List (Bool × Nat)} {o : Oper} {a : Act} {w : World} (hi : l[i]? = some o) (h : ∃ v, (Region.wanted o (yielded l.toArray a.tmps) = true ∧ ∀ w, S w → (execOp a.eval o).run P w = .ok (.value v) w) ∧ wpPlan P l.toArray S Q R r (a.put o.dst v) w) : wpPlan P l.toArray S Q R ((true, i) :: r) a w := by
  obtain ⟨v, h1, h2⟩ := h
  exact ⟨o, v, by rw [List.getElem?_toArray]; exact hi, .inl h1, h2⟩
/-- a step that is passed over -/
theorem wpPlan_skip {R : Act → World → Prop} {i : Nat} {r : List (Bool × Nat)} {o : Oper} {a : Act} {w : World} (hi : l[i]? = some o) (hy : YieldsIf P l.toArray S o undef a) (h : wpPlan P l.toArray S Q R r (a.put o.dst undef) w) : wpPlan P l.toArray S Q R ((true, i) :: r) a w :=
  ⟨o, undef, by rw [List.getElem?_toArray]; exact hi, hy, h⟩
/-- a step that keeps S -/
theorem wpPlan_keep {R : Act → World → Prop} {i : Nat} {r : List (Bool × Nat)} {o : Oper} {a : Act} {w : World} (hi : l[i]? = some o) (hw : Region.wanted o (yielded l.toArray a.tmps) = true)
    (h : ∀ K : Act → World → Prop, (∀ a' w', S w' → wpPlan P l.toArray S Q R r a' w' → K a' w') → Oper.wp P o a w K Q) : wpPlan P l.toArray S Q R ((false, i) :: r) a w := by
  show wpOp P l.toArray Q i _ a w
  have hi' : l.toArray[i]? = some o := by rw [List.getElem?_toArray]; exact hi
  unfold wpOp
  simp only [hi']
  rw [if_pos hw]
  exact .inl (h _ fun a' w' h1 h2 => ⟨h1, h2⟩)
/-- a call of a Go function -/
theorem wpPlan_call {R : Act → World → Prop} {i : Nat} {r : List (Bool × Nat)} {o : Oper} {a : Act} {w : World} (hi : l[i]? = some o) (hw : Region.wanted o (yielded l.toArray a.tmps) = true) (f : FuncId) (args : Array Value) (hrun : (execOp a.eval o).run P w = .ok (.enter f args) w)
    {R' : Ending → World → Prop} (hc : Calls P f args w R') (h : ∀ e w', R' e w' → (∃ v, e = .returned v ∧ S w' ∧ wpPlan P l.toArray S Q R r (a.put o.dst v) w') ∨ (∃ c, e = .panicked c ∧ Q (.panic c) a w')) : wpPlan P l.toArray S Q R ((false, i) :: r) a w := by
  show wpOp P l.toArray Q i _ a w
  have hi' : l.toArray[i]? = some o := by rw [List.getElem?_toArray]; exact hi
  unfold wpOp
  simp only [hi']
  rw [if_pos hw]
  refine .inl ?_
  unfold Oper.wp
  rw [hrun, Oper.upon_enter]
  refine hc.mono fun e w' he => ?_
  rcases h e w' he with ⟨v, rfl, h1, h2⟩ | ⟨c, rfl, h1⟩
  · exact ⟨h1, h2⟩
  · exact h1
end
end
end Go.Proofs.YtekahmlppaabjaaGreatDoor

/-
  Layer 13: the document's first token of a text.
-/
namespace Go.Proofs.YtekahmlppaabjaaGreatDoor
open Go.RowKit
/-- the marks as strings in memory -/
abbrev marksV : List Value := Lx.marks.map fun m => .string (Lx.mk m)
set_option maxRecDepth 100000 in
set_option maxHeartbeats 3200000 in
theorem rmarks13_any (w : World) : Calls Tryz.prog 44 #[] w fun e w' => e = .returned (.slice (some ⟨w.heap.size, 0, none⟩) 16 16) ∧ w' = w.alloc (.cells marksV.toArray 9) := by
  go_enter Tryz.func44, Tryz.ntmps44
  go_wp2_with fail
  go_ret
  exact ⟨rfl, rfl⟩
theorem marks_len : Lx.marks.length = 16 := rfl
/-- none of the first k marks stands ahead -/
def NoMark (l : List UInt8) (k : Nat) : Prop := ∀ m ∈ Lx.marks.take k, m.isPrefixOf l = false
theorem noMark_start (l : List UInt8) : NoMark l 0 := by intro m hm; simp at hm
theorem noMark_next {l : List UInt8} {k : Nat} (h : NoMark l k) (hk : k < Lx.marks.length) (hp : Lx.marks[k].isPrefixOf l = false) : NoMark l (k + 1) := by
  intro m hm
  rw [List.take_succ_eq_append_getElem hk] at hm
  rcases List.mem_append.1 hm with hm | hm
  · exact h m hm
  · simp only [List.mem_singleton] at hm; subst hm; exact hp
theorem noMark_end {l : List UInt8} (h : NoMark l 16) : Lx.markT l = (Lx.no, 0, 11) := by
  unfold Lx.markT
  have : Lx.marks.find? (fun m => m.isPrefixOf l) = none := by
    rw [List.find?_eq_none]
    intro m hm
    have := h m (by rw [List.take_of_length_le (by rw [marks_len]; omega)]; exact hm)
    simp [this]
  rw [this]
theorem noMark_hit {l : List UInt8} {k : Nat} (h : NoMark l k) (hk : k < Lx.marks.length) (hp : Lx.marks[k].isPrefixOf l = true) : Lx.markT l = (⟨4, Lx.mk Lx.marks[k], 0, 0⟩, Lx.marks[k].length, 0) := by
  have key : Lx.marks.find? (fun m => m.isPrefixOf l) = some Lx.marks[k] := by
    have e : Lx.marks = Lx.marks.take k ++ Lx.marks[k] :: Lx.marks.drop (k + 1) := by rw [List.getElem_cons_drop, List.take_append_drop]
    rw [List.find?_eq_some_iff_append]
    refine ⟨hp, Lx.marks.take k, Lx.marks.drop (k + 1), e, fun m hm => ?_⟩
    simp [h m hm]
  unfold Lx.markT
  rw [key]
theorem prefix_iff (m : List UInt8) (s : ByteArray) : m.isPrefixOf s.data.toList = true ↔ m.length ≤ s.size ∧ s.extract 0 m.length = Lx.mk m := by
  have hl : s.data.toList.length = s.size := by rw [Array.length_toList]; rfl
  rw [List.isPrefixOf_iff_prefix]
  constructor
  · rintro ⟨q, hq⟩
    refine ⟨by rw [← hl, ← hq]; simp, ?_⟩
    rw [take_list, ← hq, List.take_left]
  · rintro ⟨_, h2⟩
    rw [take_list] at h2
    have := congrArg (fun x : ByteArray => x.data.toList) h2
    have h3 : s.data.toList.take m.length = m := this
    exact ⟨s.data.toList.drop m.length, (congrArg (· ++ s.data.toList.drop m.length) h3.symm).trans (List.take_append_drop _ _)⟩
theorem tok_one4 {X : ByteArray} : (#[Value.int IntKind.i64 4, Value.string X, Value.int IntKind.i64 0, Value.int IntKind.i64 0].all (·.oneCell')) = true := by simp [Value.oneCell']
set_option maxRecDepth 100000 in
set_option maxHeartbeats 6400000 in
theorem rone13_any (s : ByteArray) (w : World) (h0 : 0 < s.size) (hs : s.size ≤ 1000000) :
    Calls Tryz.prog 20 #[.string s] w fun e w' => e = .returned (.tuple #[tokV (Lx.one s.data.toList).1, .int .i64 ((Lx.one s.data.toList).2.1 : Nat), .int .i64 (Lx.one s.data.toList).2.2]) ∧ Below w.heap.size w w' := by
  have hone := Lx.one_cons s[0] (s.data.toList.drop 1)
  rw [← drop_next s 0 h0, List.drop_zero] at hone
  rw [hone]
  clear hone
  have cL := fun w => rletter13_any s[0] w
  have cD := fun w => rdigit13_any s[0] w
  have hsm : s.size ≤ maxLen := by unfold maxLen; omega
  obtain ⟨r0, b0, s0⟩ := tok_new Lx.no w
  cases hL : Lx.letter s[0] with
  | true =>
    rw [hL] at cL
    rw [if_pos rfl]
    have cN := fun w => rname13_any s w hsm
    generalize (Lx.nameT s.data.toList).2.1 = N at *
    generalize (Lx.nameT s.data.toList).2.2 = E at *
    generalize (Lx.nameT s.data.toList).1 = V at *
    have H := Lib.hid (And.intro (And.intro cL cN) (And.intro r0 (And.intro b0 s0)))
    clear cL cD cN r0 b0 s0 hL hsm
    go_enter Tryz.func20, Tryz.ntmps20
    go_wp2_with (first | (go_at_call 39; refine (H.out.1.1 _).mono ?_; rintro e w1 ⟨rfl, rfl⟩))
    refine (H.out.1.2 _).mono ?_
    rintro e w2 ⟨rfl, hb2⟩
    have ra := rowV_below H.out.2.1 hb2 (by rw [World.size_alloc]; omega)
    have hb := H.out.2.2.1.trans (hb2.mono (by rw [World.size_alloc]; omega))
    obtain ⟨tk, ts, tn, ta⟩ := V
    obtain ⟨a0, a1, a2, a3, g0, g1, g2, g3⟩ := tok_cells ra
    have L := Lib.hid (And.intro ra hb)
    clear ra hb hb2
    go_wp2_with fail
    refine bodyPost_ret (v := .tuple #[tokV ⟨tk, ts, tn, ta⟩, .int .i64 (N : Int), .int .i64 E]) (results_tok (p := 2) (u := 3) (x := 4) rfl _ _ w.heap.size ⟨tk, ts, tn, ta⟩ rfl (tok_put (v := Lx.no) L.out.1 tk ts tn ta).1) rfl ⟨rfl, ?_⟩
    exact L.out.2.trans ((tok_put L.out.1 tk ts tn ta).2 _ (Nat.le_refl _))
  | false =>
    rw [hL] at cL
    rw [if_neg (by simp)]
    cases hD : Lx.digit s[0] with
    | true =>
      rw [hD] at cD
      rw [if_pos rfl]
      have cN := fun w => rnumber13_any s w hsm
      generalize (Lx.numT s.data.toList).2.1 = N at *
      generalize (Lx.numT s.data.toList).2.2 = E at *
      generalize (Lx.numT s.data.toList).1 = V at *
      have H := Lib.hid (And.intro (And.intro cL (And.intro cD cN)) (And.intro r0 (And.intro b0 s0)))
      clear cL cD cN r0 b0 s0 hL hsm hD
      go_enter Tryz.func20, Tryz.ntmps20
      go_wp2_with (first | (go_at_call 39; refine (H.out.1.1 _).mono ?_; rintro e w1 ⟨rfl, rfl⟩) | (go_at_call 41; refine (H.out.1.2.1 _).mono ?_; rintro e w1 ⟨rfl, rfl⟩))
      refine (H.out.1.2.2 _).mono ?_
      rintro e w2 ⟨rfl, hb2⟩
      have ra := rowV_below H.out.2.1 hb2 (by rw [World.size_alloc]; omega)
      have hb := H.out.2.2.1.trans (hb2.mono (by rw [World.size_alloc]; omega))
      obtain ⟨tk, ts, tn, ta⟩ := V
      obtain ⟨a0, a1, a2, a3, g0, g1, g2, g3⟩ := tok_cells ra
      have L := Lib.hid (And.intro ra hb)
      clear ra hb hb2
      go_wp2_with fail
      refine bodyPost_ret (v := .tuple #[tokV ⟨tk, ts, tn, ta⟩, .int .i64 (N : Int), .int .i64 E]) (results_tok (p := 2) (u := 3) (x := 4) rfl _ _ w.heap.size ⟨tk, ts, tn, ta⟩ rfl (tok_put (v := Lx.no) L.out.1 tk ts tn ta).1) rfl ⟨rfl, ?_⟩
      exact L.out.2.trans ((tok_put L.out.1 tk ts tn ta).2 _ (Nat.le_refl _))
    | false =>
      rw [hD] at cD
      rw [if_neg (by simp)]
      by_cases h34 : s[0] = 34
      · rw [if_pos h34]
        have t1 : ((s[0].toNat : Int) == 34) = true := by rw [h34]; rfl
        have cN := fun w => rtext13_any s w hs
        generalize (Lx.txtT s.data.toList).2.1 = N at *
        generalize (Lx.txtT s.data.toList).2.2 = E at *
        generalize (Lx.txtT s.data.toList).1 = V at *
        have H := Lib.hid (And.intro (And.intro cL (And.intro cD cN)) (And.intro r0 (And.intro b0 s0)))
        clear cL cD cN r0 b0 s0 hL hsm hD h34
        go_enter Tryz.func20, Tryz.ntmps20
        go_wp2_with (first | (go_at_call 39; refine (H.out.1.1 _).mono ?_; rintro e w1 ⟨rfl, rfl⟩) | (go_at_call 41; refine (H.out.1.2.1 _).mono ?_; rintro e w1 ⟨rfl, rfl⟩))
        refine (H.out.1.2.2 _).mono ?_
        rintro e w2 ⟨rfl, hb2⟩
        have ra := rowV_below H.out.2.1 hb2 (by rw [World.size_alloc]; omega)
        have hb := H.out.2.2.1.trans (hb2.mono (by rw [World.size_alloc]; omega))
        obtain ⟨tk, ts, tn, ta⟩ := V
        obtain ⟨a0, a1, a2, a3, g0, g1, g2, g3⟩ := tok_cells ra
        have L := Lib.hid (And.intro ra hb)
        clear ra hb hb2
        go_wp2_with fail
        refine bodyPost_ret (v := .tuple #[tokV ⟨tk, ts, tn, ta⟩, .int .i64 (N : Int), .int .i64 E]) (results_tok (p := 2) (u := 3) (x := 4) rfl _ _ w.heap.size ⟨tk, ts, tn, ta⟩ rfl (tok_put (v := Lx.no) L.out.1 tk ts tn ta).1) rfl ⟨rfl, ?_⟩
        exact L.out.2.trans ((tok_put L.out.1 tk ts tn ta).2 _ (Nat.le_refl _))
      · rw [if_neg h34]
        have t1 : ((s[0].toNat : Int) == 34) = false := by
          have : ¬ s[0].toNat = 34 := fun e => h34 (UInt8.toNat_inj.1 e)
          simp; omega
        have rm := rowV_new (w.alloc (.cells (tokC Lx.no) 45)) 9 marksV
        rw [s0] at rm
        have rb := rowV_alloc r0 (.cells marksV.toArray 9)
        have hb := b0.alloc (by rw [s0]; omega) (.cells marksV.toArray 9)
        have cM := rmarks13_any (w.alloc (.cells (tokC Lx.no) 45))
        rw [s0] at cM
        have H := Lib.hid (And.intro (And.intro cL (And.intro cD cM)) (And.intro rm (And.intro rb hb)))
        clear cL cD cM r0 b0 s0 hL hsm hD h34 rm rb hb
        go_enter Tryz.func20, Tryz.ntmps20
        go_wp2_with (first | (go_at_call 39; refine (H.out.1.1 _).mono ?_; rintro e w1 ⟨rfl, rfl⟩) | (go_at_call 41; refine (H.out.1.2.1 _).mono ?_; rintro e w1 ⟨rfl, rfl⟩))
        refine H.out.1.2.2.mono ?_
        rintro e w1 ⟨rfl, hw1⟩
        rw [← hw1] at H
        have hsz : w.heap.size + 1 < w1.heap.size := rowV_lt H.out.2.1
        clear hw1
        go_wp2_with fail
        go_loopw [6] (fun i wr => ∃ k : Nat, k ≤ 16 ∧ i = .int .i64 (k : Int) ∧ Hid (NoMark s.data.toList k) ∧ Hid (Below w1.heap.size w1 wr)) (fun i _ => 16 - (intOf i).toNat)
        case atStart => exact ⟨0, Nat.zero_le _, rfl, Lib.hid (noMark_start _), Lib.hid (Below.refl _ _)⟩
        case round =>
          obtain ⟨k, hk, rfl, HM, HI⟩ := hrel
          by_cases hlt : k < 16
          · have hkl : k < Lx.marks.length := hlt
            have hrow := rowV_below H.out.2.1 HI.out hsz
            have hc : wr.cell? ⟨w.heap.size + 1, k, none⟩ = some (.string (Lx.mk Lx.marks[k])) := by
              rw [rowV_cell hrow k]
              show (Lx.marks.map fun m => Value.string (Lx.mk m))[k]? = _
              rw [List.getElem?_map, List.getElem?_eq_getElem hkl]; rfl
            have hMs := mk_size Lx.marks[k]
            have hpi := prefix_iff Lx.marks[k] s
            have hnext := noMark_next HM.out hkl
            have hhit := noMark_hit HM.out hkl
            rw [← hMs] at hpi hhit
            generalize hMM : Lx.mk Lx.marks[k] = M at *
            by_cases hle : (M.size : Int) ≤ (s.size : Int)
            · have hd : decide ((M.size : Int) ≤ (s.size : Int)) = true := decide_eq_true hle
              by_cases he : s.extract 0 M.size = M
              · have HP := Lib.hid (hhit (hpi.2 ⟨by omega, he⟩))
                have he2 : ((s.extract 0 M.size).toList == M.toList) = true := by rw [he]; simp
                have he3 := he
                clear hpi hnext hhit hMM hMs hrow
                generalize hX : s.extract 0 M.size = X at *
                subst he3
                clear he
                go_wp2_with fail
                go_quiet (fail)
                have hcq : (wr.drewN nq).cell? ⟨w.heap.size + 1, k, none⟩ = some (.string X) := hc
                have hbq := below_drewN HI.out nq
                generalize wr.drewN nq = wq at *
                clear hc
                go_wp2_with fail
                have hra : RowV wq w.heap.size 45 (tokC Lx.no).toList := rowV_below H.out.2.2.1 hbq (Nat.lt_of_succ_lt hsz)
                have ra : RowV wq.drew w.heap.size 45 (tokC Lx.no).toList := hra
                have hb := H.out.2.2.2.trans (hbq.mono (Nat.le_of_lt (Nat.lt_of_succ_lt hsz)))
                refine wp_region_plan (S := fun wx => wx.cell? ⟨w.heap.size + 1, k, none⟩ = some (.string X)) 11 [(true, 0), (true, 1), (true, 2), (true, 3), (true, 4), (true, 5), (true, 6), (true, 7), (true, 8), (true, 9), (false, 10)] (by kernel_rfl) (fun _ d _ _ _ h => by cases d <;> exact h) (by kernel_rfl) hcq ?_
                refine wpPlan_step (i := 0) rfl ?_
                apply Exists.intro
                refine ⟨⟨by rfl, fun wx hSx => ?_⟩, ?_⟩
                · obtain hcx := hSx
                  go_simp
                  with_reducible rfl
                simp only [Act.put, List.setIfInBounds_toArray, List.set_cons_zero, List.set_cons_succ]
                refine wpPlan_step (i := 1) rfl ?_
                apply Exists.intro
                refine ⟨⟨by rfl, fun wx hSx => ?_⟩, ?_⟩
                · obtain hcx := hSx
                  go_simp
                  with_reducible rfl
                simp only [Act.put, List.setIfInBounds_toArray, List.set_cons_zero, List.set_cons_succ]
                refine wpPlan_step (i := 2) rfl ⟨(.pointer (some ⟨w.heap.size + 1, k, none⟩)), ⟨by rfl, fun wx hSx => ?_⟩, ?_⟩
                · obtain hcx := hSx
                  go_simp
                simp only [Act.put, List.setIfInBounds_toArray, List.set_cons_zero, List.set_cons_succ]
                refine wpPlan_step (i := 3) rfl ⟨(.string X), ⟨by rfl, fun wx hSx => ?_⟩, ?_⟩
                · obtain hcx := hSx
                  go_simp
                simp only [Act.put, List.setIfInBounds_toArray, List.set_cons_zero, List.set_cons_succ]
                refine wpPlan_step (i := 4) rfl ⟨(.agg #[.int .i64 4, .string X, .int .i64 0, .int .i64 0]), ⟨by rfl, fun wx hSx => ?_⟩, ?_⟩
                · obtain hcx := hSx
                  go_simp
                simp only [Act.put, List.setIfInBounds_toArray, List.set_cons_zero, List.set_cons_succ]
                refine wpPlan_step (i := 5) rfl ?_
                apply Exists.intro
                refine ⟨⟨by rfl, fun wx hSx => ?_⟩, ?_⟩
                · obtain hcx := hSx
                  go_simp
                  with_reducible rfl
                simp only [Act.put, List.setIfInBounds_toArray, List.set_cons_zero, List.set_cons_succ]
                refine wpPlan_step (i := 6) rfl ?_
                apply Exists.intro
                refine ⟨⟨by rfl, fun wx hSx => ?_⟩, ?_⟩
                · obtain hcx := hSx
                  go_simp
                  with_reducible rfl
                simp only [Act.put, List.setIfInBounds_toArray, List.set_cons_zero, List.set_cons_succ]
                refine wpPlan_step (i := 7) rfl ⟨(.pointer (some ⟨w.heap.size + 1, k, none⟩)), ⟨by rfl, fun wx hSx => ?_⟩, ?_⟩
                · obtain hcx := hSx
                  go_simp
                simp only [Act.put, List.setIfInBounds_toArray, List.set_cons_zero, List.set_cons_succ]
                refine wpPlan_step (i := 8) rfl ⟨(.string X), ⟨by rfl, fun wx hSx => ?_⟩, ?_⟩
                · obtain hcx := hSx
                  go_simp
                simp only [Act.put, List.setIfInBounds_toArray, List.set_cons_zero, List.set_cons_succ]
                refine wpPlan_step (i := 9) rfl ⟨(.int .i64 (X.size : Int)), ⟨by rfl, fun wx hSx => ?_⟩, ?_⟩
                · obtain hcx := hSx
                  go_simp
                simp only [Act.put, List.setIfInBounds_toArray, List.set_cons_zero, List.set_cons_succ]
                have r4 := rowV_row ra [.int .i64 4, .string X, .int .i64 0, .int .i64 0]
                have o4 : Only (fun j => j = w.heap.size) wq.drew (wq.drew.setRow w.heap.size [.int .i64 4, .string X, .int .i64 0, .int .i64 0].toArray) := ⟨rfl, rfl, rfl, by simp [World.setRow], fun j _ hj => setRow_far _ _ j _ hj⟩
                refine wpPlan_keep (i := 10) rfl (by rfl) fun K hK => wp_store_row 45 (.tmp 2) (.tmp 67) rfl w.heap.size #[.int .i64 4, .string X, .int .i64 0, .int .i64 0] rfl rfl 45 _ ra info_tok rfl tok_one4 (hK _ _ ((o4.cell (World.block_lt_of_cell? _ _ hcq) (by show ¬ w.heap.size + 1 = w.heap.size; omega)).trans hcq) ?_)
                simp only [Act.put]
                have hb4 := Lib.hid ((hb.trans (Below.refl w.heap.size wq).drew).trans ((o4.below (B := w.heap.size) (fun j _ e => Nat.le_of_eq e.symm) (Nat.le_of_lt (rowV_lt ra)))))
                have HR4 := Lib.hid r4
                clear hbq hra ra hb r4 o4
                show wpList _ _ _ _ _ _
                simp only [List.drop_succ_cons, List.drop_zero]
                go_wp2_with fail
                rw [HP.out]
                exact bodyPost_ret (v := .tuple #[tokV ⟨4, X, 0, 0⟩, .int .i64 (X.size : Int), .int .i64 0]) (results_tok (p := 2) (u := 3) (x := 4) rfl _ _ w.heap.size ⟨4, X, 0, 0⟩ rfl HR4.out) rfl ⟨rfl, hb4.out⟩
              · have HN := Lib.hid (hnext (by cases hh : Lx.marks[k].isPrefixOf s.data.toList with | false => rfl | true => exact absurd (hpi.1 hh).2 he))
                have he1 : ¬ (s.extract 0 M.size).toList = M.toList := fun e => he (Sl.ba_ext (by rw [← ByteArray.toList_eq, ← ByteArray.toList_eq]; exact e))
                have he2 : ((s.extract 0 M.size).toList == M.toList) = false := by simpa using he1
                clear hpi hnext hhit hMM hMs hrow he
                go_wp2_with fail
                go_quiet (fail)
                go_wp2_with fail
                go_roundw
                case rel => exact ⟨k + 1, by omega, by go_num, HN, Lib.hid (below_drewN HI.out _)⟩
                case measure => simp [intOf]; omega
            · have hd : decide ((M.size : Int) ≤ (s.size : Int)) = false := decide_eq_false hle
              have HN := Lib.hid (hnext (by cases hh : Lx.marks[k].isPrefixOf s.data.toList with | false => rfl | true => have := (hpi.1 hh).1; omega))
              have hgt : s.size < M.size := by omega
              clear hpi hnext hhit hMM hMs hrow hle
              go_wp2_with fail
              refine wp_region_quiet_tail (C := fun wx => (wx.cell? ⟨w.heap.size + 1, k, none⟩ = some (.string M)) ∧ Hid (Below wr.heap.size wr wx)) 21 (by kernel_rfl) (by kernel_rfl) ⟨hc, Lib.hid (Below.refl wr.heap.size wr).drew⟩ ?_
              simp only [List.take_succ_cons, List.take_zero, List.drop_succ_cons, List.drop_zero]
              go_big_quiet_want
              go_big_quiet_op
              go_big_quiet_on
              go_big_quiet_want
              go_big_quiet_op
              go_big_quiet_on
              go_big_quiet_want
              refine ⟨(.pointer (some ⟨w.heap.size + 1, k, none⟩)), fun wx hSx => ?_, ?_⟩
              · obtain ⟨k0, -⟩ := hSx
                go_simp
                try exact ⟨rfl, rfl⟩
              simp only [Act.put, List.setIfInBounds_toArray, List.set_cons_zero, List.set_cons_succ]
              go_big_quiet_on
              go_big_quiet_want
              refine ⟨(.string M), fun wx hSx => ?_, ?_⟩
              · obtain ⟨k0, -⟩ := hSx
                go_simp
                try first
                  | with_reducible rfl
                  | rw [if_neg (by omega)]
              simp only [Act.put, List.setIfInBounds_toArray, List.set_cons_zero, List.set_cons_succ]
              go_big_quiet_on
              go_big_quiet_want
              refine ⟨(.int .i64 (M.size : Int)), fun wx hSx => ?_, ?_⟩
              · obtain ⟨k0, -⟩ := hSx
                go_simp
                try first
                  | with_reducible rfl
                  | rw [if_neg (by omega)]
              simp only [Act.put, List.setIfInBounds_toArray, List.set_cons_zero, List.set_cons_succ]
              go_big_quiet_on
              go_big_quiet_want
              go_big_quiet_op
              go_big_quiet_on
              go_big_quiet_want
              refine ⟨(.int .i64 (s.size : Int)), fun wx hSx => ?_, ?_⟩
              · obtain ⟨k0, -⟩ := hSx
                go_simp
                try first
                  | with_reducible rfl
                  | rw [if_neg (by omega)]
              simp only [Act.put, List.setIfInBounds_toArray, List.set_cons_zero, List.set_cons_succ]
              go_big_quiet_on
              go_big_quiet_want
              refine ⟨(.bool false), fun wx hSx => ?_, ?_⟩
              · obtain ⟨k0, -⟩ := hSx
                go_simp
                first | done | exact hgt | exact hd
              simp only [Act.put, List.setIfInBounds_toArray, List.set_cons_zero, List.set_cons_succ]
              go_big_quiet_on
              go_big_quiet_want
              go_big_quiet_op
              go_big_quiet_on
              go_big_quiet_skip
              go_big_quiet_skip
              go_big_quiet_skip
              go_big_quiet_skip
              go_big_quiet_skip
              go_big_quiet_skip
              go_big_quiet_skip
              go_big_quiet_skip
              go_big_quiet_skip
              go_big_quiet_skip
              go_big_quiet_skip
              go_big_quiet_skip
              refine wpQuiet_nil ?_
              rintro w4 ⟨-, hb4⟩
              have H4 := Lib.hid (HI.out.trans (hb4.out.mono HI.out.size))
              clear hb4
              go_wp2_with fail
              go_roundw
              case rel => exact ⟨k + 1, by omega, by go_num, HN, H4⟩
              case measure => simp [intOf]; omega
          · obtain rfl : k = 16 := by omega
            have HE := Lib.hid (noMark_end HM.out)
            have ra := rowV_below H.out.2.2.1 HI.out (Nat.lt_of_succ_lt hsz)
            have hb := H.out.2.2.2.trans (HI.out.mono (Nat.le_of_lt (Nat.lt_of_succ_lt hsz)))
            obtain ⟨a0, a1, a2, a3, g0, g1, g2, g3⟩ := tok_cells ra
            have L := Lib.hid (And.intro ra hb)
            clear ra hb
            go_wp2_with fail
            rw [HE.out]
            refine bodyPost_ret (v := .tuple #[tokV Lx.no, .int .i64 0, .int .i64 11]) (results_tok (p := 2) (u := 3) (x := 4) rfl _ _ w.heap.size Lx.no rfl (tok_put (v := Lx.no) L.out.1 0 Vl.mt 0 0).1) rfl ⟨rfl, ?_⟩
            exact L.out.2.trans ((tok_put (v := Lx.no) L.out.1 0 Vl.mt 0 0).2 _ (Nat.le_refl _))
end Go.Proofs.YtekahmlppaabjaaGreatDoor

/-
  Layer 13, the program's: marks.
-/
namespace Go.Proofs.YtekahmlppaabjaaGreatDoor
open Go.RowKit
set_option maxRecDepth 100000 in
theorem mark13_fn (m s : ByteArray) (g : Nat) (w : World) (hc : w.cell? ⟨g, 0, none⟩ = some (.string s)) :
    Calls Tryz.prog 63 #[.string m, .pointer (some ⟨g, 0, none⟩)] w fun e w' => e = .returned (.bool (m.data.toList.isPrefixOf s.data.toList)) ∧ w' = w := by
  have cH := hasPre_any s m w
  generalize m.data.toList.isPrefixOf s.data.toList = B at *
  have H := Lib.hid cH
  clear cH
  go_enter Tryz.func63, Tryz.ntmps63
  go_wp2_with fail
  refine H.out.mono ?_
  rintro e w1 ⟨rfl, rfl⟩
  go_wp2_with fail
  go_ret
  exact ⟨rfl, rfl⟩
set_option maxRecDepth 100000 in
set_option maxHeartbeats 3200000 in
theorem marks13_any (w : World) : Calls Tryz.prog 61 #[] w fun e w' => e = .returned (.slice (some ⟨w.heap.size, 0, none⟩) 16 16) ∧ w' = w.alloc (.cells marksV.toArray 9) := by
  go_enter Tryz.func61, Tryz.ntmps61
  go_wp2_with fail
  go_ret
  exact ⟨rfl, rfl⟩
/-- the first mark that stands ahead, or none -/
def MarkIx (l : List UInt8) (w : World) (e : Ending) (w' : World) : Prop :=
  w' = w ∧ ((∃ k, ∃ hk : k < Lx.marks.length, e = .returned (.int .i64 (k : Int)) ∧ NoMark l k ∧ Lx.marks[k].isPrefixOf l = true) ∨ (e = .returned (.int .i64 (-1)) ∧ NoMark l 16))
theorem marks_cell {w : World} {g : Nat} (h : RowV w g 9 marksV) (k : Nat) (hk : k < Lx.marks.length) : w.cell? ⟨g, k, none⟩ = some (.string (Lx.mk Lx.marks[k])) := by
  rw [rowV_cell h k]
  show (Lx.marks.map fun m => Value.string (Lx.mk m))[k]? = _
  rw [List.getElem?_map, List.getElem?_eq_getElem hk]; rfl
set_option maxRecDepth 100000 in
set_option maxHeartbeats 3200000 in
theorem index13_any (s : ByteArray) (g gm : Nat) (w : World) (hc : w.cell? ⟨g, 0, none⟩ = some (.string s)) (hm : RowV w gm 9 marksV) :
    Calls Tryz.prog 62 #[.slice (some ⟨gm, 0, none⟩) 16 16, .func (.func 63) #[] #[.pointer (some ⟨g, 0, none⟩)]] w (MarkIx s.data.toList w) := by
  have H := Lib.hid (And.intro hc hm)
  clear hc hm
  go_enter Tryz.func62, Tryz.ntmps62
  go_wp2_with fail
  go_loop [8] (fun i => ∃ k : Nat, k ≤ 16 ∧ i = .int .i64 (k : Int) ∧ Hid (NoMark s.data.toList k)) (fun i => 16 - (intOf i).toNat)
  case atStart => exact ⟨0, Nat.zero_le _, rfl, Lib.hid (noMark_start _)⟩
  case round =>
    obtain ⟨k, hk, rfl, HM⟩ := hrel
    by_cases hlt : k < 16
    · have hkl : k < Lx.marks.length := hlt
      have hcell := marks_cell H.out.2 k hkl
      have hF := mark13_fn (Lx.mk Lx.marks[k]) s g w H.out.1
      rw [show (Lx.mk Lx.marks[k]).data.toList = Lx.marks[k] from rfl] at hF
      cases hb : Lx.marks[k].isPrefixOf s.data.toList with
      | true =>
        rw [hb] at hF
        have HX : Hid (MarkIx s.data.toList w (.returned (.int .i64 (k : Int))) w) := Lib.hid ⟨rfl, .inl ⟨k, hkl, rfl, HM.out, hb⟩⟩
        have HC := Lib.hid hF
        clear hF hb
        generalize Lx.mk Lx.marks[k] = M at *
        go_wp2_with fail
        refine HC.out.mono ?_
        rintro e w1 ⟨rfl, hw1⟩
        obtain rfl := hw1.symm; clear hw1
        go_wp2_with fail
        go_ret
        exact HX.out
      | false =>
        rw [hb] at hF
        have HX := Lib.hid (noMark_next HM.out hkl hb)
        have HC := Lib.hid hF
        clear hF hb
        generalize Lx.mk Lx.marks[k] = M at *
        go_wp2_with fail
        refine HC.out.mono ?_
        rintro e w1 ⟨rfl, hw1⟩
        obtain rfl := hw1.symm; clear hw1
        go_wp2_with fail
        go_round
        case rel => exact ⟨k + 1, by omega, by go_num, HX⟩
        case measure => simp [intOf]; omega
    · obtain rfl : k = 16 := by omega
      have HX : Hid (MarkIx s.data.toList w (.returned (.int .i64 (-1))) w) := Lib.hid ⟨rfl, .inr ⟨rfl, HM.out⟩⟩
      go_wp2_with fail
      go_ret
      exact HX.out
end Go.Proofs.YtekahmlppaabjaaGreatDoor

/-
  Layer 13, the program's: a mark; the first token of a text.
-/
namespace Go.Proofs.YtekahmlppaabjaaGreatDoor
open Go.RowKit
theorem mark_world (s : ByteArray) (w : World) :
    (((w.alloc (.cells #[.string s] 9)).alloc (.cells (tokC Lx.no) 45)).alloc (.cells marksV.toArray 9)).cell? ⟨w.heap.size, 0, none⟩ = some (.string s) ∧
    RowV (((w.alloc (.cells #[.string s] 9)).alloc (.cells (tokC Lx.no) 45)).alloc (.cells marksV.toArray 9)) (w.heap.size + 1) 45 (tokC Lx.no).toList ∧
    RowV (((w.alloc (.cells #[.string s] 9)).alloc (.cells (tokC Lx.no) 45)).alloc (.cells marksV.toArray 9)) (w.heap.size + 2) 9 marksV ∧
    Below w.heap.size w (((w.alloc (.cells #[.string s] 9)).alloc (.cells (tokC Lx.no) 45)).alloc (.cells marksV.toArray 9)) := by
  have s1 : (w.alloc (.cells #[.string s] 9)).heap.size = w.heap.size + 1 := World.size_alloc _ _
  have s2 : ((w.alloc (.cells #[.string s] 9)).alloc (.cells (tokC Lx.no) 45)).heap.size = w.heap.size + 2 := by rw [World.size_alloc, s1]
  have r1 : RowV (w.alloc (.cells #[.string s] 9)) w.heap.size 9 [.string s] := rowV_new w _ [.string s]
  have r2 := (tok_new Lx.no (w.alloc (.cells #[.string s] 9))).1
  have r3 := rowV_new ((w.alloc (.cells #[.string s] 9)).alloc (.cells (tokC Lx.no) 45)) 9 marksV
  rw [s1] at r2
  rw [s2] at r3
  exact ⟨rowV_cell (rowV_alloc (rowV_alloc r1 _) _) 0, rowV_alloc r2 _, r3, (((Below.refl w.heap.size w).alloc (Nat.le_refl _) _).alloc (by rw [s1]; omega) _).alloc (by rw [s2]; omega) _⟩
set_option maxRecDepth 100000 in
set_option maxHeartbeats 6400000 in
theorem mark13_any (s : ByteArray) (w : World) :
    Calls Tryz.prog 31 #[.string s] w fun e w' => e = .returned (.tuple #[tokV (Lx.markT s.data.toList).1, .int .i64 ((Lx.markT s.data.toList).2.1 : Nat), .int .i64 (Lx.markT s.data.toList).2.2]) ∧ Below w.heap.size w w' := by
  obtain ⟨c0, ra, rm, hb⟩ := mark_world s w
  have s1 : (w.alloc (.cells #[.string s] 9)).heap.size = w.heap.size + 1 := World.size_alloc _ _
  have s2 : ((w.alloc (.cells #[.string s] 9)).alloc (.cells (tokC Lx.no) 45)).heap.size = w.heap.size + 2 := by rw [World.size_alloc, s1]
  have cM := marks13_any ((w.alloc (.cells #[.string s] 9)).alloc (.cells (tokC Lx.no) 45))
  rw [s2] at cM
  have cI := index13_any s w.heap.size (w.heap.size + 2) _ c0 rm
  generalize hwq : ((w.alloc (.cells #[.string s] 9)).alloc (.cells (tokC Lx.no) 45)).alloc (.cells marksV.toArray 9) = wq at *
  have H := Lib.hid (And.intro cM (And.intro cI (And.intro ra (And.intro hb rm))))
  clear cM cI hwq s1 s2 c0 ra rm hb
  go_enter Tryz.func31, Tryz.ntmps31
  go_wp2_with fail
  refine H.out.1.mono ?_
  rintro e w1 ⟨rfl, rfl⟩
  go_wp2_with fail
  refine H.out.2.1.mono ?_
  rintro e w2 ⟨hw2, hr⟩
  obtain rfl := hw2.symm; clear hw2
  rcases hr with ⟨k, hkl, rfl, hN, hP⟩ | ⟨rfl, hN⟩
  · have hp := noMark_hit hN hkl hP
    have hcq := marks_cell H.out.2.2.2.2 k hkl
    have hk16 : k < 16 := hkl
    have hp2 : Lx.markT s.data.toList = (⟨4, Lx.mk (Lx.marks[k]'hkl), 0, 0⟩, (Lx.mk (Lx.marks[k]'hkl)).size, 0) := hp.trans (by rw [mk_size])
    clear hp
    have HP := Lib.hid hp2
    generalize Lx.mk (Lx.marks[k]'hkl) = X at *
    clear hN hP hkl hp2
    have hra : RowV w1 (w.heap.size + 1) 45 (tokC Lx.no).toList := H.out.2.2.1
    have ra : RowV w1.drew (w.heap.size + 1) 45 (tokC Lx.no).toList := hra
    have hb := H.out.2.2.2.1
    go_wp2_with fail
    refine wp_region_plan (S := fun wx => wx.cell? ⟨w.heap.size + 2, k, none⟩ = some (.string X)) 11 [(true, 0), (true, 1), (true, 2), (true, 3), (true, 4), (true, 5), (true, 6), (true, 7), (true, 8), (true, 9), (false, 10)] (by kernel_rfl) (fun _ d _ _ _ h => by cases d <;> exact h) (by kernel_rfl) hcq ?_
    refine wpPlan_step (i := 0) rfl ?_
    apply Exists.intro
    refine ⟨⟨by rfl, fun wx hSx => ?_⟩, ?_⟩
    · obtain hcx := hSx
      go_simp
      with_reducible rfl
    simp only [Act.put, List.setIfInBounds_toArray, List.set_cons_zero, List.set_cons_succ]
    refine wpPlan_step (i := 1) rfl ?_
    apply Exists.intro
    refine ⟨⟨by rfl, fun wx hSx => ?_⟩, ?_⟩
    · obtain hcx := hSx
      go_simp
      with_reducible rfl
    simp only [Act.put, List.setIfInBounds_toArray, List.set_cons_zero, List.set_cons_succ]
    refine wpPlan_step (i := 2) rfl ⟨(.pointer (some ⟨w.heap.size + 2, k, none⟩)), ⟨by rfl, fun wx hSx => ?_⟩, ?_⟩
    · obtain hcx := hSx
      go_simp; try exact fun hx => absurd hx (by omega)
    simp only [Act.put, List.setIfInBounds_toArray, List.set_cons_zero, List.set_cons_succ]
    refine wpPlan_step (i := 3) rfl ⟨(.string X), ⟨by rfl, fun wx hSx => ?_⟩, ?_⟩
    · obtain hcx := hSx
      go_simp
    simp only [Act.put, List.setIfInBounds_toArray, List.set_cons_zero, List.set_cons_succ]
    refine wpPlan_step (i := 4) rfl ⟨(.agg #[.int .i64 4, .string X, .int .i64 0, .int .i64 0]), ⟨by rfl, fun wx hSx => ?_⟩, ?_⟩
    · obtain hcx := hSx
      go_simp
    simp only [Act.put, List.setIfInBounds_toArray, List.set_cons_zero, List.set_cons_succ]
    refine wpPlan_step (i := 5) rfl ?_
    apply Exists.intro
    refine ⟨⟨by rfl, fun wx hSx => ?_⟩, ?_⟩
    · obtain hcx := hSx
      go_simp
      with_reducible rfl
    simp only [Act.put, List.setIfInBounds_toArray, List.set_cons_zero, List.set_cons_succ]
    refine wpPlan_step (i := 6) rfl ?_
    apply Exists.intro
    refine ⟨⟨by rfl, fun wx hSx => ?_⟩, ?_⟩
    · obtain hcx := hSx
      go_simp
      with_reducible rfl
    simp only [Act.put, List.setIfInBounds_toArray, List.set_cons_zero, List.set_cons_succ]
    refine wpPlan_step (i := 7) rfl ⟨(.pointer (some ⟨w.heap.size + 2, k, none⟩)), ⟨by rfl, fun wx hSx => ?_⟩, ?_⟩
    · obtain hcx := hSx
      go_simp; try exact fun hx => absurd hx (by omega)
    simp only [Act.put, List.setIfInBounds_toArray, List.set_cons_zero, List.set_cons_succ]
    refine wpPlan_step (i := 8) rfl ⟨(.string X), ⟨by rfl, fun wx hSx => ?_⟩, ?_⟩
    · obtain hcx := hSx
      go_simp
    simp only [Act.put, List.setIfInBounds_toArray, List.set_cons_zero, List.set_cons_succ]
    refine wpPlan_step (i := 9) rfl ⟨(.int .i64 (X.size : Int)), ⟨by rfl, fun wx hSx => ?_⟩, ?_⟩
    · obtain hcx := hSx
      go_simp
    simp only [Act.put, List.setIfInBounds_toArray, List.set_cons_zero, List.set_cons_succ]
    have r4 := rowV_row ra [.int .i64 4, .string X, .int .i64 0, .int .i64 0]
    have o4 : Only (fun j => j = w.heap.size + 1) w1.drew (w1.drew.setRow (w.heap.size + 1) [.int .i64 4, .string X, .int .i64 0, .int .i64 0].toArray) := ⟨rfl, rfl, rfl, by simp [World.setRow], fun j _ hj => setRow_far _ _ j _ hj⟩
    refine wpPlan_keep (i := 10) rfl (by rfl) fun K hK => wp_store_row 45 (.tmp 2) (.tmp 18) rfl (w.heap.size + 1) #[.int .i64 4, .string X, .int .i64 0, .int .i64 0] rfl rfl 45 _ ra info_tok rfl tok_one4 (hK _ _ ((o4.cell (World.block_lt_of_cell? _ _ hcq) (by show ¬ w.heap.size + 2 = w.heap.size + 1; omega)).trans hcq) ?_)
    simp only [Act.put]
    have hb4 := Lib.hid ((hb.trans (Below.refl w.heap.size w1).drew).trans ((o4.below (B := w.heap.size) (fun j _ e => by omega) (by have := rowV_lt ra; omega))))
    have HR4 := Lib.hid r4
    clear hra ra hb r4 o4
    show wpList _ _ _ _ _ _
    simp only [List.drop_succ_cons, List.drop_zero]
    go_wp2_with fail
    rw [HP.out]
    exact bodyPost_ret (v := .tuple #[tokV ⟨4, X, 0, 0⟩, .int .i64 (X.size : Int), .int .i64 0]) (results_tok (p := 2) (u := 3) (x := 4) rfl _ _ (w.heap.size + 1) ⟨4, X, 0, 0⟩ rfl HR4.out) rfl ⟨rfl, hb4.out⟩
  · have HE := Lib.hid (noMark_end hN)
    obtain ⟨a0, a1, a2, a3, g0, g1, g2, g3⟩ := tok_cells H.out.2.2.1
    clear hN
    go_wp2_with fail
    rw [HE.out]
    refine bodyPost_ret (v := .tuple #[tokV Lx.no, .int .i64 0, .int .i64 11]) (results_tok (p := 2) (u := 3) (x := 4) rfl _ _ (w.heap.size + 1) Lx.no rfl (tok_put (v := Lx.no) H.out.2.2.1 0 Vl.mt 0 0).1) rfl ⟨rfl, ?_⟩
    exact H.out.2.2.2.1.trans ((tok_put (v := Lx.no) H.out.2.2.1 0 Vl.mt 0 0).2 _ (Nat.le_succ _))
theorem one_mt : Lx.one [] = (Lx.no, 0, 11) := rfl
set_option maxRecDepth 100000 in
set_option maxHeartbeats 6400000 in
theorem first13_any (s : ByteArray) (w : World) (hs : s.size ≤ 1000000) (hE : ErrR w) :
    Calls Tryz.prog 17 #[.string s] w fun e w' => e = .returned (.tuple #[tokV (Lx.one s.data.toList).1, .int .i64 ((Lx.one s.data.toList).2.1 : Nat), .int .i64 (Lx.one s.data.toList).2.2]) ∧ Below w.heap.size w w' := by
  obtain ⟨r0, b0, s0⟩ := tok_new Lx.no w
  have hE1 := errR_below hE b0
  clear hE
  by_cases h0 : 0 < s.size
  · have hone := Lx.one_cons s[0] (s.data.toList.drop 1)
    rw [← drop_next s 0 h0, List.drop_zero] at hone
    rw [hone]
    clear hone
    have e0 : (s.toList == []) = false := by
      have hl : s.toList.length = s.size := by rw [ByteArray.toList_eq, Array.length_toList]; rfl
      cases hh : s.toList with
      | nil => rw [hh] at hl; simp at hl; omega
      | cons a l => rfl
    have e1 : s.toList.isEmpty = false := by simpa using e0
    clear e0
    have cL := fun w => letter13_any s[0] w
    have cD := fun w => digit13_any s[0] w
    have hsm : s.size ≤ maxLen := by unfold maxLen; omega
    cases hL : Lx.letter s[0] with
    | true =>
      rw [hL] at cL
      rw [if_pos rfl]
      have cN := fun w => name13_any s w hsm h0 hL
      generalize (Lx.nameT s.data.toList).2.1 = N at *
      generalize (Lx.nameT s.data.toList).2.2 = E at *
      generalize (Lx.nameT s.data.toList).1 = V at *
      have H := Lib.hid (And.intro (And.intro cL cN) (And.intro r0 (And.intro b0 s0)))
      clear cL cD cN r0 b0 s0 hL hsm hE1
      go_enter Tryz.func17, Tryz.ntmps17
      go_wp2_with (first | (go_at_call 26; refine (H.out.1.1 _).mono ?_; rintro e w1 ⟨rfl, rfl⟩))
      refine (H.out.1.2 _).mono ?_
      rintro e w2 ⟨rfl, hb2⟩
      have ra := rowV_below H.out.2.1 hb2 (by rw [World.size_alloc]; omega)
      have hb := H.out.2.2.1.trans (hb2.mono (by rw [World.size_alloc]; omega))
      obtain ⟨tk, ts, tn, ta⟩ := V
      obtain ⟨a0, a1, a2, a3, g0, g1, g2, g3⟩ := tok_cells ra
      have L := Lib.hid (And.intro ra hb)
      clear ra hb hb2
      go_wp2_with fail
      refine bodyPost_ret (v := .tuple #[tokV ⟨tk, ts, tn, ta⟩, .int .i64 (N : Int), .int .i64 E]) (results_tok (p := 2) (u := 3) (x := 4) rfl _ _ w.heap.size ⟨tk, ts, tn, ta⟩ rfl (tok_put (v := Lx.no) L.out.1 tk ts tn ta).1) rfl ⟨rfl, ?_⟩
      exact L.out.2.trans ((tok_put L.out.1 tk ts tn ta).2 _ (Nat.le_refl _))
    | false =>
      rw [hL] at cL
      rw [if_neg (by simp)]
      cases hD : Lx.digit s[0] with
      | true =>
        rw [hD] at cD
        rw [if_pos rfl]
        have cN := number13_any s (w.alloc (.cells (tokC Lx.no) 45)) hs h0 hD hE1
        generalize (Lx.numT s.data.toList).2.1 = N at *
        generalize (Lx.numT s.data.toList).2.2 = E at *
        generalize (Lx.numT s.data.toList).1 = V at *
        have H := Lib.hid (And.intro (And.intro cL (And.intro cD cN)) (And.intro r0 (And.intro b0 s0)))
        clear cL cD cN r0 b0 s0 hL hsm hD hE1
        go_enter Tryz.func17, Tryz.ntmps17
        go_wp2_with (first | (go_at_call 26; refine (H.out.1.1 _).mono ?_; rintro e w1 ⟨rfl, rfl⟩) | (go_at_call 28; refine (H.out.1.2.1 _).mono ?_; rintro e w1 ⟨rfl, rfl⟩))
        refine H.out.1.2.2.mono ?_
        rintro e w2 ⟨rfl, hb2⟩
        have ra := rowV_below H.out.2.1 hb2 (by rw [World.size_alloc]; omega)
        have hb := H.out.2.2.1.trans (hb2.mono (by rw [World.size_alloc]; omega))
        obtain ⟨tk, ts, tn, ta⟩ := V
        obtain ⟨a0, a1, a2, a3, g0, g1, g2, g3⟩ := tok_cells ra
        have L := Lib.hid (And.intro ra hb)
        clear ra hb hb2
        go_wp2_with fail
        refine bodyPost_ret (v := .tuple #[tokV ⟨tk, ts, tn, ta⟩, .int .i64 (N : Int), .int .i64 E]) (results_tok (p := 2) (u := 3) (x := 4) rfl _ _ w.heap.size ⟨tk, ts, tn, ta⟩ rfl (tok_put (v := Lx.no) L.out.1 tk ts tn ta).1) rfl ⟨rfl, ?_⟩
        exact L.out.2.trans ((tok_put L.out.1 tk ts tn ta).2 _ (Nat.le_refl _))
      | false =>
        rw [hD] at cD
        rw [if_neg (by simp)]
        by_cases h34 : s[0] = 34
        · rw [if_pos h34]
          have t1 : ((s[0].toNat : Int) == 34) = true := by rw [h34]; rfl
          have cN := fun w => text13_any s w hs
          generalize (Lx.txtT s.data.toList).2.1 = N at *
          generalize (Lx.txtT s.data.toList).2.2 = E at *
          generalize (Lx.txtT s.data.toList).1 = V at *
          have H := Lib.hid (And.intro (And.intro cL (And.intro cD cN)) (And.intro r0 (And.intro b0 s0)))
          clear cL cD cN r0 b0 s0 hL hsm hD h34 hE1
          go_enter Tryz.func17, Tryz.ntmps17
          go_wp2_with (first | (go_at_call 26; refine (H.out.1.1 _).mono ?_; rintro e w1 ⟨rfl, rfl⟩) | (go_at_call 28; refine (H.out.1.2.1 _).mono ?_; rintro e w1 ⟨rfl, rfl⟩))
          refine (H.out.1.2.2 _).mono ?_
          rintro e w2 ⟨rfl, hb2⟩
          have ra := rowV_below H.out.2.1 hb2 (by rw [World.size_alloc]; omega)
          have hb := H.out.2.2.1.trans (hb2.mono (by rw [World.size_alloc]; omega))
          obtain ⟨tk, ts, tn, ta⟩ := V
          obtain ⟨a0, a1, a2, a3, g0, g1, g2, g3⟩ := tok_cells ra
          have L := Lib.hid (And.intro ra hb)
          clear ra hb hb2
          go_wp2_with fail
          refine bodyPost_ret (v := .tuple #[tokV ⟨tk, ts, tn, ta⟩, .int .i64 (N : Int), .int .i64 E]) (results_tok (p := 2) (u := 3) (x := 4) rfl _ _ w.heap.size ⟨tk, ts, tn, ta⟩ rfl (tok_put (v := Lx.no) L.out.1 tk ts tn ta).1) rfl ⟨rfl, ?_⟩
          exact L.out.2.trans ((tok_put L.out.1 tk ts tn ta).2 _ (Nat.le_refl _))
        · rw [if_neg h34]
          have t1 : ((s[0].toNat : Int) == 34) = false := by
            have : ¬ s[0].toNat = 34 := fun e => h34 (UInt8.toNat_inj.1 e)
            simp; omega
          have cN := fun w => mark13_any s w
          generalize (Lx.markT s.data.toList).2.1 = N at *
          generalize (Lx.markT s.data.toList).2.2 = E at *
          generalize (Lx.markT s.data.toList).1 = V at *
          have H := Lib.hid (And.intro (And.intro cL (And.intro cD cN)) (And.intro r0 (And.intro b0 s0)))
          clear cL cD cN r0 b0 s0 hL hsm hD h34 hE1
          go_enter Tryz.func17, Tryz.ntmps17
          go_wp2_with (first | (go_at_call 26; refine (H.out.1.1 _).mono ?_; rintro e w1 ⟨rfl, rfl⟩) | (go_at_call 28; refine (H.out.1.2.1 _).mono ?_; rintro e w1 ⟨rfl, rfl⟩))
          refine (H.out.1.2.2 _).mono ?_
          rintro e w2 ⟨rfl, hb2⟩
          have ra := rowV_below H.out.2.1 hb2 (by rw [World.size_alloc]; omega)
          have hb := H.out.2.2.1.trans (hb2.mono (by rw [World.size_alloc]; omega))
          obtain ⟨tk, ts, tn, ta⟩ := V
          obtain ⟨a0, a1, a2, a3, g0, g1, g2, g3⟩ := tok_cells ra
          have L := Lib.hid (And.intro ra hb)
          clear ra hb hb2
          go_wp2_with fail
          refine bodyPost_ret (v := .tuple #[tokV ⟨tk, ts, tn, ta⟩, .int .i64 (N : Int), .int .i64 E]) (results_tok (p := 2) (u := 3) (x := 4) rfl _ _ w.heap.size ⟨tk, ts, tn, ta⟩ rfl (tok_put (v := Lx.no) L.out.1 tk ts tn ta).1) rfl ⟨rfl, ?_⟩
          exact L.out.2.trans ((tok_put L.out.1 tk ts tn ta).2 _ (Nat.le_refl _))
  · have hm : s = Vl.mt := by
      apply Sl.ba_ext
      exact List.eq_nil_of_length_eq_zero (by rw [Array.length_toList]; show s.size = 0; omega)
    subst hm
    have H := Lib.hid (And.intro r0 b0)
    clear r0 b0 s0 hE1
    go_enter Tryz.func17, Tryz.ntmps17
    go_wp2_with fail
    exact bodyPost_ret (v := .tuple #[tokV Lx.no, .int .i64 0, .int .i64 11]) (results_tok (p := 2) (u := 3) (x := 4) rfl _ _ w.heap.size Lx.no rfl H.out.1) rfl ⟨rfl, H.out.2⟩
end Go.Proofs.YtekahmlppaabjaaGreatDoor

/-
  Closed facts of the translation that more than one text uses.
-/
namespace Go.Proofs.YtekahmlppaabjaaGreatDoor
open Go.RowKit
theorem Tryz.info5 : (Tryz.prog.info? 5).map (fun i => (i.zero, i.size, i.bytes)) = some (some (.int .u8 0), 1, 1) := by kernel_rfl
end Go.Proofs.YtekahmlppaabjaaGreatDoor
