/-
  Layer 13, the program's: letters, digits, runs of bytes, names.
-/
import Derived.Test.YtmpfnokddpbgcaaDoorZLexRef
import Derived.Test.YtmpfnokddpbgcaaDoorZLexAto
import Derived.Shelf.Abstract
namespace Go.Proofs.YtmpfnokddpbgcaaDoor
open Go.RowKit
set_option maxRecDepth 100000 in
theorem digit13_any (c : UInt8) (w : World) : Calls Tryd.prog 29 #[.int .u8 (c.toNat : Int)] w fun e w' => e = .returned (.bool (Lx.digit c)) ∧ w' = w := by
  have hc := c.toNat_lt
  by_cases h1 : (c.toNat : Int) ≥ 48
  · go_enter Tryd.func29, Tryd.ntmps29
    go_wp2_with fail
    go_ret
    exact ⟨ret_bool (by unfold Lx.digit; rw [decide_eq_true (show 48 ≤ c.toNat by omega), Bool.true_and]; exact decide_eq_decide.2 (by omega)), rfl⟩
  · go_enter Tryd.func29, Tryd.ntmps29
    go_wp2_with fail
    go_ret
    exact ⟨ret_bool (by unfold Lx.digit; rw [decide_eq_false (show ¬ 48 ≤ c.toNat by omega), Bool.false_and]), rfl⟩
set_option maxRecDepth 100000 in
set_option maxHeartbeats 1600000 in
theorem letter13_any (c : UInt8) (w : World) : Calls Tryd.prog 27 #[.int .u8 (c.toNat : Int)] w fun e w' => e = .returned (.bool (Lx.letter c)) ∧ w' = w := by
  have hc := c.toNat_lt
  by_cases h0 : c.toNat = 95
  · rw [letter_yes (.inr (.inr h0))]
    have t0 : ((c.toNat : Int) == 95) = true := by rw [h0]; rfl
    clear h0
    go_enter Tryd.func27, Tryd.ntmps27
    go_wp2_with fail
    go_ret
    exact ⟨rfl, rfl⟩
  · have t0 : ((c.toNat : Int) == 95) = false := by simp; omega
    by_cases h1 : 97 ≤ c.toNat ∧ c.toNat ≤ 122
    · rw [letter_yes (.inl h1)]
      have g1 : decide (97 ≤ (c.toNat : Int)) = true := decide_eq_true (by omega)
      have g2 : decide ((c.toNat : Int) ≤ 122) = true := decide_eq_true (by omega)
      clear h1 h0
      go_enter Tryd.func27, Tryd.ntmps27
      go_wp2_with fail
      go_ret
      exact ⟨rfl, rfl⟩
    · have g1 : decide (97 ≤ (c.toNat : Int)) = false ∨ (decide (97 ≤ (c.toNat : Int)) = true ∧ decide ((c.toNat : Int) ≤ 122) = false) := by
        by_cases h : 97 ≤ c.toNat
        · exact .inr ⟨decide_eq_true (by omega), decide_eq_false (by omega)⟩
        · exact .inl (decide_eq_false (by omega))
      by_cases h2 : 65 ≤ c.toNat ∧ c.toNat ≤ 90
      · rw [letter_yes (.inr (.inl h2))]
        have g2 : decide (65 ≤ (c.toNat : Int)) = true := decide_eq_true (by omega)
        have g3 : decide ((c.toNat : Int) ≤ 90) = true := decide_eq_true (by omega)
        clear h1 h2 h0
        rcases g1 with g1 | ⟨g1, g1'⟩
        all_goals go_enter Tryd.func27, Tryd.ntmps27
        all_goals go_wp2_with fail
        all_goals go_ret
        all_goals exact ⟨rfl, rfl⟩
      · have g2 : decide (65 ≤ (c.toNat : Int)) = false ∨ (decide (65 ≤ (c.toNat : Int)) = true ∧ decide ((c.toNat : Int) ≤ 90) = false) := by
          by_cases h : 65 ≤ c.toNat
          · exact .inr ⟨decide_eq_true (by omega), decide_eq_false (by omega)⟩
          · exact .inl (decide_eq_false (by omega))
        rw [letter_no (c := c) (by omega)]
        clear h1 h2 h0
        rcases g1 with g1 | ⟨g1, g1'⟩ <;> rcases g2 with g2 | ⟨g2, g2'⟩
        all_goals go_enter Tryd.func27, Tryd.ntmps27
        all_goals go_wp2_with fail
        all_goals go_ret
        all_goals exact ⟨rfl, rfl⟩
set_option maxRecDepth 100000 in
theorem inName13_any (c : UInt8) (w : World) : Calls Tryd.prog 45 #[.int .u8 (c.toNat : Int)] w fun e w' => e = .returned (.bool (Lx.inName c)) ∧ w' = w := by
  have cL := fun w => letter13_any c w
  have cD := fun w => digit13_any c w
  unfold Lx.inName
  cases hL : Lx.letter c with
  | true =>
    rw [hL] at cL
    have H := Lib.hid cL
    clear cL cD hL
    go_enter Tryd.func45, Tryd.ntmps45
    go_wp2_with (go_at_call 27; refine (H.out _).mono ?_; rintro e w1 ⟨rfl, rfl⟩)
    go_ret
    exact ⟨rfl, rfl⟩
  | false =>
    rw [hL] at cL
    generalize Lx.digit c = D at *
    have H := Lib.hid (And.intro cL cD)
    clear cL cD hL
    go_enter Tryd.func45, Tryd.ntmps45
    go_wp2_with (first | (go_at_call 27; refine (H.out.1 _).mono ?_; rintro e w1 ⟨rfl, rfl⟩) | (go_at_call 29; refine (H.out.2 _).mono ?_; rintro e w1 ⟨rfl, rfl⟩))
    go_ret
    exact ⟨rfl, rfl⟩
/-! runs -/
def RunTo (p : UInt8 → Bool) (s : ByteArray) (k : Nat) : Prop := (s.data.toList.takeWhile p).length = k + ((s.data.toList.drop k).takeWhile p).length
theorem runTo_start (p : UInt8 → Bool) (s : ByteArray) : RunTo p s 0 := by unfold RunTo; simp
theorem runTo_all {p : UInt8 → Bool} {s : ByteArray} {k : Nat} (h : RunTo p s k) (hk : k = s.size) : (s.data.toList.takeWhile p).length = k := by
  unfold RunTo at h
  rw [h, List.drop_eq_nil_of_le (by rw [Array.length_toList]; show s.size ≤ k; omega)]; rfl
theorem runTo_end {p : UInt8 → Bool} {s : ByteArray} {k : Nat} (h : RunTo p s k) (hk : k < s.size) (hc : p s[k] = false) : (s.data.toList.takeWhile p).length = k := by
  have hl : k < s.data.toList.length := by simpa using hk
  unfold RunTo at h
  rw [h, Oct.drop_at _ _ hl, show s.data.toList[k] = s[k] from rfl, List.takeWhile_cons, hc]; rfl
theorem runTo_next {p : UInt8 → Bool} {s : ByteArray} {k : Nat} (h : RunTo p s k) (hk : k < s.size) (hc : p s[k] = true) : RunTo p s (k + 1) := by
  have hl : k < s.data.toList.length := by simpa using hk
  unfold RunTo at h ⊢
  rw [h, Oct.drop_at _ _ hl, show s.data.toList[k] = s[k] from rfl, List.takeWhile_cons, hc]
  simp only [if_true, List.length_cons]; omega
set_option maxRecDepth 100000 in
set_option maxHeartbeats 1600000 in
theorem run13_any (F : Nat) (p : UInt8 → Bool) (hF : ∀ args w, (callFunc F args).run Tryd.prog w = .ok (.enter F args) w)
    (hp : ∀ (c : UInt8) (w : World), Calls Tryd.prog F #[.int .u8 (c.toNat : Int)] w fun e w' => e = .returned (.bool (p c)) ∧ w' = w) (s : ByteArray) (w : World) (hs : s.size ≤ maxLen) :
    Calls Tryd.prog 44 #[.string s, .func (.func F) #[] #[]] w fun e w' => e = .returned (.int .i64 ((s.data.toList.takeWhile p).length : Nat)) ∧ w' = w := by
  unfold maxLen at hs
  go_enter Tryd.func44, Tryd.ntmps44
  go_wp2
  go_loop [5] (fun i => ∃ k : Nat, i = .int .i64 (k : Int) ∧ k ≤ s.size ∧ Hid (RunTo p s k)) (fun i => s.size - (intOf i).toNat)
  case atStart => exact ⟨0, rfl, Nat.zero_le _, Lib.hid (runTo_start p s)⟩
  case round =>
    obtain ⟨k, rfl, hle, HW⟩ := hrel
    by_cases hlt : k < s.size
    · have cP := fun w => hp s[k] w
      cases hL : p s[k] with
      | true =>
        rw [hL] at cP
        have HN := Lib.hid (runTo_next HW.out hlt hL)
        have HC := Lib.hid cP
        clear cP hL hp
        go_wp2_with (go_at_fn F; refine (HC.out _).mono ?_; rintro e w1 ⟨rfl, rfl⟩)
        go_round
        case rel => exact ⟨k + 1, by go_num, by omega, HN⟩
        case measure => simp [intOf]; omega
      | false =>
        rw [hL] at cP
        have HE := Lib.hid (runTo_end HW.out hlt hL)
        have HC := Lib.hid cP
        clear cP hL hp
        go_wp2_with (go_at_fn F; refine (HC.out _).mono ?_; rintro e w1 ⟨rfl, rfl⟩)
        go_ret
        exact ⟨ret_int (by rw [HE.out]), rfl⟩
    · have HE := Lib.hid (runTo_all HW.out (by omega))
      clear hp
      go_wp2_with fail
      go_ret
      exact ⟨ret_int (by rw [HE.out]), rfl⟩
theorem enter_inName (args : Array Value) (w : World) : (callFunc 45 args).run Tryd.prog w = .ok (.enter 45 args) w := by kernel_rfl
theorem enter_digit (args : Array Value) (w : World) : (callFunc 29 args).run Tryd.prog w = .ok (.enter 29 args) w := by kernel_rfl
theorem run13_name (s : ByteArray) (w : World) (hs : s.size ≤ maxLen) :
    Calls Tryd.prog 44 #[.string s, .func (.func 45) #[] #[]] w fun e w' => e = .returned (.int .i64 ((s.data.toList.takeWhile Lx.inName).length : Nat)) ∧ w' = w :=
  run13_any _ _ enter_inName inName13_any s w hs
theorem run13_digit (s : ByteArray) (w : World) (hs : s.size ≤ maxLen) :
    Calls Tryd.prog 44 #[.string s, .func (.func 29) #[] #[]] w fun e w' => e = .returned (.int .i64 ((Lx.digs s.data.toList).length : Nat)) ∧ w' = w :=
  run13_any _ _ enter_digit digit13_any s w hs
/-! names -/
theorem nameT_run {s : ByteArray} (h0 : 0 < s.size) (hL : Lx.letter s[0] = true) : Lx.word false s.data.toList = (s.data.toList.takeWhile Lx.inName).length := by
  have hl : 0 < s.data.toList.length := by simpa using h0
  have e := Oct.drop_at s.data.toList 0 hl
  rw [List.drop_zero] at e
  rw [e]
  exact Lx.word_run hL
set_option maxRecDepth 100000 in
set_option maxHeartbeats 1600000 in
theorem name13_any (s : ByteArray) (w : World) (hs : s.size ≤ maxLen) (h0 : 0 < s.size) (hL : Lx.letter s[0] = true) :
    Calls Tryd.prog 28 #[.string s] w fun e w' => e = .returned (.tuple #[tokV (Lx.nameT s.data.toList).1, .int .i64 ((Lx.nameT s.data.toList).2.1 : Nat), .int .i64 (Lx.nameT s.data.toList).2.2]) ∧ Below w.heap.size w w' := by
  have cW := fun w => run13_name s w hs
  rw [← nameT_run h0 hL] at cW
  have hle := Lx.word_le false s.data.toList
  rw [Array.length_toList] at hle
  have hle2 : Lx.word false s.data.toList ≤ s.size := hle
  have hx := take_list s (Lx.word false s.data.toList)
  unfold Lx.nameT
  by_cases h16 : 16 < Lx.word false s.data.toList
  · rw [if_pos h16]
    simp only
    obtain ⟨r0, b0, s0⟩ := tok_new Lx.no w
    generalize Lx.word false s.data.toList = k at *
    obtain ⟨a0, a1, a2, a3, g0, g1, g2, g3⟩ := tok_cells r0
    have H := Lib.hid (And.intro cW (And.intro r0 (And.intro b0 s0)))
    clear cW r0 b0 s0 hx hle hL
    go_enter Tryd.func28, Tryd.ntmps28
    go_wp2_with (go_at_call 44; refine (H.out.1 _).mono ?_; rintro e w1 ⟨rfl, rfl⟩)
    exact bodyPost_ret (v := .tuple #[tokV Lx.no, .int .i64 0, .int .i64 5]) (results_tok (p := 2) (u := 3) (x := 4) rfl _ _ w.heap.size Lx.no rfl H.out.2.1) rfl ⟨rfl, H.out.2.2.1⟩
  · rw [if_neg h16]
    simp only
    rw [← hx]
    generalize Lx.word false s.data.toList = k at *
    obtain ⟨X, hX⟩ : ∃ X, X = s.extract 0 k := ⟨_, rfl⟩
    obtain ⟨r0, b0, s0⟩ := tok_new ⟨1, X, 0, 0⟩ w
    rw [← hX]
    have H := Lib.hid (And.intro cW (And.intro r0 (And.intro b0 s0)))
    have HX := Lib.hid hX
    clear cW r0 b0 s0 hx hle hX hL
    go_enter Tryd.func28, Tryd.ntmps28
    go_wp2_with (go_at_call 44; refine (H.out.1 _).mono ?_; rintro e w1 ⟨rfl, rfl⟩)
    rw [← HX.out]
    exact bodyPost_ret (v := .tuple #[tokV ⟨1, X, 0, 0⟩, .int .i64 (k : Int), .int .i64 0]) (results_tok (p := 2) (u := 3) (x := 4) rfl _ _ w.heap.size ⟨1, X, 0, 0⟩ rfl H.out.2.1) rfl ⟨rfl, H.out.2.2.1⟩
end Go.Proofs.YtmpfnokddpbgcaaDoor
