/-
  Layer 13: the document's first token of a text: letters, digits, names, numbers.
-/
import Derived.Test.YtmpfnokddpbgcaaDoorZLexBox
import Derived.Deep.Cut
import Derived.IntWalk
namespace Go.Proofs.YtmpfnokddpbgcaaDoor
open Go.RowKit
set_option maxRecDepth 100000 in
theorem rdigit13_any (c : UInt8) (w : World) : Calls Tryd.prog 35 #[.int .u8 (c.toNat : Int)] w fun e w' => e = .returned (.bool (Lx.digit c)) ∧ w' = w := by
  have hc := c.toNat_lt
  by_cases h1 : (c.toNat : Int) ≥ 48
  · go_enter Tryd.func35, Tryd.ntmps35
    go_wp2_with fail
    go_ret
    exact ⟨ret_bool (by unfold Lx.digit; rw [decide_eq_true (show 48 ≤ c.toNat by omega), Bool.true_and]; exact decide_eq_decide.2 (by omega)), rfl⟩
  · go_enter Tryd.func35, Tryd.ntmps35
    go_wp2_with fail
    go_ret
    exact ⟨ret_bool (by unfold Lx.digit; rw [decide_eq_false (show ¬ 48 ≤ c.toNat by omega), Bool.false_and]), rfl⟩
theorem letter_yes {c : UInt8} (h : (97 ≤ c.toNat ∧ c.toNat ≤ 122) ∨ (65 ≤ c.toNat ∧ c.toNat ≤ 90) ∨ c.toNat = 95) : Lx.letter c = true := by
  unfold Lx.letter; simp; omega
theorem letter_no {c : UInt8} (h : ¬ ((97 ≤ c.toNat ∧ c.toNat ≤ 122) ∨ (65 ≤ c.toNat ∧ c.toNat ≤ 90) ∨ c.toNat = 95)) : Lx.letter c = false := by
  unfold Lx.letter; simp; omega
set_option maxRecDepth 100000 in
set_option maxHeartbeats 1600000 in
theorem rletter13_any (c : UInt8) (w : World) : Calls Tryd.prog 33 #[.int .u8 (c.toNat : Int)] w fun e w' => e = .returned (.bool (Lx.letter c)) ∧ w' = w := by
  have hc := c.toNat_lt
  by_cases h1 : 97 ≤ c.toNat ∧ c.toNat ≤ 122
  · rw [letter_yes (.inl h1)]
    have g1 : (c.toNat : Int) ≥ 97 := by omega
    have g2 : (c.toNat : Int) ≤ 122 := by omega
    clear h1
    go_enter Tryd.func33, Tryd.ntmps33
    go_wp2_with fail
    go_ret
    exact ⟨rfl, rfl⟩
  · have g1 : decide (97 ≤ (c.toNat : Int)) = false ∨ (decide (97 ≤ (c.toNat : Int)) = true ∧ decide ((c.toNat : Int) ≤ 122) = false) := by
      by_cases h : 97 ≤ c.toNat
      · exact .inr ⟨decide_eq_true (by omega), decide_eq_false (by omega)⟩
      · exact .inl (decide_eq_false (by omega))
    by_cases h2 : 65 ≤ c.toNat ∧ c.toNat ≤ 90
    · rw [letter_yes (.inr (.inl h2))]
      have g2 : decide (65 ≤ (c.toNat : Int)) = true := decide_eq_true (by omega)
      have g3 : decide ((c.toNat : Int) ≤ 90) = true := decide_eq_true (by omega)
      clear h1 h2
      rcases g1 with g1 | ⟨g1, g1'⟩
      · go_enter Tryd.func33, Tryd.ntmps33
        go_wp2_with fail
        go_ret
        exact ⟨rfl, rfl⟩
      · go_enter Tryd.func33, Tryd.ntmps33
        go_wp2_with fail
        go_ret
        exact ⟨rfl, rfl⟩
    · have g2 : decide (65 ≤ (c.toNat : Int)) = false ∨ (decide (65 ≤ (c.toNat : Int)) = true ∧ decide ((c.toNat : Int) ≤ 90) = false) := by
        by_cases h : 65 ≤ c.toNat
        · exact .inr ⟨decide_eq_true (by omega), decide_eq_false (by omega)⟩
        · exact .inl (decide_eq_false (by omega))
      have g3 : Lx.letter c = ((c.toNat : Int) == 95) := by
        by_cases h : c.toNat = 95
        · rw [letter_yes (.inr (.inr h)), h]; rfl
        · rw [letter_no (by omega)]; symm; simp; omega
      rw [g3]
      clear h1 h2 g3
      rcases g1 with g1 | ⟨g1, g1'⟩ <;> rcases g2 with g2 | ⟨g2, g2'⟩
      all_goals go_enter Tryd.func33, Tryd.ntmps33
      all_goals go_wp2_with fail
      all_goals go_ret
      all_goals exact ⟨rfl, rfl⟩
/-! words -/
theorem Lx.word_end (b : Bool) {c : UInt8} (r : List UInt8) (h : (Lx.letter c || (b && Lx.digit c)) = false) : Lx.word b (c :: r) = 0 := by rw [Lx.word, h]; simp
theorem Lx.word_next (b : Bool) {c : UInt8} (r : List UInt8) (h : (Lx.letter c || (b && Lx.digit c)) = true) : Lx.word b (c :: r) = Lx.word true r + 1 := by rw [Lx.word, if_pos h]
/-- k bytes of the word are told -/
def WordTo (s : ByteArray) (k : Nat) : Prop := Lx.word false s.data.toList = k + Lx.word (decide (0 < k)) (s.data.toList.drop k)
theorem wordTo_start (s : ByteArray) : WordTo s 0 := by unfold WordTo; simp
theorem wordTo_all {s : ByteArray} {k : Nat} (h : WordTo s k) (hk : k = s.size) : Lx.word false s.data.toList = k := by
  unfold WordTo at h
  rw [h, List.drop_eq_nil_of_le (by rw [Array.length_toList]; show s.size ≤ k; omega)]; rfl
theorem wordTo_end {s : ByteArray} {k : Nat} (h : WordTo s k) (hk : k < s.size) (hc : (Lx.letter s[k] || (decide (0 < k) && Lx.digit s[k])) = false) : Lx.word false s.data.toList = k := by
  have hl : k < s.data.toList.length := by simpa using hk
  unfold WordTo at h
  rw [h, Oct.drop_at _ _ hl, show s.data.toList[k] = s[k] from rfl, Lx.word_end _ _ hc]; rfl
theorem wordTo_next {s : ByteArray} {k : Nat} (h : WordTo s k) (hk : k < s.size) (hc : (Lx.letter s[k] || (decide (0 < k) && Lx.digit s[k])) = true) : WordTo s (k + 1) := by
  have hl : k < s.data.toList.length := by simpa using hk
  unfold WordTo at h ⊢
  rw [h, Oct.drop_at _ _ hl, show s.data.toList[k] = s[k] from rfl, Lx.word_next _ _ hc, decide_eq_true (show 0 < k + 1 by omega)]
  omega
set_option maxRecDepth 100000 in
set_option maxHeartbeats 1600000 in
theorem rword13_any (s : ByteArray) (w : World) (hs : s.size ≤ maxLen) :
    Calls Tryd.prog 20 #[.string s] w fun e w' => e = .returned (.int .i64 (Lx.word false s.data.toList : Nat)) ∧ w' = w := by
  unfold maxLen at hs
  go_enter Tryd.func20, Tryd.ntmps20
  go_wp2
  go_loop [3] (fun i => ∃ k : Nat, i = .int .i64 (k : Int) ∧ k ≤ s.size ∧ Hid (WordTo s k)) (fun i => s.size - (intOf i).toNat)
  case atStart => exact ⟨0, rfl, Nat.zero_le _, Lib.hid (wordTo_start s)⟩
  case round =>
    obtain ⟨k, rfl, hle, HW⟩ := hrel
    by_cases hlt : k < s.size
    · have cL := fun w => rletter13_any s[k] w
      have cD := fun w => rdigit13_any s[k] w
      have hE := fun h => wordTo_end HW.out hlt h
      have hN := fun h => wordTo_next HW.out hlt h
      cases hL : Lx.letter s[k] with
      | true =>
        rw [hL] at cL hN
        have HN := Lib.hid (hN (by simp))
        have HC := Lib.hid cL
        clear cL cD hE hN hL
        go_wp2_with (go_at_call 33; refine (HC.out _).mono ?_; rintro e w1 ⟨rfl, rfl⟩)
        go_round
        case rel => exact ⟨k + 1, by go_num, by omega, HN⟩
        case measure => simp [intOf]; omega
      | false =>
        rw [hL] at cL hN hE
        by_cases h0 : (k : Int) > 0
        · have hk : decide (0 < k) = true := decide_eq_true (by omega)
          rw [hk] at hN hE
          cases hD : Lx.digit s[k] with
          | true =>
            rw [hD] at cD hN
            have HN := Lib.hid (hN (by simp))
            have HC := Lib.hid (And.intro cL cD)
            clear cL cD hE hN hL hD hk
            go_wp2_with (first | (go_at_call 33; refine (HC.out.1 _).mono ?_; rintro e w1 ⟨rfl, rfl⟩) | (go_at_call 35; refine (HC.out.2 _).mono ?_; rintro e w1 ⟨rfl, rfl⟩))
            go_round
            case rel => exact ⟨k + 1, by go_num, by omega, HN⟩
            case measure => simp [intOf]; omega
          | false =>
            rw [hD] at cD hE
            have HE := Lib.hid (hE (by simp))
            have HC := Lib.hid (And.intro cL cD)
            clear cL cD hE hN hL hD hk
            go_wp2_with (first | (go_at_call 33; refine (HC.out.1 _).mono ?_; rintro e w1 ⟨rfl, rfl⟩) | (go_at_call 35; refine (HC.out.2 _).mono ?_; rintro e w1 ⟨rfl, rfl⟩))
            go_ret
            exact ⟨ret_int (by rw [HE.out]), rfl⟩
        · have hk : decide (0 < k) = false := decide_eq_false (by omega)
          rw [hk] at hE
          have HE := Lib.hid (hE (by simp))
          have HC := Lib.hid cL
          clear cL cD hE hN hL hk
          go_wp2_with (go_at_call 33; refine (HC.out _).mono ?_; rintro e w1 ⟨rfl, rfl⟩)
          go_ret
          exact ⟨ret_int (by rw [HE.out]), rfl⟩
    · have HE := Lib.hid (wordTo_all HW.out (by omega))
      go_wp2_with fail
      go_ret
      exact ⟨ret_int (by rw [HE.out]), rfl⟩
/-! names -/
theorem take_list (s : ByteArray) (k : Nat) : s.extract 0 k = Lx.mk (s.data.toList.take k) := by
  apply Sl.ba_ext; rw [Sl.ext_first]
set_option maxRecDepth 100000 in
set_option maxHeartbeats 1600000 in
theorem rname13_any (s : ByteArray) (w : World) (hs : s.size ≤ maxLen) :
    Calls Tryd.prog 34 #[.string s] w fun e w' => e = .returned (.tuple #[tokV (Lx.nameT s.data.toList).1, .int .i64 ((Lx.nameT s.data.toList).2.1 : Nat), .int .i64 (Lx.nameT s.data.toList).2.2]) ∧ Below w.heap.size w w' := by
  have cW := fun w => rword13_any s w hs
  have hle := Lx.word_le false s.data.toList
  rw [Array.length_toList] at hle
  have hle2 : Lx.word false s.data.toList ≤ s.size := hle
  have hx := take_list s (Lx.word false s.data.toList)
  unfold Lx.nameT
  by_cases h16 : 16 < Lx.word false s.data.toList
  · rw [if_pos h16]
    simp only
    obtain ⟨r0, b0, s0⟩ := tok_new Lx.no w
    generalize Lx.word false s.data.toList = k at *
    have H := Lib.hid (And.intro cW (And.intro r0 (And.intro b0 s0)))
    clear cW r0 b0 s0 hx hle
    go_enter Tryd.func34, Tryd.ntmps34
    go_wp2_with (go_at_call 20; refine (H.out.1 _).mono ?_; rintro e w1 ⟨rfl, rfl⟩)
    exact bodyPost_ret (v := .tuple #[tokV Lx.no, .int .i64 0, .int .i64 5]) (results_tok (p := 2) (u := 3) (x := 4) rfl _ _ w.heap.size Lx.no rfl H.out.2.1) rfl ⟨rfl, H.out.2.2.1⟩
  · rw [if_neg h16]
    simp only
    rw [← hx]
    generalize Lx.word false s.data.toList = k at *
    obtain ⟨X, hX⟩ : ∃ X, X = s.extract 0 k := ⟨_, rfl⟩
    obtain ⟨r0, b0, s0⟩ := tok_new ⟨1, X, 0, 0⟩ w
    rw [← hX]
    have H := Lib.hid (And.intro cW (And.intro r0 (And.intro b0 s0)))
    have HX := Lib.hid hX
    clear cW r0 b0 s0 hx hle hX
    go_enter Tryd.func34, Tryd.ntmps34
    go_wp2_with (go_at_call 20; refine (H.out.1 _).mono ?_; rintro e w1 ⟨rfl, rfl⟩)
    rw [← HX.out]
    exact bodyPost_ret (v := .tuple #[tokV ⟨1, X, 0, 0⟩, .int .i64 (k : Int), .int .i64 0]) (results_tok (p := 2) (u := 3) (x := 4) rfl _ _ w.heap.size ⟨1, X, 0, 0⟩ rfl H.out.2.1) rfl ⟨rfl, H.out.2.2.1⟩
end Go.Proofs.YtmpfnokddpbgcaaDoor
