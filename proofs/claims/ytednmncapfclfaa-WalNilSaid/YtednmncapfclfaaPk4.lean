/-
  Texts of the layers, part 4: SealOps, SealTake, DskNil, DskOpen.
-/
import Derived.Test.YtednmncapfclfaaPk3
import Derived.Test.YtednmncapfclfaaPk2
import Derived.Deep.Slices
import Derived.ChangeSlices
import Derived.ChangeArms
/-
  Layer 5: what Put and Take answer, and the document's.
-/
namespace Go.Proofs.Ytednmncapfclfaa
open Go.RowKit

theorem Sl.empty_eq : ByteArray.empty = (⟨#[]⟩ : ByteArray) := rfl
set_option maxRecDepth 100000 in
theorem put5_any (n : Int) (s : ByteArray) (hs : s.size ≤ maxLen) (w : World) :
    Calls Try.prog 59 #[.int .i64 n, .string s] w fun e w' => e = .returned (.tuple #[.string (Sl.putB n s), .int .i64 (Sl.putE n s)]) ∧ Below w.heap.size w w' := by
  unfold maxLen at hs
  have cr := fun w => right5_any n w
  by_cases h1 : 1 ≤ n ∧ n ≤ 4611686018427387904
  · rw [decide_eq_true h1] at cr
    by_cases h2 : s.size ≤ 490
    · have e1 : Sl.putE n s = 0 := Sl.putE_ok.2 ⟨h1.1, h1.2, h2⟩
      have e2 := Sl.putB_ok e1
      rw [e1, e2]
      have cs := fun w => sealed_any n s h2 w
      generalize (⟨(Sl.blk n s.data.toList).toArray⟩ : ByteArray) = R at *
      have H := Lib.hid (And.intro cr cs)
      clear cr cs h1 e1 e2
      have t1 : ¬ (490 : Int) < (s.size : Int) := by omega
      go_enter Try.func59, Try.ntmps59
      go_wp2_with fail
      refine (H.out.1 _).mono ?_
      rintro e _ ⟨rfl, rfl⟩
      go_wp2_with fail
      refine (H.out.2 _).mono ?_
      rintro e w1 ⟨rfl, hb⟩
      have HB := Lib.hid hb; clear hb
      go_wp2_with fail
      go_ret2
      exact ⟨rfl, HB.out⟩
    · have e1 : Sl.putE n s = 5 := by unfold Sl.putE; rw [if_neg (by omega), if_pos (by omega)]
      have e2 := Sl.putB_err (n := n) (s := s) (by rw [e1]; decide)
      rw [e1, e2]
      have H := Lib.hid cr
      clear cr h1 e1 e2
      have t1 : (490 : Int) < (s.size : Int) := by omega
      go_enter Try.func59, Try.ntmps59
      go_wp2_with fail
      refine (H.out _).mono ?_
      rintro e _ ⟨rfl, rfl⟩
      go_wp2_with fail
      go_ret2
      exact ⟨rfl, Below.refl _ _⟩
  · rw [decide_eq_false h1] at cr
    have e1 : Sl.putE n s = 2 := by unfold Sl.putE; rw [if_pos (by omega)]
    have e2 := Sl.putB_err (n := n) (s := s) (by rw [e1]; decide)
    rw [e1, e2]
    have H := Lib.hid cr
    clear cr h1 e1 e2
    go_enter Try.func59, Try.ntmps59
    go_wp2_with fail
    refine (H.out _).mono ?_
    rintro e _ ⟨rfl, rfl⟩
    go_wp2_with fail
    go_ret2
    exact ⟨rfl, Below.refl _ _⟩

set_option maxRecDepth 100000 in
theorem rput5_any (n : Int) (s : ByteArray) (hs : s.size ≤ maxLen) (w : World) :
    Calls Try.prog 53 #[.int .i64 n, .string s] w fun e w' => e = .returned (.tuple #[.string (Sl.putB n s), .int .i64 (Sl.putE n s)]) ∧ Below w.heap.size w w' := by
  unfold maxLen at hs
  by_cases h1 : 1 ≤ n
  · by_cases h0 : n ≤ 4611686018427387904
    · by_cases h2 : s.size ≤ 490
      · have e1 : Sl.putE n s = 0 := Sl.putE_ok.2 ⟨h1, h0, h2⟩
        have e2 := Sl.putB_ok e1
        rw [e1, e2]
        have cs := fun w => rblock_any n s h2 w
        generalize (⟨(Sl.blk n s.data.toList).toArray⟩ : ByteArray) = R at *
        have H := Lib.hid cs
        clear cs e1 e2
        have t1 : ¬ (490 : Int) < (s.size : Int) := by omega
        have t2 : ¬ n < 1 := by omega
        have t3 : ¬ 4611686018427387904 < n := by omega
        go_enter Try.func53, Try.ntmps53
        go_wp2_with fail
        refine (H.out _).mono ?_
        rintro e w1 ⟨rfl, hb⟩
        have HB := Lib.hid hb; clear hb
        go_wp2_with fail
        go_ret2
        exact ⟨rfl, HB.out⟩
      · have e1 : Sl.putE n s = 5 := by unfold Sl.putE; rw [if_neg (by omega), if_pos (by omega)]
        have e2 := Sl.putB_err (n := n) (s := s) (by rw [e1]; decide)
        rw [e1, e2]
        clear e1 e2
        have t1 : (490 : Int) < (s.size : Int) := by omega
        have t2 : ¬ n < 1 := by omega
        have t3 : ¬ 4611686018427387904 < n := by omega
        go_enter Try.func53, Try.ntmps53
        go_wp2_with fail
        go_ret2
        exact ⟨rfl, Below.refl _ _⟩
    · have e1 : Sl.putE n s = 2 := by unfold Sl.putE; rw [if_pos (by omega)]
      have e2 := Sl.putB_err (n := n) (s := s) (by rw [e1]; decide)
      rw [e1, e2]
      clear e1 e2
      have t2 : ¬ n < 1 := by omega
      have t3 : 4611686018427387904 < n := by omega
      go_enter Try.func53, Try.ntmps53
      go_wp2_with fail
      go_ret2
      exact ⟨rfl, Below.refl _ _⟩
  · have e1 : Sl.putE n s = 2 := by unfold Sl.putE; rw [if_pos (by omega)]
    have e2 := Sl.putB_err (n := n) (s := s) (by rw [e1]; decide)
    rw [e1, e2]
    clear e1 e2
    have t2 : n < 1 := by omega
    go_enter Try.func53, Try.ntmps53
    go_wp2_with fail
    go_ret2
    exact ⟨rfl, Below.refl _ _⟩

/-! ### Take, case by case -/
theorem Sl.take_form {b : ByteArray} (h : b.size ≠ 512) : Sl.take b = (0, ByteArray.empty, 4) := by unfold Sl.take; rw [if_pos h]
theorem Sl.take_none {b : ByteArray} (h1 : b.size = 512) (h : b = Sl.zeros) : Sl.take b = (0, ByteArray.empty, 6) := by unfold Sl.take; rw [if_neg (by omega), if_pos h]
theorem Sl.take_big {b : ByteArray} (h1 : b.size = 512) (h2 : b ≠ Sl.zeros) (h3 : Sl.one b = Sl.two b) (h : 490 < Sl.len b) : Sl.take b = (0, ByteArray.empty, 9) := by
  unfold Sl.take; rw [if_neg (by omega), if_neg h2, if_neg (by simp [h3]), if_pos h]
theorem Sl.take_range {b : ByteArray} (h1 : b.size = 512) (h2 : b ≠ Sl.zeros) (h3 : Sl.one b = Sl.two b) (h : ¬ (1 ≤ Sl.one b ∧ Sl.one b ≤ 4611686018427387904)) : Sl.take b = (0, ByteArray.empty, 9) := by
  by_cases h4 : 490 < Sl.len b
  · exact Sl.take_big h1 h2 h3 h4
  · unfold Sl.take; rw [if_neg (by omega), if_neg h2, if_neg (by simp [h3]), if_neg h4, if_neg (fun hh => h ⟨(Sl.putE_ok.1 hh.1).1, (Sl.putE_ok.1 hh.1).2.1⟩)]
theorem Sl.txt_size {b : ByteArray} (h : Sl.len b ≤ 490) : (Sl.txt b).size ≤ 490 := by
  unfold Sl.txt; rw [ByteArray.size_extract]; omega
theorem Sl.take_last {b : ByteArray} (h1 : b.size = 512) (h2 : b ≠ Sl.zeros) (h3 : Sl.one b = Sl.two b) (h4 : 1 ≤ Sl.one b ∧ Sl.one b ≤ 4611686018427387904) (h5 : Sl.len b ≤ 490) :
    Sl.take b = if (⟨(Sl.blk (Sl.one b) (Sl.txt b).data.toList).toArray⟩ : ByteArray) = b then (Sl.one b, Sl.txt b, 0) else (0, ByteArray.empty, 9) := by
  have hp : Sl.putE (Sl.one b) (Sl.txt b) = 0 := Sl.putE_ok.2 ⟨h4.1, h4.2, Sl.txt_size h5⟩
  have hb := Sl.putB_ok hp
  have e : Sl.take b = if Sl.putE (Sl.one b) (Sl.txt b) = 0 ∧ Sl.putB (Sl.one b) (Sl.txt b) = b then (Sl.one b, Sl.txt b, 0) else (0, ByteArray.empty, 9) := by
    unfold Sl.take
    rw [if_neg (by omega), if_neg h2, if_neg (by simp [h3]), if_neg (by omega)]; rfl
  rw [e, hb]
  by_cases h : (⟨(Sl.blk (Sl.one b) (Sl.txt b).data.toList).toArray⟩ : ByteArray) = b
  · rw [if_pos ⟨hp, h⟩, if_pos h]
  · rw [if_neg (fun hh => h hh.2), if_neg h]

set_option maxRecDepth 100000 in
set_option maxHeartbeats 800000 in
theorem take5_any (b : ByteArray) (hb : b.size ≤ maxLen) (w : World) :
    Calls Try.prog 56 #[.string b] w fun e w' => e = .returned (.tuple #[.int .i64 (Sl.take b).1, .string (Sl.take b).2.1, .int .i64 (Sl.take b).2.2]) ∧ Below w.heap.size w w' := by
  have ch := fun w => halves_any b hb w
  by_cases h1 : b.size = 512
  · have e : Sl.halves b = (Sl.one b, Sl.two b) := by unfold Sl.halves; rw [if_pos h1]
    rw [e] at ch
    have ce := fun w => empty5_any b w
    have t1 : ((b.size : Int) != 512) = false := by rw [h1]; rfl
    by_cases h2 : b = Sl.zeros
    · rw [Sl.take_none h1 h2]
      rw [decide_eq_true h2] at ce
      have H := Lib.hid (And.intro ch ce)
      clear ch ce h2 e
      generalize Sl.one b = X at H
      generalize Sl.two b = Y at H
      go_enter Try.func56, Try.ntmps56
      go_wp2_with fail
      refine (H.out.1 _).mono ?_
      rintro e _ ⟨rfl, nq, rfl⟩
      go_wp2_with fail
      refine (H.out.2 _).mono ?_
      rintro e w2 ⟨rfl, hb2⟩
      have HB := Lib.hid (below_two (below_drewN (Below.refl _ _) nq) hb2); clear hb2
      go_wp2_with fail
      go_ret3
      exact ⟨rfl, HB.out⟩
    · rw [decide_eq_false h2] at ce
      by_cases h3 : Sl.one b = Sl.two b
      · have cr := fun w => right5_any (Sl.one b) w
        rw [← h3] at ch
        by_cases h4 : 1 ≤ Sl.one b ∧ Sl.one b ≤ 4611686018427387904
        · rw [decide_eq_true h4] at cr
          have cl := fun w => length_any b h1 w
          by_cases h5 : Sl.len b ≤ 490
          · have ct := fun w => text5_any b h1 h5 w
            have cs := fun w => sealed_any (Sl.one b) (Sl.txt b) (Sl.txt_size h5) w
            rw [Sl.take_last h1 h2 h3 h4 h5]
            have t3 : ¬ 490 < Sl.len b := by omega
            by_cases h6 : (⟨(Sl.blk (Sl.one b) (Sl.txt b).data.toList).toArray⟩ : ByteArray) = b
            · rw [if_pos h6]
              rw [h6] at cs
              clear h2 h3 h4 h5 h6 e
              generalize Sl.one b = X at *
              generalize Sl.len b = L at *
              generalize Sl.txt b = T at *
              have H := Lib.hid (And.intro ch (And.intro ce (And.intro cr (And.intro cl (And.intro ct cs)))))
              clear ch ce cr cl ct cs
              go_enter Try.func56, Try.ntmps56
              go_wp2_with fail
              refine (H.out.1 _).mono ?_
              rintro e _ ⟨rfl, nq, rfl⟩
              go_wp2_with fail
              refine (H.out.2.1 _).mono ?_
              rintro e w2 ⟨rfl, hb2⟩
              have H2 := Lib.hid (below_two (below_drewN (Below.refl _ _) nq) hb2); clear hb2
              go_wp2_with fail
              refine (H.out.2.2.1 _).mono ?_
              rintro e w3 ⟨rfl, hw⟩
              subst hw
              go_wp2_with fail
              refine (H.out.2.2.2.1 _).mono ?_
              rintro e w3 ⟨rfl, hw⟩
              subst hw
              go_wp2_with fail
              refine (H.out.2.2.2.2.1 _).mono ?_
              rintro e _ ⟨rfl, nr, rfl⟩
              have H3 := Lib.hid (below_two H2.out (below_drewN (Below.refl _ _) nr)); clear H2
              go_wp2_with fail
              refine (H.out.2.2.2.2.2 _).mono ?_
              rintro e w4 ⟨rfl, hb4⟩
              have H4 := Lib.hid (below_two H3.out hb4); clear hb4 H3
              go_wp2_with fail
              refine (H.out.2.2.2.2.1 _).mono ?_
              rintro e _ ⟨rfl, ns, rfl⟩
              have H5 := Lib.hid (below_two H4.out (below_drewN (Below.refl _ _) ns)); clear H4
              go_wp2_with fail
              go_ret3
              exact ⟨rfl, H5.out⟩
            · rw [if_neg h6]
              clear h2 h3 h4 h5 e
              generalize (⟨(Sl.blk (Sl.one b) (Sl.txt b).data.toList).toArray⟩ : ByteArray) = S at *
              generalize Sl.one b = X at *
              generalize Sl.len b = L at *
              generalize Sl.txt b = T at *
              have t4 : ¬ b.toList = S.toList := str_neq (Ne.symm h6)
              have t5 := str_beq t4
              have H := Lib.hid (And.intro ch (And.intro ce (And.intro cr (And.intro cl (And.intro ct cs)))))
              clear ch ce cr cl ct cs h6
              go_enter Try.func56, Try.ntmps56
              go_wp2_with fail
              refine (H.out.1 _).mono ?_
              rintro e _ ⟨rfl, nq, rfl⟩
              go_wp2_with fail
              refine (H.out.2.1 _).mono ?_
              rintro e w2 ⟨rfl, hb2⟩
              have H2 := Lib.hid (below_two (below_drewN (Below.refl _ _) nq) hb2); clear hb2
              go_wp2_with fail
              refine (H.out.2.2.1 _).mono ?_
              rintro e w3 ⟨rfl, hw⟩
              subst hw
              go_wp2_with fail
              refine (H.out.2.2.2.1 _).mono ?_
              rintro e w3 ⟨rfl, hw⟩
              subst hw
              go_wp2_with fail
              refine (H.out.2.2.2.2.1 _).mono ?_
              rintro e _ ⟨rfl, nr, rfl⟩
              have H3 := Lib.hid (below_two H2.out (below_drewN (Below.refl _ _) nr)); clear H2
              go_wp2_with fail
              refine (H.out.2.2.2.2.2 _).mono ?_
              rintro e w4 ⟨rfl, hb4⟩
              have H4 := Lib.hid (below_two H3.out hb4); clear hb4 H3
              go_wp2_with fail
              go_ret3
              exact ⟨rfl, H4.out⟩
          · rw [Sl.take_big h1 h2 h3 (by omega)]
            have t3 : 490 < Sl.len b := by omega
            clear h2 h3 h4 h5 e
            generalize Sl.one b = X at *
            generalize Sl.len b = L at *
            have H := Lib.hid (And.intro ch (And.intro ce (And.intro cr cl)))
            clear ch ce cr cl
            go_enter Try.func56, Try.ntmps56
            go_wp2_with fail
            refine (H.out.1 _).mono ?_
            rintro e _ ⟨rfl, nq, rfl⟩
            go_wp2_with fail
            refine (H.out.2.1 _).mono ?_
            rintro e w2 ⟨rfl, hb2⟩
            have H2 := Lib.hid (below_two (below_drewN (Below.refl _ _) nq) hb2); clear hb2
            go_wp2_with fail
            refine (H.out.2.2.1 _).mono ?_
            rintro e w3 ⟨rfl, hw⟩
            subst hw
            go_wp2_with fail
            refine (H.out.2.2.2 _).mono ?_
            rintro e w3 ⟨rfl, hw⟩
            subst hw
            go_wp2_with fail
            go_ret3
            exact ⟨rfl, H2.out⟩
        · rw [Sl.take_range h1 h2 h3 h4]
          rw [decide_eq_false h4] at cr
          clear h2 h3 h4 e
          generalize Sl.one b = X at *
          have H := Lib.hid (And.intro ch (And.intro ce cr))
          clear ch ce cr
          go_enter Try.func56, Try.ntmps56
          go_wp2_with fail
          refine (H.out.1 _).mono ?_
          rintro e _ ⟨rfl, nq, rfl⟩
          go_wp2_with fail
          refine (H.out.2.1 _).mono ?_
          rintro e w2 ⟨rfl, hb2⟩
          have H2 := Lib.hid (below_two (below_drewN (Below.refl _ _) nq) hb2); clear hb2
          go_wp2_with fail
          refine (H.out.2.2 _).mono ?_
          rintro e w3 ⟨rfl, hw⟩
          subst hw
          go_wp2_with fail
          go_ret3
          exact ⟨rfl, H2.out⟩
      · rw [Sl.take_torn h1 h3]
        have t2 : (Sl.one b != Sl.two b) = true := by simpa using h3
        clear h2 e
        generalize Sl.one b = X at *
        generalize Sl.two b = Y at *
        have H := Lib.hid (And.intro ch ce)
        clear ch ce
        go_enter Try.func56, Try.ntmps56
        go_wp2_with fail
        refine (H.out.1 _).mono ?_
        rintro e _ ⟨rfl, nq, rfl⟩
        go_wp2_with fail
        refine (H.out.2 _).mono ?_
        rintro e w2 ⟨rfl, hb2⟩
        have H2 := Lib.hid (below_two (below_drewN (Below.refl _ _) nq) hb2); clear hb2
        go_wp2_with fail
        go_ret3
        exact ⟨rfl, H2.out⟩
  · rw [Sl.take_form h1]
    have t1 : ((b.size : Int) != 512) = true := by simpa using (by omega : ¬ (b.size : Int) = 512)
    generalize (Sl.halves b).1 = X at ch
    generalize (Sl.halves b).2 = Y at ch
    have H := Lib.hid ch
    clear ch
    go_enter Try.func56, Try.ntmps56
    go_wp2_with fail
    refine (H.out _).mono ?_
    rintro e _ ⟨rfl, nq, rfl⟩
    go_wp2_with fail
    go_ret3
    exact ⟨rfl, below_drewN (Below.refl _ _) nq⟩
end Go.Proofs.Ytednmncapfclfaa

/-
  Layer 5: what the document's Take answers; the document's example.
-/
namespace Go.Proofs.Ytednmncapfclfaa
open Go.RowKit

set_option maxRecDepth 100000 in
set_option maxHeartbeats 4000000 in
theorem rtake5_any (b : ByteArray) (hb : b.size ≤ maxLen) (w : World) :
    Calls Try.prog 50 #[.string b] w fun e w' => e = .returned (.tuple #[.int .i64 (Sl.take b).1, .string (Sl.take b).2.1, .int .i64 (Sl.take b).2.2]) ∧ Below w.heap.size w w' := by
  have ch := fun w => rhalves_any b hb w
  by_cases h1 : b.size = 512
  · have e : Sl.halves b = (Sl.one b, Sl.two b) := by unfold Sl.halves; rw [if_pos h1]
    rw [e] at ch
    have ce := fun w => zeros_any 512 (by omega) w
    have ez : Sl.zer 512 = Sl.zeros := rfl
    have ei : ((512 : Nat) : Int) = 512 := rfl
    rw [ez, ei] at ce
    have t1 : ((b.size : Int) != 512) = false := by rw [h1]; rfl
    by_cases h2 : b = Sl.zeros
    · rw [Sl.take_none h1 h2]
      rw [← h2] at ce
      have H := Lib.hid (And.intro ch ce)
      clear ch ce h2 e ez ei
      generalize Sl.one b = X at H
      generalize Sl.two b = Y at H
      go_enter Try.func50, Try.ntmps50
      go_wp2_with fail
      refine (H.out.1 _).mono ?_
      rintro e _ ⟨rfl, nq, rfl⟩
      go_wp2_with fail
      refine (H.out.2 _).mono ?_
      rintro e w2 ⟨rfl, hb2⟩
      have HB := Lib.hid (below_two (below_drewN (Below.refl _ _) nq) hb2); clear hb2
      go_wp2_with fail
      go_ret3
      exact ⟨rfl, HB.out⟩
    · have q1 : ¬ b.toList = Sl.zeros.toList := str_neq h2
      have q2 := str_beq q1
      generalize Sl.zeros = Z at q1 q2 ce
      by_cases h3 : Sl.one b = Sl.two b
      · rw [← h3] at ch
        have zl : (b.extract 8 10).size ≤ maxLen := by rw [ByteArray.size_extract]; unfold maxLen; omega
        have cl := fun w => roread_any (b.extract 8 10) w zl
        have el : Oct.rd (b.extract 8 10) = Sl.len b := rfl
        rw [el] at cl
        have t8 : (10 : Int) ≤ (b.size : Int) := by omega
        by_cases h5 : Sl.len b ≤ 490
        · obtain ⟨n, hn⟩ : ∃ n : Nat, Sl.len b = (n : Int) := ⟨_, (Int.toNat_of_nonneg (Sl.len_bound b).1).symm⟩
          have hnn : (Sl.len b).toNat = n := by rw [hn, Int.toNat_natCast]
          have z1 : (b.extract 10 256).size = 246 := by rw [ByteArray.size_extract]; omega
          have z2 : (b.extract 264 508).size = 244 := by rw [ByteArray.size_extract]; omega
          have zt : ((b.extract 10 256 ++ b.extract 264 508).extract 0 n).size ≤ maxLen := by rw [ByteArray.size_extract]; unfold maxLen; omega
          have cp := fun w => rput5_any (Sl.one b) ((b.extract 10 256 ++ b.extract 264 508).extract 0 n) zt w
          have et : Sl.take b = if Sl.putE (Sl.one b) ((b.extract 10 256 ++ b.extract 264 508).extract 0 n) = 0 ∧ Sl.putB (Sl.one b) ((b.extract 10 256 ++ b.extract 264 508).extract 0 n) = b then (Sl.one b, (b.extract 10 256 ++ b.extract 264 508).extract 0 n, 0) else (0, ByteArray.empty, 9) := by
            unfold Sl.take
            rw [if_neg (by omega), if_neg h2, if_neg (by simp [h3]), if_neg (by omega), hnn]; rfl
          rw [et]
          have n490 : n ≤ 490 := by omega
          rw [hn] at cl
          have t9 : ¬ (490 : Int) < (n : Int) := by omega
          have ta : (508 : Int) ≤ (b.size : Int) := by omega
          have tb : (256 : Int) ≤ (b.size : Int) := by omega
          generalize Sl.putB (Sl.one b) ((b.extract 10 256 ++ b.extract 264 508).extract 0 n) = P at *
          generalize Sl.putE (Sl.one b) ((b.extract 10 256 ++ b.extract 264 508).extract 0 n) = E at *
          generalize Sl.one b = X at *
          clear h3 et zt hn hnn el e h5 h2 ez ei
          by_cases h6 : E = 0
          · by_cases h7 : P = b
            · rw [if_pos ⟨h6, h7⟩]
              subst h6
              rw [h7] at cp
              clear h7
              have H := Lib.hid (And.intro ch (And.intro ce (And.intro cl cp)))
              clear ch ce cl cp
              go_enter Try.func50, Try.ntmps50
              go_wp2_with fail
              refine (H.out.1 _).mono ?_
              rintro e _ ⟨rfl, nq, rfl⟩
              go_wp2_with fail
              refine (H.out.2.1 _).mono ?_
              rintro e w2 ⟨rfl, hb2⟩
              have H2 := Lib.hid (below_two (below_drewN (Below.refl _ _) nq) hb2); clear hb2
              go_wp2_with fail
              refine (H.out.2.2.1 _).mono ?_
              rintro e _ ⟨rfl, rfl⟩
              go_wp2_with fail
              go_quiet (fail)
              go_wp2_with fail
              refine (H.out.2.2.2 _).mono ?_
              rintro e w3 ⟨rfl, hb3⟩
              have H3 := Lib.hid (below_two H2.out (below_two (below_drewN (Below.refl _ _) _) hb3)); clear hb3 H2
              go_wp2_with fail
              go_quiet (fail)
              go_wp2_with fail
              go_ret3
              exact ⟨rfl, H3.out.trans (below_drewN (Below.refl _ _) _)⟩
            · rw [if_neg (fun hh => h7 hh.2)]
              subst h6
              have q3 : ¬ P.toList = b.toList := str_neq h7
              have q4 := str_beq q3
              clear h7
              have H := Lib.hid (And.intro ch (And.intro ce (And.intro cl cp)))
              clear ch ce cl cp
              go_enter Try.func50, Try.ntmps50
              go_wp2_with fail
              refine (H.out.1 _).mono ?_
              rintro e _ ⟨rfl, nq, rfl⟩
              go_wp2_with fail
              refine (H.out.2.1 _).mono ?_
              rintro e w2 ⟨rfl, hb2⟩
              have H2 := Lib.hid (below_two (below_drewN (Below.refl _ _) nq) hb2); clear hb2
              go_wp2_with fail
              refine (H.out.2.2.1 _).mono ?_
              rintro e _ ⟨rfl, rfl⟩
              go_wp2_with fail
              go_quiet (fail)
              go_wp2_with fail
              refine (H.out.2.2.2 _).mono ?_
              rintro e w3 ⟨rfl, hb3⟩
              have H3 := Lib.hid (below_two H2.out (below_two (below_drewN (Below.refl _ _) _) hb3)); clear hb3 H2
              go_wp2_with fail
              go_ret3
              exact ⟨rfl, H3.out⟩
          · rw [if_neg (fun hh => h6 hh.1)]
            have q3 : (E != 0) = true := by simpa using h6
            clear h6
            have H := Lib.hid (And.intro ch (And.intro ce (And.intro cl cp)))
            clear ch ce cl cp
            go_enter Try.func50, Try.ntmps50
            go_wp2_with fail
            refine (H.out.1 _).mono ?_
            rintro e _ ⟨rfl, nq, rfl⟩
            go_wp2_with fail
            refine (H.out.2.1 _).mono ?_
            rintro e w2 ⟨rfl, hb2⟩
            have H2 := Lib.hid (below_two (below_drewN (Below.refl _ _) nq) hb2); clear hb2
            go_wp2_with fail
            refine (H.out.2.2.1 _).mono ?_
            rintro e _ ⟨rfl, rfl⟩
            go_wp2_with fail
            go_quiet (fail)
            go_wp2_with fail
            refine (H.out.2.2.2 _).mono ?_
            rintro e w3 ⟨rfl, hb3⟩
            have H3 := Lib.hid (below_two H2.out (below_two (below_drewN (Below.refl _ _) _) hb3)); clear hb3 H2
            go_wp2_with fail
            go_ret3
            exact ⟨rfl, H3.out⟩
        · have et : Sl.take b = (0, ByteArray.empty, 9) := by
            unfold Sl.take
            rw [if_neg (by omega), if_neg h2, if_neg (by simp [h3]), if_pos (by omega)]
          rw [et]
          have t3 : 490 < Sl.len b := by omega
          clear h2 h3 h5 e et el zl ez ei
          generalize Sl.one b = X at *
          generalize Sl.len b = L at *
          have H := Lib.hid (And.intro ch (And.intro ce cl))
          clear ch ce cl
          go_enter Try.func50, Try.ntmps50
          go_wp2_with fail
          refine (H.out.1 _).mono ?_
          rintro e _ ⟨rfl, nq, rfl⟩
          go_wp2_with fail
          refine (H.out.2.1 _).mono ?_
          rintro e w2 ⟨rfl, hb2⟩
          have H2 := Lib.hid (below_two (below_drewN (Below.refl _ _) nq) hb2); clear hb2
          go_wp2_with fail
          refine (H.out.2.2 _).mono ?_
          rintro e _ ⟨rfl, rfl⟩
          go_wp2_with fail
          go_ret3
          exact ⟨rfl, H2.out⟩
      · rw [Sl.take_torn h1 h3]
        have t2 : (Sl.one b != Sl.two b) = true := by simpa using h3
        clear h2 e ez ei
        generalize Sl.one b = X at *
        generalize Sl.two b = Y at *
        have H := Lib.hid (And.intro ch ce)
        clear ch ce
        go_enter Try.func50, Try.ntmps50
        go_wp2_with fail
        refine (H.out.1 _).mono ?_
        rintro e _ ⟨rfl, nq, rfl⟩
        go_wp2_with fail
        refine (H.out.2 _).mono ?_
        rintro e w2 ⟨rfl, hb2⟩
        have H2 := Lib.hid (below_two (below_drewN (Below.refl _ _) nq) hb2); clear hb2
        go_wp2_with fail
        go_ret3
        exact ⟨rfl, H2.out⟩
  · rw [Sl.take_form h1]
    have t1 : ((b.size : Int) != 512) = true := by simpa using (by omega : ¬ (b.size : Int) = 512)
    generalize (Sl.halves b).1 = X at ch
    generalize (Sl.halves b).2 = Y at ch
    have H := Lib.hid ch
    clear ch
    go_enter Try.func50, Try.ntmps50
    go_wp2_with fail
    refine (H.out _).mono ?_
    rintro e _ ⟨rfl, nq, rfl⟩
    go_wp2_with fail
    go_ret3
    exact ⟨rfl, below_drewN (Below.refl _ _) nq⟩
end Go.Proofs.Ytednmncapfclfaa

/-
  Layer 4's laws: no disk, and one that nothing made: DiskNil, walked.
-/
namespace Go.Proofs.Ytednmncapfclfaa
open Go.RowKit

/-- no disk, or one that nothing made -/
def NoDisk (w : World) (v : Value) : Prop := v = .pointer none ∨ ∃ p, v = .pointer (some ⟨p, 0, none⟩) ∧ RowV w p 70 [.slice none 0 0, .slice none 0 0, .slice none 0 0, .int .i64 0, .bool false]
theorem noDisk_below {w w' : World} {v : Value} (h : NoDisk w v) (hb : Below w.heap.size w w') : NoDisk w' v := by
  rcases h with h | ⟨p, h1, h2⟩
  · exact .inl h
  · exact .inr ⟨p, h1, rowV_below h2 hb (rowV_lt h2)⟩
section
variable {w : World} {v : Value}
set_option maxRecDepth 100000 in
theorem none_nil (h : NoDisk w v) : Calls Try.prog 46 #[v] w fun e w' => e = .returned (.bool true) ∧ w' = w := by
  rcases h with rfl | ⟨p, rfl, h⟩
  · go_enter Try.func46, Try.ntmps46
    go_wp2_with fail
    go_ret
    exact ⟨rfl, rfl⟩
  · have c0 := rowV_cell h 0
    replace c0 : w.cell? ⟨p, 0, none⟩ = some (.slice none 0 0) := c0
    clear h
    go_enter Try.func46, Try.ntmps46
    go_wp2_with fail
    go_ret
    exact ⟨rfl, rfl⟩
set_option maxRecDepth 100000 in
theorem asked_nil (h : NoDisk w v) : Calls Try.prog 43 #[v] w fun e w' => e = .returned (.int .i64 1) ∧ w' = w := by
  have HC := Lib.hid (none_nil h); clear h
  go_enter Try.func43, Try.ntmps43
  go_wp2_with fail
  refine HC.out.mono ?_
  rintro e _ ⟨rfl, rfl⟩
  go_wp2_with fail
  go_ret
  exact ⟨rfl, rfl⟩
set_option maxRecDepth 100000 in
theorem read_nil (h : NoDisk w v) (i : Int) : Calls Try.prog 24 #[v, .int .i64 i] w fun e w' => e = .returned (.tuple #[.string ByteArray.empty, .int .i64 1]) ∧ w' = w := by
  have HC := Lib.hid (asked_nil h); clear h
  go_enter Try.func24, Try.ntmps24
  go_wp2_with fail
  refine HC.out.mono ?_
  rintro e _ ⟨rfl, rfl⟩
  go_wp2_with fail
  go_ret2
  exact ⟨rfl, rfl⟩
set_option maxRecDepth 100000 in
theorem write_nil (h : NoDisk w v) (i : Int) (s : ByteArray) : Calls Try.prog 31 #[v, .int .i64 i, .string s] w fun e w' => e = .returned (.int .i64 1) ∧ w' = w := by
  have HC := Lib.hid (asked_nil h); clear h
  go_enter Try.func31, Try.ntmps31
  go_wp2_with fail
  refine HC.out.mono ?_
  rintro e _ ⟨rfl, rfl⟩
  go_wp2_with fail
  go_ret
  exact ⟨rfl, rfl⟩
set_option maxRecDepth 100000 in
theorem flush_nil (h : NoDisk w v) : Calls Try.prog 22 #[v] w fun e w' => e = .returned (.int .i64 1) ∧ w' = w := by
  have HC := Lib.hid (asked_nil h); clear h
  go_enter Try.func22, Try.ntmps22
  go_wp2_with fail
  refine HC.out.mono ?_
  rintro e _ ⟨rfl, rfl⟩
  go_wp2_with fail
  go_ret
  exact ⟨rfl, rfl⟩
set_option maxRecDepth 100000 in
theorem arm_nil (h : NoDisk w v) (i : Int) : Calls Try.prog 27 #[v, .int .i64 i] w fun e w' => e = .returned (.int .i64 1) ∧ w' = w := by
  have HC := Lib.hid (asked_nil h); clear h
  go_enter Try.func27, Try.ntmps27
  go_wp2_with fail
  refine HC.out.mono ?_
  rintro e _ ⟨rfl, rfl⟩
  go_wp2_with fail
  go_ret
  exact ⟨rfl, rfl⟩
set_option maxRecDepth 100000 in
theorem crash_nil (h : NoDisk w v) : Calls Try.prog 23 #[v, .slice none 0 0] w fun e w' => e = .returned (.int .i64 1) ∧ w' = w := by
  have HC := Lib.hid (none_nil h); clear h
  go_enter Try.func23, Try.ntmps23
  go_wp2_with fail
  refine HC.out.mono ?_
  rintro e _ ⟨rfl, rfl⟩
  go_wp2_with fail
  go_ret
  exact ⟨rfl, rfl⟩
set_option maxRecDepth 100000 in
theorem len_nil (h : NoDisk w v) : Calls Try.prog 54 #[v] w fun e w' => e = .returned (.int .i64 0) ∧ w' = w := by
  have HC := Lib.hid (none_nil h); clear h
  go_enter Try.func54, Try.ntmps54
  go_wp2_with fail
  refine HC.out.mono ?_
  rintro e _ ⟨rfl, rfl⟩
  go_wp2_with fail
  go_ret
  exact ⟨rfl, rfl⟩
end

end Go.Proofs.Ytednmncapfclfaa

/-
  Layer 4's laws: arguments that are slices of integers, and of calls, opened.
-/
namespace Go.Proofs.Ytednmncapfclfaa
open Go.ChangeShapes Go.WideShapes Go.RowKit

theorem addr_mid {a : Addr} {w : World} {v : Value} (h : w.cell? a = some v) (i : Nat) : a.add i = ⟨a.block, a.off + i, none⟩ := by
  obtain ⟨b, o, s⟩ := a
  obtain rfl : s = none := World.cell?_spot h
  exact Addr.add_mid b o i
theorem readsI_open {w : World} {a : Addr} {len cap : Nat} {zs : List Int} (hl : len ≤ cap) (hz : zs.length = cap) (hcell : ∀ i, i < zs.length → w.cell? (a.add i) = some (.int .i64 (zs.getD i 0))) :
    ∃ l : List Int, l.length = len ∧ ReadsI w (some a) l := by
  refine ⟨zs.take len, by rw [List.length_take]; omega, fun i hi => ?_⟩
  have hi2 : i < zs.length := by rw [List.length_take] at hi; omega
  have h0 := hcell 0 (by omega)
  have hc := hcell i hi2
  have e0 : a.add 0 = a := by simp [Addr.add]
  rw [e0] at h0
  rw [addr_mid h0 i] at hc
  obtain ⟨b, o, s⟩ := a
  obtain rfl : s = none := World.cell?_spot h0
  exact ⟨b, o, rfl, by rw [hc, List.getElem_take]; simp [List.getD, List.getElem?_eq_getElem hi2]⟩
theorem i64_fits {n : Int} (h : (Lit.int .i64 n).wf = true) : -9223372036854775808 ≤ n ∧ n ≤ 9223372036854775807 := by
  unfold Lit.wf at h
  rw [Bool.and_eq_true, decide_eq_true_iff, decide_eq_true_iff] at h
  exact h
theorem u8_fits {n : Int} (h : (Lit.int .u8 n).wf = true) : ∃ b : UInt8, n = (b.toNat : Int) := by
  unfold Lit.wf at h
  rw [Bool.and_eq_true, decide_eq_true_iff, decide_eq_true_iff] at h
  have h1 : (0 : Int) ≤ n := h.1
  have h2 : n ≤ 255 := h.2
  exact ⟨UInt8.ofNat n.toNat, by simp; omega⟩
/-- the slice at a reads as the calls L: each with its fates' address and room -/
def ReadsA (w : World) (a : Option Addr) (L : List (DAct × Option Addr × Nat)) : Prop := ∀ i (h : i < L.length), ∃ b off, a = some ⟨b, off, none⟩ ∧
  (∀ j v, (actV L[i].1 L[i].2.1 L[i].2.2).toList[j]? = some v → w.cell? ⟨b, off + i * 5 + j, none⟩ = some v) ∧ -9223372036854775808 ≤ L[i].1.i ∧ L[i].1.i ≤ 9223372036854775807 ∧ ReadsI w L[i].2.1 L[i].1.F
theorem readsA_none (w : World) (a : Option Addr) : ReadsA w a [] := by intro i hi; simp at hi
section
variable {H : Type} {enc : TypeId × Value → H} {w : World} {base : Nat} {spare : Nat → Bool} {held : Bool}
theorem ints_lt {fuel : Nat} {cs : List Value} {x : DataW H × List MemPlace} (h : DataW.trod enc Try.prog w base spare held fuel 40 cs = some x) (hsp : ∀ b, spare b = true) :
    ∃ (a : Option Addr) (l : List Int) (cap : Nat), cs = [.slice a l.length cap] ∧ ReadsI w a l ∧ l.length ≤ maxLen := by
  rcases open_ints Try.underlying40 Try.underlying3 (by kernel_rfl) h with ⟨hcs, _⟩ | ⟨a, len, cap, zs, hcs, _, hl, hm, hz, _, hcell, _⟩
  · exact ⟨none, [], 0, hcs, readsI_none _ _, Nat.zero_le _⟩
  · rw [hsp, if_pos rfl] at hz
    obtain ⟨l, e, hr⟩ := readsI_open hl hz hcell
    exact ⟨some a, l, cap, by rw [e]; exact hcs, hr, by omega⟩
theorem one_cell_list {l : List Value} {k : Nat} (h : k < l.length) : (l.drop k).take 1 = [l[k]] := by
  rw [List.drop_eq_getElem_cons h]; rfl
end
end Go.Proofs.Ytednmncapfclfaa
