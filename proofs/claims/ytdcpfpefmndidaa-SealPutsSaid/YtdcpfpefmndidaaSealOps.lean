/-
  Layer 5: what Put and Take answer, and the document's.
-/
import Derived.Test.YtdcpfpefmndidaaSealRblk
namespace Go.Proofs.Ytdcpfpefmndidaa
open Go.RowKit

theorem Sl.empty_eq : ByteArray.empty = (⟨#[]⟩ : ByteArray) := rfl
set_option maxRecDepth 100000 in
theorem put5_any (n : Int) (s : ByteArray) (hs : s.size ≤ maxLen) (w : World) :
    Calls Try.prog 8 #[.int .i64 n, .string s] w fun e w' => e = .returned (.tuple #[.string (Sl.putB n s), .int .i64 (Sl.putE n s)]) ∧ Below w.heap.size w w' := by
  unfold maxLen at hs
  have cr := fun w => right5_any n w
  by_cases h1 : 1 ≤ n ∧ n ≤ 4611686018427387904
  · rw [decide_eq_true h1] at cr
    by_cases h2 : s.size ≤ 490
    · have e1 : Sl.putE n s = 0 := Sl.putE_ok.2 ⟨h1.1, h1.2, h2⟩
      have e2 := Sl.putB_ok e1
      rw [e1, e2]
      have cs := fun w => sealed_any n s h2 w
      generalize (⟨(Sl.blk n s.data.toList).toArray⟩ : ByteArray) = R at *
      have H := Lib.hid (And.intro cr cs)
      clear cr cs h1 e1 e2
      have t1 : ¬ (490 : Int) < (s.size : Int) := by omega
      go_enter Try.func8, Try.ntmps8
      go_wp2_with fail
      refine (H.out.1 _).mono ?_
      rintro e _ ⟨rfl, rfl⟩
      go_wp2_with fail
      refine (H.out.2 _).mono ?_
      rintro e w1 ⟨rfl, hb⟩
      have HB := Lib.hid hb; clear hb
      go_wp2_with fail
      go_ret2
      exact ⟨rfl, HB.out⟩
    · have e1 : Sl.putE n s = 5 := by unfold Sl.putE; rw [if_neg (by omega), if_pos (by omega)]
      have e2 := Sl.putB_err (n := n) (s := s) (by rw [e1]; decide)
      rw [e1, e2]
      have H := Lib.hid cr
      clear cr h1 e1 e2
      have t1 : (490 : Int) < (s.size : Int) := by omega
      go_enter Try.func8, Try.ntmps8
      go_wp2_with fail
      refine (H.out _).mono ?_
      rintro e _ ⟨rfl, rfl⟩
      go_wp2_with fail
      go_ret2
      exact ⟨rfl, Below.refl _ _⟩
  · rw [decide_eq_false h1] at cr
    have e1 : Sl.putE n s = 2 := by unfold Sl.putE; rw [if_pos (by omega)]
    have e2 := Sl.putB_err (n := n) (s := s) (by rw [e1]; decide)
    rw [e1, e2]
    have H := Lib.hid cr
    clear cr h1 e1 e2
    go_enter Try.func8, Try.ntmps8
    go_wp2_with fail
    refine (H.out _).mono ?_
    rintro e _ ⟨rfl, rfl⟩
    go_wp2_with fail
    go_ret2
    exact ⟨rfl, Below.refl _ _⟩

set_option maxRecDepth 100000 in
theorem rput5_any (n : Int) (s : ByteArray) (hs : s.size ≤ maxLen) (w : World) :
    Calls Try.prog 9 #[.int .i64 n, .string s] w fun e w' => e = .returned (.tuple #[.string (Sl.putB n s), .int .i64 (Sl.putE n s)]) ∧ Below w.heap.size w w' := by
  unfold maxLen at hs
  by_cases h1 : 1 ≤ n
  · by_cases h0 : n ≤ 4611686018427387904
    · by_cases h2 : s.size ≤ 490
      · have e1 : Sl.putE n s = 0 := Sl.putE_ok.2 ⟨h1, h0, h2⟩
        have e2 := Sl.putB_ok e1
        rw [e1, e2]
        have cs := fun w => rblock_any n s h2 w
        generalize (⟨(Sl.blk n s.data.toList).toArray⟩ : ByteArray) = R at *
        have H := Lib.hid cs
        clear cs e1 e2
        have t1 : ¬ (490 : Int) < (s.size : Int) := by omega
        have t2 : ¬ n < 1 := by omega
        have t3 : ¬ 4611686018427387904 < n := by omega
        go_enter Try.func9, Try.ntmps9
        go_wp2_with fail
        refine (H.out _).mono ?_
        rintro e w1 ⟨rfl, hb⟩
        have HB := Lib.hid hb; clear hb
        go_wp2_with fail
        go_ret2
        exact ⟨rfl, HB.out⟩
      · have e1 : Sl.putE n s = 5 := by unfold Sl.putE; rw [if_neg (by omega), if_pos (by omega)]
        have e2 := Sl.putB_err (n := n) (s := s) (by rw [e1]; decide)
        rw [e1, e2]
        clear e1 e2
        have t1 : (490 : Int) < (s.size : Int) := by omega
        have t2 : ¬ n < 1 := by omega
        have t3 : ¬ 4611686018427387904 < n := by omega
        go_enter Try.func9, Try.ntmps9
        go_wp2_with fail
        go_ret2
        exact ⟨rfl, Below.refl _ _⟩
    · have e1 : Sl.putE n s = 2 := by unfold Sl.putE; rw [if_pos (by omega)]
      have e2 := Sl.putB_err (n := n) (s := s) (by rw [e1]; decide)
      rw [e1, e2]
      clear e1 e2
      have t2 : ¬ n < 1 := by omega
      have t3 : 4611686018427387904 < n := by omega
      go_enter Try.func9, Try.ntmps9
      go_wp2_with fail
      go_ret2
      exact ⟨rfl, Below.refl _ _⟩
  · have e1 : Sl.putE n s = 2 := by unfold Sl.putE; rw [if_pos (by omega)]
    have e2 := Sl.putB_err (n := n) (s := s) (by rw [e1]; decide)
    rw [e1, e2]
    clear e1 e2
    have t2 : n < 1 := by omega
    go_enter Try.func9, Try.ntmps9
    go_wp2_with fail
    go_ret2
    exact ⟨rfl, Below.refl _ _⟩

/-! ### Take, case by case -/
theorem Sl.take_form {b : ByteArray} (h : b.size ≠ 512) : Sl.take b = (0, ByteArray.empty, 4) := by unfold Sl.take; rw [if_pos h]
theorem Sl.take_none {b : ByteArray} (h1 : b.size = 512) (h : b = Sl.zeros) : Sl.take b = (0, ByteArray.empty, 6) := by unfold Sl.take; rw [if_neg (by omega), if_pos h]
theorem Sl.take_big {b : ByteArray} (h1 : b.size = 512) (h2 : b ≠ Sl.zeros) (h3 : Sl.one b = Sl.two b) (h : 490 < Sl.len b) : Sl.take b = (0, ByteArray.empty, 9) := by
  unfold Sl.take; rw [if_neg (by omega), if_neg h2, if_neg (by simp [h3]), if_pos h]
theorem Sl.take_range {b : ByteArray} (h1 : b.size = 512) (h2 : b ≠ Sl.zeros) (h3 : Sl.one b = Sl.two b) (h : ¬ (1 ≤ Sl.one b ∧ Sl.one b ≤ 4611686018427387904)) : Sl.take b = (0, ByteArray.empty, 9) := by
  by_cases h4 : 490 < Sl.len b
  · exact Sl.take_big h1 h2 h3 h4
  · unfold Sl.take; rw [if_neg (by omega), if_neg h2, if_neg (by simp [h3]), if_neg h4, if_neg (fun hh => h ⟨(Sl.putE_ok.1 hh.1).1, (Sl.putE_ok.1 hh.1).2.1⟩)]
theorem Sl.txt_size {b : ByteArray} (h : Sl.len b ≤ 490) : (Sl.txt b).size ≤ 490 := by
  unfold Sl.txt; rw [ByteArray.size_extract]; omega
theorem Sl.take_last {b : ByteArray} (h1 : b.size = 512) (h2 : b ≠ Sl.zeros) (h3 : Sl.one b = Sl.two b) (h4 : 1 ≤ Sl.one b ∧ Sl.one b ≤ 4611686018427387904) (h5 : Sl.len b ≤ 490) :
    Sl.take b = if (⟨(Sl.blk (Sl.one b) (Sl.txt b).data.toList).toArray⟩ : ByteArray) = b then (Sl.one b, Sl.txt b, 0) else (0, ByteArray.empty, 9) := by
  have hp : Sl.putE (Sl.one b) (Sl.txt b) = 0 := Sl.putE_ok.2 ⟨h4.1, h4.2, Sl.txt_size h5⟩
  have hb := Sl.putB_ok hp
  have e : Sl.take b = if Sl.putE (Sl.one b) (Sl.txt b) = 0 ∧ Sl.putB (Sl.one b) (Sl.txt b) = b then (Sl.one b, Sl.txt b, 0) else (0, ByteArray.empty, 9) := by
    unfold Sl.take
    rw [if_neg (by omega), if_neg h2, if_neg (by simp [h3]), if_neg (by omega)]; rfl
  rw [e, hb]
  by_cases h : (⟨(Sl.blk (Sl.one b) (Sl.txt b).data.toList).toArray⟩ : ByteArray) = b
  · rw [if_pos ⟨hp, h⟩, if_pos h]
  · rw [if_neg (fun hh => h hh.2), if_neg h]

set_option maxRecDepth 100000 in
set_option maxHeartbeats 800000 in
theorem take5_any (b : ByteArray) (hb : b.size ≤ maxLen) (w : World) :
    Calls Try.prog 10 #[.string b] w fun e w' => e = .returned (.tuple #[.int .i64 (Sl.take b).1, .string (Sl.take b).2.1, .int .i64 (Sl.take b).2.2]) ∧ Below w.heap.size w w' := by
  have ch := fun w => halves_any b hb w
  by_cases h1 : b.size = 512
  · have e : Sl.halves b = (Sl.one b, Sl.two b) := by unfold Sl.halves; rw [if_pos h1]
    rw [e] at ch
    have ce := fun w => empty5_any b w
    have t1 : ((b.size : Int) != 512) = false := by rw [h1]; rfl
    by_cases h2 : b = Sl.zeros
    · rw [Sl.take_none h1 h2]
      rw [decide_eq_true h2] at ce
      have H := Lib.hid (And.intro ch ce)
      clear ch ce h2 e
      generalize Sl.one b = X at H
      generalize Sl.two b = Y at H
      go_enter Try.func10, Try.ntmps10
      go_wp2_with fail
      refine (H.out.1 _).mono ?_
      rintro e _ ⟨rfl, nq, rfl⟩
      go_wp2_with fail
      refine (H.out.2 _).mono ?_
      rintro e w2 ⟨rfl, hb2⟩
      have HB := Lib.hid (below_two (below_drewN (Below.refl _ _) nq) hb2); clear hb2
      go_wp2_with fail
      go_ret3
      exact ⟨rfl, HB.out⟩
    · rw [decide_eq_false h2] at ce
      by_cases h3 : Sl.one b = Sl.two b
      · have cr := fun w => right5_any (Sl.one b) w
        rw [← h3] at ch
        by_cases h4 : 1 ≤ Sl.one b ∧ Sl.one b ≤ 4611686018427387904
        · rw [decide_eq_true h4] at cr
          have cl := fun w => length_any b h1 w
          by_cases h5 : Sl.len b ≤ 490
          · have ct := fun w => text5_any b h1 h5 w
            have cs := fun w => sealed_any (Sl.one b) (Sl.txt b) (Sl.txt_size h5) w
            rw [Sl.take_last h1 h2 h3 h4 h5]
            have t3 : ¬ 490 < Sl.len b := by omega
            by_cases h6 : (⟨(Sl.blk (Sl.one b) (Sl.txt b).data.toList).toArray⟩ : ByteArray) = b
            · rw [if_pos h6]
              rw [h6] at cs
              clear h2 h3 h4 h5 h6 e
              generalize Sl.one b = X at *
              generalize Sl.len b = L at *
              generalize Sl.txt b = T at *
              have H := Lib.hid (And.intro ch (And.intro ce (And.intro cr (And.intro cl (And.intro ct cs)))))
              clear ch ce cr cl ct cs
              go_enter Try.func10, Try.ntmps10
              go_wp2_with fail
              refine (H.out.1 _).mono ?_
              rintro e _ ⟨rfl, nq, rfl⟩
              go_wp2_with fail
              refine (H.out.2.1 _).mono ?_
              rintro e w2 ⟨rfl, hb2⟩
              have H2 := Lib.hid (below_two (below_drewN (Below.refl _ _) nq) hb2); clear hb2
              go_wp2_with fail
              refine (H.out.2.2.1 _).mono ?_
              rintro e w3 ⟨rfl, hw⟩
              subst hw
              go_wp2_with fail
              refine (H.out.2.2.2.1 _).mono ?_
              rintro e w3 ⟨rfl, hw⟩
              subst hw
              go_wp2_with fail
              refine (H.out.2.2.2.2.1 _).mono ?_
              rintro e _ ⟨rfl, nr, rfl⟩
              have H3 := Lib.hid (below_two H2.out (below_drewN (Below.refl _ _) nr)); clear H2
              go_wp2_with fail
              refine (H.out.2.2.2.2.2 _).mono ?_
              rintro e w4 ⟨rfl, hb4⟩
              have H4 := Lib.hid (below_two H3.out hb4); clear hb4 H3
              go_wp2_with fail
              refine (H.out.2.2.2.2.1 _).mono ?_
              rintro e _ ⟨rfl, ns, rfl⟩
              have H5 := Lib.hid (below_two H4.out (below_drewN (Below.refl _ _) ns)); clear H4
              go_wp2_with fail
              go_ret3
              exact ⟨rfl, H5.out⟩
            · rw [if_neg h6]
              clear h2 h3 h4 h5 e
              generalize (⟨(Sl.blk (Sl.one b) (Sl.txt b).data.toList).toArray⟩ : ByteArray) = S at *
              generalize Sl.one b = X at *
              generalize Sl.len b = L at *
              generalize Sl.txt b = T at *
              have t4 : ¬ b.toList = S.toList := str_neq (Ne.symm h6)
              have t5 := str_beq t4
              have H := Lib.hid (And.intro ch (And.intro ce (And.intro cr (And.intro cl (And.intro ct cs)))))
              clear ch ce cr cl ct cs h6
              go_enter Try.func10, Try.ntmps10
              go_wp2_with fail
              refine (H.out.1 _).mono ?_
              rintro e _ ⟨rfl, nq, rfl⟩
              go_wp2_with fail
              refine (H.out.2.1 _).mono ?_
              rintro e w2 ⟨rfl, hb2⟩
              have H2 := Lib.hid (below_two (below_drewN (Below.refl _ _) nq) hb2); clear hb2
              go_wp2_with fail
              refine (H.out.2.2.1 _).mono ?_
              rintro e w3 ⟨rfl, hw⟩
              subst hw
              go_wp2_with fail
              refine (H.out.2.2.2.1 _).mono ?_
              rintro e w3 ⟨rfl, hw⟩
              subst hw
              go_wp2_with fail
              refine (H.out.2.2.2.2.1 _).mono ?_
              rintro e _ ⟨rfl, nr, rfl⟩
              have H3 := Lib.hid (below_two H2.out (below_drewN (Below.refl _ _) nr)); clear H2
              go_wp2_with fail
              refine (H.out.2.2.2.2.2 _).mono ?_
              rintro e w4 ⟨rfl, hb4⟩
              have H4 := Lib.hid (below_two H3.out hb4); clear hb4 H3
              go_wp2_with fail
              go_ret3
              exact ⟨rfl, H4.out⟩
          · rw [Sl.take_big h1 h2 h3 (by omega)]
            have t3 : 490 < Sl.len b := by omega
            clear h2 h3 h4 h5 e
            generalize Sl.one b = X at *
            generalize Sl.len b = L at *
            have H := Lib.hid (And.intro ch (And.intro ce (And.intro cr cl)))
            clear ch ce cr cl
            go_enter Try.func10, Try.ntmps10
            go_wp2_with fail
            refine (H.out.1 _).mono ?_
            rintro e _ ⟨rfl, nq, rfl⟩
            go_wp2_with fail
            refine (H.out.2.1 _).mono ?_
            rintro e w2 ⟨rfl, hb2⟩
            have H2 := Lib.hid (below_two (below_drewN (Below.refl _ _) nq) hb2); clear hb2
            go_wp2_with fail
            refine (H.out.2.2.1 _).mono ?_
            rintro e w3 ⟨rfl, hw⟩
            subst hw
            go_wp2_with fail
            refine (H.out.2.2.2 _).mono ?_
            rintro e w3 ⟨rfl, hw⟩
            subst hw
            go_wp2_with fail
            go_ret3
            exact ⟨rfl, H2.out⟩
        · rw [Sl.take_range h1 h2 h3 h4]
          rw [decide_eq_false h4] at cr
          clear h2 h3 h4 e
          generalize Sl.one b = X at *
          have H := Lib.hid (And.intro ch (And.intro ce cr))
          clear ch ce cr
          go_enter Try.func10, Try.ntmps10
          go_wp2_with fail
          refine (H.out.1 _).mono ?_
          rintro e _ ⟨rfl, nq, rfl⟩
          go_wp2_with fail
          refine (H.out.2.1 _).mono ?_
          rintro e w2 ⟨rfl, hb2⟩
          have H2 := Lib.hid (below_two (below_drewN (Below.refl _ _) nq) hb2); clear hb2
          go_wp2_with fail
          refine (H.out.2.2 _).mono ?_
          rintro e w3 ⟨rfl, hw⟩
          subst hw
          go_wp2_with fail
          go_ret3
          exact ⟨rfl, H2.out⟩
      · rw [Sl.take_torn h1 h3]
        have t2 : (Sl.one b != Sl.two b) = true := by simpa using h3
        clear h2 e
        generalize Sl.one b = X at *
        generalize Sl.two b = Y at *
        have H := Lib.hid (And.intro ch ce)
        clear ch ce
        go_enter Try.func10, Try.ntmps10
        go_wp2_with fail
        refine (H.out.1 _).mono ?_
        rintro e _ ⟨rfl, nq, rfl⟩
        go_wp2_with fail
        refine (H.out.2 _).mono ?_
        rintro e w2 ⟨rfl, hb2⟩
        have H2 := Lib.hid (below_two (below_drewN (Below.refl _ _) nq) hb2); clear hb2
        go_wp2_with fail
        go_ret3
        exact ⟨rfl, H2.out⟩
  · rw [Sl.take_form h1]
    have t1 : ((b.size : Int) != 512) = true := by simpa using (by omega : ¬ (b.size : Int) = 512)
    generalize (Sl.halves b).1 = X at ch
    generalize (Sl.halves b).2 = Y at ch
    have H := Lib.hid ch
    clear ch
    go_enter Try.func10, Try.ntmps10
    go_wp2_with fail
    refine (H.out _).mono ?_
    rintro e _ ⟨rfl, nq, rfl⟩
    go_wp2_with fail
    go_ret3
    exact ⟨rfl, below_drewN (Below.refl _ _) nq⟩
end Go.Proofs.Ytdcpfpefmndidaa
