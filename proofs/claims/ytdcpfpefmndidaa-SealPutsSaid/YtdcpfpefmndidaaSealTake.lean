/-
  Layer 5: what the document's Take answers; the document's example.
-/
import Derived.Test.YtdcpfpefmndidaaSealOps
namespace Go.Proofs.Ytdcpfpefmndidaa
open Go.RowKit

set_option maxRecDepth 100000 in
set_option maxHeartbeats 4000000 in
theorem rtake5_any (b : ByteArray) (hb : b.size ≤ maxLen) (w : World) :
    Calls Try.prog 11 #[.string b] w fun e w' => e = .returned (.tuple #[.int .i64 (Sl.take b).1, .string (Sl.take b).2.1, .int .i64 (Sl.take b).2.2]) ∧ Below w.heap.size w w' := by
  have ch := fun w => rhalves_any b hb w
  by_cases h1 : b.size = 512
  · have e : Sl.halves b = (Sl.one b, Sl.two b) := by unfold Sl.halves; rw [if_pos h1]
    rw [e] at ch
    have ce := fun w => zeros_any 512 (by omega) w
    have ez : Sl.zer 512 = Sl.zeros := rfl
    have ei : ((512 : Nat) : Int) = 512 := rfl
    rw [ez, ei] at ce
    have t1 : ((b.size : Int) != 512) = false := by rw [h1]; rfl
    by_cases h2 : b = Sl.zeros
    · rw [Sl.take_none h1 h2]
      rw [← h2] at ce
      have H := Lib.hid (And.intro ch ce)
      clear ch ce h2 e ez ei
      generalize Sl.one b = X at H
      generalize Sl.two b = Y at H
      go_enter Try.func11, Try.ntmps11
      go_wp2_with fail
      refine (H.out.1 _).mono ?_
      rintro e _ ⟨rfl, nq, rfl⟩
      go_wp2_with fail
      refine (H.out.2 _).mono ?_
      rintro e w2 ⟨rfl, hb2⟩
      have HB := Lib.hid (below_two (below_drewN (Below.refl _ _) nq) hb2); clear hb2
      go_wp2_with fail
      go_ret3
      exact ⟨rfl, HB.out⟩
    · have q1 : ¬ b.toList = Sl.zeros.toList := str_neq h2
      have q2 := str_beq q1
      generalize Sl.zeros = Z at q1 q2 ce
      by_cases h3 : Sl.one b = Sl.two b
      · rw [← h3] at ch
        have zl : (b.extract 8 10).size ≤ maxLen := by rw [ByteArray.size_extract]; unfold maxLen; omega
        have cl := fun w => rread_any (b.extract 8 10) w zl
        have el : Oct.rd (b.extract 8 10) = Sl.len b := rfl
        rw [el] at cl
        have t8 : (10 : Int) ≤ (b.size : Int) := by omega
        by_cases h5 : Sl.len b ≤ 490
        · obtain ⟨n, hn⟩ : ∃ n : Nat, Sl.len b = (n : Int) := ⟨_, (Int.toNat_of_nonneg (Sl.len_bound b).1).symm⟩
          have hnn : (Sl.len b).toNat = n := by rw [hn, Int.toNat_natCast]
          have z1 : (b.extract 10 256).size = 246 := by rw [ByteArray.size_extract]; omega
          have z2 : (b.extract 264 508).size = 244 := by rw [ByteArray.size_extract]; omega
          have zt : ((b.extract 10 256 ++ b.extract 264 508).extract 0 n).size ≤ maxLen := by rw [ByteArray.size_extract]; unfold maxLen; omega
          have cp := fun w => rput5_any (Sl.one b) ((b.extract 10 256 ++ b.extract 264 508).extract 0 n) zt w
          have et : Sl.take b = if Sl.putE (Sl.one b) ((b.extract 10 256 ++ b.extract 264 508).extract 0 n) = 0 ∧ Sl.putB (Sl.one b) ((b.extract 10 256 ++ b.extract 264 508).extract 0 n) = b then (Sl.one b, (b.extract 10 256 ++ b.extract 264 508).extract 0 n, 0) else (0, ByteArray.empty, 9) := by
            unfold Sl.take
            rw [if_neg (by omega), if_neg h2, if_neg (by simp [h3]), if_neg (by omega), hnn]; rfl
          rw [et]
          have n490 : n ≤ 490 := by omega
          rw [hn] at cl
          have t9 : ¬ (490 : Int) < (n : Int) := by omega
          have ta : (508 : Int) ≤ (b.size : Int) := by omega
          have tb : (256 : Int) ≤ (b.size : Int) := by omega
          generalize Sl.putB (Sl.one b) ((b.extract 10 256 ++ b.extract 264 508).extract 0 n) = P at *
          generalize Sl.putE (Sl.one b) ((b.extract 10 256 ++ b.extract 264 508).extract 0 n) = E at *
          generalize Sl.one b = X at *
          clear h3 et zt hn hnn el e h5 h2 ez ei
          by_cases h6 : E = 0
          · by_cases h7 : P = b
            · rw [if_pos ⟨h6, h7⟩]
              subst h6
              rw [h7] at cp
              clear h7
              have H := Lib.hid (And.intro ch (And.intro ce (And.intro cl cp)))
              clear ch ce cl cp
              go_enter Try.func11, Try.ntmps11
              go_wp2_with fail
              refine (H.out.1 _).mono ?_
              rintro e _ ⟨rfl, nq, rfl⟩
              go_wp2_with fail
              refine (H.out.2.1 _).mono ?_
              rintro e w2 ⟨rfl, hb2⟩
              have H2 := Lib.hid (below_two (below_drewN (Below.refl _ _) nq) hb2); clear hb2
              go_wp2_with fail
              refine (H.out.2.2.1 _).mono ?_
              rintro e _ ⟨rfl, rfl⟩
              go_wp2_with fail
              go_quiet (fail)
              go_wp2_with fail
              refine (H.out.2.2.2 _).mono ?_
              rintro e w3 ⟨rfl, hb3⟩
              have H3 := Lib.hid (below_two H2.out (below_two (below_drewN (Below.refl _ _) _) hb3)); clear hb3 H2
              go_wp2_with fail
              go_quiet (fail)
              go_wp2_with fail
              go_ret3
              exact ⟨rfl, H3.out.trans (below_drewN (Below.refl _ _) _)⟩
            · rw [if_neg (fun hh => h7 hh.2)]
              subst h6
              have q3 : ¬ P.toList = b.toList := str_neq h7
              have q4 := str_beq q3
              clear h7
              have H := Lib.hid (And.intro ch (And.intro ce (And.intro cl cp)))
              clear ch ce cl cp
              go_enter Try.func11, Try.ntmps11
              go_wp2_with fail
              refine (H.out.1 _).mono ?_
              rintro e _ ⟨rfl, nq, rfl⟩
              go_wp2_with fail
              refine (H.out.2.1 _).mono ?_
              rintro e w2 ⟨rfl, hb2⟩
              have H2 := Lib.hid (below_two (below_drewN (Below.refl _ _) nq) hb2); clear hb2
              go_wp2_with fail
              refine (H.out.2.2.1 _).mono ?_
              rintro e _ ⟨rfl, rfl⟩
              go_wp2_with fail
              go_quiet (fail)
              go_wp2_with fail
              refine (H.out.2.2.2 _).mono ?_
              rintro e w3 ⟨rfl, hb3⟩
              have H3 := Lib.hid (below_two H2.out (below_two (below_drewN (Below.refl _ _) _) hb3)); clear hb3 H2
              go_wp2_with fail
              go_ret3
              exact ⟨rfl, H3.out⟩
          · rw [if_neg (fun hh => h6 hh.1)]
            have q3 : (E != 0) = true := by simpa using h6
            clear h6
            have H := Lib.hid (And.intro ch (And.intro ce (And.intro cl cp)))
            clear ch ce cl cp
            go_enter Try.func11, Try.ntmps11
            go_wp2_with fail
            refine (H.out.1 _).mono ?_
            rintro e _ ⟨rfl, nq, rfl⟩
            go_wp2_with fail
            refine (H.out.2.1 _).mono ?_
            rintro e w2 ⟨rfl, hb2⟩
            have H2 := Lib.hid (below_two (below_drewN (Below.refl _ _) nq) hb2); clear hb2
            go_wp2_with fail
            refine (H.out.2.2.1 _).mono ?_
            rintro e _ ⟨rfl, rfl⟩
            go_wp2_with fail
            go_quiet (fail)
            go_wp2_with fail
            refine (H.out.2.2.2 _).mono ?_
            rintro e w3 ⟨rfl, hb3⟩
            have H3 := Lib.hid (below_two H2.out (below_two (below_drewN (Below.refl _ _) _) hb3)); clear hb3 H2
            go_wp2_with fail
            go_ret3
            exact ⟨rfl, H3.out⟩
        · have et : Sl.take b = (0, ByteArray.empty, 9) := by
            unfold Sl.take
            rw [if_neg (by omega), if_neg h2, if_neg (by simp [h3]), if_pos (by omega)]
          rw [et]
          have t3 : 490 < Sl.len b := by omega
          clear h2 h3 h5 e et el zl ez ei
          generalize Sl.one b = X at *
          generalize Sl.len b = L at *
          have H := Lib.hid (And.intro ch (And.intro ce cl))
          clear ch ce cl
          go_enter Try.func11, Try.ntmps11
          go_wp2_with fail
          refine (H.out.1 _).mono ?_
          rintro e _ ⟨rfl, nq, rfl⟩
          go_wp2_with fail
          refine (H.out.2.1 _).mono ?_
          rintro e w2 ⟨rfl, hb2⟩
          have H2 := Lib.hid (below_two (below_drewN (Below.refl _ _) nq) hb2); clear hb2
          go_wp2_with fail
          refine (H.out.2.2 _).mono ?_
          rintro e _ ⟨rfl, rfl⟩
          go_wp2_with fail
          go_ret3
          exact ⟨rfl, H2.out⟩
      · rw [Sl.take_torn h1 h3]
        have t2 : (Sl.one b != Sl.two b) = true := by simpa using h3
        clear h2 e ez ei
        generalize Sl.one b = X at *
        generalize Sl.two b = Y at *
        have H := Lib.hid (And.intro ch ce)
        clear ch ce
        go_enter Try.func11, Try.ntmps11
        go_wp2_with fail
        refine (H.out.1 _).mono ?_
        rintro e _ ⟨rfl, nq, rfl⟩
        go_wp2_with fail
        refine (H.out.2 _).mono ?_
        rintro e w2 ⟨rfl, hb2⟩
        have H2 := Lib.hid (below_two (below_drewN (Below.refl _ _) nq) hb2); clear hb2
        go_wp2_with fail
        go_ret3
        exact ⟨rfl, H2.out⟩
  · rw [Sl.take_form h1]
    have t1 : ((b.size : Int) != 512) = true := by simpa using (by omega : ¬ (b.size : Int) = 512)
    generalize (Sl.halves b).1 = X at ch
    generalize (Sl.halves b).2 = Y at ch
    have H := Lib.hid ch
    clear ch
    go_enter Try.func11, Try.ntmps11
    go_wp2_with fail
    refine (H.out _).mono ?_
    rintro e _ ⟨rfl, nq, rfl⟩
    go_wp2_with fail
    go_ret3
    exact ⟨rfl, below_drewN (Below.refl _ _) nq⟩
end Go.Proofs.Ytdcpfpefmndidaa
