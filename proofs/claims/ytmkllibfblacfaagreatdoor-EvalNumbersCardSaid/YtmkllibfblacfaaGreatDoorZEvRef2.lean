/-
  Layer 16, the document's: products, bit by bit.
-/
import Derived.Test.YtmkllibfblacfaaGreatDoorZEvRef
namespace Go.Proofs.YtmkllibfblacfaaGreatDoor
open Go.RowKit
set_option maxRecDepth 100000 in
set_option maxHeartbeats 1600000 in
theorem rmul16_any (a b : Int) (ha : Ev.in64 a) (hb : Ev.in64 b) (w : World) : Calls Tryz.prog 11 #[.int .i64 a, .int .i64 b] w fun e w' => e = .returned (.tuple #[.int .i64 (Ev.mul a b).1, .int .i64 (Ev.mul a b).2]) ∧ w' = w := by
  by_cases h0 : a = 0
  · subst h0
    rw [show Ev.mul 0 b = (0, 0) by unfold Ev.mul; rw [Int.zero_mul]; exact if_pos (by decide)]
    go_enter Tryz.func11, Tryz.ntmps11
    go_wp2_with fail
    go_ret2
    exact ⟨rfl, rfl⟩
  have t0 : (a == 0) = false := by simpa using h0
  by_cases h1 : b = 0
  · subst h1
    rw [show Ev.mul a 0 = (0, 0) by unfold Ev.mul; rw [Int.mul_zero]; exact if_pos (by decide)]
    go_enter Tryz.func11, Tryz.ntmps11
    go_wp2_with fail
    go_ret2
    exact ⟨rfl, rfl⟩
  have t1 : (b == 0) = false := by simpa using h1
  have CA := Lib.hid fun (x y : Int) (hx : Ev.in64 x) (hy : Ev.in64 y) (wx : World) => radd16_any x y hx hy wx
  have CS := Lib.hid fun (x y : Int) (hx : Ev.in64 x) (hy : Ev.in64 y) (wx : World) => rsub16_any x y hx hy wx
  by_cases hm : b = -9223372036854775808
  · have HM := Lib.hid (Ev.mul_least ha h0)
    subst hm
    have HL := Lib.hid (rleast16_any a w)
    rw [← HM.out] at HL
    generalize Ev.mul a (-9223372036854775808) = R at *
    obtain ⟨r1, r2⟩ := R
    have c0 := CA.out 0 0 (by decide) (by decide)
    rw [show Ev.add 0 0 = (0, 0) from by decide] at c0
    have C0 := Lib.hid c0
    clear c0 ha hb h0 h1
    go_enter Tryz.func11, Tryz.ntmps11
    go_wp2_with fail
    go_loopw [6, 7] (fun v i wr => v = .int .i64 0 ∧ i = .int .i64 62 ∧ wr = w) (fun _ _ _ => 0)
    case atStart => exact ⟨rfl, rfl, rfl⟩
    case round =>
      obtain ⟨rfl, rfl, rfl⟩ := hrel
      go_wp2_with fail
      refine (C0.out _).mono ?_
      rintro e w1 ⟨rfl, rfl⟩
      go_wp2_with fail
      refine HL.out.mono ?_
      rintro e w1 ⟨rfl, rfl⟩
      go_wp2_with fail
      go_ret2
      exact ⟨rfl, rfl⟩
  have tm : (b == -9223372036854775808) = false := by simpa using hm
  have HQ := Lib.hid (And.intro ha (Ev.q_top hb hm))
  obtain ⟨R, hR⟩ : ∃ R, Ev.mul a b = R := ⟨_, rfl⟩
  rw [hR]
  have HR := Lib.hid hR
  have HB := Lib.hid hb
  clear hm h0 h1 ha hb hR
  go_enter Tryz.func11, Tryz.ntmps11
  go_wp2_with fail
  go_loopw [6, 7] (fun v i wr => ∃ (K : Nat) (S : Int), v = .int .i64 S ∧ i = .int .i64 ((K : Int) - 1) ∧ K ≤ 63 ∧ Hid (S = a * Ev.Q b K ∧ Ev.in64 S) ∧ wr = w) (fun _ i _ => (intOf i + 1).toNat)
  case atStart => exact ⟨63, 0, rfl, rfl, Nat.le_refl _, Lib.hid ⟨by rw [HQ.out.2, Int.mul_zero], by decide⟩, rfl⟩
  case round =>
    obtain ⟨K, S, rfl, rfl, hK, HS, rfl⟩ := hrel
    by_cases hz : K = 0
    · subst hz
      have e : R = (S, 0) := by
        obtain ⟨h1, h2⟩ := HS.out
        rw [Ev.q_zero] at h1
        subst h1
        exact HR.out.symm.trans (if_pos h2)
      have HE := Lib.hid e
      clear e
      rw [show ((0 : Nat) : Int) - 1 = -1 by decide]
      go_wp2_with fail
      go_ret2
      exact ⟨by rw [HE.out] <;> rfl, rfl⟩
    · obtain ⟨k, rfl⟩ := Nat.exists_eq_succ_of_ne_zero hz
      rw [show ((k.succ : Nat) : Int) - 1 = (k : Int) by omega]
      have C1 := CA.out S S HS.out.2 HS.out.2 wr
      have HT := Ev.mul_twice a b k
      rw [← HS.out.1] at HT
      rcases HT with ⟨hi, e⟩ | ⟨e, em⟩
      · rw [e] at C1
        have HC := Lib.hid C1
        have HI := Lib.hid hi
        have eq : (wrap64 (b.tdiv (wrap64 (2 ^ k)))).tmod 2 = (Ev.Q b k).tmod 2 := by
          have h1 : (0 : Int) < 2 ^ k := Int.pow_pos (by decide)
          have h2 : (2 : Int) ^ k ≤ 2 ^ 62 := by exact_mod_cast Nat.pow_le_pow_right (by decide) (show k ≤ 62 by omega)
          have h3 : (2 : Int) ^ 62 = 4611686018427387904 := by decide
          have h4 : wrap64 (2 ^ k) = 2 ^ k := IntWalk.wrap64_in (2 ^ k) (by omega)
          have h5 : wrap64 (b.tdiv (2 ^ k)) = b.tdiv (2 ^ k) := IntWalk.wrap64_in _ (Ev.in64_betw (Ev.q_betw b k) HB.out)
          rw [h4, h5]; rfl
        have hne : ¬ wrap64 (2 ^ k) = 0 := by
          have h1 : (0 : Int) < 2 ^ k := Int.pow_pos (by decide)
          have h2 : (2 : Int) ^ k ≤ 2 ^ 62 := by exact_mod_cast Nat.pow_le_pow_right (by decide) (show k ≤ 62 by omega)
          have h3 : (2 : Int) ^ 62 = 4611686018427387904 := by decide
          have h4 : wrap64 (2 ^ k) = 2 ^ k := IntWalk.wrap64_in (2 ^ k) (by omega)
          omega
        clear C1 hi e
        rcases Int.tmod_two_eq (Ev.Q b k) with hb | hb | hb
        · skip
          have hs := Ev.mul_less (a := a) hb
          rw [← HS.out.1] at hs
          rw [hb] at eq
          have C2 := CS.out (S + S) a HI.out HQ.out.1 wr
          unfold Ev.sub at C2
          rw [hs] at C2
          rcases Ev.mul_next a b k with hn | ⟨hn, em⟩
          · rw [if_pos hn] at C2
            have HD := Lib.hid C2
            have HN := Lib.hid hn
            clear C2 hn hs hb
            go_wp2_with fail
            refine HC.out.mono ?_
            rintro e w1 ⟨rfl, rfl⟩
            go_wp2_with fail
            refine HD.out.mono ?_
            rintro e w1 ⟨rfl, rfl⟩
            go_wp2_with fail
            go_roundw
            case rel => exact ⟨k, _, rfl, rfl, by omega, Lib.hid ⟨rfl, HN.out⟩, trivial⟩
            case measure => simp only [intOf]; omega
          · rw [if_neg hn] at C2
            have HD := Lib.hid C2
            have HE := Lib.hid (HR.out.symm.trans em)
            clear C2 hn hs hb em
            go_wp2_with fail
            refine HC.out.mono ?_
            rintro e w1 ⟨rfl, rfl⟩
            go_wp2_with fail
            refine HD.out.mono ?_
            rintro e w1 ⟨rfl, rfl⟩
            go_wp2_with fail
            go_ret2
            exact ⟨by rw [HE.out] <;> rfl, rfl⟩
        · skip
          have hs := Ev.mul_same (a := a) hb
          rw [← HS.out.1] at hs
          rw [hb] at eq
          have HN := Lib.hid (And.intro hs HI.out)
          clear hs hb
          go_wp2_with fail
          refine HC.out.mono ?_
          rintro e w1 ⟨rfl, rfl⟩
          go_wp2_with fail
          go_roundw
          case rel => exact ⟨k, _, rfl, rfl, by omega, Lib.hid ⟨HN.out.1, HN.out.1 ▸ HN.out.2⟩, trivial⟩
          case measure => simp only [intOf]; omega
        · skip
          have hs := Ev.mul_one (a := a) hb
          rw [← HS.out.1] at hs
          rw [hb] at eq
          have C2 := CA.out (S + S) a HI.out HQ.out.1 wr
          unfold Ev.add at C2
          rw [hs] at C2
          rcases Ev.mul_next a b k with hn | ⟨hn, em⟩
          · rw [if_pos hn] at C2
            have HD := Lib.hid C2
            have HN := Lib.hid hn
            clear C2 hn hs hb
            go_wp2_with fail
            refine HC.out.mono ?_
            rintro e w1 ⟨rfl, rfl⟩
            go_wp2_with fail
            refine HD.out.mono ?_
            rintro e w1 ⟨rfl, rfl⟩
            go_wp2_with fail
            go_roundw
            case rel => exact ⟨k, _, rfl, rfl, by omega, Lib.hid ⟨rfl, HN.out⟩, trivial⟩
            case measure => simp only [intOf]; omega
          · rw [if_neg hn] at C2
            have HD := Lib.hid C2
            have HE := Lib.hid (HR.out.symm.trans em)
            clear C2 hn hs hb em
            go_wp2_with fail
            refine HC.out.mono ?_
            rintro e w1 ⟨rfl, rfl⟩
            go_wp2_with fail
            refine HD.out.mono ?_
            rintro e w1 ⟨rfl, rfl⟩
            go_wp2_with fail
            go_ret2
            exact ⟨by rw [HE.out] <;> rfl, rfl⟩
      · rw [e] at C1
        have HC := Lib.hid C1
        have HE := Lib.hid (HR.out.symm.trans em)
        clear C1 e em
        go_wp2_with fail
        refine HC.out.mono ?_
        rintro e w1 ⟨rfl, rfl⟩
        go_wp2_with fail
        go_ret2
        exact ⟨by rw [HE.out] <;> rfl, rfl⟩
end Go.Proofs.YtmkllibfblacfaaGreatDoor
