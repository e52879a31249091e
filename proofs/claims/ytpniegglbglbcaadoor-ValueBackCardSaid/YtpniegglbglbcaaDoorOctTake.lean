/-
  Layer 1: what TakeNum answers (the program's and the document's).
-/
import Derived.Test.YtpniegglbglbcaaDoorOctLeaf
namespace Go.Proofs.YtpniegglbglbcaaDoor
open Go.RowKit

theorem ret3 {a a' e e' : Int} {r r' : ByteArray} (h : a = a' ∧ r = r' ∧ e = e') :
    Ending.returned (.tuple #[.int .i64 a, .string r, .int .i64 e]) = .returned (.tuple #[.int .i64 a', .string r', .int .i64 e']) := by rw [h.1, h.2.1, h.2.2]

set_option maxRecDepth 100000 in
set_option maxHeartbeats 800000 in
theorem takeNum_any (s : ByteArray) (w : World) (hs : s.size ≤ maxLen) :
    Calls Tryd.prog 38 #[.string s] w fun e w' => e = .returned (.tuple #[.int .i64 (Oct.tN s), .string (Oct.tR s), .int .i64 (Oct.tE s)]) ∧ ∃ n, w' = w.drewN n := by
  unfold maxLen at hs
  go_enter Tryd.func38, Tryd.ntmps38
  go_wp2
  go_loop [5, 8] (fun c i => ∃ k : Nat, k ≤ 10 ∧ i = .int .i64 k ∧ ((k ≤ 9 ∧ k ≤ s.size ∧ ∃ acc : Nat, acc < 18446744073709551616 ∧ c = .int .u64 (acc : Int) ∧ Oct.Inv s.data.toList k acc) ∨ (k = 10 ∧ (∃ C : Int, c = .int .u64 C) ∧ Hid (Oct.take 0 s.data.toList = (4, 0, [])))))
    (fun _ i => 10 - (intOf i).toNat)
  case atStart => exact ⟨0, by omega, rfl, .inl ⟨by omega, by omega, 0, by omega, rfl, Oct.inv_start _⟩⟩
  case round =>
    obtain ⟨k, hk, rfl, ⟨hk9, hks, acc, hacc, rfl, hinv⟩ | ⟨rfl, ⟨C, rfl⟩, herr⟩⟩ := hrel
    · by_cases he : k = s.size
      · have hE := Lib.hid (Oct.inv_end hinv (by simpa using he))
        have ht : ((k : Int) == (s.size : Int)) = true := by simp; omega
        clear he
        go_wp2
        go_ret3
        exact ⟨ret3 (Oct.t_err (by decide) hE.out), 0, rfl⟩
      · have hlt : k < s.size := by omega
        have ht : ((k : Int) == (s.size : Int)) = false := by simp; omega
        clear he
        have hlt' : k < s.data.toList.length := by simpa using hlt
        have hg : s.data.toList[k] = s[k] := rfl
        have hb256 : s[k].toNat < 256 := s[k].toNat_lt
        have ha := andNot128 s[k]
        have hb0 : 0 ≤ bits .andNot .u8 ((s[k].toNat : Nat) : Int) 128 := by omega
        have hb1 : bits .andNot .u8 ((s[k].toNat : Nat) : Int) 128 < 256 := by omega
        have HA := Lib.hid ha; clear ha
        by_cases h128 : 128 ≤ s[k].toNat
        · by_cases h9 : k = 9
          · have herr : Hid (Oct.take 0 s.data.toList = (4, 0, [])) := Lib.hid (Oct.inv_form hinv hlt' (.inl ⟨h9, by rw [hg]; omega⟩))
            have hk9 : 9 ≤ k := by omega
            clear h9 hg
            go_wp2_with (go_at_call 54; refine (worth7_any _ _ _ hb0 hb1 (by omega) (by omega)).mono ?_; rintro e w' ⟨rfl, rfl⟩)
            go_round
            case rel => exact ⟨k + 1, by omega, by go_num, .inr ⟨by omega, ⟨_, rfl⟩, herr⟩⟩
            case measure => simp [intOf]; omega
          · have hm := Oct.inv_more hinv hlt' h9 (by rw [hg]; omega)
            have ho := or_digit acc (s[k].toNat % 128) k hk9 hinv.1 (by omega) (fun h => absurd h h9)
            rw [hg, show s[k].toNat - 128 = s[k].toNat % 128 from by omega] at hm
            have h9' : k ≤ 8 := by omega
            have HO := Lib.hid ho; clear ho h9 hg
            go_wp2_with (go_at_call 54; refine (worth7_any _ _ _ hb0 hb1 (by omega) (by omega)).mono ?_; rintro e w' ⟨rfl, rfl⟩)
            go_round
            case rel => exact ⟨k + 1, by omega, by go_num, .inl ⟨by omega, by omega, _, HO.out.2, by rw [HA.out, HO.out.1], hm⟩⟩
            case measure => simp [intOf]; omega
        · by_cases hbad : (k = 9 ∧ 1 < s[k].toNat) ∨ (0 < k ∧ s[k].toNat = 0)
          · have herr := Lib.hid (Oct.inv_form hinv hlt' (by rw [hg]; exact hbad))
            clear hg
            rcases hbad with ⟨h9, h1⟩ | ⟨h0, h1⟩
            · have t1 : ((k : Int) == 9) = true := by simp; omega
              have t2 : ((s[k].toNat : Int) == 0) = false := by simp; omega
              have hk0 : 9 ≤ k := by omega
              clear h9
              go_wp2_with (go_at_call 54; refine (worth7_any _ _ _ hb0 hb1 (by omega) (by omega)).mono ?_; rintro e w' ⟨rfl, rfl⟩)
              go_ret3
              exact ⟨ret3 (Oct.t_err (by decide) herr.out), 0, rfl⟩
            · have t2 : ((s[k].toNat : Int) == 0) = true := by simp; omega
              clear h1
              go_wp2_with (go_at_call 54; refine (worth7_any _ _ _ hb0 hb1 (by omega) (by omega)).mono ?_; rintro e w' ⟨rfl, rfl⟩)
              go_ret3
              exact ⟨ret3 (Oct.t_err (by decide) herr.out), 0, rfl⟩
          · have hl := Oct.inv_last hinv hlt' (by rw [hg]; exact hbad) (by rw [hg]; omega)
            have ho := or_digit acc (s[k].toNat % 128) k hk9 hinv.1 (by omega) (fun h => by omega)
            rw [hg] at hl
            have ha : bits .andNot .u8 ((s[k].toNat : Nat) : Int) 128 = ((s[k].toNat : Nat) : Int) := by rw [HA.out]; omega
            rw [show s[k].toNat % 128 = s[k].toNat from by omega] at ho
            obtain ⟨N, hN⟩ : ∃ N, N = acc + 2 ^ (7 * k) * s[k].toNat := ⟨_, rfl⟩
            rw [← hN] at ho hl
            obtain ⟨ho1, ho2⟩ := ho
            have HL := Lib.hid hl
            clear hN hl hg hb0 hb1 HA
            have hw : ∀ (i : Int) (w : World), 0 ≤ i → i ≤ 9 → _ := fun i w h2 h3 => worth7_any ((s[k].toNat : Nat) : Int) i w (by omega) (by omega) h2 h3
            have HW := Lib.hid hw; clear hw
            by_cases h0 : k = 0
            · have t1 : ((k : Int) == 9) = false := by simp; omega
              have h0' : ¬ 0 < k := by omega
              clear h0
              go_wp2_with (go_at_call 54; refine (HW.out _ _ (by omega) (by omega)).mono ?_; rintro e w' ⟨rfl, rfl⟩)
              go_quiet ((go_at_call 55; exact Calls.quiet_of_same (decode_any N _ ho2)))
              go_wp2
              go_ret3
              exact ⟨ret3 (Oct.t_last HL.out), _, rfl⟩
            · have t2 : ((s[k].toNat : Int) == 0) = false := by simp; omega
              have h0' : 0 < k := by omega
              clear h0
              by_cases h9 : k = 9
              · have t1 : ((k : Int) == 9) = true := by simp; omega
                have h1 : ¬ 1 < s[k].toNat := by omega
                have hk0 : 9 ≤ k := by omega
                clear h9
                go_wp2_with (go_at_call 54; refine (HW.out _ _ (by omega) (by omega)).mono ?_; rintro e w' ⟨rfl, rfl⟩)
                go_quiet ((go_at_call 55; exact Calls.quiet_of_same (decode_any N _ ho2)))
                go_wp2
                go_ret3
                exact ⟨ret3 (Oct.t_last HL.out), _, rfl⟩
              · have t1 : ((k : Int) == 9) = false := by simp; omega
                clear h9
                go_wp2_with (go_at_call 54; refine (HW.out _ _ (by omega) (by omega)).mono ?_; rintro e w' ⟨rfl, rfl⟩)
                go_quiet ((go_at_call 55; exact Calls.quiet_of_same (decode_any N _ ho2)))
                go_wp2
                go_ret3
                exact ⟨ret3 (Oct.t_last HL.out), _, rfl⟩
    · go_wp2
      go_ret3
      exact ⟨ret3 (Oct.t_err (by decide) herr.out), 0, rfl⟩

/-- the place's worth, one further: as uint64s go -/
theorem power_step (k : Nat) (hk : k ≤ 8) : ((2 ^ (7 * k) : Nat) : Int) * 128 = ((2 ^ (7 * (k + 1)) : Nat) : Int) ∧ (2 : Nat) ^ (7 * (k + 1)) < 18446744073709551616 := by
  have e : (2 : Nat) ^ (7 * (k + 1)) = 128 * 2 ^ (7 * k) := by rw [show 7 * (k + 1) = 7 + 7 * k from by omega, Nat.pow_add]
  have h8 : (2 : Nat) ^ (7 * k) ≤ 2 ^ 56 := Nat.pow_le_pow_right (by omega) (by omega)
  omega
theorem sum_digit (acc d k : Nat) (hk : k ≤ 9) (h : acc < 2 ^ (7 * k)) (hd : d < 128) (h9 : k = 9 → d ≤ 1) :
    IntKind.u64.wrap ((acc : Int) + IntKind.u64.wrap ((d : Int) * ((2 ^ (7 * k) : Nat) : Int))) = ((acc + 2 ^ (7 * k) * d : Nat) : Int) ∧ acc + 2 ^ (7 * k) * d < 18446744073709551616 := by
  have ho := (or_digit acc d k hk h hd h9).2
  have e2 : ((d : Int) * ((2 ^ (7 * k) : Nat) : Int)) = ((2 ^ (7 * k) * d : Nat) : Int) := by push_cast; rw [Int.mul_comm]
  rw [e2, IntKind.wrap_u64, IntKind.wrap_u64, Int.emod_eq_of_lt (a := ((2 ^ (7 * k) * d : Nat) : Int)) (by omega) (by omega), Int.emod_eq_of_lt (by omega) (by omega)]
  exact ⟨by push_cast; rfl, ho⟩

set_option maxRecDepth 100000 in
set_option maxHeartbeats 800000 in
theorem rtakeNum_any (s : ByteArray) (w : World) (hs : s.size ≤ maxLen) :
    Calls Tryd.prog 36 #[.string s] w fun e w' => e = .returned (.tuple #[.int .i64 (Oct.tN s), .string (Oct.tR s), .int .i64 (Oct.tE s)]) ∧ ∃ n, w' = w.drewN n := by
  unfold maxLen at hs
  go_enter Tryd.func36, Tryd.ntmps36
  go_wp2
  go_loop [5, 6, 7] (fun c p i => ∃ k acc P : Nat, k ≤ 9 ∧ k ≤ s.size ∧ i = .int .i64 k ∧ c = .int .u64 (acc : Int) ∧ p = .int .u64 (P : Int) ∧ P < 18446744073709551616 ∧ Hid (P = 2 ^ (7 * k)) ∧ acc < 18446744073709551616 ∧ Oct.Inv s.data.toList k acc)
    (fun _ _ i => s.size - (intOf i).toNat)
  case atStart => exact ⟨0, 0, 1, by omega, by omega, rfl, rfl, rfl, by omega, Lib.hid rfl, by omega, Oct.inv_start _⟩
  case round =>
    obtain ⟨k, acc, P, hk9, hks, rfl, rfl, rfl, hP, HP, hacc, hinv⟩ := hrel
    by_cases he : k = s.size
    · have hE := Lib.hid (Oct.inv_end hinv (by simpa using he))
      have ht : ¬ k < s.size := by omega
      clear he
      go_wp2
      go_ret3
      exact ⟨ret3 (Oct.t_err (by decide) hE.out), 0, rfl⟩
    · have hlt : k < s.size := by omega
      clear he
      have hlt' : k < s.data.toList.length := by simpa using hlt
      have hg : s.data.toList[k] = s[k] := rfl
      have hb256 : s[k].toNat < 256 := s[k].toNat_lt
      by_cases hbad : (k = 9 ∧ 1 < s[k].toNat) ∨ (0 < k ∧ s[k].toNat = 0)
      · have herr := Lib.hid (Oct.inv_form hinv hlt' (by rw [hg]; exact hbad))
        clear hg
        rcases hbad with ⟨h9, h1⟩ | ⟨h0, h1⟩
        · have t1 : ((k : Int) == 9) = true := by simp; omega
          have t2 : ((s[k].toNat : Int) == 0) = false := by simp; omega
          have hk0 : 9 ≤ k := by omega
          clear h9
          go_wp2
          go_ret3
          exact ⟨ret3 (Oct.t_err (by decide) herr.out), 0, rfl⟩
        · have t2 : ((s[k].toNat : Int) == 0) = true := by simp; omega
          have t3 : ¬ 1 < s[k].toNat := by omega
          clear h1
          by_cases h9 : k = 9
          · have t1 : ((k : Int) == 9) = true := by simp; omega
            have hk0 : 9 ≤ k := by omega
            clear h9
            go_wp2
            go_ret3
            exact ⟨ret3 (Oct.t_err (by decide) herr.out), 0, rfl⟩
          · have t1 : ((k : Int) == 9) = false := by simp; omega
            clear h9
            go_wp2
            go_ret3
            exact ⟨ret3 (Oct.t_err (by decide) herr.out), 0, rfl⟩
      · have ho := sum_digit acc (s[k].toNat % 128) k hk9 hinv.1 (by omega) (fun h => by omega)
        have hm : 128 ≤ s[k].toNat → Oct.Inv s.data.toList (k + 1) (acc + 2 ^ (7 * k) * (s[k].toNat % 128)) ∧ k ≤ 8 := fun h => by
          have := Oct.inv_more hinv hlt' (by omega) (by rw [hg]; exact h)
          rw [hg, show s[k].toNat - 128 = s[k].toNat % 128 from by omega] at this
          exact ⟨this, by omega⟩
        have hl : s[k].toNat < 128 → Oct.take 0 s.data.toList = (0, acc + 2 ^ (7 * k) * (s[k].toNat % 128), s.data.toList.drop (k + 1)) := fun h => by
          have := Oct.inv_last hinv hlt' (by rw [hg]; exact hbad) (by rw [hg]; exact h)
          rw [this, hg, Nat.mod_eq_of_lt h]
        rw [← HP.out] at ho
        obtain ⟨N, hN⟩ : ∃ N, N = acc + P * (s[k].toNat % 128) := ⟨_, rfl⟩
        rw [← HP.out, ← hN] at hm hl
        rw [← hN] at ho
        obtain ⟨ho1, ho2⟩ := ho
        have ho1 : IntKind.u64.wrap ((acc : Int) + IntKind.u64.wrap ((s[k].toNat : Int) % 128 * (P : Int))) = (N : Int) := by rw [← ho1]; push_cast; rfl
        have HM := Lib.hid hm
        have HL := Lib.hid hl
        clear hm hl hN hg
        by_cases h128 : 128 ≤ s[k].toNat
        · obtain ⟨hinv', hk8⟩ := HM.out h128
          have hps := power_step k hk8
          rw [← HP.out] at hps
          obtain ⟨hps1, hps2⟩ := hps
          have hP2 : P * 128 < 18446744073709551616 := by omega
          have HP2 : Hid (P * 128 = 2 ^ (7 * (k + 1))) := Lib.hid (by omega)
          clear hps1 hps2 HM HL
          have t1 : ((k : Int) == 9) = false := by simp; omega
          have t2 : ((s[k].toNat : Int) == 0) = false := by simp; omega
          clear hbad
          by_cases h0 : 0 < k
          all_goals
            go_wp2
            go_round
            case rel => exact ⟨k + 1, N, P * 128, by omega, by omega, by go_num, rfl, by go_num, hP2, HP2, ho2, hinv'⟩
            case measure => simp [intOf]; omega
        · have HL := Lib.hid (HL.out (by omega))
          clear HM
          by_cases h0 : k = 0
          · have t1 : ((k : Int) == 9) = false := by simp; omega
            have h0' : ¬ 0 < k := by omega
            clear h0 hbad
            go_wp2
            go_quiet ((go_at_call 53; exact Calls.quiet_of_same (rnumber_any N _ ho2)))
            go_wp2
            go_ret3
            exact ⟨ret3 (Oct.t_last HL.out), _, rfl⟩
          · have t2 : ((s[k].toNat : Int) == 0) = false := by simp; omega
            have h0' : 0 < k := by omega
            by_cases h9 : k = 9
            · have t1 : ((k : Int) == 9) = true := by simp; omega
              have h1 : ¬ 1 < s[k].toNat := by omega
              have hk0 : 9 ≤ k := by omega
              clear h0 h9 hbad
              go_wp2
              go_quiet ((go_at_call 53; exact Calls.quiet_of_same (rnumber_any N _ ho2)))
              go_wp2
              go_ret3
              exact ⟨ret3 (Oct.t_last HL.out), _, rfl⟩
            · have t1 : ((k : Int) == 9) = false := by simp; omega
              clear h0 h9 hbad
              go_wp2
              go_quiet ((go_at_call 53; exact Calls.quiet_of_same (rnumber_any N _ ho2)))
              go_wp2
              go_ret3
              exact ⟨ret3 (Oct.t_last HL.out), _, rfl⟩
end Go.Proofs.YtpniegglbglbcaaDoor
