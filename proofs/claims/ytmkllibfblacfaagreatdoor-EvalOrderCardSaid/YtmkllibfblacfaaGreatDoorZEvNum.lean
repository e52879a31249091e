/-
  Layer 16: sums, differences, products and quotients within 64 bits.
-/
import Derived.Test.YtmkllibfblacfaaGreatDoorProg
import Derived.Test.YtmkllibfblacfaaGreatDoorPk1
namespace Go.Proofs.YtmkllibfblacfaaGreatDoor
open Go.RowKit
namespace Ev
/-- within 64 bits -/
def in64 (n : Int) : Prop := -9223372036854775808 ≤ n ∧ n ≤ 9223372036854775807
instance (n : Int) : Decidable (in64 n) := by unfold in64; infer_instance
def add (a b : Int) : Int × Int := if in64 (a + b) then (a + b, 0) else (0, 15)
def sub (a b : Int) : Int × Int := if in64 (a - b) then (a - b, 0) else (0, 15)
def mul (a b : Int) : Int × Int := if in64 (a * b) then (a * b, 0) else (0, 15)
def div (a b : Int) : Int × Int := if b = 0 then (0, 16) else if in64 (a.tdiv b) then (a.tdiv b, 0) else (0, 15)
end Ev
theorem wrap_over {n : Int} (h : 9223372036854775808 ≤ n) (h2 : n < 27670116110564327424) : wrap64 n = n - 18446744073709551616 := by unfold wrap64; omega
theorem wrap_under {n : Int} (h : n < -9223372036854775808) (h2 : -27670116110564327424 ≤ n) : wrap64 n = n + 18446744073709551616 := by unfold wrap64; omega
theorem Ev.in64_wrap (n : Int) : Ev.in64 (wrap64 n) := by unfold Ev.in64 wrap64; omega
/-- the sum told by what stands on which side -/
theorem Ev.add_is {a b : Int} (ha : Ev.in64 a) (hb : Ev.in64 b) : (decide (a < wrap64 (a + b)) = decide (0 < b) ∧ Ev.add a b = (wrap64 (a + b), 0)) ∨ (decide (a < wrap64 (a + b)) = !decide (0 < b) ∧ Ev.add a b = (0, 15)) := by
  unfold Ev.in64 at ha hb
  by_cases h : Ev.in64 (a + b)
  · left
    unfold Ev.add
    rw [if_pos h]
    unfold Ev.in64 at h
    rw [IntWalk.wrap64_in _ h]
    refine ⟨?_, rfl⟩
    by_cases h0 : 0 < b
    · rw [decide_eq_true h0, decide_eq_true (by omega)]
    · rw [decide_eq_false h0, decide_eq_false (by omega)]
  · right
    unfold Ev.add
    rw [if_neg h]
    unfold Ev.in64 at h
    refine ⟨?_, rfl⟩
    by_cases h0 : 0 < b
    · rw [wrap_over (by omega) (by omega), decide_eq_true h0, decide_eq_false (by omega)]; rfl
    · rw [wrap_under (by omega) (by omega), decide_eq_false h0, decide_eq_true (by omega)]; rfl
theorem Ev.sub_is {a b : Int} (ha : Ev.in64 a) (hb : Ev.in64 b) : (decide (wrap64 (a - b) < a) = decide (0 < b) ∧ Ev.sub a b = (wrap64 (a - b), 0)) ∨ (decide (wrap64 (a - b) < a) = !decide (0 < b) ∧ Ev.sub a b = (0, 15)) := by
  unfold Ev.in64 at ha hb
  by_cases h : Ev.in64 (a - b)
  · left
    unfold Ev.sub
    rw [if_pos h]
    unfold Ev.in64 at h
    rw [IntWalk.wrap64_in _ h]
    refine ⟨?_, rfl⟩
    by_cases h0 : 0 < b
    · rw [decide_eq_true h0, decide_eq_true (by omega)]
    · rw [decide_eq_false h0, decide_eq_false (by omega)]
  · right
    unfold Ev.sub
    rw [if_neg h]
    unfold Ev.in64 at h
    refine ⟨?_, rfl⟩
    by_cases h0 : 0 < b
    · rw [wrap_under (by omega) (by omega), decide_eq_true h0, decide_eq_false (by omega)]; rfl
    · rw [wrap_over (by omega) (by omega), decide_eq_false h0, decide_eq_true (by omega)]; rfl
/-- the product told by a quotient -/
theorem Ev.mul_is {a b : Int} (ha : Ev.in64 a) (hb : Ev.in64 b) (h0 : ¬ a = 0) (h1 : ¬ a = -1) : (wrap64 ((wrap64 (a * b)).tdiv a) = b ∧ Ev.mul a b = (wrap64 (a * b), 0)) ∨ (wrap64 ((wrap64 (a * b)).tdiv a) ≠ b ∧ Ev.mul a b = (0, 15)) := by
  unfold Ev.in64 at ha hb
  by_cases h : Ev.in64 (a * b)
  · left
    unfold Ev.mul
    rw [if_pos h]
    unfold Ev.in64 at h
    rw [IntWalk.wrap64_in _ h, Int.mul_tdiv_cancel_left b h0, IntWalk.wrap64_in _ hb]
    exact ⟨rfl, rfl⟩
  · right
    unfold Ev.mul
    rw [if_neg h]
    refine ⟨fun e => ?_, rfl⟩
    have hS := Ev.in64_wrap (a * b)
    obtain ⟨k, hk⟩ : ∃ k : Int, wrap64 (a * b) = a * b - k * 18446744073709551616 := ⟨(a * b + 9223372036854775808) / 18446744073709551616, by unfold wrap64; omega⟩
    have hk0 : k ≠ 0 := fun e => by
      apply h
      rw [e] at hk
      rw [show a * b = wrap64 (a * b) by omega]
      exact hS
    generalize hSS : wrap64 (a * b) = S at *
    unfold Ev.in64 at hS
    have hq : Ev.in64 (S.tdiv a) := by
      by_cases ha1 : a = 1
      · subst ha1; rw [Int.tdiv_one]; exact hS
      have h2 : (S.tdiv a).natAbs ≤ S.natAbs / 2 := by
        have h3 : 2 ≤ a.natAbs := by omega
        have h4 : (S.tdiv a).natAbs = S.natAbs / a.natAbs := Int.natAbs_tdiv S a
        rw [h4]
        exact Nat.div_le_div_left h3 (by omega)
      generalize S.tdiv a = q at h2 ⊢
      unfold Ev.in64; omega
    unfold Ev.in64 at hq
    rw [IntWalk.wrap64_in _ hq] at e
    have hm := Int.mul_tdiv_add_tmod S a
    rw [e] at hm
    have hr : (S.tmod a).natAbs < a.natAbs := by
      rw [Int.natAbs_tmod]
      exact Nat.mod_lt _ (by omega)
    generalize a * b = P at *
    have : S.tmod a = - (k * 18446744073709551616) := by omega
    omega
set_option maxRecDepth 100000 in
theorem add16_any (a b : Int) (ha : Ev.in64 a) (hb : Ev.in64 b) (w : World) : Calls Tryz.prog 6 #[.int .i64 a, .int .i64 b] w fun e w' => e = .returned (.tuple #[.int .i64 (Ev.add a b).1, .int .i64 (Ev.add a b).2]) ∧ w' = w := by
  have H := Ev.add_is ha hb
  generalize Ev.add a b = R at *
  clear ha hb
  generalize hS : wrap64 (a + b) = S at *
  cases hB : decide (0 < b) with
  | true =>
    rw [hB] at H
    rcases H with ⟨t1, rfl⟩ | ⟨t1, rfl⟩
    · go_enter Tryz.func6, Tryz.ntmps6
      go_wp2_with fail
      go_ret2
      exact ⟨by show Ending.returned (.tuple #[.int .i64 (wrap64 (a + b)), .int .i64 0]) = _; rw [hS], rfl⟩
    · rw [Bool.not_true] at t1
      go_enter Tryz.func6, Tryz.ntmps6
      go_wp2_with fail
      go_ret2
      exact ⟨rfl, rfl⟩
  | false =>
    rw [hB] at H
    rcases H with ⟨t1, rfl⟩ | ⟨t1, rfl⟩
    · go_enter Tryz.func6, Tryz.ntmps6
      go_wp2_with fail
      go_ret2
      exact ⟨by show Ending.returned (.tuple #[.int .i64 (wrap64 (a + b)), .int .i64 0]) = _; rw [hS], rfl⟩
    · rw [Bool.not_false] at t1
      go_enter Tryz.func6, Tryz.ntmps6
      go_wp2_with fail
      go_ret2
      exact ⟨rfl, rfl⟩
set_option maxRecDepth 100000 in
theorem sub16_any (a b : Int) (ha : Ev.in64 a) (hb : Ev.in64 b) (w : World) : Calls Tryz.prog 8 #[.int .i64 a, .int .i64 b] w fun e w' => e = .returned (.tuple #[.int .i64 (Ev.sub a b).1, .int .i64 (Ev.sub a b).2]) ∧ w' = w := by
  have H := Ev.sub_is ha hb
  generalize Ev.sub a b = R at *
  clear ha hb
  generalize hS : wrap64 (a - b) = S at *
  cases hB : decide (0 < b) with
  | true =>
    rw [hB] at H
    rcases H with ⟨t1, rfl⟩ | ⟨t1, rfl⟩
    · go_enter Tryz.func8, Tryz.ntmps8
      go_wp2_with fail
      go_ret2
      exact ⟨by show Ending.returned (.tuple #[.int .i64 (wrap64 (a - b)), .int .i64 0]) = _; rw [hS], rfl⟩
    · rw [Bool.not_true] at t1
      go_enter Tryz.func8, Tryz.ntmps8
      go_wp2_with fail
      go_ret2
      exact ⟨rfl, rfl⟩
  | false =>
    rw [hB] at H
    rcases H with ⟨t1, rfl⟩ | ⟨t1, rfl⟩
    · go_enter Tryz.func8, Tryz.ntmps8
      go_wp2_with fail
      go_ret2
      exact ⟨by show Ending.returned (.tuple #[.int .i64 (wrap64 (a - b)), .int .i64 0]) = _; rw [hS], rfl⟩
    · rw [Bool.not_false] at t1
      go_enter Tryz.func8, Tryz.ntmps8
      go_wp2_with fail
      go_ret2
      exact ⟨rfl, rfl⟩
set_option maxRecDepth 100000 in
theorem mul16_any (a b : Int) (ha : Ev.in64 a) (hb : Ev.in64 b) (w : World) : Calls Tryz.prog 10 #[.int .i64 a, .int .i64 b] w fun e w' => e = .returned (.tuple #[.int .i64 (Ev.mul a b).1, .int .i64 (Ev.mul a b).2]) ∧ w' = w := by
  by_cases h0 : a = 0
  · subst h0
    have e : Ev.mul 0 b = (0, 0) := by unfold Ev.mul; rw [Int.zero_mul]; rfl
    rw [e]
    clear ha hb
    go_enter Tryz.func10, Tryz.ntmps10
    go_wp2_with fail
    go_ret2
    exact ⟨rfl, rfl⟩
  have t1 : (a == 0) = false := by simpa using h0
  by_cases h1 : a = -1
  · subst h1
    have e : Ev.mul (-1) b = Ev.sub 0 b := by unfold Ev.mul Ev.sub; rw [show -1 * b = 0 - b by omega]
    rw [e]
    have cS := Lib.hid (sub16_any 0 b (by unfold Ev.in64; omega) hb w)
    clear ha hb t1
    generalize Ev.sub 0 b = R at *
    go_enter Tryz.func10, Tryz.ntmps10
    go_wp2_with fail
    refine cS.out.mono ?_
    rintro e w1 ⟨rfl, rfl⟩
    go_wp2_with fail
    go_ret2
    exact ⟨rfl, rfl⟩
  have t2 : (a == -1) = false := by simpa using h1
  have H := Ev.mul_is ha hb h0 h1
  generalize Ev.mul a b = R at *
  clear ha hb h1
  generalize hS : wrap64 (a * b) = S at *
  generalize hQ : wrap64 (S.tdiv a) = Q at *
  rcases H with ⟨rfl, rfl⟩ | ⟨h3, rfl⟩
  · go_enter Tryz.func10, Tryz.ntmps10
    go_wp2_with fail
    go_ret2
    exact ⟨by show Ending.returned (.tuple #[.int .i64 (wrap64 (a * Q)), .int .i64 0]) = _; rw [hS], rfl⟩
  · have t3 : (Q != b) = true := by simpa using h3
    go_enter Tryz.func10, Tryz.ntmps10
    go_wp2_with fail
    go_ret2
    exact ⟨rfl, rfl⟩
set_option maxRecDepth 100000 in
theorem div16_any (a b : Int) (ha : Ev.in64 a) (hb : Ev.in64 b) (w : World) : Calls Tryz.prog 12 #[.int .i64 a, .int .i64 b] w fun e w' => e = .returned (.tuple #[.int .i64 (Ev.div a b).1, .int .i64 (Ev.div a b).2]) ∧ w' = w := by
  by_cases h0 : b = 0
  · subst h0
    have e : Ev.div a 0 = (0, 16) := if_pos rfl
    rw [e]
    clear ha hb
    go_enter Tryz.func12, Tryz.ntmps12
    go_wp2_with fail
    go_ret2
    exact ⟨rfl, rfl⟩
  have t1 : (b == 0) = false := by simpa using h0
  by_cases h1 : b = -1
  · subst h1
    have e : Ev.div a (-1) = Ev.sub 0 a := by unfold Ev.div Ev.sub; rw [if_neg (by decide), show a.tdiv (-1) = 0 - a by rw [Int.tdiv_neg, Int.tdiv_one]; omega]
    rw [e]
    have cS := Lib.hid (sub16_any 0 a (by unfold Ev.in64; omega) ha w)
    clear ha hb t1
    generalize Ev.sub 0 a = R at *
    go_enter Tryz.func12, Tryz.ntmps12
    go_wp2_with fail
    refine cS.out.mono ?_
    rintro e w1 ⟨rfl, rfl⟩
    go_wp2_with fail
    go_ret2
    exact ⟨rfl, rfl⟩
  have t2 : (b == -1) = false := by simpa using h1
  have hq : Ev.in64 (a.tdiv b) := by
    have h2 : (a.tdiv b).natAbs ≤ a.natAbs / b.natAbs := by rw [Int.natAbs_tdiv]; exact Nat.le_refl _
    unfold Ev.in64 at ha hb ⊢
    by_cases hb1 : b.natAbs = 1
    · have hb2 : b = 1 := by omega
      subst hb2
      rw [Int.tdiv_one]; omega
    · have h3 : a.natAbs / b.natAbs ≤ a.natAbs / 2 := Nat.div_le_div_left (by omega) (by omega)
      generalize a.tdiv b = q at h2 ⊢
      omega
  have e : Ev.div a b = (a.tdiv b, 0) := by unfold Ev.div; rw [if_neg h0, if_pos hq]
  rw [e]
  have hw := IntWalk.wrap64_in _ hq
  clear ha hb h1 hq e
  go_enter Tryz.func12, Tryz.ntmps12
  go_wp2_with fail
  go_ret2
  exact ⟨by show Ending.returned (.tuple #[.int .i64 (wrap64 (a.tdiv b)), .int .i64 0]) = _; rw [hw], rfl⟩
end Go.Proofs.YtmkllibfblacfaaGreatDoor
