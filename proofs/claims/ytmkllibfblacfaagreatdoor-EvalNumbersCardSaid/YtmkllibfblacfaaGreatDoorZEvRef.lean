/-
  Layer 16, the document's: sums, differences, products and quotients.
-/
import Derived.Test.YtmkllibfblacfaaGreatDoorZEvNumM
namespace Go.Proofs.YtmkllibfblacfaaGreatDoor
open Go.RowKit
theorem Ev.radd_is {a b : Int} (ha : Ev.in64 a) (hb : Ev.in64 b) :
    (0 < b ∧ ((¬ 9223372036854775807 - b < a ∧ Ev.add a b = (a + b, 0) ∧ Ev.in64 (a + b)) ∨ (9223372036854775807 - b < a ∧ Ev.add a b = (0, 15)))) ∨
    (b < 0 ∧ ((¬ a < -9223372036854775808 - b ∧ Ev.add a b = (a + b, 0) ∧ Ev.in64 (a + b)) ∨ (a < -9223372036854775808 - b ∧ Ev.add a b = (0, 15)))) ∨ (b = 0 ∧ Ev.add a b = (a + b, 0) ∧ Ev.in64 (a + b)) := by
  unfold Ev.in64 at ha hb
  by_cases hi : Ev.in64 (a + b)
  · have hz : Ev.add a b = (a + b, 0) := if_pos hi
    rw [hz]
    have h2 := hi
    unfold Ev.in64 at h2
    have hc : 0 < b ∨ b < 0 ∨ b = 0 := by omega
    rcases hc with h | h | h
    · exact .inl ⟨h, .inl ⟨by omega, rfl, hi⟩⟩
    · exact .inr (.inl ⟨h, .inl ⟨by omega, rfl, hi⟩⟩)
    · exact .inr (.inr ⟨h, rfl, hi⟩)
  · have hz : Ev.add a b = (0, 15) := if_neg hi
    rw [hz]
    unfold Ev.in64 at hi
    have hc : 0 < b ∨ b < 0 ∨ b = 0 := by omega
    rcases hc with h | h | h
    · exact .inl ⟨h, .inr ⟨by omega, rfl⟩⟩
    · exact .inr (.inl ⟨h, .inr ⟨by omega, rfl⟩⟩)
    · omega
theorem Ev.rsub_is {a b : Int} (ha : Ev.in64 a) (hb : Ev.in64 b) :
    (0 < b ∧ ((¬ a < -9223372036854775808 + b ∧ Ev.sub a b = (a - b, 0) ∧ Ev.in64 (a - b)) ∨ (a < -9223372036854775808 + b ∧ Ev.sub a b = (0, 15)))) ∨
    (b < 0 ∧ ((¬ 9223372036854775807 + b < a ∧ Ev.sub a b = (a - b, 0) ∧ Ev.in64 (a - b)) ∨ (9223372036854775807 + b < a ∧ Ev.sub a b = (0, 15)))) ∨ (b = 0 ∧ Ev.sub a b = (a - b, 0) ∧ Ev.in64 (a - b)) := by
  unfold Ev.in64 at ha hb
  by_cases hi : Ev.in64 (a - b)
  · have hz : Ev.sub a b = (a - b, 0) := if_pos hi
    rw [hz]
    have h2 := hi
    unfold Ev.in64 at h2
    have hc : 0 < b ∨ b < 0 ∨ b = 0 := by omega
    rcases hc with h | h | h
    · exact .inl ⟨h, .inl ⟨by omega, rfl, hi⟩⟩
    · exact .inr (.inl ⟨h, .inl ⟨by omega, rfl, hi⟩⟩)
    · exact .inr (.inr ⟨h, rfl, hi⟩)
  · have hz : Ev.sub a b = (0, 15) := if_neg hi
    rw [hz]
    unfold Ev.in64 at hi
    have hc : 0 < b ∨ b < 0 ∨ b = 0 := by omega
    rcases hc with h | h | h
    · exact .inl ⟨h, .inr ⟨by omega, rfl⟩⟩
    · exact .inr (.inl ⟨h, .inr ⟨by omega, rfl⟩⟩)
    · omega
set_option maxRecDepth 100000 in
theorem radd16_any (a b : Int) (ha : Ev.in64 a) (hb : Ev.in64 b) (w : World) : Calls Tryz.prog 7 #[.int .i64 a, .int .i64 b] w fun e w' => e = .returned (.tuple #[.int .i64 (Ev.add a b).1, .int .i64 (Ev.add a b).2]) ∧ w' = w := by
  have H := Ev.radd_is ha hb
  generalize Ev.add a b = R at *
  unfold Ev.in64 at ha hb
  rcases H with ⟨h, ⟨t, rfl, hi⟩ | ⟨t, rfl⟩⟩ | ⟨h, ⟨t, rfl, hi⟩ | ⟨t, rfl⟩⟩ | ⟨h, rfl, hi⟩
  · have e2 : wrap64 (a + b) = a + b := IntWalk.wrap64_in _ hi
    go_enter Tryz.func7, Tryz.ntmps7
    go_wp2_with fail
    go_ret2
    exact ⟨by first | rfl | (rw [e2]), rfl⟩
  · go_enter Tryz.func7, Tryz.ntmps7
    go_wp2_with fail
    go_ret2
    exact ⟨rfl, rfl⟩
  · have e2 : wrap64 (a + b) = a + b := IntWalk.wrap64_in _ hi
    have h0 : ¬ b > 0 := by omega
    go_enter Tryz.func7, Tryz.ntmps7
    go_wp2_with fail
    go_ret2
    exact ⟨by first | rfl | (rw [e2]), rfl⟩
  · have h0 : ¬ b > 0 := by omega
    go_enter Tryz.func7, Tryz.ntmps7
    go_wp2_with fail
    go_ret2
    exact ⟨rfl, rfl⟩
  · subst h
    go_enter Tryz.func7, Tryz.ntmps7
    go_wp2_with fail
    go_ret2
    exact ⟨by show Ending.returned (.tuple #[.int .i64 a, .int .i64 0]) = .returned (.tuple #[.int .i64 (a + 0), .int .i64 0]); rw [Int.add_zero], rfl⟩
set_option maxRecDepth 100000 in
theorem rsub16_any (a b : Int) (ha : Ev.in64 a) (hb : Ev.in64 b) (w : World) : Calls Tryz.prog 9 #[.int .i64 a, .int .i64 b] w fun e w' => e = .returned (.tuple #[.int .i64 (Ev.sub a b).1, .int .i64 (Ev.sub a b).2]) ∧ w' = w := by
  have H := Ev.rsub_is ha hb
  generalize Ev.sub a b = R at *
  unfold Ev.in64 at ha hb
  rcases H with ⟨h, ⟨t, rfl, hi⟩ | ⟨t, rfl⟩⟩ | ⟨h, ⟨t, rfl, hi⟩ | ⟨t, rfl⟩⟩ | ⟨h, rfl, hi⟩
  · have e2 : wrap64 (a - b) = a - b := IntWalk.wrap64_in _ hi
    go_enter Tryz.func9, Tryz.ntmps9
    go_wp2_with fail
    go_ret2
    exact ⟨by first | rfl | (rw [e2]), rfl⟩
  · go_enter Tryz.func9, Tryz.ntmps9
    go_wp2_with fail
    go_ret2
    exact ⟨rfl, rfl⟩
  · have e2 : wrap64 (a - b) = a - b := IntWalk.wrap64_in _ hi
    have h0 : ¬ b > 0 := by omega
    go_enter Tryz.func9, Tryz.ntmps9
    go_wp2_with fail
    go_ret2
    exact ⟨by first | rfl | (rw [e2]), rfl⟩
  · have h0 : ¬ b > 0 := by omega
    go_enter Tryz.func9, Tryz.ntmps9
    go_wp2_with fail
    go_ret2
    exact ⟨rfl, rfl⟩
  · subst h
    go_enter Tryz.func9, Tryz.ntmps9
    go_wp2_with fail
    go_ret2
    exact ⟨by show Ending.returned (.tuple #[.int .i64 a, .int .i64 0]) = .returned (.tuple #[.int .i64 (a - 0), .int .i64 0]); rw [Int.sub_zero], rfl⟩
set_option maxRecDepth 100000 in
theorem rdiv16_any (a b : Int) (ha : Ev.in64 a) (hb : Ev.in64 b) (w : World) : Calls Tryz.prog 13 #[.int .i64 a, .int .i64 b] w fun e w' => e = .returned (.tuple #[.int .i64 (Ev.div a b).1, .int .i64 (Ev.div a b).2]) ∧ w' = w := by
  by_cases h0 : b = 0
  · subst h0
    rw [show Ev.div a 0 = (0, 16) from rfl]
    go_enter Tryz.func13, Tryz.ntmps13
    go_wp2_with fail
    go_ret2
    exact ⟨rfl, rfl⟩
  by_cases h1 : b = -1
  · subst h1
    have e : Ev.div a (-1) = Ev.sub 0 a := by
      have e1 : a.tdiv (-1) = 0 - a := by rw [Int.tdiv_neg, Int.tdiv_one]; omega
      unfold Ev.div Ev.sub
      rw [if_neg (by decide), e1]
    rw [e]
    have HS := Lib.hid (rsub16_any 0 a (by decide) ha w)
    generalize Ev.sub 0 a = R at *
    obtain ⟨r1, r2⟩ := R
    clear ha hb h0 e
    go_enter Tryz.func13, Tryz.ntmps13
    go_wp2_with fail
    refine HS.out.mono ?_
    rintro e w1 ⟨rfl, rfl⟩
    go_wp2_with fail
    go_ret2
    exact ⟨rfl, rfl⟩
  · have hq : Ev.in64 (a.tdiv b) := by
      rcases Decidable.em ((Ev.div a b).2 = 0) with h | h
      · exact (Ev.div_in ha hb h).2.2.2.2.2.2.1
      · rcases Ev.div_out ha h with h | h
        · exact absurd h.2 h0
        · exact absurd h.2 h1
    have e : Ev.div a b = (a.tdiv b, 0) := by unfold Ev.div; rw [if_neg h0, if_pos hq]
    rw [e]
    have e2 : wrap64 (a.tdiv b) = a.tdiv b := IntWalk.wrap64_in _ hq
    clear e hq
    go_enter Tryz.func13, Tryz.ntmps13
    go_wp2_with fail
    go_ret2
    exact ⟨by first | rfl | (show Ending.returned (.tuple #[.int .i64 (wrap64 (a.tdiv b)), .int .i64 0]) = _; rw [e2]), rfl⟩
set_option maxRecDepth 100000 in
theorem rleast16_any (a : Int) (w : World) : Calls Tryz.prog 23 #[.int .i64 a] w fun e w' => e = .returned (.tuple #[.int .i64 (if a = 1 then ((-9223372036854775808 : Int), (0 : Int)) else (0, 15)).1, .int .i64 (if a = 1 then ((-9223372036854775808 : Int), (0 : Int)) else (0, 15)).2]) ∧ w' = w := by
  by_cases h : a = 1
  · rw [if_pos h]
    subst h
    go_enter Tryz.func23, Tryz.ntmps23
    go_wp2_with fail
    go_ret2
    exact ⟨rfl, rfl⟩
  · rw [if_neg h]
    have t : (a == 1) = false := by simpa using h
    go_enter Tryz.func23, Tryz.ntmps23
    go_wp2_with fail
    go_ret2
    exact ⟨rfl, rfl⟩
end Go.Proofs.YtmkllibfblacfaaGreatDoor
