/-
  Layer 1: the document's examples.
-/
import Derived.Test.YtjppicochahjoaaOctFix
import Derived.Test.YtjppicochahjoaaOctTake
namespace Go.Proofs.Ytjppicochahjoaa
open Go.RowKit

theorem n0 : Oct.numB 0 = ⟨#[0]⟩ := by unfold Oct.numB; rw [show Oct.codeN 0 = 0 from rfl, Oct.num_small _ (by omega)]; rfl
theorem nm1 : Oct.numB (-1) = ⟨#[1]⟩ := by unfold Oct.numB; rw [show Oct.codeN (-1) = 1 from rfl, Oct.num_small _ (by omega)]; rfl
theorem n1 : Oct.numB 1 = ⟨#[2]⟩ := by unfold Oct.numB; rw [show Oct.codeN 1 = 2 from rfl, Oct.num_small _ (by omega)]; rfl
theorem n2 : Oct.numB 2 = ⟨#[4]⟩ := by unfold Oct.numB; rw [show Oct.codeN 2 = 4 from rfl, Oct.num_small _ (by omega)]; rfl
theorem tab : Oct.numB (((⟨#[97, 98]⟩ : ByteArray).size : Nat) : Int) ++ ⟨#[97, 98]⟩ = ⟨#[4, 97, 98]⟩ := by
  rw [show (((⟨#[97, 98]⟩ : ByteArray).size : Nat) : Int) = 2 from rfl, n2]; rfl
theorem f258 : (⟨(Oct.fix 258 (Oct.cnt 2)).toArray⟩ : ByteArray) = ⟨#[1, 2]⟩ := by rfl
theorem t64 : Oct.tN ⟨#[128, 1, 120]⟩ = 64 ∧ Oct.tR ⟨#[128, 1, 120]⟩ = ⟨#[120]⟩ ∧ Oct.tE ⟨#[128, 1, 120]⟩ = 0 := ⟨rfl, rfl, rfl⟩

theorem num0 (w : World) : Calls Try.prog 11 #[.int .i64 0] w fun e w' => e = .returned (.string ⟨#[0]⟩) ∧ Below w.heap.size w w' :=
  (num_any 0 w (by omega) (by omega)).mono fun e w' h => by rw [n0] at h; exact h
theorem numm1 (w : World) : Calls Try.prog 11 #[.int .i64 (-1)] w fun e w' => e = .returned (.string ⟨#[1]⟩) ∧ Below w.heap.size w w' :=
  (num_any (-1) w (by omega) (by omega)).mono fun e w' h => by rw [nm1] at h; exact h
theorem num1 (w : World) : Calls Try.prog 11 #[.int .i64 1] w fun e w' => e = .returned (.string ⟨#[2]⟩) ∧ Below w.heap.size w w' :=
  (num_any 1 w (by omega) (by omega)).mono fun e w' h => by rw [n1] at h; exact h
theorem text2 (w : World) : Calls Try.prog 24 #[.string ⟨#[97, 98]⟩] w fun e w' => e = .returned (.string ⟨#[4, 97, 98]⟩) ∧ Below w.heap.size w w' :=
  (text_any ⟨#[97, 98]⟩ w (by decide)).mono fun e w' h => by rw [tab] at h; exact h
theorem fixed2 (w : World) : Calls Try.prog 19 #[.int .i64 258, .int .i64 2] w fun e w' => e = .returned (.string ⟨#[1, 2]⟩) ∧ Below w.heap.size w w' :=
  (fixed_any 258 2 w).mono fun e w' h => by rw [f258] at h; exact h
theorem take3 (w : World) : Calls Try.prog 9 #[.string ⟨#[128, 1, 120]⟩] w fun e w' => e = .returned (.tuple #[.int .i64 64, .string ⟨#[120]⟩, .int .i64 0]) ∧ Below w.heap.size w w' :=
  (takeNum_any ⟨#[128, 1, 120]⟩ w (by unfold maxLen; decide)).mono fun e w' h => by
    obtain ⟨he, nd, rfl⟩ := h
    rw [t64.1, t64.2.1, t64.2.2] at he
    exact ⟨he, below_drewN (Below.refl _ _) nd⟩

set_option maxRecDepth 100000 in
set_option maxHeartbeats 800000 in
theorem lives_any (w : World) : Calls Try.prog 13 #[] w fun e w' => e = .returned (.bool true) ∧ Below w.heap.size w w' := by
  go_enter Try.func13, Try.ntmps13
  go_wp2_with fail
  refine (take3 _).mono ?_
  rintro e w1 ⟨rfl, hb1⟩
  go_wp2_with fail
  refine (num0 _).mono ?_
  rintro e w2 ⟨rfl, hb2⟩
  go_wp2_with fail
  trace_state
  refine (numm1 _).mono ?_
  rintro e w3 ⟨rfl, hb3⟩
  go_wp2_with fail
  refine (num1 _).mono ?_
  rintro e w4 ⟨rfl, hb4⟩
  go_wp2_with fail
  refine (text2 _).mono ?_
  rintro e w5 ⟨rfl, hb5⟩
  go_wp2_with fail
  refine (fixed2 _).mono ?_
  rintro e w6 ⟨rfl, hb6⟩
  go_wp2_with fail
  go_ret
  have h1 := hb1.size
  have h2 := hb2.size
  have h3 := hb3.size
  have h4 := hb4.size
  have h5 := hb5.size
  exact ⟨rfl, hb1.trans ((hb2.mono h1).trans ((hb3.mono (by omega)).trans ((hb4.mono (by omega)).trans ((hb5.mono (by omega)).trans (hb6.mono (by omega))))))⟩
end Go.Proofs.Ytjppicochahjoaa
