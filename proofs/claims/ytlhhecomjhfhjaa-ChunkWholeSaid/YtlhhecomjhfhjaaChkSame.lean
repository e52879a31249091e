/-
  Layer 11: two lists of edits that are the same.
-/
import Derived.Test.YtlhhecomjhfhjaaChkRef2
namespace Go.Proofs.Ytlhhecomjhfhjaa
open Go.RowKit
theorem owL_readsE11 {w : World} {B : Nat} {v : Value} {L : List Tr.Ed} (h : OwL edC11 30 4 w B v L) : ∃ a c, v = .slice a L.length c ∧ ReadsE w a L := by
  obtain ⟨a, c, e, -⟩ := owL_form h
  refine ⟨a, c, e, fun i hi => ?_⟩
  obtain ⟨g, c', e', hc⟩ := owL_cell (f := edC11) (fun _ _ => rfl) h i hi
  rw [e] at e'
  injection e' with e1 _ _
  have h0 := (hc 0 _ rfl).1
  have h1 := (hc 1 _ rfl).1
  have h2 := (hc 2 _ rfl).1
  have h3 := (hc 3 _ rfl).1
  exact ⟨g, 0, e1, by rw [Nat.zero_add]; exact h0, by rw [Nat.zero_add]; exact h1, by rw [Nat.zero_add]; exact h2, by rw [Nat.zero_add]; exact h3⟩
set_option maxRecDepth 100000 in
set_option maxHeartbeats 4000000 in
theorem rsame11_any (a b : Option Addr) (L : List Tr.Ed) (c d : Nat) (w : World) (hr : ReadsE w a L) (hs : ReadsE w b L) (hL : L.length ≤ 1000000) :
    Calls Try.prog 11 #[.slice a L.length c, .slice b L.length d] w fun e w' => e = .returned (.bool true) ∧ Below w.heap.size w w' := by
  have hq : (((L.length : Nat) : Int) != ((L.length : Nat) : Int)) = false := by simp
  have H := Lib.hid (And.intro hr hs)
  clear hr hs
  go_enter Try.func11, Try.ntmps11
  go_wp2_with fail
  go_loopw [5] (fun i wr => ∃ k : Nat, k ≤ L.length ∧ i = .int .i64 (k : Int) ∧ Hid (Below w.heap.size w wr)) (fun i _ => L.length - (RowKit.intOf i).toNat)
  case atStart => exact ⟨0, Nat.zero_le _, rfl, Lib.hid (Below.refl _ _)⟩
  case round =>
    obtain ⟨k, hk, rfl, HI⟩ := hrel
    by_cases hlt : k < L.length
    · obtain ⟨ab, off, rfl, c0, c1, c2, c3⟩ := (readsE_below H.out.1 HI.out) k hlt
      obtain ⟨bb, of2, rfl, e0, e1, e2, e3⟩ := (readsE_below H.out.2 HI.out) k hlt
      generalize L[k] = x at *
      obtain ⟨x1, x2, x3, x4⟩ := x
      dsimp only at c0 c1 c2 c3 e0 e1 e2 e3
      go_wp2_with fail
      go_quiet (fail)
      go_wp2
      go_roundw
      case rel => exact ⟨k + 1, by omega, by go_num, Lib.hid (below_drewN HI.out _)⟩
      case measure => simp [RowKit.intOf]; omega
    · obtain rfl : k = L.length := by omega
      go_wp2_with fail
      go_ret
      exact ⟨rfl, HI.out⟩
end Go.Proofs.Ytlhhecomjhfhjaa
