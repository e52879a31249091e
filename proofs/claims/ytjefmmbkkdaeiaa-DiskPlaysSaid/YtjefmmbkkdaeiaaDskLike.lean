/-
  Layer 4's laws: is a disk as the document says?
-/
import Derived.Test.YtjefmmbkkdaeiaaDskStep
import Derived.BigQuiet
namespace Go.Proofs.Ytjefmmbkkdaeiaa
open Go.RowKit
theorem two_ok {w : World} {X : Nat → Prop} {p q : Nat} {d e : Dk.D} (h : Two w X p q d e) : Dk.Ok d := by
  obtain ⟨_, _, h1, _⟩ := h
  exact diskAt_ok (atL_at h1)
set_option maxRecDepth 100000 in
set_option maxHeartbeats 1600000 in
theorem like_any {w : World} {X : Nat → Prop} {p q : Nat} {d : Dk.D} (h : Two w X p q d d) (hW : d.W.length ≤ 1000000) :
    Calls Try.prog 12 #[.pointer (some ⟨p, 0, none⟩), .pointer (some ⟨q, 0, none⟩)] w fun e w' => e = .returned (.bool true) ∧ Two w' X p q d d ∧ Below w.heap.size w w' := by
  obtain ⟨lb, cb, lw, cw, c0, c1⟩ := two_cells h
  have hB := (two_ok h).most
  have HH := Lib.hid (And.intro h True.intro)
  clear h
  have hb1 : (d.B.length : Int) ≤ 4096 := by omega
  have hw1 : (d.W.length : Int) ≤ 1000000 := by omega
  go_enter Try.func12, Try.ntmps12
  go_wp2_with fail
  go_quiet (first
    | (go_at_call 20; exact Calls.quiet_of_same (two_len (two_below HH.out.1 (below_drewN (Below.refl _ _) _))))
    | (go_at_call 11; exact Calls.quiet_of_same (two_loose (two_below HH.out.1 (below_drewN (Below.refl _ _) _)))))
  have hb2 := below_drewN (Below.refl w.heap.size w) nq
  have H2 := Lib.hid (And.intro (two_below HH.out.1 hb2) hb2)
  have c0q : (w.drewN nq).cell? ⟨q, 0, none⟩ = some (.slice lb d.B.length cb) := c0
  clear c0 c1 hb2
  generalize w.drewN nq = wq at *
  go_wp2_with fail
  go_loop [5] (fun i => ∃ k : Nat, k ≤ d.B.length ∧ i = .int .i64 (k : Int)) (fun i => d.B.length - (intOf i).toNat)
  case atStart => exact ⟨0, by omega, rfl⟩
  case round =>
    obtain ⟨k, hk, rfl⟩ := hrel
    by_cases hlt : k < d.B.length
    · have u1 : ((Dk.readS d k).toList == (Dk.readS d k).toList) = true := beq_self_eq_true _
      go_wp2_with fail
      refine (two_read H2.out.1 k).mono ?_
      rintro e w2 ⟨rfl, hw2⟩
      obtain rfl := hw2.symm; clear hw2
      go_wp2_with fail
      refine (two_rread H2.out.1 k).mono ?_
      rintro e w2 ⟨rfl, hw2⟩
      obtain rfl := hw2.symm; clear hw2
      go_wp2_with fail
      go_round
      case rel => exact ⟨k + 1, by omega, by go_num⟩
      case measure => simp [intOf]; omega
    · obtain rfl : k = d.B.length := by omega
      go_wp2_with fail
      go_ret
      exact ⟨rfl, H2.out⟩
end Go.Proofs.Ytjefmmbkkdaeiaa
