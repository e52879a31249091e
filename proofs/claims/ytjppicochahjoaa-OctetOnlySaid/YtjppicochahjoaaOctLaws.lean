/-
  Layer 1: the laws OctetOnly, OctetFirst, OctetNums, walked.
-/
import Derived.Test.YtjppicochahjoaaOctLives
namespace Go.Proofs.Ytjppicochahjoaa
open Go.RowKit

theorem below_two {w w1 w2 : World} (h1 : Below w.heap.size w w1) (h2 : Below w1.heap.size w1 w2) : Below w.heap.size w w2 := h1.trans (h2.mono h1.size)

set_option maxRecDepth 100000 in
set_option maxHeartbeats 800000 in
theorem OctetOnly_walk (s : ByteArray) (hs : s.size ≤ maxLen) (w : World) :
    Calls Try.prog 7 #[.string s] w fun e w' => e = .returned (.bool true) ∧ Below w.heap.size w w' := by
  rcases Oct.t_cases s with ⟨e1, e2, e3 | e3⟩ | ⟨n, r, h1, h2, h3, e1, e2, e3, e4⟩
  · have E := Lib.hid (And.intro e1 (And.intro e2 e3)); clear e1 e2 e3
    go_enter Try.func7, Try.ntmps7
    go_wp2_with fail
    refine (takeNum_any s _ hs).mono ?_
    rintro e w1 ⟨he, nd, rfl⟩
    rw [E.out.1, E.out.2.1, E.out.2.2] at he
    subst he
    go_wp2_with fail
    refine (lives_any _).mono ?_
    rintro e w2 ⟨rfl, hb⟩
    have HB := Lib.hid hb; clear hb
    go_wp2_with fail
    go_ret
    exact ⟨rfl, below_two (below_drewN (Below.refl _ _) nd) HB.out⟩
  · have E := Lib.hid (And.intro e1 (And.intro e2 e3)); clear e1 e2 e3
    go_enter Try.func7, Try.ntmps7
    go_wp2_with fail
    refine (takeNum_any s _ hs).mono ?_
    rintro e w1 ⟨he, nd, rfl⟩
    rw [E.out.1, E.out.2.1, E.out.2.2] at he
    subst he
    go_wp2_with fail
    refine (lives_any _).mono ?_
    rintro e w2 ⟨rfl, hb⟩
    have HB := Lib.hid hb; clear hb
    go_wp2_with fail
    go_ret
    exact ⟨rfl, below_two (below_drewN (Below.refl _ _) nd) HB.out⟩
  · have E := Lib.hid (And.intro e1 (And.intro e2 e3)); clear e1 e2 e3
    have hsz : (Oct.numB n).size + r.size = s.size := by rw [← e4, ByteArray.size_append]
    have hs' := hs
    unfold maxLen at hs'
    have hz : (Oct.numB n).size + r.size ≤ 9223372036854775807 := by omega
    have E4 := Lib.hid e4; clear e4 hsz
    go_enter Try.func7, Try.ntmps7
    go_wp2_with fail
    refine (takeNum_any s _ hs).mono ?_
    rintro e w1 ⟨he, nd, rfl⟩
    rw [E.out.1, E.out.2.1, E.out.2.2] at he
    subst he
    go_wp2_with fail
    refine (num_any n _ h1 h2).mono ?_
    rintro e w2 ⟨rfl, hb⟩
    have HB := Lib.hid hb; clear hb
    have e4 := E4.out
    go_wp2_with fail
    refine (lives_any _).mono ?_
    rintro e w3 ⟨rfl, hb3⟩
    have HB3 := Lib.hid hb3; clear hb3
    go_wp2_with fail
    go_ret
    exact ⟨rfl, below_two (below_two (below_drewN (Below.refl _ _) nd) HB.out) HB3.out⟩
end Go.Proofs.Ytjppicochahjoaa
