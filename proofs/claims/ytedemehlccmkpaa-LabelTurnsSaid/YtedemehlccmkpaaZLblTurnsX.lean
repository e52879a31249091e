/-
  Layer 6's laws: LabelTurns, walked, whole.
-/
import Derived.Test.YtedemehlccmkpaaZLblTurnsW
namespace Go.Proofs.Ytedemehlccmkpaa
open Go.RowKit
set_option maxRecDepth 100000 in
set_option maxHeartbeats 800000 in
theorem LabelTurns_walk (L : List Tries3) (la : Option Addr) (lc : Nat) (_hm : L.length ≤ maxLen) (w : World) (hr : ReadsT w la L) :
    Calls Try.prog 5 #[.slice la L.length lc] w fun e w' => e = .returned (.bool true) ∧ Below w.heap.size w w' := by
  by_cases h1 : L.length ≤ 15
  · exact turns_in L la lc w hr h1
  · have t1 : (15 : Int) < (L.length : Int) := by omega
    clear hr
    go_enter Try.func5, Try.ntmps5
    go_wp2_with fail
    refine (lives6_any w).mono ?_
    rintro e w7 ⟨rfl, hb7⟩
    have H7 := Lib.hid hb7; clear hb7
    go_wp2_with fail
    go_ret
    exact ⟨rfl, H7.out⟩
end Go.Proofs.Ytedemehlccmkpaa
