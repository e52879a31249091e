/-
  Layer 1: what Fixed and Text answer (the program's and the document's).
-/
import Derived.Test.YtpniegglbglbcaaDoorOctNum
namespace Go.Proofs.YtpniegglbglbcaaDoor
open Go.RowKit

set_option maxRecDepth 100000 in
set_option maxHeartbeats 800000 in
theorem text_any (s : ByteArray) (w : World) (hs : s.size ≤ 140737488355328) :
    Calls Tryd.prog 49 #[.string s] w fun e w' => e = .returned (.string (Oct.numB s.size ++ s)) ∧ Below w.heap.size w w' := by
  have hl := Oct.numB_len (s.size : Int) (by omega) (by omega)
  go_enter Tryd.func49, Tryd.ntmps49
  go_wp2_with (go_at_call 40; refine (num_any _ _ (by omega) (by omega)).mono ?_; rintro e w' ⟨rfl, hb⟩; have HB := Lib.hid hb; clear hb)
  go_ret
  exact ⟨rfl, HB.out⟩

end Go.Proofs.YtpniegglbglbcaaDoor
