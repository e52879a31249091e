/-
  Closed facts of the translation that more than one text uses.
-/
import Derived.Test.YtpniegglbglbcaaDoorProg
import Derived.WalkKit
namespace Go.Proofs.YtpniegglbglbcaaDoor
open Go.RowKit
theorem Tryd.info5 : (Tryd.prog.info? 5).map (fun i => (i.zero, i.size, i.bytes)) = some (some (.int .u8 0), 1, 1) := by kernel_rfl
end Go.Proofs.YtpniegglbglbcaaDoor
