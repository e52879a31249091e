/-
  Closed facts of the translation that more than one text uses.
-/
import Derived.Test.YtlhhecomjhfhjaaProg
import Derived.WalkKit
namespace Go.Proofs.Ytlhhecomjhfhjaa
open Go.RowKit
theorem Try.info5 : (Try.prog.info? 5).map (fun i => (i.zero, i.size, i.bytes)) = some (some (.int .u8 0), 1, 1) := by kernel_rfl
end Go.Proofs.Ytlhhecomjhfhjaa
