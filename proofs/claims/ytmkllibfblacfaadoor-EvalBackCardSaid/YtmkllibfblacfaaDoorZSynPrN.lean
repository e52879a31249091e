/-
  Layer 14, the program's: an expression's text.
-/
import Derived.Test.YtmkllibfblacfaaDoorZSynPrM
import Derived.Test.YtmkllibfblacfaaDoorPk5
import Derived.Test.YtmkllibfblacfaaDoorPk4
namespace Go.Proofs.YtmkllibfblacfaaDoor
open Go.RowKit
open Sx (X)
/-- what Text tells of an expression (whose rows may bear a mark, where mk) -/
def TextP (mk : Prop) (x : X) (w : World) (e : Ending) (w' : World) : Prop :=
  ∃ (s : ByteArray) (r : Int), e = .returned (.tuple #[.string s, .int .i64 r]) ∧ Below w.heap.size w w' ∧ ((s, r) = Sx.textE x ∨ (mk ∧ ((s = Vl.mt ∧ (r = 2 ∨ r = 5 ∨ r = 12)) ∨ (r = 0 ∧ Sx.right x = true ∧ s = Sx.wt x 0 ∧ s.size ≤ 200))))
theorem wt_flat (x : X) : (Sx.wt x 0).size = (Sx.flat (Sx.wr x 0)).length := by unfold Sx.wt; show (Sx.flat (Sx.wr x 0)).toArray.size = _; rw [List.size_toArray]
end Go.Proofs.YtmkllibfblacfaaDoor
