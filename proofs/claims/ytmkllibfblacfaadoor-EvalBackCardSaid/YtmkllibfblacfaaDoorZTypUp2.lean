/-
  Layer 15, the program's: the function that goes through an expression, each part behind its own parts, whole.
-/
import Derived.Test.YtmkllibfblacfaaDoorPk5
import Derived.Test.YtmkllibfblacfaaDoorPk6
import Derived.Test.YtmkllibfblacfaaDoorPk3
import Derived.BigQuiet
namespace Go.Proofs.YtmkllibfblacfaaDoor
open Go.RowKit Go.Shelf
open Sx (X)
attribute [local go_sem] Oper.semAt_some
namespace Upw
end Upw
end Go.Proofs.YtmkllibfblacfaaDoor
