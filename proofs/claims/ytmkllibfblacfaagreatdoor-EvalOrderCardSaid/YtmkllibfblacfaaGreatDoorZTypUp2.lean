/-
  Layer 15, the program's: the function that goes through an expression, each part behind its own parts, whole.
-/
import Derived.Test.YtmkllibfblacfaaGreatDoorPk3
import Derived.Test.YtmkllibfblacfaaGreatDoorPk1
import Derived.Test.YtmkllibfblacfaaGreatDoorPk2
import Derived.BigQuiet
namespace Go.Proofs.YtmkllibfblacfaaGreatDoor
open Go.RowKit Go.Shelf
open Sx (X)
attribute [local go_sem] Oper.semAt_some
namespace Upw
end Upw
end Go.Proofs.YtmkllibfblacfaaGreatDoor
