/-
  Layer 14, the program's: an expression is read, with a list of what waits.
-/
import Derived.Test.YtmkllibfblacfaaGreatDoorPk2
import Derived.Test.YtmkllibfblacfaaGreatDoorPk3
import Derived.Deep.LoopGhost
namespace Go.Proofs.YtmkllibfblacfaaGreatDoor
open Go.RowKit
open Sx (X toksOf isT)
end Go.Proofs.YtmkllibfblacfaaGreatDoor
