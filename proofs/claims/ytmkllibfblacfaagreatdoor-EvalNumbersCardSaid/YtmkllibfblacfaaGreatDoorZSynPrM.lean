/-
  Layer 14, the program's: what a right expression is written as.
-/
import Derived.Test.YtmkllibfblacfaaGreatDoorPk2
namespace Go.Proofs.YtmkllibfblacfaaGreatDoor
open Go.RowKit
open Sx (X)
namespace Sx
end Sx
end Go.Proofs.YtmkllibfblacfaaGreatDoor
