/-
  Layer 14, the program's: an expression's text.
-/
import Derived.Test.YtmkllibfblacfaaGreatDoorZSynPrM
import Derived.Test.YtmkllibfblacfaaGreatDoorPk3
import Derived.Test.YtmkllibfblacfaaGreatDoorPk2
namespace Go.Proofs.YtmkllibfblacfaaGreatDoor
open Go.RowKit
open Sx (X)
end Go.Proofs.YtmkllibfblacfaaGreatDoor
