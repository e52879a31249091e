/-
  Layer 14, the program's: two lists of expressions, part by part.
-/
import Derived.Test.YtmkllibfblacfaaGreatDoorPk3
import Derived.Test.YtmkllibfblacfaaGreatDoorPk2
namespace Go.Proofs.YtmkllibfblacfaaGreatDoor
open Go.RowKit Go.Shelf
open Sx (X)
namespace Sx
/-- an expression and all within it -/
def nodes (x : X) : List X := (po x 1).map (·.1)
end Sx
end Go.Proofs.YtmkllibfblacfaaGreatDoor
