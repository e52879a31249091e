/-
  Layer 14, the program's: Same.
-/
import Derived.Test.YtmkllibfblacfaaGreatDoorZSynPrJ
namespace Go.Proofs.YtmkllibfblacfaaGreatDoor
open Go.RowKit Go.Shelf
open Sx (X)
/-- a list is of an expression and all within it (or the rows may bear a mark) -/
structure Listd (mk : Prop) (LL : List Part14) (Z : X) : Prop where
  is : LL.map (·.1) = Sx.nodes Z ∨ mk
end Go.Proofs.YtmkllibfblacfaaGreatDoor
