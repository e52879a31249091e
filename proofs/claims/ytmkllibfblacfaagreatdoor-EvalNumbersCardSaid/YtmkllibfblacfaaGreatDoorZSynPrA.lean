/-
  Layer 14, the program's: Read.
-/
import Derived.Test.YtmkllibfblacfaaGreatDoorZSynPr9
import Derived.Test.YtmkllibfblacfaaGreatDoorZSynRead2
namespace Go.Proofs.YtmkllibfblacfaaGreatDoor
open Go.RowKit
open Sx (X toksOf isT)
end Go.Proofs.YtmkllibfblacfaaGreatDoor
