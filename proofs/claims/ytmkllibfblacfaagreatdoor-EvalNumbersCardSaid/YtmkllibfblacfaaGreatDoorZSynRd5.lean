/-
  Layer 14: the document's reader of tokens: read.
-/
import Derived.Test.YtmkllibfblacfaaGreatDoorPk2
namespace Go.Proofs.YtmkllibfblacfaaGreatDoor
open Go.RowKit
open Sx (X toksOf isT)
end Go.Proofs.YtmkllibfblacfaaGreatDoor
