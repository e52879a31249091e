/-
  Layer 14: the document's Read, from the first token on, at level 0.
-/
import Derived.Test.YtmkllibfblacfaaGreatDoorZSynRd5
namespace Go.Proofs.YtmkllibfblacfaaGreatDoor
open Go.RowKit
open Sx (X toksOf isT)
end Go.Proofs.YtmkllibfblacfaaGreatDoor
