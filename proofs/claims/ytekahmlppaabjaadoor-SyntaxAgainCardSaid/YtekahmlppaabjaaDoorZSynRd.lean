/-
  Layer 14: the document's reader of tokens: read; where it goes on to the next level.
-/
import Derived.Test.YtekahmlppaabjaaDoorPk5
namespace Go.Proofs.YtekahmlppaabjaaDoor
open Go.RowKit
open Sx (X toksOf isT)
end Go.Proofs.YtekahmlppaabjaaDoor
