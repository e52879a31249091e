/-
  Layer 15: which columns there may be: the program's Columns, and the document's.
-/
import Derived.Test.YtmkllibfblacfaaGreatDoorPk3
import Derived.Test.YtmkllibfblacfaaGreatDoorPk2
import Derived.Test.YtmkllibfblacfaaGreatDoorPk1
namespace Go.Proofs.YtmkllibfblacfaaGreatDoor
open Go.RowKit Go.Shelf
attribute [local go_sem] Oper.semAt_some
namespace Ty
end Ty
end Go.Proofs.YtmkllibfblacfaaGreatDoor
