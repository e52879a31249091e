/-
  Layer 15: which columns there may be: the document's Columns, At and Fits; are columns few?
-/
import Derived.Test.YtmkllibfblacfaaGreatDoorZTypCols
namespace Go.Proofs.YtmkllibfblacfaaGreatDoor
open Go.RowKit Go.Shelf
attribute [local go_sem] Oper.semAt_some
end Go.Proofs.YtmkllibfblacfaaGreatDoor
