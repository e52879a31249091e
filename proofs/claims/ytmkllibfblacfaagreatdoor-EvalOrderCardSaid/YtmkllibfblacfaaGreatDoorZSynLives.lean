/-
  Layer 14's laws: lives (the document's examples).
-/
import Derived.Test.YtmkllibfblacfaaGreatDoorZSynPrO
import Derived.Test.YtmkllibfblacfaaGreatDoorZSynPrK
namespace Go.Proofs.YtmkllibfblacfaaGreatDoor
open Go.RowKit
open Sx (X)
/-- an expression in unmarked rows -/
abbrev XU (w : World) (x : X) (a : Option Addr) : Prop := XAt w (fun j => ∃ cs T, w.heap[j]? = some (.cells cs T (0, 0))) x a
theorem xu_below {w w' : World} {x : X} {a : Option Addr} (h : XU w x a) (hb : Below w.heap.size w w') : XU w' x a :=
  xat_mono (fun j ⟨cs, T, hj⟩ => ⟨cs, T, (hb.block j (Array.getElem?_eq_some_iff.1 hj).1).trans hj⟩) x a (xat_below h hb)
theorem xu_ok {w : World} {x : X} {a : Option Addr} (h : XU w x a) : XOk w w.heap.size False x a := xok_of_xat x a h
end Go.Proofs.YtmkllibfblacfaaGreatDoor
