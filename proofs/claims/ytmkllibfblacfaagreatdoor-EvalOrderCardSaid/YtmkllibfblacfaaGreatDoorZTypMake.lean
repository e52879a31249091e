/-
  Layer 15's laws: expressions that the statements make; lives.
-/
import Derived.Test.YtmkllibfblacfaaGreatDoorZTypKind
import Derived.Test.YtmkllibfblacfaaGreatDoorZTypColR
import Derived.Test.YtmkllibfblacfaaGreatDoorZSynLives
import Derived.Test.YtmkllibfblacfaaGreatDoorPk2
namespace Go.Proofs.YtmkllibfblacfaaGreatDoor
open Go.RowKit Go.Shelf
open Sx (X)
attribute [local go_sem] Oper.semAt_some
theorem xu_leaf (w : World) (op : Int) (v : Vl.V) (s : ByteArray) (a : Option Addr) : XU w (.mk op v s []) a := by unfold XU; rw [XAt]; exact .inl rfl
/-- of two, in a new row -/
theorem xu_two {w : World} {g : Nat} {x y : X} {a b : Option Addr} {c d : Nat} (hr : RowV w g 43 ((xC x a c).toList ++ (xC y b d).toList)) (hx : XU w x a) (hy : XU w y b) (op : Int) (v : Vl.V) (s : ByteArray) : XU w (.mk op v s [x, y]) (some ⟨g, 0, none⟩) := by
  unfold XU
  rw [XAt]
  refine .inr ⟨g, 0, rfl, ⟨_, _, hr⟩, ?_⟩
  rw [LAt, LAt, LAt]
  exact ⟨⟨a, c, ⟨rowV_cell hr 0, rowV_cell hr 1, rowV_cell hr 2, rowV_cell hr 3, rowV_cell hr 4, rowV_cell hr 5⟩, hx⟩, ⟨b, d, ⟨rowV_cell hr 6, rowV_cell hr 7, rowV_cell hr 8, rowV_cell hr 9, rowV_cell hr 10, rowV_cell hr 11⟩, hy⟩, trivial⟩
/-- an expression of two, made -/
def TwoP (op : Int) (x y : X) (a b : Option Addr) (w : World) (e : Ending) (w' : World) : Prop :=
  ∃ g, e = .returned (xV (.mk op Vl.no Vl.mt [x, y]) (some ⟨g, 0, none⟩) 2) ∧ Below w.heap.size w w' ∧ (XU w x a → XU w y b → XU w' (.mk op Vl.no Vl.mt [x, y]) (some ⟨g, 0, none⟩))
end Go.Proofs.YtmkllibfblacfaaGreatDoor
