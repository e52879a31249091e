/-
  Layer 14, the program's: Read.
-/
import Derived.Test.YtmkllibfblacfaaDoorZSynPr9
import Derived.Test.YtmkllibfblacfaaDoorZSynRead2
namespace Go.Proofs.YtmkllibfblacfaaDoor
open Go.RowKit
open Sx (X toksOf isT)
/-- unmarked rows, behind a store into a box and a draw -/
theorem xat_um {w w' : World} {N : Nat} {x : X} {a : Option Addr} (h : XAt w (fun j => N < j ∧ ∃ cs T, w.heap[j]? = some (.cells cs T (0, 0))) x a) (ho : Only (fun k => k = N) w w') : XAt w'.drew (fun j => N ≤ j ∧ ∃ cs T, w'.drew.heap[j]? = some (.cells cs T (0, 0))) x a := by
  have h1 := xat_only ho (fun j hj e => by have hj2 : N < j := hj.1; have e2 : j = N := e; omega) x a h
  have h2 : XAt w' (fun j => N ≤ j ∧ ∃ cs T, w'.heap[j]? = some (.cells cs T (0, 0))) x a := xat_mono (fun j hj => ⟨Nat.le_of_lt hj.1, um_only ho hj.2 fun e => by have hj2 : N < j := hj.1; have e2 : j = N := e; omega⟩) x a h1
  exact xat_mono (fun j hj => hj) x a (xat_below h2 (Below.refl _ _).drew)
/-- what Read answers -/
def ReadPost (r : Sx.Res) (w : World) (e : Ending) (w' : World) : Prop :=
  ∃ a c, e = .returned (.tuple #[xV (r.1.getD Sx.no) a c, .int .i64 (r.2 : Nat), .int .i64 (if r.1.isNone then 11 else 0)]) ∧ XAt w' (fun j => w.heap.size ≤ j ∧ ∃ cs T, w'.heap[j]? = some (.cells cs T (0, 0))) (r.1.getD Sx.no) a ∧ Below w.heap.size w w'
end Go.Proofs.YtmkllibfblacfaaDoor
