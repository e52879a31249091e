/-
  Layer 14: the document's Read, from the first token on, at level 0.
-/
import Derived.Test.YtmkllibfblacfaaDoorZSynRd5
namespace Go.Proofs.YtmkllibfblacfaaDoor
open Go.RowKit
open Sx (X toksOf isT)
theorem results_cell_two14 {fn : Func} {p u x : Tmp} {ty : TypeId} (h : fn.results = #[.cell p ty, .tmp u, .tmp x]) (tmps : Array Value) (P : Program) (w : World) :
    (results fn tmps).run P w =
      ((asAddr (tmps.getD p undef)).run P w).andThen fun a w₁ => ((loadVar ty a).run P w₁).andThen fun v w₂ => .ok (.tuple #[v, tmps.getD u undef, tmps.getD x undef]) w₂ := by
  simp only [results, h]
  simp [Sem.run_bind, Result.andThen]
theorem results_x3 {fn : Func} {p u x : Tmp} (h : fn.results = #[.cell p 35, .tmp u, .tmp x]) (tmps : Array Value) (w : World) (g : Nat) (y : X) (a : Option Addr) (c : Nat)
    (hp : tmps.getD p undef = .pointer (some ⟨g, 0, none⟩)) (hg : RowV w g 35 (xC y a c).toList) :
    (results fn tmps).run Tryd.prog w = .ok (.tuple #[xV y a c, tmps.getD u undef, tmps.getD x undef]) w := by
  have hl := run_loadVar_row (P := Tryd.prog) w g 35 35 (xC y a c) (0, 0) _ hg Tryd.underlying35 rfl info_expr
  rw [results_cell_two14 h, hp]
  simp only [asAddr, Sem.run_pure, Result.andThen]
  rw [hl]
theorem rd_put_below {w w6 wb wz : World} (h1 : Below w.heap.size w w6) (h2 : Below w6.heap.size w6 wb) (ho : Only (fun k => k = w.heap.size) wb wz) : Below w.heap.size w wz := by
  have h3 := h1.trans (h2.mono h1.size)
  exact h3.trans (ho.below (fun k _ e => by have e2 : k = w.heap.size := e; omega) h3.size)
end Go.Proofs.YtmkllibfblacfaaDoor
