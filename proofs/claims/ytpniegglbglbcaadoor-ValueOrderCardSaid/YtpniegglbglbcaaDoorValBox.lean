/-
  Layer 12: a value in a cell of its own, and as a result.
-/
import Derived.Test.YtpniegglbglbcaaDoorValText
import Derived.Test.YtpniegglbglbcaaDoorRowV
import Derived.Laws.ResultCell
namespace Go.Proofs.YtpniegglbglbcaaDoor
open Go.RowKit
theorem info_val : (Tryd.prog.info? 24).map (·.size) = some 3 := by kernel_rfl
theorem results_cell_two {fn : Func} {p u x : Tmp} {ty : TypeId} (h : fn.results = #[.cell p ty, .tmp u, .tmp x]) (tmps : Array Value) (P : Program) (w : World) :
    (results fn tmps).run P w =
      ((asAddr (tmps.getD p undef)).run P w).andThen fun a w₁ => ((loadVar ty a).run P w₁).andThen fun v w₂ => .ok (.tuple #[v, tmps.getD u undef, tmps.getD x undef]) w₂ := by
  simp only [results, h]
  simp [Sem.run_bind, Result.andThen]
set_option maxRecDepth 100000 in
theorem results_val {fn : Func} {p u x : Tmp} (h : fn.results = #[.cell p 24, .tmp u, .tmp x]) (tmps : Array Value) (w : World) (g : Nat) (v : Vl.V)
    (hp : tmps.getD p undef = .pointer (some ⟨g, 0, none⟩)) (hg : RowV w g 24 (valC v).toList) :
    (results fn tmps).run Tryd.prog w = .ok (.tuple #[valV v, tmps.getD u undef, tmps.getD x undef]) w := by
  have hl := run_loadVar_row (P := Tryd.prog) w g 24 24 (valC v) (0, 0) _ hg Tryd.underlying24 rfl info_val
  rw [results_cell_two h, hp]
  simp only [asAddr, Sem.run_pure, Result.andThen]
  rw [hl]
/-- a value stored into its box -/
theorem val_put {w : World} {N : Nat} {v : Vl.V} (hr : RowV w N 24 (valC v).toList) (k n : Int) (s : ByteArray) :
    RowV (((w.setCell ⟨N, 0, none⟩ (.int .i64 k)).setCell ⟨N, 1, none⟩ (.int .i64 n)).setCell ⟨N, 2, none⟩ (.string s)) N 24 (valC ⟨k, n, s⟩).toList ∧
    ∀ B, B ≤ N → Below B w (((w.setCell ⟨N, 0, none⟩ (.int .i64 k)).setCell ⟨N, 1, none⟩ (.int .i64 n)).setCell ⟨N, 2, none⟩ (.string s)) :=
  ⟨rowV_stored (rowV_stored (rowV_stored hr 0 (.int .i64 k)) 1 (.int .i64 n)) 2 (.string s),
    fun B hB => (((Below.refl B w).setCell (p := ⟨N, 0, none⟩) hB _).setCell (p := ⟨N, 1, none⟩) hB _).setCell (p := ⟨N, 2, none⟩) hB _⟩
/-- a value's cells, at its box -/
theorem val_cells {w : World} {g : Nat} {v : Vl.V} (h : RowV w g 24 (valC v).toList) :
    w.cell? ⟨g, 0, none⟩ = some (.int .i64 v.kind) ∧ w.cell? ⟨g, 1, none⟩ = some (.int .i64 v.n) ∧ w.cell? ⟨g, 2, none⟩ = some (.string v.s) ∧
    w.frozen? ⟨g, 0, none⟩ = false ∧ w.frozen? ⟨g, 1, none⟩ = false ∧ w.frozen? ⟨g, 2, none⟩ = false :=
  ⟨rowV_cell h 0, rowV_cell h 1, rowV_cell h 2, rowV_frozen h 0, rowV_frozen h 1, rowV_frozen h 2⟩
/-- a new box -/
theorem val_new (v : Vl.V) (w : World) : RowV (w.alloc (.cells (valC v) 24)) w.heap.size 24 (valC v).toList ∧ Below w.heap.size w (w.alloc (.cells (valC v) 24)) ∧ (w.alloc (.cells (valC v) 24)).heap.size = w.heap.size + 1 :=
  ⟨rowV_new w _ [_, _, _], (Below.refl w.heap.size w).alloc (Nat.le_refl _) _, World.size_alloc _ _⟩
end Go.Proofs.YtpniegglbglbcaaDoor
