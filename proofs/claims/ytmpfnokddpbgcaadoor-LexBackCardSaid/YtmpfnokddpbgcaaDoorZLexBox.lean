/-
  Layer 13: a token in a cell of its own, and as a result.
-/
import Derived.Test.YtmpfnokddpbgcaaDoorZLexMath3
import Derived.Test.YtmpfnokddpbgcaaDoorPk1
import Derived.Laws.ResultCell
namespace Go.Proofs.YtmpfnokddpbgcaaDoor
open Go.RowKit
abbrev tokC (t : Lx.T) : Array Value := #[.int .i64 t.kind, .string t.s, .int .i64 t.n, .int .i64 t.spot]
abbrev tokV (t : Lx.T) : Value := .agg (tokC t)
theorem info_tok : (Tryd.prog.info? 33).map (·.size) = some 4 := by kernel_rfl
theorem results_cell_two13 {fn : Func} {p u x : Tmp} {ty : TypeId} (h : fn.results = #[.cell p ty, .tmp u, .tmp x]) (tmps : Array Value) (P : Program) (w : World) :
    (results fn tmps).run P w =
      ((asAddr (tmps.getD p undef)).run P w).andThen fun a w₁ => ((loadVar ty a).run P w₁).andThen fun v w₂ => .ok (.tuple #[v, tmps.getD u undef, tmps.getD x undef]) w₂ := by
  simp only [results, h]
  simp [Sem.run_bind, Result.andThen]
set_option maxRecDepth 100000 in
theorem results_tok {fn : Func} {p u x : Tmp} (h : fn.results = #[.cell p 33, .tmp u, .tmp x]) (tmps : Array Value) (w : World) (g : Nat) (v : Lx.T)
    (hp : tmps.getD p undef = .pointer (some ⟨g, 0, none⟩)) (hg : RowV w g 33 (tokC v).toList) :
    (results fn tmps).run Tryd.prog w = .ok (.tuple #[tokV v, tmps.getD u undef, tmps.getD x undef]) w := by
  have hl := run_loadVar_row (P := Tryd.prog) w g 33 33 (tokC v) (0, 0) _ hg Tryd.underlying33 rfl info_tok
  rw [results_cell_two13 h, hp]
  simp only [asAddr, Sem.run_pure, Result.andThen]
  rw [hl]
/-- a token stored into its box -/
theorem tok_put {w : World} {N : Nat} {v : Lx.T} (hr : RowV w N 33 (tokC v).toList) (k : Int) (s : ByteArray) (n a : Int) :
    RowV ((((w.setCell ⟨N, 0, none⟩ (.int .i64 k)).setCell ⟨N, 1, none⟩ (.string s)).setCell ⟨N, 2, none⟩ (.int .i64 n)).setCell ⟨N, 3, none⟩ (.int .i64 a)) N 33 (tokC ⟨k, s, n, a⟩).toList ∧
    ∀ B, B ≤ N → Below B w ((((w.setCell ⟨N, 0, none⟩ (.int .i64 k)).setCell ⟨N, 1, none⟩ (.string s)).setCell ⟨N, 2, none⟩ (.int .i64 n)).setCell ⟨N, 3, none⟩ (.int .i64 a)) :=
  ⟨rowV_stored (rowV_stored (rowV_stored (rowV_stored hr 0 (.int .i64 k)) 1 (.string s)) 2 (.int .i64 n)) 3 (.int .i64 a),
    fun B hB => ((((Below.refl B w).setCell (p := ⟨N, 0, none⟩) hB _).setCell (p := ⟨N, 1, none⟩) hB _).setCell (p := ⟨N, 2, none⟩) hB _).setCell (p := ⟨N, 3, none⟩) hB _⟩
/-- a token's cells, at its box -/
theorem tok_cells {w : World} {g : Nat} {v : Lx.T} (h : RowV w g 33 (tokC v).toList) :
    w.cell? ⟨g, 0, none⟩ = some (.int .i64 v.kind) ∧ w.cell? ⟨g, 1, none⟩ = some (.string v.s) ∧ w.cell? ⟨g, 2, none⟩ = some (.int .i64 v.n) ∧ w.cell? ⟨g, 3, none⟩ = some (.int .i64 v.spot) ∧
    w.frozen? ⟨g, 0, none⟩ = false ∧ w.frozen? ⟨g, 1, none⟩ = false ∧ w.frozen? ⟨g, 2, none⟩ = false ∧ w.frozen? ⟨g, 3, none⟩ = false :=
  ⟨rowV_cell h 0, rowV_cell h 1, rowV_cell h 2, rowV_cell h 3, rowV_frozen h 0, rowV_frozen h 1, rowV_frozen h 2, rowV_frozen h 3⟩
theorem tok_new (v : Lx.T) (w : World) : RowV (w.alloc (.cells (tokC v) 33)) w.heap.size 33 (tokC v).toList ∧ Below w.heap.size w (w.alloc (.cells (tokC v) 33)) ∧ (w.alloc (.cells (tokC v) 33)).heap.size = w.heap.size + 1 :=
  ⟨rowV_new w _ [_, _, _, _], (Below.refl w.heap.size w).alloc (Nat.le_refl _) _, World.size_alloc _ _⟩
end Go.Proofs.YtmpfnokddpbgcaaDoor
