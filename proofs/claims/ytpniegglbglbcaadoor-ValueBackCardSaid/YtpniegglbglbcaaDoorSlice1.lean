/-
  '[]T{x}': a slice of one element, of k cells, made: as a run, as an operation that keeps its class.
-/
import Derived.Test.YtpniegglbglbcaaDoorAppOne
import Derived.Great.FillDense
import Derived.Great.BuildSlice
namespace Go.Proofs.YtpniegglbglbcaaDoor
open Go.RowKit
section
variable {P : Program} {E k bytes : Nat}
theorem run_slice_one (he : ElemOk P E k bytes) (hk1 : k ≤ 1000) {t : TypeId} (ht : P.underlying t = some (.slice E)) (w : World) (x : Value) (X : Array Value) (hX : x.cells = X) (hsz : X.size = k) : (Instr.buildSlice t 1 #[(0, x)]).run P w = .ok (.slice (some ⟨w.heap.size, 0, none⟩) 1 1) (w.alloc (.cells X E)) := by
  obtain ⟨i, z, hi, hz, hs, hby, hzs, hk, hb⟩ := he
  refine run_buildSlice w t E 1 _ X i z ht hi hz (by rw [hs]; omega) (by rw [hs]; omega) ?_
  have e := Great.fill_whole (s := i.size) (by rw [hs]; omega) [x] ((Array.range (1 * i.size)).map (z.cells[· % z.cells.size]!)) (by intro v hv; rw [List.mem_singleton] at hv; subst hv; rw [hs, hX]; exact hsz) (by simp)
  simp only [List.zipIdx_cons, List.zipIdx_nil, List.map_cons, List.map_nil, List.flatMap_cons, List.flatMap_nil, List.append_nil, hX, Array.toArray_toList] at e
  exact e
theorem wp_slice_one (he : ElemOk P E k bytes) (hk1 : k ≤ 1000) {t : TypeId} (ht : P.underlying t = some (.slice E)) {o : Oper} {a : Act} {w : World} {K : Act → World → Prop} {Q : Exit → Act → World → Prop} (x : Operand) (ho : o.op = .buildSlice t 1 #[(0, x)]) (v : Value) (X : Array Value) (hx : a.eval x = v) (hX : v.cells = X) (hsz : X.size = k)
    (h : K (a.put o.dst (.slice (some ⟨w.heap.size, 0, none⟩) 1 1)) (w.alloc (.cells X E))) : Oper.wp P o a w K Q := by
  unfold Oper.wp execOp
  have e : (#[(0, x)] : Array (Nat × Operand)).map (fun (i, x) => (i, a.eval x)) = #[(0, v)] := by rw [← hx]; simp
  simp only [ho, e, Sem.run_bind, run_slice_one he hk1 ht w v X hX hsz, Result.andThen_ok]
  exact h
end
end Go.Proofs.YtpniegglbglbcaaDoor
