/-
  A call, guarded or not, in a drawn region that is walked in the order of its text (used with go_big_quiet_want).
-/
import Derived.Test.YtpniegglbglbcaaDoorQTail
import Derived.BigQuiet
namespace Go.Proofs.YtpniegglbglbcaaDoor
open Go.RowKit
theorem quietAt_call {P : Program} {op : Oper} {a : Act} {C : World → Prop} {w : World} {v : Value} (f : FuncId) (args : Array Value) (hrun : (execOp a.eval op).run P w = .ok (.enter f args) w)
    (h : Calls P f args w fun e w' => e = .returned v ∧ C w') : op.quietAt P a C w v := by
  unfold Oper.quietAt
  rw [hrun]
  exact ⟨rfl, h⟩
end Go.Proofs.YtpniegglbglbcaaDoor
