/-
  Layer 3: what the rows' condition on the listed variable (the table of constants) gives the walks; the program's own start meets it.
-/
import Derived.Test.YtjdjajjogpmdaaaDoorRows
import Derived.Test.YtjdjajjogpmdaaaDoorShaStir
import Derived.Lib.LaidTab
import Derived.LaidMore
import Derived.Stop.Joined
namespace Go.Proofs.YtjdjajjogpmdaaaDoor
open Go.RowKit

def laidL : List (String × DataW Unit) := [("decretal/sha.added", Rows.laid_decretal_sha_added)]
theorem gAdded : Tryd.prog.globalNamed "decretal/sha.added" = some 0 := by kernel_rfl
theorem tAdded : (Tryd.prog.globals[0]?).map (·.type) = some 37 := by kernel_rfl
theorem cells35 : Tryd.prog.cellsOf 35 = 1 := by kernel_rfl
theorem cells37 : Tryd.prog.cellsOf 37 = 64 := by kernel_rfl
theorem laidL_tab : laidL = [("decretal/sha.added", Lib.tabData .u32 (Sha.kL.map fun x : Nat => (x : Int)))] := by kernel_rfl

theorem door_met (os : Os) (args : Array Value) : laidMetH Tryd.prog laidL ((World.doorLaid Tryd.prog 400 os).forCall (fun _ _ => 0) ⟨#[], args, []⟩).memory :=
  laidMetH_of_parts3 (fuel := 8) (laidMet_of_run' 8 (by kernel_rfl) (by kernel_rfl)) (by kernel_rfl) (by kernel_rfl)

/-- the table, out of the condition -/
theorem facts_of_laid {W : World} (h : laidMetH Tryd.prog laidL W) : Tab W := by
  rw [MakeChecks.laidMetH_plain _ _ _ (by kernel_rfl), laidL_tab] at h
  have hT := Lib.tabIs_of_head gAdded tAdded Tryd.underlying37 Tryd.underlying35 cells35 cells37 h
  intro t ht
  have hl : t < (Sha.kL.map fun x : Nat => (x : Int)).length := by rw [List.length_map, kL_len]; exact ht
  rw [hT.cell gAdded t hl, List.getD_eq_getElem?_getD, List.getElem?_map, List.getElem?_eq_getElem (by rw [kL_len]; exact ht)]
  unfold Sha.K
  rw [List.getD_eq_getElem?_getD, List.getElem?_eq_getElem (by rw [kL_len]; exact ht)]
  rfl
end Go.Proofs.YtjdjajjogpmdaaaDoor
