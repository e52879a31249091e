/-
  Layer 3: what begun answers.
-/
import Derived.Test.YtjdjajjogpmdaaaDoorShaRow
import Derived.Laws.Rows
import Derived.Laws.Tables
import Derived.Laws.CopyOwn
namespace Go.Proofs.YtjdjajjogpmdaaaDoor
open Go.RowKit

theorem dig_info : (Tryd.prog.info? 41).map (fun i => (i.zero, i.size)) = some (some (.agg (digL (List.replicate 8 0) (List.replicate 64 0) 0).toArray), 73) := by kernel_rfl
theorem digL_len (H B : List Nat) (n : Nat) (hH : H.length = 8) (hB : B.length = 64) : (digL H B n).toArray.size = 73 := by
  rw [List.size_toArray]; unfold digL; rw [List.length_append, List.length_append, vals_len, vals_len, hH, hB]; rfl
theorem digL_one (H B : List Nat) (n : Nat) : (digL H B n).toArray.all (·.oneCell') = true := by
  rw [Array.all_eq_true_iff_forall_mem]
  intro x hx
  rw [List.mem_toArray] at hx
  unfold digL vals at hx
  rw [List.mem_append, List.mem_append] at hx
  rcases hx with hx | hx | hx
  · obtain ⟨y, _, rfl⟩ := List.mem_map.1 hx; rfl
  · obtain ⟨y, _, rfl⟩ := List.mem_map.1 hx; rfl
  · rw [List.mem_singleton] at hx; rw [hx]; rfl
def zeroD : Array Value := (digL (List.replicate 8 0) (List.replicate 64 0) 0).toArray
def begD : Array Value := (digL Sha.iv (List.replicate 64 0) 0).toArray
theorem zeroD_build : ((((((((zeroD.setIfInBounds 0 (.int .u32 1779033703)).setIfInBounds 1 (.int .u32 3144134277)).setIfInBounds 2 (.int .u32 1013904242)).setIfInBounds 3 (.int .u32 2773480762)).setIfInBounds 4 (.int .u32 1359893119)).setIfInBounds 5 (.int .u32 2600822924)).setIfInBounds 6 (.int .u32 528734635)).setIfInBounds 7 (.int .u32 1541459225)) = begD := by kernel_rfl

theorem zeroD_size : zeroD.size = 73 := digL_len (List.replicate 8 0) (List.replicate 64 0) 0 List.length_replicate List.length_replicate
theorem begD_size : begD.size = 73 := digL_len Sha.iv (List.replicate 64 0) 0 rfl List.length_replicate
theorem begD_one : begD.all (·.oneCell') = true := digL_one Sha.iv (List.replicate 64 0) 0

set_option maxRecDepth 100000 in
set_option maxHeartbeats 400000 in
theorem begun_any (w : World) :
    Calls Tryd.prog 17 #[] w fun e w' => e = .returned (.agg begD) ∧ Below w.heap.size w w' := by
  have hz := (zero_of_info (P := Tryd.prog) dig_info).1
  have hi := (zero_of_info (P := Tryd.prog) dig_info).2
  change ∀ w : World, (zeroValue 41).run Tryd.prog w = .ok (.agg zeroD) w at hz
  have hs0 := zeroD_size
  have hs1 := begD_size
  have ho := begD_one
  have hb := zeroD_build
  have hlt : ¬ zeroD.size < 8 := by rw [hs0]; omega
  generalize zeroD = Z at *
  generalize begD = D at *
  have HH := Lib.hid (And.intro hi (And.intro hs0 (And.intro hs1 ho)))
  clear hi hs0 hs1 ho
  go_enter Tryd.func17, Tryd.ntmps17
  go_wp2_with (refine wpList_store_row rfl 41 _ _ rfl w.heap.size D rfl rfl 41 Z (heap_alloc_new _ _) (by rw [HH.out.2.2.1]; exact HH.out.1) (by rw [HH.out.2.1, HH.out.2.2.1]) HH.out.2.2.2 ?_)
  have hr := setRow_heap (w.alloc (.cells Z 41)) w.heap.size Z D 41 (0, 0) (heap_alloc_new w _)
  refine bodyPost_ret (v := .agg D) (results_cell_row rfl _ _ w.heap.size _ _ _ _ rfl hr Tryd.underlying41 rfl (by rw [HH.out.2.2.1]; exact HH.out.1)) rfl ⟨rfl, ?_⟩
  exact below_setRow ((Below.refl _ w).alloc (Nat.le_refl _) _) (Nat.le_refl _) _
end Go.Proofs.YtjdjajjogpmdaaaDoor
