/-
  Layer 9: a node in a cell of its own, and as a result.
-/
import Derived.Test.YtjlglfhnnipjaaaNodRef
import Derived.Laws.ResultCell
namespace Go.Proofs.Ytjlglfhnnipjaaa
open Go.RowKit
theorem info_nod : (Try.prog.info? 24).map (·.size) = some 2 := by kernel_rfl
set_option maxRecDepth 100000 in
theorem results_nod {fn : Func} {p u : Tmp} (h : fn.results = #[.cell p 24, .tmp u]) (tmps : Array Value) (w : World) (g : Nat) (leaf : Bool) (a : Option Addr) (n c : Nat)
    (hp : tmps.getD p undef = .pointer (some ⟨g, 0, none⟩)) (hg : RowV w g 24 (nodC leaf a n c)) :
    (results fn tmps).run Try.prog w = .ok (.tuple #[nodV leaf a n c, tmps.getD u undef]) w := by
  have hl := run_loadVar_row (P := Try.prog) w g 24 24 #[.bool leaf, .slice a n c] (0, 0) _ hg Try.underlying24 rfl info_nod
  rw [results_cell_tmp h, hp]
  simp only [asAddr, Sem.run_pure, Result.andThen]
  rw [hl]
theorem nod_put {w : World} {N : Nat} {leaf : Bool} {a : Option Addr} {n c : Nat} (hr : RowV w N 24 (nodC leaf a n c)) (l2 : Bool) (a2 : Option Addr) (n2 c2 : Nat) :
    RowV ((w.setCell ⟨N, 0, none⟩ (.bool l2)).setCell ⟨N, 1, none⟩ (.slice a2 n2 c2)) N 24 (nodC l2 a2 n2 c2) ∧
    ∀ B, B ≤ N → Below B w ((w.setCell ⟨N, 0, none⟩ (.bool l2)).setCell ⟨N, 1, none⟩ (.slice a2 n2 c2)) :=
  ⟨rowV_stored (rowV_stored hr 0 (.bool l2)) 1 (.slice a2 n2 c2), fun B hB => ((Below.refl B w).setCell (p := ⟨N, 0, none⟩) hB _).setCell (p := ⟨N, 1, none⟩) hB _⟩
theorem nod_cells {w : World} {N : Nat} {leaf : Bool} {a : Option Addr} {n c : Nat} (hr : RowV w N 24 (nodC leaf a n c)) :
    w.cell? ⟨N, 0, none⟩ = some (.bool leaf) ∧ w.cell? ⟨N, 1, none⟩ = some (.slice a n c) ∧ w.frozen? ⟨N, 0, none⟩ = false ∧ w.frozen? ⟨N, 1, none⟩ = false :=
  ⟨rowV_cell hr 0, rowV_cell hr 1, rowV_frozen hr 0, rowV_frozen hr 1⟩
/-- pairs do not lie where a node lies -/
theorem nod_apart {w : World} {N : Nat} {leaf : Bool} {a : Option Addr} {n c : Nat} (hr : RowV w N 24 (nodC leaf a n c)) {b off : Nat} {x : ByteArray} (h : w.cell? ⟨b, off, none⟩ = some (.string x)) : b ≠ N := by
  rintro rfl
  rw [rowV_cell hr] at h
  match off, h with
  | 0, h => cases h
  | 1, h => cases h
  | k + 2, h => cases h
theorem readsP_put {w : World} {N : Nat} {leaf : Bool} {a : Option Addr} {n c : Nat} {ad : Option Addr} {L : List (ByteArray × ByteArray)} (hr : RowV w N 24 (nodC leaf a n c)) (h : ReadsP w ad L) (v1 v2 : Value) : ReadsP ((w.setCell ⟨N, 0, none⟩ v1).setCell ⟨N, 1, none⟩ v2) ad L := by
  have ho : Only (fun k => k = N) w ((w.setCell ⟨N, 0, none⟩ v1).setCell ⟨N, 1, none⟩ v2) := Only.setCell (F := fun k => k = N) (g := N) (i := 1) (Only.setCell (F := fun k => k = N) (g := N) (i := 0) (Only.refl _ w) (fun _ => rfl) v1) (fun _ => rfl) v2
  intro i hi
  obtain ⟨b, off, h1, h2, h3⟩ := h i hi
  have hb := nod_apart hr h2
  exact ⟨b, off, h1, (ho.cell (World.block_lt_of_cell? w _ h2) hb).trans h2, (ho.cell (World.block_lt_of_cell? w _ h3) hb).trans h3⟩
/-- what is answered as a page's node -/
def TakePost (page : ByteArray) (w : World) (e : Ending) (w' : World) : Prop := ∃ a cap, e = .returned (.tuple #[nodV (Nd.take page).1.leaf a (Nd.take page).1.L.length cap, .int .i64 (Nd.take page).2]) ∧ ReadsP w' a (Nd.take page).1.L ∧ Below w.heap.size w w'
theorem takePost_none {page : ByteArray} {w w' : World} (h : Nd.take page = (Nd.none, 4)) (hb : Below w.heap.size w w') : TakePost page w (.returned (.tuple #[nodV false none 0 0, .int .i64 4])) w' := by
  unfold TakePost; rw [h]; exact ⟨none, 0, rfl, readsP_none _ _, hb⟩
theorem takePost_some {page : ByteArray} {w w' : World} {n : Nd.Node} {leaf : Bool} {a : Option Addr} {k cap : Nat} (h : Nd.take page = (n, 0)) (h1 : n.leaf = leaf) (h2 : n.L.length = k) (hr : ReadsP w' a n.L) (hb : Below w.heap.size w w') : TakePost page w (.returned (.tuple #[nodV leaf a k cap, .int .i64 0])) w' := by
  unfold TakePost; rw [h]; subst h1 h2; exact ⟨a, cap, rfl, hr, hb⟩
end Go.Proofs.Ytjlglfhnnipjaaa
