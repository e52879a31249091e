/-
  Layer 14, the program's: Same.
-/
import Derived.Test.YtmkllibfblacfaaDoorZSynPrJ
namespace Go.Proofs.YtmkllibfblacfaaDoor
open Go.RowKit Go.Shelf
open Sx (X)
/-- a list of expressions that is read -/
def ReadsX (w : World) (ao : Option Addr) (LL : List Part14) : Prop := ∀ i (h : i < LL.length), ∃ b o, ao = some ⟨b, o, none⟩ ∧ Cells6 w b (o + i * 6) LL[i].1 LL[i].2.1 LL[i].2.2
theorem readsX_below {w w' : World} {ao : Option Addr} {LL : List Part14} (h : ReadsX w ao LL) (hb : Below w.heap.size w w') : ReadsX w' ao LL := fun i hi => by
  obtain ⟨b, o, h1, h2⟩ := h i hi
  exact ⟨b, o, h1, cells6_keep h2 hb⟩
theorem owX_reads {w : World} {B cp : Nat} {ao : Option Addr} {LL : List Part14} (h : OwL fX 35 6 w B (.slice ao LL.length cp) LL) : ReadsX w ao LL := fun i hi => by
  obtain ⟨g, c, e, _⟩ := owL_cell (f := fX) (fun _ _ => rfl) h i hi
  injection e with e _ _
  subst e
  exact ⟨g, 0, rfl, owL_cells6 h i hi⟩
theorem below_allocs {B : Nat} {w wr w1 : World} {o o' : Obj} (h : Below B w wr) (hB : B ≤ w.heap.size) (hb : Below ((wr.alloc o).alloc o').heap.size ((wr.alloc o).alloc o') w1) : Below B w w1 := by
  have hs := h.size
  have h2 := (h.alloc (by omega) o).alloc (by simp; omega) o'
  exact h2.trans (hb.mono (by simp; omega))
/-- a list is of an expression and all within it (or the rows may bear a mark) -/
structure Listd (mk : Prop) (LL : List Part14) (Z : X) : Prop where
  is : LL.map (·.1) = Sx.nodes Z ∨ mk
theorem same_post {mk : Prop} {x y : X} {LX LY : List Part14} (hx : Listd mk LX x) (hy : Listd mk LY y) : (Sx.alikeL (LX.map (·.1)) (LY.map (·.1)) = true ↔ x = y) ∨ mk := by
  rcases hx.is with hx | h
  · rcases hy.is with hy | h
    · left; rw [hx, hy]; exact Sx.same_nodes x y
    · exact .inr h
  · exact .inr h
/-- .. as Same tells it -/
def SameP (mk : Prop) (x y : X) (N : Nat) (w : World) (e : Ending) (w' : World) : Prop := ∃ r : Bool, e = .returned (.bool r) ∧ Below N w w' ∧ ((r = true ↔ x = y) ∨ mk)
end Go.Proofs.YtmkllibfblacfaaDoor
