/-
  Layer 14's laws: lives (the document's examples).
-/
import Derived.Test.YtmkllibfblacfaaDoorZSynPrO
import Derived.Test.YtmkllibfblacfaaDoorZSynPrK
namespace Go.Proofs.YtmkllibfblacfaaDoor
open Go.RowKit
open Sx (X)
/-- an expression in unmarked rows -/
abbrev XU (w : World) (x : X) (a : Option Addr) : Prop := XAt w (fun j => ∃ cs T, w.heap[j]? = some (.cells cs T (0, 0))) x a
theorem xu_below {w w' : World} {x : X} {a : Option Addr} (h : XU w x a) (hb : Below w.heap.size w w') : XU w' x a :=
  xat_mono (fun j ⟨cs, T, hj⟩ => ⟨cs, T, (hb.block j (Array.getElem?_eq_some_iff.1 hj).1).trans hj⟩) x a (xat_below h hb)
theorem xu_ok {w : World} {x : X} {a : Option Addr} (h : XU w x a) : XOk w w.heap.size False x a := xok_of_xat x a h
theorem xu_of {w w' : World} {x : X} {a : Option Addr} (h : XAt w' (fun j => w.heap.size ≤ j ∧ ∃ cs T, w'.heap[j]? = some (.cells cs T (0, 0))) x a) : XU w' x a := xat_mono (fun _ hj => hj.2) x a h
def exV (n : Int) : X := .mk 1 ⟨1, n, Vl.mt⟩ Vl.mt []
def exN (c : UInt8) : X := .mk 2 Vl.no ⟨#[c]⟩ []
def exX : X := Sx.bin 5 (exN 97) (Sx.bin 6 (Sx.bin 5 (exN 98) (exN 99)) (exV 2))
theorem ex14_parse : Sx.parseT 9 (lexS ⟨#[97, 45, 40, 98, 45, 99, 41, 42, 50]⟩) = (exX, 0, 0) := by kernel_rfl
theorem ex14_text : Sx.textE exX = (⟨#[97, 32, 45, 32, 40, 98, 32, 45, 32, 99, 41, 32, 42, 32, 50]⟩, 0) := by kernel_rfl
theorem ex14_bad : Sx.parseT 5 (lexS ⟨#[97, 60, 98, 60, 99]⟩) = (Sx.no, 3, 11) := by kernel_rfl
theorem ex14_right : Sx.right exX = true ∧ Sx.fit exX = true ∧ Sx.deep exX ≤ 12 := by decide +kernel
end Go.Proofs.YtmkllibfblacfaaDoor
