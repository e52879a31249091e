/-
  Layer 11's laws: an argument that is a list of pairs, opened.
-/
import Derived.Test.YtlhhecomjhfhjaaNodOpen
namespace Go.Proofs.Ytlhhecomjhfhjaa
open Go.ChangeShapes Go.WideShapes Go.RowKit
theorem pairs_frame {H : Type} {enc : TypeId × Value → H} {w : World} {base : Nat} {spare : Nat → Bool} {held : Bool} {fuel : Nat} {cs : List Value} {x : DataW H × List MemPlace} (h : DataW.trod enc Try.prog w base spare held fuel 38 cs = some x) (hsp : ∀ b, spare b = true) :
    ∃ (a : Option Addr) (L : List (ByteArray × ByteArray)) (cap : Nat), cs = [.slice a L.length cap] ∧ ReadsP w a L ∧ L.length ≤ maxLen := by
  obtain ⟨a, L, cap, h1, h2, h3, _⟩ := pairs_open h hsp
  exact ⟨a, L, cap, h1, h2, h3⟩
end Go.Proofs.Ytlhhecomjhfhjaa
