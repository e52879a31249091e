/-
  Layer 4's laws: DiskStays, as its frame wants it.
-/
import Derived.Test.YtjefmmbkkdaeiaaDskStays
import Derived.Test.YtjefmmbkkdaeiaaDskOpen
namespace Go.Proofs.Ytjefmmbkkdaeiaa
open Go.RowKit
theorem DiskStays_walk (a b : Int) (over : Bool) (F : List Int) (fa : Option Addr) (fc : Nat) (w0 : (Lit.int .u8 a).wf = true) (w1 : (Lit.int .u8 b).wf = true) (_hm : F.length ≤ maxLen) (w : World) (hr : ReadsI w fa F) :
    Calls Try.prog 4 #[.int .u8 a, .int .u8 b, .bool over, .slice fa F.length fc] w fun e w' => e = .returned (.bool true) ∧ Below w.heap.size w w' := by
  obtain ⟨x, rfl⟩ := u8_fits w0
  obtain ⟨y, rfl⟩ := u8_fits w1
  exact stays_walk x y over F fa fc w hr
end Go.Proofs.Ytjefmmbkkdaeiaa
