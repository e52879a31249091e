/-
  Layer 1: what Num answers (the program's and the document's).
-/
import Derived.Test.YtlhhecomjhfhjaaDump
import Derived.Test.YtlhhecomjhfhjaaOctLeaf
import Derived.Test.YtlhhecomjhfhjaaOctOwn
import Derived.WalkSmall
namespace Go.Proofs.Ytlhhecomjhfhjaa
open Go.RowKit


theorem or128 (d : Nat) (h : d < 128) : bits .or .u8 (d : Int) 128 = ((128 + d : Nat) : Int) := by
  rw [u8_or _ _ (by omega) (by omega) (by decide) (by decide)]
  simp only [Int.toNat_natCast, Int.reduceToNat]
  have := Nat.two_pow_add_eq_or_of_lt (i := 7) (b := d) (by omega) 1
  rw [Nat.or_comm]
  have h2 : (2 ^ 7 * 1 : Nat) = 128 := rfl
  rw [h2] at this; rw [this]

end Go.Proofs.Ytlhhecomjhfhjaa
