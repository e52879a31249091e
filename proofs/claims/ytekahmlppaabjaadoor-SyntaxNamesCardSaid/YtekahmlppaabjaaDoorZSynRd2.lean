/-
  Layer 14: the document's reader of tokens: read, where '-' stands.
-/
import Derived.Test.YtekahmlppaabjaaDoorZSynRd
namespace Go.Proofs.YtekahmlppaabjaaDoor
open Go.RowKit
open Sx (X toksOf isT)
/-- an expression with '-' ahead -/
def Sx.negR : Option X × Nat → Option X × Nat
  | (none, q) => (none, q)
  | (some a, q) => (some (.mk 3 Vl.no Vl.mt [a]), q)
end Go.Proofs.YtekahmlppaabjaaDoor
