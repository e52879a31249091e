/-
  Layer 9: the document's node: its bytes, its size, is it right, its error, its page.
-/
import Derived.Test.YtlhhecomjhfhjaaNodeMath
import Derived.Test.YtlhhecomjhfhjaaOctNum
import Derived.Test.YtlhhecomjhfhjaaQTail
import Derived.Test.YtlhhecomjhfhjaaOnly
namespace Go.Proofs.Ytlhhecomjhfhjaa
open Go.RowKit
/-- the slice at a reads as the pairs L -/
def ReadsP (w : World) (a : Option Addr) (L : List (ByteArray × ByteArray)) : Prop := ∀ i (h : i < L.length), ∃ b off, a = some ⟨b, off, none⟩ ∧ w.cell? ⟨b, off + i * 2, none⟩ = some (.string L[i].1) ∧ w.cell? ⟨b, off + i * 2 + 1, none⟩ = some (.string L[i].2)
abbrev nodC (leaf : Bool) (a : Option Addr) (n c : Nat) : List Value := [.bool leaf, .slice a n c]
abbrev nodV (leaf : Bool) (a : Option Addr) (n c : Nat) : Value := .agg #[.bool leaf, .slice a n c]
section
variable {w w' : World} {a : Option Addr} {L : List (ByteArray × ByteArray)}
theorem readsP_none (w : World) (a : Option Addr) : ReadsP w a [] := by intro i hi; simp at hi
theorem readsP_only {F : Nat → Prop} (h : ReadsP w a L) (ho : Only F w w') (hn : ∀ b, a = some b → ¬ F b.block) : ReadsP w' a L := by
  intro i hi
  obtain ⟨b, off, h1, h2, h3⟩ := h i hi
  have hF : ¬ F b := hn _ h1
  exact ⟨b, off, h1, (ho.cell (World.block_lt_of_cell? w _ h2) hF).trans h2, (ho.cell (World.block_lt_of_cell? w _ h3) hF).trans h3⟩
theorem readsP_below (h : ReadsP w a L) (hb : Below w.heap.size w w') : ReadsP w' a L := readsP_only h (Only.of_none (F := fun _ => False) hb) fun _ _ h => h
end
theorem Nd.pairsB_app (A B : List (ByteArray × ByteArray)) : Nd.pairsB (A ++ B) = Nd.pairsB A ++ Nd.pairsB B := by
  induction A with
  | nil => show Nd.pairsB B = ⟨#[]⟩ ++ Nd.pairsB B; exact (ByteArray.empty_append).symm
  | cons x A ih => show Nd.pairB x ++ Nd.pairsB (A ++ B) = (Nd.pairB x ++ Nd.pairsB A) ++ Nd.pairsB B; rw [ih, ByteArray.append_assoc]
theorem Nd.pairsB_next (L : List (ByteArray × ByteArray)) (k : Nat) (hk : k < L.length) : Nd.pairsB (L.take (k + 1)) = Nd.pairsB (L.take k) ++ Nd.txtB L[k].1 ++ Nd.txtB L[k].2 := by
  rw [List.take_succ_eq_append_getElem hk, Nd.pairsB_app]
  show _ ++ (Nd.txtB L[k].1 ++ Nd.txtB L[k].2 ++ ⟨#[]⟩) = _
  rw [show Nd.txtB L[k].1 ++ Nd.txtB L[k].2 ++ ⟨#[]⟩ = Nd.txtB L[k].1 ++ Nd.txtB L[k].2 from ByteArray.append_empty, ByteArray.append_assoc]
theorem Nd.txtB_size (s : ByteArray) (h : s.size ≤ 1000) : (Nd.txtB s).size ≤ 1010 := by
  unfold Nd.txtB
  rw [ByteArray.size_append]
  have := Oct.numB_len (s.size : Int) (by omega) (by omega)
  omega
theorem Nd.pairsB_most : ∀ (L : List (ByteArray × ByteArray)), (∀ x ∈ L, x.1.size ≤ 1000 ∧ x.2.size ≤ 1000) → (Nd.pairsB L).size ≤ 2020 * L.length
  | [], _ => Nat.zero_le _
  | x :: L, h => by
    show (Nd.txtB x.1 ++ Nd.txtB x.2 ++ Nd.pairsB L).size ≤ _
    rw [ByteArray.size_append, ByteArray.size_append, List.length_cons]
    have h1 := Nd.txtB_size x.1 (h x (by simp)).1
    have h2 := Nd.txtB_size x.2 (h x (by simp)).2
    have h3 := Nd.pairsB_most L fun y hy => h y (by simp [hy])
    omega
end Go.Proofs.Ytlhhecomjhfhjaa
