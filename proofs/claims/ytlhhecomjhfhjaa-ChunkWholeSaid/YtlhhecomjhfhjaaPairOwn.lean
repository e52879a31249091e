/-
  A list of pairs that the call owns: its cells; read.
-/
import Derived.Test.YtlhhecomjhfhjaaNodRef
import Derived.Deep.AppendLies
namespace Go.Proofs.Ytlhhecomjhfhjaa
open Go.RowKit
def pC (x : ByteArray × ByteArray) : List Value := [.string x.1, .string x.2]
def pairsC (L : List (ByteArray × ByteArray)) : List Value := L.flatMap pC
theorem pairsC_len : ∀ L : List (ByteArray × ByteArray), (pairsC L).length = L.length * 2
  | [] => rfl
  | x :: L => by
    show (pC x ++ pairsC L).length = _
    rw [List.length_append, pairsC_len L, List.length_cons]
    show 2 + _ = _
    omega
theorem pairsC_app (A B : List (ByteArray × ByteArray)) : pairsC (A ++ B) = pairsC A ++ pairsC B := List.flatMap_append
theorem pairsC_one (x : ByteArray × ByteArray) : pairsC [x] = [.string x.1, .string x.2] := rfl
theorem pairsC_cell {L : List (ByteArray × ByteArray)} : ∀ v ∈ pairsC L, v.oneCell' = true := by
  intro v hv
  obtain ⟨x, _, hx⟩ := List.mem_flatMap.1 hv
  unfold pC at hx
  simp at hx
  rcases hx with rfl | rfl <;> rfl
theorem pairsC_at : ∀ (L : List (ByteArray × ByteArray)) (i : Nat) (h : i < L.length), (pairsC L)[i * 2]? = some (.string L[i].1) ∧ (pairsC L)[i * 2 + 1]? = some (.string L[i].2)
  | [], _, h => by simp at h
  | x :: L, 0, _ => ⟨rfl, rfl⟩
  | x :: L, i + 1, h => by
    have := pairsC_at L i (by simpa using h)
    show ((Value.string x.1 :: Value.string x.2 :: pairsC L))[(i + 1) * 2]? = _ ∧ ((Value.string x.1 :: Value.string x.2 :: pairsC L))[(i + 1) * 2 + 1]? = _
    rw [show (i + 1) * 2 = (i * 2) + 1 + 1 by omega, show (i * 2) + 1 + 1 + 1 = (i * 2 + 1) + 1 + 1 by omega]
    simp only [List.getElem?_cons_succ, List.getElem_cons_succ]
    exact this
theorem owns_readsP {w : World} {B : Nat} {v : Value} {n : Nat} {L : List (ByteArray × ByteArray)} (h : w.ownsRow B 46 2 v n (pairsC L)) (hn : n = L.length) : ∃ a cap, v = .slice a L.length cap ∧ ReadsP w a L ∧ ∀ b, a = some b → B ≤ b.block ∧ b.block < w.heap.size := by
  subst hn
  rcases h.2 with ⟨rfl, h0⟩ | ⟨g, cap, cur, rfl, hb, hh, u1, u2, u3, u4⟩
  · have : L = [] := List.eq_nil_of_length_eq_zero h0
    subst this
    exact ⟨none, 0, rfl, readsP_none _ _, fun _ e => by cases e⟩
  · refine ⟨_, _, rfl, fun i hi => ?_, fun b e => ?_⟩
    · obtain ⟨p1, p2⟩ := pairsC_at L i hi
      have hrow : RowV w g 46 cur.toList := hh
      have hl := pairsC_len L
      have key : ∀ j v, (pairsC L)[j]? = some v → w.cell? ⟨g, 0 + j, none⟩ = some v := fun j v hj => by
        rw [Nat.zero_add, rowV_cell hrow]
        have hlt := (List.getElem?_eq_some_iff.1 hj).1
        rw [← u4, List.getElem?_take] at hj
        split at hj
        · exact hj
        · cases hj
      exact ⟨g, 0, rfl, key _ _ p1, by rw [Nat.add_assoc]; exact key _ _ p2⟩
    · cases e
      exact ⟨hb, (Array.getElem?_eq_some_iff.1 hh).1⟩
theorem pair_parts : (Try.prog.info? 46).map (fun i => (i.zero, i.size, i.bytes)) = some (some (.agg #[.string ⟨#[]⟩, .string ⟨#[]⟩]), 2, 32) := by kernel_rfl
end Go.Proofs.Ytlhhecomjhfhjaa
