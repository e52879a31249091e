/-
  Layer 9's laws: an argument that is a node, opened.
-/
import Derived.Test.YtlhhecomjhfhjaaNodRef
import Derived.Deep.Slices
import Derived.ChangeSlices
import Derived.ChangeArms
namespace Go.Proofs.Ytlhhecomjhfhjaa
open Go.ChangeShapes Go.WideShapes Go.RowKit
section
variable {H : Type} {enc : TypeId × Value → H} {w : World} {base : Nat} {spare : Nat → Bool} {held : Bool}
theorem add_mid9 (b off k : Nat) : (⟨b, off, none⟩ : Addr).add k = ⟨b, off + k, none⟩ := by unfold Addr.add; split <;> simp_all
theorem one_cell9 {l : List Value} {k : Nat} (h : k < l.length) : (l.drop k).take 1 = [l[k]] := by
  rw [List.drop_eq_getElem_cons h]; rfl
theorem pairs_open {fuel : Nat} {cs : List Value} {x : DataW H × List MemPlace} (h : DataW.trod enc Try.prog w base spare held fuel 38 cs = some x) (hsp : ∀ b, spare b = true) :
    ∃ (a : Option Addr) (L : List (ByteArray × ByteArray)) (cap : Nat), cs = [.slice a L.length cap] ∧ ReadsP w a L ∧ L.length ≤ maxLen ∧ (∀ x ∈ L, x.1.size ≤ maxLen ∧ x.2.size ≤ maxLen) ∧ L.length ≤ cap := by
  have hC : Try.prog.cellsOf 46 = 2 := by kernel_rfl
  rcases Go.Deep.open_slice Try.underlying38 h with ⟨hcs, _⟩ | ⟨a, len, cap, m, n, D, Pl, hcs, _, hl, hm, hmm, _, hi⟩
  · exact ⟨none, [], 0, hcs, readsP_none _ _, Nat.zero_le _, fun x hx => by simp at hx, Nat.zero_le _⟩
  · rw [hsp, if_pos rfl] at hmm
    subst hmm
    have one : ∀ i, i < m → ∃ y : ByteArray × ByteArray, (w.cell? (a.add (i * 2)) = some (.string y.1) ∧ w.cell? (a.add (i * 2 + 1)) = some (.string y.2)) ∧ y.1.size ≤ maxLen ∧ y.2.size ≤ maxLen := by
      intro i him
      obtain ⟨cs', hc, ht⟩ := hi i him
      rw [hC] at hc
      obtain ⟨_, hcl, hat⟩ := World.cells?_some hc
      obtain ⟨ys, n', _, _, _, hyl, hf⟩ := DataW.trod_struct Try.underlying46 ht
      have hyl2 : ys.length = 2 := hyl
      have g0 : DataW.trod enc Try.prog w base spare held n' 9 ((cs'.drop 0).take (Try.prog.cellsOf 9)) = ys[0]? := hf 0 _ rfl
      have g1 : DataW.trod enc Try.prog w base spare held n' 9 ((cs'.drop 1).take (Try.prog.cellsOf 9)) = ys[1]? := hf 1 _ rfl
      rw [List.getElem?_eq_getElem (by omega)] at g0 g1
      have ks : Try.prog.cellsOf 9 = 1 := by kernel_rfl
      rw [ks, one_cell9 (by omega)] at g0 g1
      obtain ⟨z0, e0, _, w0⟩ := DataW.trod_string Try.underlying9 g0
      obtain ⟨z1, e1, _, w1⟩ := DataW.trod_string Try.underlying9 g1
      simp only [List.cons.injEq, and_true] at e0 e1
      have c0 := hat 0 (by omega)
      have c1 := hat 1 (by omega)
      rw [Go.Deep.add_add] at c0 c1
      rw [List.getElem?_eq_getElem (by omega), e0] at c0
      rw [List.getElem?_eq_getElem (by omega), e1] at c1
      exact ⟨(z0, z1), ⟨c0, c1⟩, w0, w1⟩
    have : Inhabited (ByteArray × ByteArray) := ⟨(⟨#[]⟩, ⟨#[]⟩)⟩
    obtain ⟨f, hfam⟩ := Go.Deep.choose_lt one
    have hlen : ((List.range len).map f).length = len := by rw [List.length_map, List.length_range]
    have eL : ∀ i (h : i < ((List.range len).map f).length), ((List.range len).map f)[i] = f i := fun i h => by rw [List.getElem_map, List.getElem_range]
    refine ⟨some a, (List.range len).map f, m, by rw [hlen]; exact hcs, fun i hi2 => ?_, by rw [hlen]; omega, fun x hx => ?_, by rw [hlen]; exact hl⟩
    · have hi3 := hi2
      rw [hlen] at hi3
      have hy := hfam i (by omega)
      rw [eL i hi2]
      have hc0 := hfam 0 (by omega)
      have ha := hc0.1.1
      have e0 : a.add (0 * 2) = a := by simp [Addr.add]
      rw [e0] at ha
      obtain ⟨b, o, s⟩ := a
      obtain rfl : s = none := World.cell?_spot ha
      obtain ⟨⟨h1, h2⟩, _⟩ := hy
      rw [add_mid9] at h1 h2
      exact ⟨b, o, rfl, h1, by rw [Nat.add_assoc]; exact h2⟩
    · obtain ⟨i, hi2, rfl⟩ := List.getElem_of_mem hx
      rw [eL i hi2]
      rw [hlen] at hi2
      exact (hfam i (by omega)).2
end
end Go.Proofs.Ytlhhecomjhfhjaa
