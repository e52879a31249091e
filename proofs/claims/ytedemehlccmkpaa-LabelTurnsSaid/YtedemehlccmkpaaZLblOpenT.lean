/-
  Layer 6's laws: slices of tries and of calls, opened.
-/
import Derived.Test.YtedemehlccmkpaaZLblOpen
namespace Go.Proofs.Ytedemehlccmkpaa
open Go.ChangeShapes Go.WideShapes Go.RowKit
section
variable {H : Type} {enc : TypeId × Value → H} {w : World} {base : Nat} {spare : Nat → Bool} {held : Bool}
set_option maxRecDepth 100000 in
theorem tries_open {fuel : Nat} {cs : List Value} {x : DataW H × List MemPlace} (h : DataW.trod enc Try.prog w base spare held fuel 57 cs = some x) (hsp : ∀ b, spare b = true) :
    ∃ (a : Option Addr) (L : List Tries3) (cap : Nat), cs = [.slice a L.length cap] ∧ ReadsT w a L ∧ L.length ≤ maxLen := by
  have hC : Try.prog.cellsOf 59 = 5 := by kernel_rfl
  rcases Go.Deep.open_slice Try.underlying57 h with ⟨hcs, _⟩ | ⟨a, len, cap, m, n, D, Pl, hcs, _, hl, hm, hmm, _, hi⟩
  · exact ⟨none, [], 0, hcs, readsT_none _ _, Nat.zero_le _⟩
  · rw [hsp, if_pos rfl] at hmm
    subst hmm
    have one : ∀ i, i < m → ∃ y : Tries3, (∀ j v, (tryC y.1 y.2.1 y.2.2).toList[j]? = some v → w.cell? (a.add (i * 5 + j)) = some v) ∧ (-9223372036854775808 ≤ y.1.fuse ∧ y.1.fuse ≤ 9223372036854775807) ∧ ReadsI w y.2.1 y.1.F := by
      intro i him
      obtain ⟨cs', hc, ht⟩ := hi i him
      rw [hC] at hc
      obtain ⟨_, hcl, hat⟩ := World.cells?_some hc
      obtain ⟨ys, n', _, _, _, hyl, hf⟩ := DataW.trod_struct Try.underlying59 ht
      have hyl5 : ys.length = 5 := hyl
      have g0 : DataW.trod enc Try.prog w base spare held n' 3 ((cs'.drop 0).take (Try.prog.cellsOf 3)) = ys[0]? := hf 0 _ rfl
      have g1 : DataW.trod enc Try.prog w base spare held n' 3 ((cs'.drop 1).take (Try.prog.cellsOf 3)) = ys[1]? := hf 1 _ rfl
      have g2 : DataW.trod enc Try.prog w base spare held n' 3 ((cs'.drop 2).take (Try.prog.cellsOf 3)) = ys[2]? := hf 2 _ rfl
      have g3 : DataW.trod enc Try.prog w base spare held n' 9 ((cs'.drop 3).take (Try.prog.cellsOf 9)) = ys[3]? := hf 3 _ rfl
      have g4 : DataW.trod enc Try.prog w base spare held n' 42 ((cs'.drop 4).take (Try.prog.cellsOf 42)) = ys[4]? := hf 4 _ rfl
      rw [List.getElem?_eq_getElem (by omega)] at g0 g1 g2 g3 g4
      have k0 : Try.prog.cellsOf 3 = 1 := by kernel_rfl
      have k5 : Try.prog.cellsOf 9 = 1 := by kernel_rfl
      have ks : Try.prog.cellsOf 42 = 1 := by kernel_rfl
      rw [k0, one_cell_list (by omega)] at g0 g1 g2
      rw [k5, one_cell_list (by omega)] at g3
      rw [ks, one_cell_list (by omega)] at g4
      obtain ⟨z0, e0, _, _⟩ := DataW.trod_int Try.underlying3 g0
      obtain ⟨z1, e1, _, _⟩ := DataW.trod_int Try.underlying3 g1
      obtain ⟨z2, e2, _, w2⟩ := DataW.trod_int Try.underlying3 g2
      obtain ⟨z3, e3, _, _⟩ := DataW.trod_string Try.underlying9 g3
      obtain ⟨fa, F, fc, e4, hF, _⟩ := ints_lt g4 hsp
      simp only [List.cons.injEq, and_true] at e0 e1 e2 e3 e4
      refine ⟨(⟨z0, z1, z2, z3, F⟩, fa, fc), fun j v hj => ?_, i64_fits w2, hF⟩
      have hj5 : j < 5 := (List.getElem?_eq_some_iff.1 hj).1
      have hc1 := hat j hj5
      rw [Go.Deep.add_add] at hc1
      rw [hc1, List.getElem?_eq_getElem (by omega)]
      have h5 : j = 0 ∨ j = 1 ∨ j = 2 ∨ j = 3 ∨ j = 4 := by omega
      rcases h5 with rfl | rfl | rfl | rfl | rfl
      · rw [e0]; exact hj
      · rw [e1]; exact hj
      · rw [e2]; exact hj
      · rw [e3]; exact hj
      · rw [e4]; exact hj
    have : Inhabited Tries3 := ⟨noTry⟩
    obtain ⟨f, hfam⟩ := Go.Deep.choose_lt one
    have hlen : ((List.range len).map f).length = len := by rw [List.length_map, List.length_range]
    refine ⟨some a, (List.range len).map f, m, by rw [hlen]; exact hcs, fun i hi2 => ?_, by rw [hlen]; omega⟩
    rw [hlen] at hi2
    have hy := hfam i (by omega)
    have eL : ((List.range len).map f)[i]'(by rw [hlen]; exact hi2) = f i := by rw [List.getElem_map, List.getElem_range]
    rw [eL]
    have hc0 := hfam 0 (by omega)
    have ha := hc0.1 0 _ rfl
    have e0 : a.add (0 * 5 + 0) = a := by simp [Addr.add]
    rw [e0] at ha
    obtain ⟨b, o, s⟩ := a
    obtain rfl : s = none := World.cell?_spot ha
    refine ⟨b, o, rfl, fun j v hj => ?_, hy.2.1, hy.2.2⟩
    have := hy.1 j v hj
    rw [Addr.add_mid] at this
    rw [Nat.add_assoc]; exact this
end
end Go.Proofs.Ytedemehlccmkpaa
