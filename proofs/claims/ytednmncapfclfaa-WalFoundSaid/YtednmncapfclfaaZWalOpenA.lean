/-
  Layer 7's laws: arguments that are slices of slices of strings, opened.
-/
import Derived.Test.YtednmncapfclfaaZWalFoundX
import Derived.Test.YtednmncapfclfaaPk4
import Derived.SliceStrings
namespace Go.Proofs.Ytednmncapfclfaa
open Go.ChangeShapes Go.WideShapes Go.RowKit
section
variable {H : Type} {enc : TypeId × Value → H} {w : World} {base : Nat} {spare : Nat → Bool} {held : Bool}
theorem strs_lt {fuel : Nat} {cs : List Value} {x : DataW H × List MemPlace} (h : DataW.trod enc Try.prog w base spare held fuel 39 cs = some x) (hsp : ∀ b, spare b = true) :
    ∃ (a : Option Addr) (l : List ByteArray) (cap : Nat), cs = [.slice a l.length cap] ∧ ReadsS w a l ∧ l.length ≤ maxLen := by
  rcases open_strings Try.underlying39 Try.underlying9 (by kernel_rfl) h with ⟨hcs, _⟩ | ⟨a, len, cap, ss, hcs, _, hl, hm, hz, _, hcell, hws⟩
  · exact ⟨none, [], 0, hcs, readsS_none _ _, Nat.zero_le _⟩
  · rw [hsp, if_pos rfl] at hz
    obtain ⟨l, e, e2, _, hr⟩ := readsS_open hl hm hz hcell hws
    exact ⟨some a, l, cap, by rw [e]; exact hcs, hr, e2⟩
set_option maxRecDepth 100000 in
theorem strss_open {fuel : Nat} {cs : List Value} {x : DataW H × List MemPlace} (h : DataW.trod enc Try.prog w base spare held fuel 49 cs = some x) (hsp : ∀ b, spare b = true) :
    ∃ (a : Option Addr) (L : List LS) (cap : Nat), cs = [.slice a L.length cap] ∧ ReadsSS w a L ∧ L.length ≤ maxLen := by
  have hC : Try.prog.cellsOf 39 = 1 := by kernel_rfl
  rcases Go.Deep.open_slice Try.underlying49 h with ⟨hcs, _⟩ | ⟨a, len, cap, m, n, D, Pl, hcs, _, hl, hm, hmm, _, hi⟩
  · exact ⟨none, [], 0, hcs, readsSS_none _ _, Nat.zero_le _⟩
  · rw [hsp, if_pos rfl] at hmm
    subst hmm
    have one : ∀ i, i < m → ∃ y : LS, w.cell? (a.add i) = some (.slice y.2.1 y.1.length y.2.2) ∧ ReadsS w y.2.1 y.1 := by
      intro i him
      obtain ⟨cs', hc, ht⟩ := hi i him
      rw [hC] at hc
      obtain ⟨_, hcl, hat⟩ := World.cells?_some hc
      obtain ⟨fa, l, fc, e, hr, _⟩ := strs_lt ht hsp
      refine ⟨(l, fa, fc), ?_, hr⟩
      have h0 := hat 0 (by omega)
      rw [Go.Deep.add_add, Nat.mul_one, Nat.add_zero] at h0
      rw [h0, e]; rfl
    have : Inhabited LS := ⟨noLS⟩
    obtain ⟨f, hfam⟩ := Go.Deep.choose_lt one
    have hlen : ((List.range len).map f).length = len := by rw [List.length_map, List.length_range]
    refine ⟨some a, (List.range len).map f, m, by rw [hlen]; exact hcs, fun i hi2 => ?_, by rw [hlen]; omega⟩
    rw [hlen] at hi2
    have hy := hfam i (by omega)
    have eL : ((List.range len).map f)[i]'(by rw [hlen]; exact hi2) = f i := by rw [List.getElem_map, List.getElem_range]
    rw [eL]
    have ha := (hfam 0 (by omega)).1
    have e0 : a.add 0 = a := by simp [Addr.add]
    rw [e0] at ha
    obtain ⟨b, o, s⟩ := a
    obtain rfl : s = none := World.cell?_spot ha
    refine ⟨b, o, rfl, ?_, hy.2⟩
    have := hy.1
    rw [Addr.add_mid] at this
    exact this
end
end Go.Proofs.Ytednmncapfclfaa
