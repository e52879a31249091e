/-
  Layer 15's laws: an argument that is a list of columns, opened.
-/
import Derived.Test.YtmkckbidfpinfaaDoorZTypColR
import Derived.Test.YtmkckbidfpinfaaDoorPk6
namespace Go.Proofs.YtmkckbidfpinfaaDoor
open Go.ChangeShapes Go.WideShapes Go.RowKit
/-- columns that an argument may be -/
def ReadsCF (w : World) (a : Option Addr) (L : List ColV) : Prop := ReadsC w a L ∧ ∀ c ∈ L, c.name.size ≤ maxLen
theorem readsC_none (w : World) (a : Option Addr) : ReadsC w a [] := by intro i hi; simp at hi
section
variable {H : Type} {enc : TypeId × Value → H} {w : World} {base : Nat} {spare : Nat → Bool} {held : Bool}
set_option maxRecDepth 100000 in
theorem cols_frame {fuel : Nat} {cs : List Value} {x : DataW H × List MemPlace} (h : DataW.trod enc Tryd.prog w base spare held fuel 22 cs = some x) (hsp : ∀ b, spare b = true) :
    ∃ (a : Option Addr) (L : List ColV) (cap : Nat), cs = [.slice a L.length cap] ∧ ReadsCF w a L ∧ L.length ≤ maxLen ∧ L.length ≤ cap := by
  have hC : Tryd.prog.cellsOf 49 = 3 := by kernel_rfl
  rcases Go.Deep.open_slice Tryd.underlying22 h with ⟨hcs, _⟩ | ⟨a, len, cap, m, n, D, Pl, hcs, _, hl, hm, hmm, _, hi⟩
  · exact ⟨none, [], 0, hcs, ⟨readsC_none _ _, fun x hx => by simp at hx⟩, Nat.zero_le _, Nat.zero_le _⟩
  · rw [hsp, if_pos rfl] at hmm
    subst hmm
    have one : ∀ i, i < m → ∃ y : ColV, (w.cell? (a.add (i * 3)) = some (.string y.name) ∧ w.cell? (a.add (i * 3 + 1)) = some (.int .i64 y.kind) ∧ w.cell? (a.add (i * 3 + 2)) = some (.slice y.oa y.on y.oc)) ∧ y.name.size ≤ maxLen := by
      intro i him
      obtain ⟨cs', hc, ht⟩ := hi i him
      rw [hC] at hc
      obtain ⟨_, hcl, hat⟩ := World.cells?_some hc
      obtain ⟨ys, n', _, _, hcl2, hyl, hf⟩ := DataW.trod_struct Tryd.underlying49 ht
      have hyl3 : ys.length = 3 := hyl
      have g0 : DataW.trod enc Tryd.prog w base spare held n' 9 ((cs'.drop 0).take (Tryd.prog.cellsOf 9)) = ys[0]? := hf 0 _ rfl
      have g1 : DataW.trod enc Tryd.prog w base spare held n' 23 ((cs'.drop 1).take (Tryd.prog.cellsOf 23)) = ys[1]? := hf 1 _ rfl
      have g2 : DataW.trod enc Tryd.prog w base spare held n' 47 ((cs'.drop 2).take (Tryd.prog.cellsOf 47)) = ys[2]? := hf 2 _ rfl
      rw [List.getElem?_eq_getElem (by omega)] at g0 g1 g2
      have k0 : Tryd.prog.cellsOf 9 = 1 := by kernel_rfl
      have k1 : Tryd.prog.cellsOf 23 = 1 := by kernel_rfl
      have k2 : Tryd.prog.cellsOf 47 = 1 := by kernel_rfl
      rw [k0, one_cell12 (by omega)] at g0
      rw [k1, one_cell12 (by omega)] at g1
      rw [k2, one_cell12 (by omega)] at g2
      obtain ⟨z0, e0, _, w0⟩ := DataW.trod_string Tryd.underlying9 g0
      obtain ⟨z1, e1, _, _⟩ := DataW.trod_int Tryd.underlying23 g1
      obtain ⟨oa, OL, oc, e2, _⟩ := vals_frame g2 hsp
      simp only [List.cons.injEq, and_true] at e0 e1 e2
      have c0 := hat 0 (by omega)
      have c1 := hat 1 (by omega)
      have c2 := hat 2 (by omega)
      rw [Go.Deep.add_add, List.getElem?_eq_getElem (by omega)] at c0 c1 c2
      rw [e0] at c0
      rw [e1] at c1
      rw [e2] at c2
      exact ⟨⟨z0, z1, oa, OL.length, oc⟩, ⟨c0, c1, c2⟩, w0⟩
    have : Inhabited ColV := ⟨⟨Vl.mt, 0, none, 0, 0⟩⟩
    obtain ⟨f, hfam⟩ := Go.Deep.choose_lt one
    have hlen : ((List.range len).map f).length = len := by rw [List.length_map, List.length_range]
    have eL : ∀ i (h : i < ((List.range len).map f).length), ((List.range len).map f)[i] = f i := fun i h => by rw [List.getElem_map, List.getElem_range]
    refine ⟨some a, (List.range len).map f, m, by rw [hlen]; exact hcs, ⟨fun i hi2 => ?_, fun x hx => ?_⟩, by rw [hlen]; omega, by rw [hlen]; omega⟩
    · have hi3 := hi2
      rw [hlen] at hi3
      have hy := hfam i (by omega)
      rw [eL i hi2]
      have hc0 := hfam 0 (by omega)
      have ha := hc0.1.1
      have e0 : a.add (0 * 3) = a := by simp [Addr.add]
      rw [e0] at ha
      obtain ⟨b, o, s⟩ := a
      obtain rfl : s = none := World.cell?_spot ha
      obtain ⟨⟨h1, h2, h3⟩, _⟩ := hy
      rw [add_mid12] at h1 h2 h3
      exact ⟨b, o, rfl, h1, by rw [Nat.add_assoc]; exact h2, by rw [Nat.add_assoc]; exact h3⟩
    · obtain ⟨i, hi2, rfl⟩ := List.getElem_of_mem hx
      rw [eL i hi2]
      rw [hlen] at hi2
      exact (hfam i (by omega)).2
end
end Go.Proofs.YtmkckbidfpinfaaDoor
