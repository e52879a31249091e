/-
  Layer 13's laws: arguments that are tokens, and lists of them, opened.
-/
import Derived.Test.YtmpfnokddpbgcaaDoorZLexAll
import Derived.Deep.Slices
import Derived.ChangeSlices
import Derived.ChangeArms
import Derived.OpenShut
namespace Go.Proofs.YtmpfnokddpbgcaaDoor
open Go.ChangeShapes Go.WideShapes Go.RowKit
/-- what a token that an argument is has of bounds -/
def FitsT (t : Lx.T) : Prop := (-9223372036854775808 ≤ t.n ∧ t.n ≤ 9223372036854775807) ∧ (-9223372036854775808 ≤ t.spot ∧ t.spot ≤ 9223372036854775807) ∧ t.s.size ≤ maxLen
/-- a list of tokens that an argument may be -/
def ReadsTF (w : World) (a : Option Addr) (L : List Lx.T) : Prop := ReadsT13 w a L ∧ ∀ x ∈ L, FitsT x
section
variable {H : Type} {enc : TypeId × Value → H} {w : World} {base : Nat} {spare : Nat → Bool} {held : Bool}
theorem add_mid13 (b off k : Nat) : (⟨b, off, none⟩ : Addr).add k = ⟨b, off + k, none⟩ := by unfold Addr.add; split <;> simp_all
theorem one_cell13 {l : List Value} {k : Nat} (h : k < l.length) : (l.drop k).take 1 = [l[k]] := by
  rw [List.drop_eq_getElem_cons h]; rfl
set_option maxRecDepth 100000 in
theorem tok_frame {fuel : Nat} {cs : List Value} {x : DataW H × List MemPlace} (h : DataW.trod enc Tryd.prog w base spare held fuel 33 cs = some x) : ∃ l : Lx.T, cs = (tokC l).toList ∧ FitsT l := by
  have hC : Tryd.prog.cellsOf 33 = 4 := by kernel_rfl
  obtain ⟨ys, n', _, _, hcl, hyl, hf⟩ := DataW.trod_struct Tryd.underlying33 h
  rw [hC] at hcl
  have hyl4 : ys.length = 4 := hyl
  have g0 : DataW.trod enc Tryd.prog w base spare held n' 31 ((cs.drop 0).take (Tryd.prog.cellsOf 31)) = ys[0]? := hf 0 _ rfl
  have g1 : DataW.trod enc Tryd.prog w base spare held n' 9 ((cs.drop 1).take (Tryd.prog.cellsOf 9)) = ys[1]? := hf 1 _ rfl
  have g2 : DataW.trod enc Tryd.prog w base spare held n' 3 ((cs.drop 2).take (Tryd.prog.cellsOf 3)) = ys[2]? := hf 2 _ rfl
  have g3 : DataW.trod enc Tryd.prog w base spare held n' 3 ((cs.drop 3).take (Tryd.prog.cellsOf 3)) = ys[3]? := hf 3 _ rfl
  rw [List.getElem?_eq_getElem (by omega)] at g0 g1 g2 g3
  have kk : Tryd.prog.cellsOf 31 = 1 := by kernel_rfl
  have k0 : Tryd.prog.cellsOf 3 = 1 := by kernel_rfl
  have ks : Tryd.prog.cellsOf 9 = 1 := by kernel_rfl
  rw [kk, one_cell13 (by omega)] at g0
  rw [ks, one_cell13 (by omega)] at g1
  rw [k0, one_cell13 (by omega)] at g2 g3
  obtain ⟨z0, e0, _, _⟩ := DataW.trod_int Tryd.underlying31 g0
  obtain ⟨z1, e1, _, w1⟩ := DataW.trod_string Tryd.underlying9 g1
  obtain ⟨z2, e2, _, w2⟩ := DataW.trod_int Tryd.underlying3 g2
  obtain ⟨z3, e3, _, w3⟩ := DataW.trod_int Tryd.underlying3 g3
  simp only [List.cons.injEq, and_true] at e0 e1 e2 e3
  refine ⟨⟨z0, z1, z2, z3⟩, ?_, ?_⟩
  · obtain ⟨a, b, c, d, rfl⟩ : ∃ a b c d, cs = [a, b, c, d] := by
      rcases cs with _ | ⟨a, _ | ⟨b, _ | ⟨c, _ | ⟨d, _ | ⟨e, r⟩⟩⟩⟩⟩
      · exact absurd hcl (by simp)
      · exact absurd hcl (by simp)
      · exact absurd hcl (by simp)
      · exact absurd hcl (by simp)
      · exact ⟨a, b, c, d, rfl⟩
      · exact absurd hcl (by simp)
    simp only [List.getElem_cons_zero, List.getElem_cons_succ] at e0 e1 e2 e3
    rw [e0, e1, e2, e3]
  · exact ⟨bounds_i64 w2, bounds_i64 w3, w1⟩
theorem toks_frame {fuel : Nat} {cs : List Value} {x : DataW H × List MemPlace} (h : DataW.trod enc Tryd.prog w base spare held fuel 23 cs = some x) (hsp : ∀ b, spare b = true) :
    ∃ (a : Option Addr) (L : List Lx.T) (cap : Nat), cs = [.slice a L.length cap] ∧ ReadsTF w a L ∧ L.length ≤ maxLen := by
  have hC : Tryd.prog.cellsOf 33 = 4 := by kernel_rfl
  rcases Go.Deep.open_slice Tryd.underlying23 h with ⟨hcs, _⟩ | ⟨a, len, cap, m, n, D, Pl, hcs, _, hl, hm, hmm, _, hi⟩
  · exact ⟨none, [], 0, hcs, ⟨readsT13_none _ _, fun x hx => by simp at hx⟩, Nat.zero_le _⟩
  · rw [hsp, if_pos rfl] at hmm
    subst hmm
    have one : ∀ i, i < m → ∃ y : Lx.T, (w.cell? (a.add (i * 4)) = some (.int .i64 y.kind) ∧ w.cell? (a.add (i * 4 + 1)) = some (.string y.s) ∧ w.cell? (a.add (i * 4 + 2)) = some (.int .i64 y.n) ∧ w.cell? (a.add (i * 4 + 3)) = some (.int .i64 y.spot)) ∧ FitsT y := by
      intro i him
      obtain ⟨cs', hc, ht⟩ := hi i him
      rw [hC] at hc
      obtain ⟨_, hcl, hat⟩ := World.cells?_some hc
      obtain ⟨y, hy, hf⟩ := tok_frame ht
      have c0 := hat 0 (by omega)
      have c1 := hat 1 (by omega)
      have c2 := hat 2 (by omega)
      have c3 := hat 3 (by omega)
      rw [Go.Deep.add_add] at c0 c1 c2 c3
      subst hy
      exact ⟨y, ⟨c0, c1, c2, c3⟩, hf⟩
    have : Inhabited Lx.T := ⟨Lx.no⟩
    obtain ⟨f, hfam⟩ := Go.Deep.choose_lt one
    have hlen : ((List.range len).map f).length = len := by rw [List.length_map, List.length_range]
    have eL : ∀ i (h : i < ((List.range len).map f).length), ((List.range len).map f)[i] = f i := fun i h => by rw [List.getElem_map, List.getElem_range]
    refine ⟨some a, (List.range len).map f, m, by rw [hlen]; exact hcs, ⟨fun i hi2 => ?_, fun x hx => ?_⟩, by rw [hlen]; omega⟩
    · have hi3 := hi2
      rw [hlen] at hi3
      have hy := hfam i (by omega)
      rw [eL i hi2]
      have hc0 := hfam 0 (by omega)
      have ha := hc0.1.1
      have e0 : a.add (0 * 4) = a := by simp [Addr.add]
      rw [e0] at ha
      obtain ⟨b, o, s⟩ := a
      obtain rfl : s = none := World.cell?_spot ha
      obtain ⟨⟨h1, h2, h3, h4⟩, _⟩ := hy
      rw [add_mid13] at h1 h2 h3 h4
      exact ⟨b, o, rfl, h1, by rw [Nat.add_assoc]; exact h2, by rw [Nat.add_assoc]; exact h3, by rw [Nat.add_assoc]; exact h4⟩
    · obtain ⟨i, hi2, rfl⟩ := List.getElem_of_mem hx
      rw [eL i hi2]
      rw [hlen] at hi2
      exact (hfam i (by omega)).2
end
end Go.Proofs.YtmpfnokddpbgcaaDoor
