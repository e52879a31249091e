/-
  Layer 4's laws: arguments that are slices of integers, and of calls, opened.
-/
import Derived.Test.YtjefmmbkkdaeiaaDskActs
import Derived.Deep.Slices
import Derived.ChangeSlices
import Derived.ChangeArms
namespace Go.Proofs.Ytjefmmbkkdaeiaa
open Go.ChangeShapes Go.WideShapes Go.RowKit

theorem addr_mid {a : Addr} {w : World} {v : Value} (h : w.cell? a = some v) (i : Nat) : a.add i = ⟨a.block, a.off + i, none⟩ := by
  obtain ⟨b, o, s⟩ := a
  obtain rfl : s = none := World.cell?_spot h
  exact Addr.add_mid b o i
theorem readsI_open {w : World} {a : Addr} {len cap : Nat} {zs : List Int} (hl : len ≤ cap) (hz : zs.length = cap) (hcell : ∀ i, i < zs.length → w.cell? (a.add i) = some (.int .i64 (zs.getD i 0))) :
    ∃ l : List Int, l.length = len ∧ ReadsI w (some a) l := by
  refine ⟨zs.take len, by rw [List.length_take]; omega, fun i hi => ?_⟩
  have hi2 : i < zs.length := by rw [List.length_take] at hi; omega
  have h0 := hcell 0 (by omega)
  have hc := hcell i hi2
  have e0 : a.add 0 = a := by simp [Addr.add]
  rw [e0] at h0
  rw [addr_mid h0 i] at hc
  obtain ⟨b, o, s⟩ := a
  obtain rfl : s = none := World.cell?_spot h0
  exact ⟨b, o, rfl, by rw [hc, List.getElem_take]; simp [List.getD, List.getElem?_eq_getElem hi2]⟩
theorem i64_fits {n : Int} (h : (Lit.int .i64 n).wf = true) : -9223372036854775808 ≤ n ∧ n ≤ 9223372036854775807 := by
  unfold Lit.wf at h
  rw [Bool.and_eq_true, decide_eq_true_iff, decide_eq_true_iff] at h
  exact h
theorem u8_fits {n : Int} (h : (Lit.int .u8 n).wf = true) : ∃ b : UInt8, n = (b.toNat : Int) := by
  unfold Lit.wf at h
  rw [Bool.and_eq_true, decide_eq_true_iff, decide_eq_true_iff] at h
  have h1 : (0 : Int) ≤ n := h.1
  have h2 : n ≤ 255 := h.2
  exact ⟨UInt8.ofNat n.toNat, by simp; omega⟩
/-- the slice at a reads as the calls L: each with its fates' address and room -/
def ReadsA (w : World) (a : Option Addr) (L : List (DAct × Option Addr × Nat)) : Prop := ∀ i (h : i < L.length), ∃ b off, a = some ⟨b, off, none⟩ ∧
  (∀ j v, (actV L[i].1 L[i].2.1 L[i].2.2).toList[j]? = some v → w.cell? ⟨b, off + i * 5 + j, none⟩ = some v) ∧ -9223372036854775808 ≤ L[i].1.i ∧ L[i].1.i ≤ 9223372036854775807 ∧ ReadsI w L[i].2.1 L[i].1.F
theorem readsA_none (w : World) (a : Option Addr) : ReadsA w a [] := by intro i hi; simp at hi
section
variable {H : Type} {enc : TypeId × Value → H} {w : World} {base : Nat} {spare : Nat → Bool} {held : Bool}
theorem ints_lt {fuel : Nat} {cs : List Value} {x : DataW H × List MemPlace} (h : DataW.trod enc Try.prog w base spare held fuel 32 cs = some x) (hsp : ∀ b, spare b = true) :
    ∃ (a : Option Addr) (l : List Int) (cap : Nat), cs = [.slice a l.length cap] ∧ ReadsI w a l ∧ l.length ≤ maxLen := by
  rcases open_ints Try.underlying32 Try.underlying3 (by kernel_rfl) h with ⟨hcs, _⟩ | ⟨a, len, cap, zs, hcs, _, hl, hm, hz, _, hcell, _⟩
  · exact ⟨none, [], 0, hcs, readsI_none _ _, Nat.zero_le _⟩
  · rw [hsp, if_pos rfl] at hz
    obtain ⟨l, e, hr⟩ := readsI_open hl hz hcell
    exact ⟨some a, l, cap, by rw [e]; exact hcs, hr, by omega⟩
theorem one_cell_list {l : List Value} {k : Nat} (h : k < l.length) : (l.drop k).take 1 = [l[k]] := by
  rw [List.drop_eq_getElem_cons h]; rfl
theorem acts_open {fuel : Nat} {cs : List Value} {x : DataW H × List MemPlace} (h : DataW.trod enc Try.prog w base spare held fuel 22 cs = some x) (hsp : ∀ b, spare b = true) :
    ∃ (a : Option Addr) (L : List (DAct × Option Addr × Nat)) (cap : Nat), cs = [.slice a L.length cap] ∧ ReadsA w a L ∧ L.length ≤ maxLen := by
  have hC : Try.prog.cellsOf 34 = 5 := by kernel_rfl
  rcases Go.Deep.open_slice Try.underlying22 h with ⟨hcs, _⟩ | ⟨a, len, cap, m, n, D, Pl, hcs, _, hl, hm, hmm, _, hi⟩
  · exact ⟨none, [], 0, hcs, readsA_none _ _, Nat.zero_le _⟩
  · rw [hsp, if_pos rfl] at hmm
    subst hmm
    have one : ∀ i, i < m → ∃ y : DAct × Option Addr × Nat, (∀ j v, (actV y.1 y.2.1 y.2.2).toList[j]? = some v → w.cell? (a.add (i * 5 + j)) = some v) ∧ -9223372036854775808 ≤ y.1.i ∧ y.1.i ≤ 9223372036854775807 ∧ ReadsI w y.2.1 y.1.F := by
      intro i him
      obtain ⟨cs', hc, ht⟩ := hi i him
      rw [hC] at hc
      obtain ⟨_, hcl, hat⟩ := World.cells?_some hc
      obtain ⟨ys, n', _, _, _, hyl, hf⟩ := DataW.trod_struct Try.underlying34 ht
      have hyl5 : ys.length = 5 := hyl
      have g0 : DataW.trod enc Try.prog w base spare held n' 3 ((cs'.drop 0).take (Try.prog.cellsOf 3)) = ys[0]? := hf 0 _ rfl
      have g1 : DataW.trod enc Try.prog w base spare held n' 3 ((cs'.drop 1).take (Try.prog.cellsOf 3)) = ys[1]? := hf 1 _ rfl
      have g2 : DataW.trod enc Try.prog w base spare held n' 5 ((cs'.drop 2).take (Try.prog.cellsOf 5)) = ys[2]? := hf 2 _ rfl
      have g3 : DataW.trod enc Try.prog w base spare held n' 5 ((cs'.drop 3).take (Try.prog.cellsOf 5)) = ys[3]? := hf 3 _ rfl
      have g4 : DataW.trod enc Try.prog w base spare held n' 32 ((cs'.drop 4).take (Try.prog.cellsOf 32)) = ys[4]? := hf 4 _ rfl
      rw [List.getElem?_eq_getElem (by omega)] at g0 g1 g2 g3 g4
      have k0 : Try.prog.cellsOf 3 = 1 := by kernel_rfl
      have k5 : Try.prog.cellsOf 5 = 1 := by kernel_rfl
      have ks : Try.prog.cellsOf 32 = 1 := by kernel_rfl
      rw [k0, one_cell_list (by omega)] at g0 g1
      rw [k5, one_cell_list (by omega)] at g2 g3
      rw [ks, one_cell_list (by omega)] at g4
      obtain ⟨z0, e0, _, w0⟩ := DataW.trod_int Try.underlying3 g0
      obtain ⟨z1, e1, _, w1⟩ := DataW.trod_int Try.underlying3 g1
      obtain ⟨z2, e2, _, w2⟩ := DataW.trod_int Try.underlying5 g2
      obtain ⟨z3, e3, _, w3⟩ := DataW.trod_int Try.underlying5 g3
      obtain ⟨fa, F, fc, e4, hF, _⟩ := ints_lt g4 hsp
      obtain ⟨u2, rfl⟩ := u8_fits w2
      obtain ⟨u3, rfl⟩ := u8_fits w3
      simp only [List.cons.injEq, and_true] at e0 e1 e2 e3 e4
      refine ⟨(⟨z0, z1, u2, u3, F⟩, fa, fc), fun j v hj => ?_, (i64_fits w1).1, (i64_fits w1).2, hF⟩
      have hj5 : j < 5 := (List.getElem?_eq_some_iff.1 hj).1
      have hc1 := hat j hj5
      rw [Go.Deep.add_add] at hc1
      rw [hc1, List.getElem?_eq_getElem (by omega)]
      have h5 : j = 0 ∨ j = 1 ∨ j = 2 ∨ j = 3 ∨ j = 4 := by omega
      rcases h5 with rfl | rfl | rfl | rfl | rfl
      · rw [e0]; exact hj
      · rw [e1]; exact hj
      · rw [e2]; exact hj
      · rw [e3]; exact hj
      · rw [e4]; exact hj
    have : Inhabited (DAct × Option Addr × Nat) := ⟨(⟨0, 0, 0, 0, []⟩, none, 0)⟩
    obtain ⟨f, hfam⟩ := Go.Deep.choose_lt one
    have hlen : ((List.range len).map f).length = len := by rw [List.length_map, List.length_range]
    refine ⟨some a, (List.range len).map f, m, by rw [hlen]; exact hcs, fun i hi2 => ?_, by rw [hlen]; omega⟩
    rw [hlen] at hi2
    have hy := hfam i (by omega)
    have eL : ((List.range len).map f)[i]'(by rw [hlen]; exact hi2) = f i := by rw [List.getElem_map, List.getElem_range]
    rw [eL]
    have hc0 := hfam 0 (by omega)
    have ha := hc0.1 0 _ rfl
    have e0 : a.add (0 * 5 + 0) = a := by simp [Addr.add]
    rw [e0] at ha
    obtain ⟨b, o, s⟩ := a
    obtain rfl : s = none := World.cell?_spot ha
    refine ⟨b, o, rfl, fun j v hj => ?_, hy.2.1, hy.2.2.1, hy.2.2.2⟩
    have := hy.1 j v hj
    rw [Addr.add_mid] at this
    rw [Nat.add_assoc]; exact this
end
end Go.Proofs.Ytjefmmbkkdaeiaa
