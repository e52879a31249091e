/-
  Layer 7's laws: WalPlays: any arguments; slices of calls, opened.
-/
import Derived.Test.YtednmncapfclfaaZWalPlaysW
import Derived.Test.YtednmncapfclfaaZWalOpenA
namespace Go.Proofs.Ytednmncapfclfaa
open Go.ChangeShapes Go.WideShapes Go.RowKit
set_option maxRecDepth 100000 in
set_option maxHeartbeats 1600000 in
theorem WalPlays_walk (n fr ring : Int) (L : List Acts7) (la : Option Addr) (lc : Nat) (_w0 : (Lit.int .i64 n).wf = true) (_w1 : (Lit.int .i64 fr).wf = true) (w2 : (Lit.int .i64 ring).wf = true) (hm : L.length ≤ maxLen) (w : World) (hL : ReadsW w la L) :
    Calls Try.prog 3 #[.int .i64 n, .int .i64 fr, .int .i64 ring, .slice la L.length lc] w fun e w' => e = .returned (.bool true) ∧ Below w.heap.size w w' := by
  have hr := (i64_fits w2).2
  by_cases h1 : n < 1
  · clear hL hm hr
    go_enter Try.func3, Try.ntmps3
    go_wp2_with fail
    refine (lives7_any w).mono ?_
    rintro e w7 ⟨rfl, hb7⟩
    have H7 := Lib.hid hb7; clear hb7
    go_wp2_with fail
    go_ret
    exact ⟨rfl, H7.out⟩
  · by_cases h2 : 20 < n
    · clear hL hm hr
      go_enter Try.func3, Try.ntmps3
      go_wp2_with fail
      refine (lives7_any w).mono ?_
      rintro e w7 ⟨rfl, hb7⟩
      have H7 := Lib.hid hb7; clear hb7
      go_wp2_with fail
      go_ret
      exact ⟨rfl, H7.out⟩
    · obtain ⟨m, rfl⟩ : ∃ m : Nat, n = (m : Int) := ⟨n.toNat, by omega⟩
      exact plays7_in m fr ring L la lc w hL (by omega) (by omega) hr hm
section
variable {H : Type} {enc : TypeId × Value → H} {w : World} {base : Nat} {spare : Nat → Bool} {held : Bool}
set_option maxRecDepth 100000 in
theorem acts7_open {fuel : Nat} {cs : List Value} {x : DataW H × List MemPlace} (h : DataW.trod enc Try.prog w base spare held fuel 22 cs = some x) (hsp : ∀ b, spare b = true) :
    ∃ (a : Option Addr) (L : List Acts7) (cap : Nat), cs = [.slice a L.length cap] ∧ ReadsW w a L ∧ L.length ≤ maxLen := by
  have hC : Try.prog.cellsOf 42 = 6 := by kernel_rfl
  rcases Go.Deep.open_slice Try.underlying22 h with ⟨hcs, _⟩ | ⟨a, len, cap, m, n, D, Pl, hcs, _, hl, hm, hmm, _, hi⟩
  · exact ⟨none, [], 0, hcs, readsW_none _ _, Nat.zero_le _⟩
  · rw [hsp, if_pos rfl] at hmm
    subst hmm
    have one : ∀ i, i < m → ∃ y : Acts7, (∀ j v, (act7C y.1 y.2.1.1 y.2.1.2 y.2.2.1 y.2.2.2).toList[j]? = some v → w.cell? (a.add (i * 6 + j)) = some v) ∧ (-9223372036854775808 ≤ y.1.n ∧ y.1.n ≤ 9223372036854775807) ∧ ReadsS w y.2.1.1 y.1.L ∧ ReadsI w y.2.2.1 y.1.F := by
      intro i him
      obtain ⟨cs', hc, ht⟩ := hi i him
      rw [hC] at hc
      obtain ⟨_, hcl, hat⟩ := World.cells?_some hc
      obtain ⟨ys, n', _, _, _, hyl, hf⟩ := DataW.trod_struct Try.underlying42 ht
      have hyl6 : ys.length = 6 := hyl
      have g0 : DataW.trod enc Try.prog w base spare held n' 3 ((cs'.drop 0).take (Try.prog.cellsOf 3)) = ys[0]? := hf 0 _ rfl
      have g1 : DataW.trod enc Try.prog w base spare held n' 3 ((cs'.drop 1).take (Try.prog.cellsOf 3)) = ys[1]? := hf 1 _ rfl
      have g2 : DataW.trod enc Try.prog w base spare held n' 3 ((cs'.drop 2).take (Try.prog.cellsOf 3)) = ys[2]? := hf 2 _ rfl
      have g3 : DataW.trod enc Try.prog w base spare held n' 39 ((cs'.drop 3).take (Try.prog.cellsOf 39)) = ys[3]? := hf 3 _ rfl
      have g4 : DataW.trod enc Try.prog w base spare held n' 9 ((cs'.drop 4).take (Try.prog.cellsOf 9)) = ys[4]? := hf 4 _ rfl
      have g5 : DataW.trod enc Try.prog w base spare held n' 40 ((cs'.drop 5).take (Try.prog.cellsOf 40)) = ys[5]? := hf 5 _ rfl
      rw [List.getElem?_eq_getElem (by omega)] at g0 g1 g2 g3 g4 g5
      have k0 : Try.prog.cellsOf 3 = 1 := by kernel_rfl
      have k3 : Try.prog.cellsOf 39 = 1 := by kernel_rfl
      have k4 : Try.prog.cellsOf 9 = 1 := by kernel_rfl
      have k5 : Try.prog.cellsOf 40 = 1 := by kernel_rfl
      rw [k0, one_cell_list (by omega)] at g0 g1 g2
      rw [k3, one_cell_list (by omega)] at g3
      rw [k4, one_cell_list (by omega)] at g4
      rw [k5, one_cell_list (by omega)] at g5
      obtain ⟨z0, e0, _, _⟩ := DataW.trod_int Try.underlying3 g0
      obtain ⟨z1, e1, _, w1⟩ := DataW.trod_int Try.underlying3 g1
      obtain ⟨z2, e2, _, _⟩ := DataW.trod_int Try.underlying3 g2
      obtain ⟨xa, lst, xc, e3, hS, _⟩ := strs_lt g3 hsp
      obtain ⟨z4, e4, _, _⟩ := DataW.trod_string Try.underlying9 g4
      obtain ⟨fa, F, fc, e5, hF, _⟩ := ints_lt g5 hsp
      simp only [List.cons.injEq, and_true] at e0 e1 e2 e3 e4 e5
      refine ⟨(⟨z0, z1, z2, lst, z4, F⟩, (xa, xc), (fa, fc)), fun j v hj => ?_, i64_fits w1, hS, hF⟩
      have hj6 : j < 6 := (List.getElem?_eq_some_iff.1 hj).1
      have hc1 := hat j hj6
      rw [Go.Deep.add_add] at hc1
      rw [hc1, List.getElem?_eq_getElem (by omega)]
      have h6 : j = 0 ∨ j = 1 ∨ j = 2 ∨ j = 3 ∨ j = 4 ∨ j = 5 := by omega
      rcases h6 with rfl | rfl | rfl | rfl | rfl | rfl
      · rw [e0]; exact hj
      · rw [e1]; exact hj
      · rw [e2]; exact hj
      · rw [e3]; exact hj
      · rw [e4]; exact hj
      · rw [e5]; exact hj
    have : Inhabited Acts7 := ⟨noAct7⟩
    obtain ⟨f, hfam⟩ := Go.Deep.choose_lt one
    have hlen : ((List.range len).map f).length = len := by rw [List.length_map, List.length_range]
    refine ⟨some a, (List.range len).map f, m, by rw [hlen]; exact hcs, fun i hi2 => ?_, by rw [hlen]; omega⟩
    rw [hlen] at hi2
    have hy := hfam i (by omega)
    have eL : ((List.range len).map f)[i]'(by rw [hlen]; exact hi2) = f i := by rw [List.getElem_map, List.getElem_range]
    rw [eL]
    have hc0 := hfam 0 (by omega)
    have ha := hc0.1 0 _ rfl
    have e0 : a.add (0 * 6 + 0) = a := by simp [Addr.add]
    rw [e0] at ha
    obtain ⟨b, o, s⟩ := a
    obtain rfl : s = none := World.cell?_spot ha
    refine ⟨b, o, rfl, fun j v hj => ?_, hy.2.1, hy.2.2.1, hy.2.2.2⟩
    have := hy.1 j v hj
    rw [Addr.add_mid] at this
    rw [Nat.add_assoc]; exact this
end
end Go.Proofs.Ytednmncapfclfaa
