/-
  Layer 9: the program's node: the node of a page.
-/
import Derived.Test.YtjlglfhnnipjaaaNodPtake
import Derived.Test.YtjlglfhnnipjaaaNodCell
namespace Go.Proofs.Ytjlglfhnnipjaaa
open Go.RowKit
theorem Nd.prefix_one (page : ByteArray) (h : 1 ≤ page.size) : Lib.hasPrefix page.data.toList [1] = decide (page.extract 0 1 = ⟨#[1]⟩) := by
  have he : (page.extract 0 1).data.toList = page.data.toList.take 1 := by rw [Sl.ext_first]
  have hl : 1 ≤ page.data.toList.length := by rw [ba_len]; exact h
  rw [Bool.eq_iff_iff, decide_eq_true_iff]
  have : page.extract 0 1 = ⟨#[1]⟩ ↔ page.data.toList.take 1 = [1] := by
    rw [← he]
    constructor
    · intro e; rw [e]
    · intro e; exact Sl.ba_ext e
  rw [this]
  cases hp : page.data.toList with
  | nil => rw [hp] at hl; simp at hl
  | cons x t =>
    show (List.isPrefixOf [1] (x :: t)) = true ↔ _
    simp
    exact eq_comm
section
variable {w : World}
set_option maxRecDepth 100000 in
set_option maxHeartbeats 6400000 in
theorem take9_any (page : ByteArray) (w : World) (hs : page.size ≤ 100000) : Calls Try.prog 19 #[.string page] w (TakePost page w) := by
  have hb : Below w.heap.size w (w.alloc (.cells #[.bool false, .slice none 0 0] 24)) := (Below.refl w.heap.size w).alloc (Nat.le_refl _) _
  have hrow := rowV_new w 24 (nodC false none 0 0)
  obtain ⟨s0, s1, f0, f1⟩ := nod_cells hrow
  have hput := nod_put hrow false none 0 0
  by_cases hz : page.size = 480
  · have hlt0 := rowV_lt hrow
    have cP := fun wx => hasPrefix_any page ⟨#[1]⟩ wx
    have hpre : Lib.hasPrefix page.data.toList (⟨#[1]⟩ : ByteArray).data.toList = decide (page.extract 0 1 = ⟨#[1]⟩) := Nd.prefix_one page (by omega)
    rw [hpre] at cP
    have hxs : (page.extract 1 480).size ≤ maxLen := by unfold maxLen; rw [ByteArray.size_extract]; omega
    have cN := fun wx => takeNum_any (page.extract 1 480) wx hxs
    by_cases h2 : Oct.tE (page.extract 1 480) = 0
    · have ht : (Oct.tE (page.extract 1 480) != 0) = false := by rw [h2]; rfl
      have hcs : Oct.tN (page.extract 1 480) ≤ 9223372036854775807 ∧ -9223372036854775808 ≤ Oct.tN (page.extract 1 480) := by
        rcases Oct.t_cases (page.extract 1 480) with ⟨e1, _⟩ | ⟨n, r, g1, g2, _, e1, _⟩
        · rw [e1]; omega
        · rw [e1]; omega
      have hRs : (Oct.tR (page.extract 1 480)).size ≤ 480 := by
        have h0 : (page.extract 1 480).size ≤ 480 := by rw [ByteArray.size_extract]; omega
        rcases Oct.t_cases (page.extract 1 480) with ⟨_, e2, _⟩ | ⟨n, r, _, _, g3, _, e2, _⟩
        · rw [e2]; exact Nat.zero_le _
        · rw [e2]; omega
      have cT := fun wx => takePairs9_any (Oct.tR (page.extract 1 480)) (Oct.tN (page.extract 1 480)) wx (by omega) hcs.1 hcs.2
      obtain ⟨hsm, hln⟩ := Nd.greedy_small (Oct.tN (page.extract 1 480)).toNat (Oct.tR (page.extract 1 480))
      have hok := fun h1 h2 => Nd.take_took (page := page) h1 h2
      have hno := fun h => Nd.take_not (page := page) h
      have htk : Nd.took page = ⟨decide (page.extract 0 1 = ⟨#[1]⟩), Nd.greedy (Oct.tN (page.extract 1 480)).toNat (Oct.tR (page.extract 1 480))⟩ := rfl
      rw [htk] at hok hno
      rw [h2] at cN
      generalize hLL : Nd.greedy (Oct.tN (page.extract 1 480)).toNat (Oct.tR (page.extract 1 480)) = LL at *
      generalize decide (page.extract 0 1 = ⟨#[1]⟩) = leaf at *
      generalize Oct.tN (page.extract 1 480) = M at *
      generalize Oct.tR (page.extract 1 480) = R at *
      clear hLL htk
      have hL2 : LL.length ≤ 1000 := by omega
      have cU := fun a c wx (hr : ReadsP wx a LL) => put9_any leaf a LL c wx hr hL2 (fun x hx => by have := hsm x hx; omega)
      have H := Lib.hid (And.intro hb (And.intro hrow (And.intro cP (And.intro cN (And.intro cT cU)))))
      have HN := Lib.hid hno
      have HK := Lib.hid hok
      clear hb hrow hput cP cN hpre h2 cT cU hok hno hsm hcs
      generalize hpp : Nd.put ⟨leaf, LL⟩ = PP at *
      generalize hce : Nd.checkE ⟨leaf, LL⟩ = CE at *
      have HP := Lib.hid (And.intro hpp hce)
      clear hpp hce
      go_enter Try.func19, Try.ntmps19
      go_wp2_with fail
      refine (H.out.2.2.1 _).mono ?_
      rintro e w1 ⟨rfl, hw1⟩
      obtain rfl := hw1.symm; clear hw1
      go_wp2_with fail
      refine (H.out.2.2.2.1 _).mono ?_
      rintro e w2 ⟨rfl, nq, hw2⟩
      have hrow2 : RowV w2 w.heap.size 24 (nodC false none 0 0) := by rw [hw2]; exact H.out.2.1
      have hb2 : Below w.heap.size w w2 := by rw [hw2]; exact below_drewN H.out.1 nq
      have H2 := Lib.hid (And.intro hrow2 hb2)
      clear hw2 hrow2 hb2
      go_wp2_with fail
      refine (H.out.2.2.2.2.1 _).mono ?_
      rintro e w3 ⟨a, cap, rfl, hr3, hb3⟩
      have hrow3 := rowV_below H2.out.1 hb3 (rowV_lt H2.out.1)
      have hrA := rowV_new w3 24 (nodC leaf a LL.length cap)
      have hbA : Below w3.heap.size w3 (w3.alloc (.cells #[.bool leaf, .slice a LL.length cap] 24)) := (Below.refl _ _).alloc (Nat.le_refl _) _
      have hbw3 := H2.out.2.trans (hb3.mono H2.out.2.size)
      obtain ⟨a0, a1, _, _⟩ := nod_cells hrA
      have H3 := Lib.hid (And.intro hrow3 (And.intro hr3 (And.intro hrA (And.intro hbA hbw3))))
      clear hr3 hb3 hrow3 hrA hbA hbw3
      go_wp2_with fail
      refine (H.out.2.2.2.2.2 _ _ _ (readsP_below H3.out.2.1 H3.out.2.2.2.1)).mono ?_
      rintro e w4 ⟨rfl, hb4⟩
      have hbw4 := H3.out.2.2.2.1.trans (hb4.mono H3.out.2.2.2.1.size)
      have hrow4 := rowV_below H3.out.1 hbw4 (rowV_lt H3.out.1)
      have hrA4 := rowV_below H3.out.2.2.1 hb4 (rowV_lt H3.out.2.2.1)
      have hr4 := readsP_below H3.out.2.1 hbw4
      have hbw := H3.out.2.2.2.2.trans (hbw4.mono H3.out.2.2.2.2.size)
      obtain ⟨b0, b1, b2, b3⟩ := nod_cells hrow4
      obtain ⟨d0, d1, _, _⟩ := nod_cells hrA4
      have hpn := nod_put hrow4 false none 0 0
      have hpl := nod_put hrow4 leaf a LL.length cap
      have K5 := Lib.hid (And.intro hbw (And.intro hpn (And.intro hpl (And.intro hr4 hrow4))))
      clear hb4 hbw4 hrow4 hrA4 hr4 hbw hpn hpl a0 a1 s0 s1 f0 f1
      by_cases h5 : CE = 0
      · have h5b : (CE != 0) = false := by rw [h5]; rfl
        by_cases h6 : PP = page
        · subst h6
          have hfin := HK.out h5 rfl
          have HF := Lib.hid hfin
          clear hfin h5
          go_wp2_with fail
          refine bodyPost_ret (results_nod (g := w.heap.size) (leaf := leaf) (a := a) (n := LL.length) (c := cap) rfl _ _ rfl K5.out.2.2.1.1) rfl ?_
          exact takePost_some HF.out rfl rfl (readsP_put K5.out.2.2.2.2 K5.out.2.2.2.1 _ _) (K5.out.1.trans (K5.out.2.2.1.2 _ (Nat.le_refl _)))
        · have h6b := str_neq h6
          have h6c := str_beq h6b
          have hfin := HN.out (fun h => h6 h.2)
          have HF := Lib.hid hfin
          clear hfin h5 h6
          go_wp2_with fail
          refine bodyPost_ret (results_nod (g := w.heap.size) (leaf := false) (a := none) (n := 0) (c := 0) rfl _ _ rfl K5.out.2.1.1) rfl ?_
          exact takePost_none HF.out (K5.out.1.trans (K5.out.2.1.2 _ (Nat.le_refl _)))
      · have h5b : (CE != 0) = true := by simpa using h5
        have hfin := HN.out (fun h => h5 h.1)
        have HF := Lib.hid hfin
        clear hfin h5
        go_wp2_with fail
        refine bodyPost_ret (results_nod (g := w.heap.size) (leaf := false) (a := none) (n := 0) (c := 0) rfl _ _ rfl K5.out.2.1.1) rfl ?_
        exact takePost_none HF.out (K5.out.1.trans (K5.out.2.1.2 _ (Nat.le_refl _)))
    · have hno := Nd.take_num h2
      have ht : (Oct.tE (page.extract 1 480) != 0) = true := by simpa using h2
      generalize Oct.tE (page.extract 1 480) = E at *
      generalize Oct.tN (page.extract 1 480) = M at *
      generalize Oct.tR (page.extract 1 480) = R at *
      have H := Lib.hid (And.intro hb (And.intro hrow (And.intro hput (And.intro cP (And.intro cN hno)))))
      clear hb hrow hput cP cN hpre hno h2
      go_enter Try.func19, Try.ntmps19
      go_wp2_with fail
      refine (H.out.2.2.2.1 _).mono ?_
      rintro e w1 ⟨rfl, hw1⟩
      obtain rfl := hw1.symm; clear hw1
      go_wp2_with fail
      refine (H.out.2.2.2.2.1 _).mono ?_
      rintro e w2 ⟨rfl, nq, hw2⟩
      have hrow2 : RowV w2 w.heap.size 24 (nodC false none 0 0) := by rw [hw2]; exact H.out.2.1
      have hb2 : Below w.heap.size w w2 := by rw [hw2]; exact below_drewN H.out.1 nq
      obtain ⟨g0, g1, k0, k1⟩ := nod_cells hrow2
      have hput2 := nod_put hrow2 false none 0 0
      have H2 := Lib.hid (And.intro hput2 hb2)
      clear hw2 hrow2 hb2 hput2
      go_wp2_with fail
      refine bodyPost_ret (results_nod (g := w.heap.size) (leaf := false) (a := none) (n := 0) (c := 0) rfl _ _ rfl H2.out.1.1) rfl ?_
      exact takePost_none H.out.2.2.2.2.2 (H2.out.2.trans (H2.out.1.2 _ (Nat.le_refl _)))
  · have hno := Nd.take_size hz
    have hz2 : ((page.size : Int) != 480) = true := by simp; omega
    have H := Lib.hid (And.intro hb (And.intro hrow (And.intro hput hno)))
    clear hb hrow hput hno
    go_enter Try.func19, Try.ntmps19
    go_wp2_with fail
    refine bodyPost_ret (results_nod (g := w.heap.size) (leaf := false) (a := none) (n := 0) (c := 0) rfl _ _ rfl H.out.2.1) rfl ?_
    exact takePost_none H.out.2.2.2 H.out.1
end
end Go.Proofs.Ytjlglfhnnipjaaa
