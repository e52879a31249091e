/-
  Layer 9: the law NodeTakes, walked.
-/
import Derived.Test.YtjlglfhnnipjaaaNodSmall
import Derived.Test.YtjlglfhnnipjaaaNodTakeP
import Derived.Test.YtjlglfhnnipjaaaNodRtake
import Derived.Test.YtjlglfhnnipjaaaNodSame
namespace Go.Proofs.Ytjlglfhnnipjaaa
open Go.RowKit
/-- what a page's node is, small -/
theorem Nd.take_small (page : ByteArray) : (Nd.take page).1.L.length ≤ 480 ∧ ∀ x ∈ (Nd.take page).1.L, x.1.size ≤ 48 ∧ x.2.size ≤ 160 := by
  by_cases h : (Nd.take page).2 = 0
  · obtain ⟨h1, h2⟩ := Nd.take_ok h
    obtain ⟨hr, hs⟩ := Nd.check_ok h1
    refine ⟨?_, fun x hx => Nd.fits_small (hr.2.1 x hx)⟩
    have h3 := Nd.pairsB_size (Nd.take page).1.L (fun x hx => (hr.2.1 x hx).1)
    have h4 : (Nd.pairsB (Nd.take page).1.L).size ≤ (Nd.text (Nd.take page).1).size := by unfold Nd.text; rw [ByteArray.size_append]; omega
    omega
  · rw [Nd.take_err h]
    exact ⟨Nat.zero_le _, fun x hx => by simp [Nd.none] at hx⟩
section
variable {w : World}
set_option maxRecDepth 100000 in
set_option maxHeartbeats 3200000 in
theorem NodeTakes_walk (page : ByteArray) (_hs : page.size ≤ maxLen) (w : World) : Calls Try.prog 4 #[.string page] w fun e w' => e = .returned (.bool true) ∧ Below w.heap.size w w' := by
  by_cases h1 : 1000 < page.size
  · have d1 : decide (1000 < (page.size : Int)) = true := decide_eq_true (by omega)
    go_enter Try.func4, Try.ntmps4
    go_wp2_with fail
    refine (lives9_any _).mono ?_
    rintro e w1 ⟨rfl, hb1⟩
    have H1 := Lib.hid hb1
    clear hb1
    go_wp2_with fail
    go_ret
    exact ⟨rfl, H1.out⟩
  · have d1 : decide (1000 < (page.size : Int)) = false := decide_eq_false (by omega)
    have cA := fun wx => take9_any page wx (by omega)
    have cB := fun wx => rtake9_any page wx (by omega)
    obtain ⟨hl, hx⟩ := Nd.take_small page
    have H := Lib.hid (And.intro cA (And.intro cB hx))
    clear cA cB hx
    unfold TakePost at H
    generalize (Nd.take page).1.leaf = leaf at *
    generalize (Nd.take page).1.L = L at *
    generalize (Nd.take page).2 = E at *
    go_enter Try.func4, Try.ntmps4
    go_wp2_with fail
    refine (H.out.1 _).mono ?_
    rintro e w1 ⟨a1, c1, rfl, hr1, hb1⟩
    have hrow1 := rowV_new w1 24 (nodC leaf a1 L.length c1)
    have hb1b : Below w1.heap.size w1 (w1.alloc (.cells #[.bool leaf, .slice a1 L.length c1] 24)) := (Below.refl _ _).alloc (Nat.le_refl _) _
    have hr1b := readsP_below hr1 hb1b
    have hbb := hb1.trans (hb1b.mono hb1.size)
    have H1 := Lib.hid (And.intro hrow1 (And.intro hr1b hbb))
    clear hr1 hb1 hrow1 hb1b hr1b hbb
    go_wp2_with fail
    refine (H.out.2.1 _).mono ?_
    rintro e w2 ⟨a2, c2, rfl, hr2, hb2⟩
    have hrow1 := rowV_alloc (rowV_below H1.out.1 hb2 (rowV_lt H1.out.1)) (.cells #[.bool leaf, .slice a2 L.length c2] 24)
    have hrow2 := rowV_new w2 24 (nodC leaf a2 L.length c2)
    have hb2b : Below w2.heap.size w2 (w2.alloc (.cells #[.bool leaf, .slice a2 L.length c2] 24)) := (Below.refl _ _).alloc (Nat.le_refl _) _
    have hr1 := readsP_below (readsP_below H1.out.2.1 hb2) hb2b
    have hr2b := readsP_below hr2 hb2b
    have hbb := (H1.out.2.2.trans (hb2.mono H1.out.2.2.size))
    have hbb2 := hbb.trans (hb2b.mono hbb.size)
    obtain ⟨x0, x1, _, _⟩ := nod_cells hrow1
    obtain ⟨y0, y1, _, _⟩ := nod_cells hrow2
    have cS := rsame9_any leaf leaf a1 a2 L L c1 c2 _ hr1 hr2b (by omega) (by omega)
    rw [decide_eq_true ⟨rfl, rfl⟩] at cS
    have H2 := Lib.hid (And.intro cS hbb2)
    clear hrow1 hrow2 hb2b hr1 hr2b hbb hbb2 cS hb2 hr2
    go_wp2_with fail
    refine H2.out.1.mono ?_
    rintro e w3 ⟨rfl, hb3⟩
    have H3 := Lib.hid (H2.out.2.trans (hb3.mono H2.out.2.size))
    clear hb3
    go_wp2_with fail
    refine (lives9_any _).mono ?_
    rintro e w4 ⟨rfl, hb4⟩
    have H4 := Lib.hid (H3.out.trans (hb4.mono H3.out.size))
    clear hb4
    go_wp2_with fail
    go_ret
    exact ⟨rfl, H4.out⟩
end
end Go.Proofs.Ytjlglfhnnipjaaa
