/-
  Layer 14's laws: X.Small.
-/
import Derived.Test.YtmkckbidfpinfaaDoorPk4
import Derived.Test.YtmkckbidfpinfaaDoorZSynDeep
namespace Go.Proofs.YtmkckbidfpinfaaDoor
open Go.RowKit
open Sx (X)
namespace Sx
theorem small_facts : ∀ (d : Nat) (x : X), smallB d x = true → okX x → deep x ≤ d ∧ fine x
  | 0, x, h, _ => by unfold smallB at h; cases h
  | d + 1, x, h, hok => by
    rw [smallB_succ] at h
    simp only [Bool.and_eq_true, decide_eq_true_eq] at h
    obtain ⟨⟨⟨h1, h2⟩, h3⟩, h4⟩ := h
    rw [List.all_eq_true] at h4
    obtain ⟨op, v, s, l⟩ := x
    have h1 : s.size ≤ 300 := h1
    have h4 : ∀ y ∈ l, smallB d y = true := h4
    have hL : ∀ (l : List X), (∀ y ∈ l, smallB d y = true) → okL l → deepL l ≤ d ∧ fineL l := by
      intro l
      induction l with
      | nil => intro _ _; rw [deepL, fineL]; exact ⟨Nat.zero_le _, trivial⟩
      | cons y r ih =>
        intro hy hk
        rw [okL] at hk
        rw [deepL, fineL]
        obtain ⟨a1, a2⟩ := small_facts d y (hy y (List.mem_cons_self ..)) hk.1
        obtain ⟨b1, b2⟩ := ih (fun z hz => hy z (List.mem_cons_of_mem _ hz)) hk.2
        exact ⟨by omega, a2, b2⟩
    have hk := hok
    rw [okX] at hk
    obtain ⟨a1, a2⟩ := hL l h4 hk.2.2.2.2
    refine ⟨by rw [deep]; omega, ?_⟩
    rw [fine]
    exact ⟨hok, by omega, a2⟩
/-- what Small tells -/
def smallX (x : X) : Bool := smallB 30 x && decide (IntKind.i64.wrap ((size x : Nat) : Int) ≤ 300)
theorem smallX_facts {x : X} (h : smallX x = true) (hok : okX x) : fine x ∧ deep x ≤ 30 ∧ (right x = true → size x ≤ 300) := by
  unfold smallX at h
  rw [Bool.and_eq_true, decide_eq_true_eq] at h
  obtain ⟨h1, h2⟩ := small_facts 30 x h.1 hok
  refine ⟨h2, h1, fun hr => ?_⟩
  have h3 := size_deep 30 x h1 hr
  have h4 : (3 : Nat) ^ 30 = 205891132094649 := by decide
  have h5 : IntKind.i64.wrap ((size x : Nat) : Int) = ((size x : Nat) : Int) := IntWalk.i64_in _ (by omega)
  have h6 := h.2
  rw [h5] at h6
  omega
end Sx
set_option maxRecDepth 100000 in
set_option maxHeartbeats 3200000 in
theorem Small14_any (S : Nat → Prop) (x : X) (hok : Sx.okX x) (a : Option Addr) (c : Nat) (w : World) (hx : XAt w S x a) : Calls Tryd.prog 12 #[xV x a c] w fun e w' => e = .returned (.bool (Sx.smallX x)) ∧ Below w.heap.size w w' := by
  have hnb : Below w.heap.size w (w.alloc (.cells (xC x a c) 37)) := (Below.refl _ _).alloc (Nat.le_refl _) _
  have hrow : RowV (w.alloc (.cells (xC x a c) 37)) w.heap.size 37 (xC x a c).toList := rowV_new w _ [_, _, _, _, _, _]
  have cS := Lib.hid fun (wx : World) (hb : Below w.heap.size w wx) => small14_any S 30 x (by omega) hok a c wx (xat_below hx hb)
  have cZ := Lib.hid fun (wx : World) (hb : Below w.heap.size w wx) => rsize14_any S _ x (Nat.le_refl _) hok a c wx (xat_below hx hb)
  have hE : Sx.smallX x = (Sx.smallB 30 x && decide (IntKind.i64.wrap ((Sx.size x : Nat) : Int) ≤ 300)) := rfl
  rw [hE]
  have HN := Lib.hid (And.intro hnb hrow)
  have c0 := rowV_cell hrow 0
  have c1 := rowV_cell hrow 1
  have c2 := rowV_cell hrow 2
  have c3 := rowV_cell hrow 3
  have c4 := rowV_cell hrow 4
  have c5 := rowV_cell hrow 5
  simp only [List.getElem?_cons_zero, List.getElem?_cons_succ] at c0 c1 c2 c3 c4 c5
  clear hnb hrow hE hx
  generalize IntKind.i64.wrap ((Sx.size x : Nat) : Int) = Z at *
  generalize Sx.smallB 30 x = B at *
  go_enter Tryd.func12, Tryd.ntmps12
  go_wp2_with fail
  refine (cS.out _ HN.out.1).mono ?_
  rintro e w1 ⟨rfl, hb1⟩
  have hr1 := rowV_below HN.out.2 hb1 (by rw [World.size_alloc]; omega)
  have d0 := rowV_cell hr1 0
  have d1 := rowV_cell hr1 1
  have d2 := rowV_cell hr1 2
  have d3 := rowV_cell hr1 3
  have d4 := rowV_cell hr1 4
  have d5 := rowV_cell hr1 5
  simp only [List.getElem?_cons_zero, List.getElem?_cons_succ] at d0 d1 d2 d3 d4 d5
  have HB1 := Lib.hid (HN.out.1.trans (hb1.mono HN.out.1.size))
  clear hb1 hr1
  cases B with
  | false =>
    go_wp2_with fail
    go_ret
    exact ⟨rfl, HB1.out⟩
  | true =>
    go_wp2_with fail
    refine (cZ.out _ HB1.out).mono ?_
    rintro e w2 ⟨rfl, hb2⟩
    have HB2 := Lib.hid (HB1.out.trans (hb2.mono HB1.out.size))
    clear hb2
    by_cases hz : Z ≤ 300
    · have t1 : decide (Z ≤ 300) = true := decide_eq_true hz
      go_wp2_with fail
      go_ret
      exact ⟨ret_bool (by rw [t1]; rfl), HB2.out⟩
    · have t1 : decide (Z ≤ 300) = false := decide_eq_false hz
      go_wp2_with fail
      go_ret
      exact ⟨ret_bool (by rw [t1]; rfl), HB2.out⟩
end Go.Proofs.YtmkckbidfpinfaaDoor
