/-
  Layer 13's laws: lives (the document's example).
-/
import Derived.Test.YtmpfnokddpbgcaaDoorZLexProg9
import Derived.Test.YtmpfnokddpbgcaaDoorZLexProgB
import Derived.Test.YtmpfnokddpbgcaaDoorZLexSam
namespace Go.Proofs.YtmpfnokddpbgcaaDoor
open Go.RowKit
def exL : List Lx.T := [⟨1, ⟨#[97]⟩, 0, 0⟩, ⟨4, ⟨#[60, 61]⟩, 0, 1⟩, ⟨2, ⟨#[]⟩, 12, 4⟩]
theorem ex_lex : lexS ⟨#[97, 60, 61, 32, 49, 50]⟩ = (exL, 0, 0) := by kernel_rfl
theorem ex_a : Lx.nameB ⟨#[97]⟩ = true := by kernel_rfl
theorem ex_and : Lx.nameB ⟨#[97, 110, 100]⟩ = false := by kernel_rfl
theorem ex_same : (open Classical in decide (exL.map (Lx.key true) = exL.map (Lx.key true))) = true := by simp
theorem ex_reads (w : World) (g : Nat) (h : RowV w g 33 (exL.flatMap tCl)) : ReadsT13 w (some ⟨g, 0, none⟩) exL := by
  intro i hi
  have hi3 : i < 3 := hi
  refine ⟨g, 0, rfl, ?_⟩
  match i, hi3 with
  | 0, _ => exact ⟨rowV_cell h 0, rowV_cell h 1, rowV_cell h 2, rowV_cell h 3⟩
  | 1, _ => exact ⟨rowV_cell h 4, rowV_cell h 5, rowV_cell h 6, rowV_cell h 7⟩
  | 2, _ => exact ⟨rowV_cell h 8, rowV_cell h 9, rowV_cell h 10, rowV_cell h 11⟩
set_option maxRecDepth 100000 in
set_option maxHeartbeats 3200000 in
theorem lives13_any (w : World) (hE : ErrR w) : Calls Tryd.prog 7 #[] w fun e w' => e = .returned (.bool true) ∧ Below w.heap.size w w' := by
  have cL := lex13_any ⟨#[97, 60, 61, 32, 49, 50]⟩ w hE
  rw [ex_lex] at cL
  have H := Lib.hid (And.intro cL hE)
  clear cL hE
  go_enter Tryd.func7, Tryd.ntmps7
  go_wp2_with fail
  refine H.out.1.mono ?_
  rintro e w1 ⟨a, cap, rfl, hr, hcap, hb⟩
  have H1 := Lib.hid (And.intro hr hb)
  clear hr hb hcap
  have hbx := (Below.refl w1.heap.size w1).alloc (Nat.le_refl _) (.cells (exL.flatMap tCl).toArray 33)
  have hrow := rowV_new w1 33 (exL.flatMap tCl)
  have cS := rSame13_any true a (some ⟨w1.heap.size, 0, none⟩) exL exL cap 3 _ (readsT13_below H1.out.1 hbx) (ex_reads _ _ hrow) (by decide)
  rw [ex_same] at cS
  have H2 := Lib.hid (And.intro cS (H1.out.2.trans (hbx.mono H1.out.2.size)))
  clear cS hbx hrow
  go_wp2_with fail
  refine H2.out.1.mono ?_
  rintro e w2 ⟨rfl, hb2⟩
  have hB2 := H2.out.2.trans (hb2.mono H2.out.2.size)
  have cA := Name13_any ⟨#[97]⟩ w2 (by decide) (errR_below H.out.2 hB2)
  rw [ex_a] at cA
  have H3 := Lib.hid (And.intro cA hB2)
  clear cA hB2 hb2
  go_wp2_with fail
  refine H3.out.1.mono ?_
  rintro e w3 ⟨rfl, hb3⟩
  have hB3 := H3.out.2.trans (hb3.mono H3.out.2.size)
  have cN := Name13_any ⟨#[97, 110, 100]⟩ w3 (by decide) (errR_below H.out.2 hB3)
  rw [ex_and] at cN
  have H4 := Lib.hid (And.intro cN hB3)
  clear cN hB3 hb3
  go_wp2_with fail
  refine H4.out.1.mono ?_
  rintro e w4 ⟨rfl, hb4⟩
  have H5 := Lib.hid (H4.out.2.trans (hb4.mono H4.out.2.size))
  clear hb4
  go_wp2_with fail
  go_ret
  exact ⟨rfl, H5.out⟩
end Go.Proofs.YtmpfnokddpbgcaaDoor
