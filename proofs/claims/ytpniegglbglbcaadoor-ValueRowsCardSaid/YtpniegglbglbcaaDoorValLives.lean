/-
  Layer 12's laws: the document's example; what ValueTexts asks.
-/
import Derived.Test.YtpniegglbglbcaaDoorValRow3
import Derived.Test.YtpniegglbglbcaaDoorValRrow
import Derived.Test.YtpniegglbglbcaaDoorValCmp
namespace Go.Proofs.YtpniegglbglbcaaDoor
open Go.RowKit
def exV : Vl.V := ⟨2, 0, ⟨#[97, 34]⟩⟩
theorem exV_right : Vl.right exV := .inr (.inr (.inl ⟨rfl, rfl, by decide, by decide⟩))
theorem exV_text : textB exV = ⟨#[34, 97, 92, 34, 34]⟩ := by rw [text_ok exV_right]; rfl
theorem exV_bytes : bytesB exV = ⟨#[4, 4, 97, 34]⟩ := by
  rw [bytesB_ok exV_right]
  have h : Oct.numB 2 = ⟨#[4]⟩ := by
    unfold Oct.numB
    rw [show Oct.codeN 2 = 4 by decide, Oct.num_small 4 (by decide)]; rfl
  show Oct.numB 2 ++ (Oct.numB 2 ++ ⟨#[97, 34]⟩) = _
  rw [h]; rfl
theorem exV_cmp : Vl.cmp exV Vl.no = 1 := by decide
set_option maxRecDepth 100000 in
set_option maxHeartbeats 3200000 in
theorem lives12_any (w : World) (hT : Pow10 w) : Calls Tryd.prog 8 #[] w fun e w' => e = .returned (.bool true) ∧ Below w.heap.size w w' := by
  have hbox := fun (w1 : World) (hb : Below (w.alloc (.cells (valC exV) 24)).heap.size (w.alloc (.cells (valC exV) 24)) w1) => box12_at exV hb
  have hT0 := pow10_below hT ((Below.refl w.heap.size w).alloc (Nat.le_refl _) (.cells (valC exV) 24))
  have c1 := text12_any exV (by decide) (by decide) _ hT0
  have c2 := fun w => bytes12_any exV (by decide) (by decide) w
  have c3 := fun w => compare12_any exV Vl.no w
  rw [exV_text, checkE_ok exV_right] at c1
  rw [exV_bytes, checkE_ok exV_right] at c2
  rw [exV_cmp] at c3
  have HC := Lib.hid (And.intro c1 (And.intro c2 (And.intro c3 hbox)))
  clear c1 c2 c3 hbox hT0 hT
  go_enter Tryd.func8, Tryd.ntmps8
  go_wp2_with fail
  refine HC.out.1.mono ?_
  rintro e w1 ⟨rfl, hb1⟩
  obtain ⟨r0, r1, r2, hbb⟩ := HC.out.2.2.2 w1 hb1
  have H1 := Lib.hid hbb
  have hlt : w.heap.size < w1.heap.size := World.block_lt_of_cell? _ _ r0
  clear hb1 hbb
  go_wp2_with fail
  refine (HC.out.2.1 _).mono ?_
  rintro e w2 ⟨rfl, hb2⟩
  have q0 := (hb2.cell (p := ⟨w.heap.size, 0, none⟩) hlt).trans r0
  have q1 := (hb2.cell (p := ⟨w.heap.size, 1, none⟩) hlt).trans r1
  have q2 := (hb2.cell (p := ⟨w.heap.size, 2, none⟩) hlt).trans r2
  have H2 := Lib.hid (H1.out.trans (hb2.mono (Nat.le_of_lt hlt)))
  clear hb2 r0 r1 r2
  simp only [exV] at q0 q1 q2
  go_wp2_with fail
  refine (HC.out.2.2.1 _).mono ?_
  rintro e w3 ⟨rfl, hb3⟩
  have H3 := Lib.hid (H2.out.trans (hb3.mono H2.out.size))
  clear hb3
  go_wp2_with fail
  go_ret
  exact ⟨rfl, H3.out⟩
end Go.Proofs.YtpniegglbglbcaaDoor
