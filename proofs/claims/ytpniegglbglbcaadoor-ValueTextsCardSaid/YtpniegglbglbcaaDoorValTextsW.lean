/-
  Layer 12's laws: ValueTexts walked.
-/
import Derived.Test.YtpniegglbglbcaaDoorValLives
namespace Go.Proofs.YtpniegglbglbcaaDoor
open Go.RowKit
set_option maxRecDepth 100000 in
set_option maxHeartbeats 3200000 in
theorem ValueTexts_walk (v : Vl.V) (hf : Fits v) (w : World) (hT : Pow10 w) :
    Calls Tryd.prog 3 #[valV v] w fun e w' => e = .returned (.bool true) ∧ Below w.heap.size w w' := by
  have HT := Lib.hid hT
  have cT := fun wx (hx : Pow10 wx) => text12_any v hf.1 hf.2.1 wx hx
  have cB := fun wx => bytes12_any v hf.1 hf.2.1 wx
  have cR := fun wx => rright12_any v wx hf.2.2
  have cC := fun wx => check12_any v wx
  have cX := fun hr wx => rtext12_any v hr hf.1 hf.2.1 wx
  have cY := fun hr wx => rbytes12_any v hr hf.1 hf.2.1 wx
  have H0 := Lib.hid ((Below.refl w.heap.size w).alloc (Nat.le_refl _) (.cells (valC v) 24))
  obtain ⟨c00, c01, c02, _⟩ := box12_at v (Below.refl (w.alloc (.cells (valC v) 24)).heap.size (w.alloc (.cells (valC v) 24)))
  obtain ⟨k, n, s⟩ := v
  by_cases hl : (s.size : Int) > 500
  · clear cT cB cR cC cX cY c00 c01 c02
    go_enter Tryd.func3, Tryd.ntmps3
    go_wp2_with fail
    refine (lives12_any _ (pow10_below HT.out H0.out)).mono ?_
    rintro e w1 ⟨rfl, hb⟩
    have H1 := Lib.hid (H0.out.trans (hb.mono H0.out.size))
    clear hb
    go_wp2_with fail
    go_ret
    exact ⟨rfl, H1.out⟩
  · by_cases hr : Vl.right ⟨k, n, s⟩
    · rw [text_ok hr, checkE_ok hr] at cT
      rw [bytesB_ok hr, checkE_ok hr] at cB
      rw [decide_eq_true hr] at cR
      rw [checkE_ok hr] at cC
      have cX := cX hr
      have cY := cY hr
      generalize Vl.text _ = T at *
      generalize Vl.bytes _ = B at *
      have HC := Lib.hid (And.intro cT (And.intro cB (And.intro cR (And.intro cC (And.intro cX cY)))))
      clear cT cB cR cC cX cY hr hf
      go_enter Tryd.func3, Tryd.ntmps3
      generalize hwa : World.alloc w _ = w0 at *
      go_wp2_with fail
      refine (HC.out.1 _ (pow10_below HT.out H0.out)).mono ?_
      rintro e w1 ⟨rfl, hb⟩
      have c10 := (hb.cell (p := ⟨w.heap.size, 0, none⟩) (World.block_lt_of_cell? _ _ c00)).trans c00
      have c11 := (hb.cell (p := ⟨w.heap.size, 1, none⟩) (World.block_lt_of_cell? _ _ c01)).trans c01
      have c12 := (hb.cell (p := ⟨w.heap.size, 2, none⟩) (World.block_lt_of_cell? _ _ c02)).trans c02
      have H1 := Lib.hid (H0.out.trans (hb.mono H0.out.size))
      clear hb c00 c01 c02
      go_wp2_with fail
      refine (HC.out.2.1 _).mono ?_
      rintro e w2 ⟨rfl, hb⟩
      have c20 := (hb.cell (p := ⟨w.heap.size, 0, none⟩) (World.block_lt_of_cell? _ _ c10)).trans c10
      have c21 := (hb.cell (p := ⟨w.heap.size, 1, none⟩) (World.block_lt_of_cell? _ _ c11)).trans c11
      have c22 := (hb.cell (p := ⟨w.heap.size, 2, none⟩) (World.block_lt_of_cell? _ _ c12)).trans c12
      have H2 := Lib.hid (H1.out.trans (hb.mono H1.out.size))
      clear hb c10 c11 c12
      go_wp2_with fail
      refine (HC.out.2.2.1 _).mono ?_
      rintro e w3 ⟨rfl, hb⟩
      have c30 := (hb.cell (p := ⟨w.heap.size, 0, none⟩) (World.block_lt_of_cell? _ _ c20)).trans c20
      have c31 := (hb.cell (p := ⟨w.heap.size, 1, none⟩) (World.block_lt_of_cell? _ _ c21)).trans c21
      have c32 := (hb.cell (p := ⟨w.heap.size, 2, none⟩) (World.block_lt_of_cell? _ _ c22)).trans c22
      have H3 := Lib.hid (H2.out.trans (hb.mono H2.out.size))
      clear hb c20 c21 c22
      go_wp2_with fail
      refine (HC.out.2.2.2.1 _).mono ?_
      rintro e w4 ⟨rfl, hb⟩
      have c40 := (hb.cell (p := ⟨w.heap.size, 0, none⟩) (World.block_lt_of_cell? _ _ c30)).trans c30
      have c41 := (hb.cell (p := ⟨w.heap.size, 1, none⟩) (World.block_lt_of_cell? _ _ c31)).trans c31
      have c42 := (hb.cell (p := ⟨w.heap.size, 2, none⟩) (World.block_lt_of_cell? _ _ c32)).trans c32
      have H4 := Lib.hid (H3.out.trans (hb.mono H3.out.size))
      clear hb c30 c31 c32
      go_wp2_with fail
      refine (HC.out.2.2.2.2.1 _).mono ?_
      rintro e w5 ⟨rfl, hb⟩
      have c50 := (hb.cell (p := ⟨w.heap.size, 0, none⟩) (World.block_lt_of_cell? _ _ c40)).trans c40
      have c51 := (hb.cell (p := ⟨w.heap.size, 1, none⟩) (World.block_lt_of_cell? _ _ c41)).trans c41
      have c52 := (hb.cell (p := ⟨w.heap.size, 2, none⟩) (World.block_lt_of_cell? _ _ c42)).trans c42
      have H5 := Lib.hid (H4.out.trans (hb.mono H4.out.size))
      clear hb c40 c41 c42
      go_wp2_with fail
      refine (HC.out.2.2.2.2.2 _).mono ?_
      rintro e w6 ⟨rfl, hb⟩
      have c60 := (hb.cell (p := ⟨w.heap.size, 0, none⟩) (World.block_lt_of_cell? _ _ c50)).trans c50
      have c61 := (hb.cell (p := ⟨w.heap.size, 1, none⟩) (World.block_lt_of_cell? _ _ c51)).trans c51
      have c62 := (hb.cell (p := ⟨w.heap.size, 2, none⟩) (World.block_lt_of_cell? _ _ c52)).trans c52
      have H6 := Lib.hid (H5.out.trans (hb.mono H5.out.size))
      clear hb c50 c51 c52
      go_wp2_with fail
      refine (lives12_any _ (pow10_below HT.out H6.out)).mono ?_
      rintro e w7 ⟨rfl, hb⟩
      have c70 := (hb.cell (p := ⟨w.heap.size, 0, none⟩) (World.block_lt_of_cell? _ _ c60)).trans c60
      have c71 := (hb.cell (p := ⟨w.heap.size, 1, none⟩) (World.block_lt_of_cell? _ _ c61)).trans c61
      have c72 := (hb.cell (p := ⟨w.heap.size, 2, none⟩) (World.block_lt_of_cell? _ _ c62)).trans c62
      have H7 := Lib.hid (H6.out.trans (hb.mono H6.out.size))
      clear hb c60 c61 c62
      go_wp2_with fail
      go_ret
      exact ⟨rfl, H7.out⟩
    · rw [text_bad hr, checkE_bad hr] at cT
      rw [bytesB_bad hr, checkE_bad hr] at cB
      rw [decide_eq_false hr] at cR
      rw [checkE_bad hr] at cC
      have HC := Lib.hid (And.intro cT (And.intro cB (And.intro cR cC)))
      clear cT cB cR cC cX cY hr hf
      go_enter Tryd.func3, Tryd.ntmps3
      generalize hwa : World.alloc w _ = w0 at *
      go_wp2_with fail
      refine (HC.out.1 _ (pow10_below HT.out H0.out)).mono ?_
      rintro e w1 ⟨rfl, hb⟩
      have c10 := (hb.cell (p := ⟨w.heap.size, 0, none⟩) (World.block_lt_of_cell? _ _ c00)).trans c00
      have c11 := (hb.cell (p := ⟨w.heap.size, 1, none⟩) (World.block_lt_of_cell? _ _ c01)).trans c01
      have c12 := (hb.cell (p := ⟨w.heap.size, 2, none⟩) (World.block_lt_of_cell? _ _ c02)).trans c02
      have H1 := Lib.hid (H0.out.trans (hb.mono H0.out.size))
      clear hb c00 c01 c02
      go_wp2_with fail
      refine (HC.out.2.1 _).mono ?_
      rintro e w2 ⟨rfl, hb⟩
      have c20 := (hb.cell (p := ⟨w.heap.size, 0, none⟩) (World.block_lt_of_cell? _ _ c10)).trans c10
      have c21 := (hb.cell (p := ⟨w.heap.size, 1, none⟩) (World.block_lt_of_cell? _ _ c11)).trans c11
      have c22 := (hb.cell (p := ⟨w.heap.size, 2, none⟩) (World.block_lt_of_cell? _ _ c12)).trans c12
      have H2 := Lib.hid (H1.out.trans (hb.mono H1.out.size))
      clear hb c10 c11 c12
      go_wp2_with fail
      refine (HC.out.2.2.1 _).mono ?_
      rintro e w3 ⟨rfl, hb⟩
      have c30 := (hb.cell (p := ⟨w.heap.size, 0, none⟩) (World.block_lt_of_cell? _ _ c20)).trans c20
      have c31 := (hb.cell (p := ⟨w.heap.size, 1, none⟩) (World.block_lt_of_cell? _ _ c21)).trans c21
      have c32 := (hb.cell (p := ⟨w.heap.size, 2, none⟩) (World.block_lt_of_cell? _ _ c22)).trans c22
      have H3 := Lib.hid (H2.out.trans (hb.mono H2.out.size))
      clear hb c20 c21 c22
      go_wp2_with fail
      refine (HC.out.2.2.2 _).mono ?_
      rintro e w4 ⟨rfl, hb⟩
      have c40 := (hb.cell (p := ⟨w.heap.size, 0, none⟩) (World.block_lt_of_cell? _ _ c30)).trans c30
      have c41 := (hb.cell (p := ⟨w.heap.size, 1, none⟩) (World.block_lt_of_cell? _ _ c31)).trans c31
      have c42 := (hb.cell (p := ⟨w.heap.size, 2, none⟩) (World.block_lt_of_cell? _ _ c32)).trans c32
      have H4 := Lib.hid (H3.out.trans (hb.mono H3.out.size))
      clear hb c30 c31 c32
      go_wp2_with fail
      refine (lives12_any _ (pow10_below HT.out H4.out)).mono ?_
      rintro e w5 ⟨rfl, hb⟩
      have c50 := (hb.cell (p := ⟨w.heap.size, 0, none⟩) (World.block_lt_of_cell? _ _ c40)).trans c40
      have c51 := (hb.cell (p := ⟨w.heap.size, 1, none⟩) (World.block_lt_of_cell? _ _ c41)).trans c41
      have c52 := (hb.cell (p := ⟨w.heap.size, 2, none⟩) (World.block_lt_of_cell? _ _ c42)).trans c42
      have H5 := Lib.hid (H4.out.trans (hb.mono H4.out.size))
      clear hb c40 c41 c42
      go_wp2_with fail
      go_ret
      exact ⟨rfl, H5.out⟩
end Go.Proofs.YtpniegglbglbcaaDoor
