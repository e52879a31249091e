/-
  Layer 15's laws: TypingColumns, walked.
-/
import Derived.Test.YtmkckbidfpinfaaDoorZTypLives
import Derived.Test.YtmkckbidfpinfaaDoorZTypOpen
import Derived.Test.YtmkckbidfpinfaaDoorPk6
namespace Go.Proofs.YtmkckbidfpinfaaDoor
open Go.RowKit Go.Shelf
attribute [local go_sem] Oper.semAt_some
set_option maxRecDepth 100000 in
set_option maxHeartbeats 6400000 in
theorem TypingColumns_walk (L : List ColV) (al : Option Addr) (cap : Nat) (k want : Int) (hm : L.length ≤ maxLen) (hc : L.length ≤ cap) (_wk : (Lit.int .i64 k).wf = true) (_ww : (Lit.int .i64 want).wf = true) (w : World) (hR : ReadsCF w al L) (hF : Facts13 w) :
    Calls Tryd.prog 3 #[.slice al L.length cap, .int .i64 k, .int .i64 want] w fun e w' => e = .returned (.bool true) ∧ Below w.heap.size w w' := by
  have HLv := Lib.hid fun (wx : World) (hb : Below w.heap.size w wx) => lives15_any wx (errR_below hF.2 hb)
  have HFw := Lib.hid (fewC15_any L al L.length cap rfl hm (fun c h => hR.2 c h) w hR.1)
  by_cases hfew : fewC L = true
  · rw [hfew] at HFw
    obtain ⟨h12, h300⟩ := fewC_is hfew
    have HC := Lib.hid (columns15_any L al L.length cap rfl hc (by omega) (fun c h => by have := h300 c h; omega) w hR.1 hF.2)
    have HRc := Lib.hid fun (wx : World) (hb : Below w.heap.size w wx) => rColumns15_any L al L.length cap rfl (by omega) (fun c h => by have := h300 c h; omega) wx (readsC_below hR.1 hb)
    have HFt := Lib.hid fun wx => fits15_any k want wx
    have HRf := Lib.hid fun wx => rFits15_any k want wx
    clear hfew h12 h300 hR hF hm hc
    generalize L.length = n at *
    generalize Ty.fits k want = B at *
    go_enter Tryd.func3, Tryd.ntmps3
    go_wp2_with fail
    refine HFw.out.mono ?_
    rintro e w1 ⟨rfl, rfl⟩
    go_wp2_with fail
    refine HC.out.mono ?_
    rintro e w2 ⟨⟨r, rfl, hr⟩, hb2⟩
    have HR2 := Lib.hid hr
    have HB2 := Lib.hid hb2
    clear hr hb2
    go_wp2_with fail
    refine (HRc.out _ HB2.out).mono ?_
    rintro e w3 ⟨⟨q, rfl, hq⟩, hb3⟩
    obtain rfl := Ty.colsR_one HR2.out hq
    have HB3 := Lib.hid (HB2.out.trans (hb3.mono HB2.out.size))
    clear hq hb3
    go_wp2_with fail
    refine (HFt.out _).mono ?_
    rintro e w4 ⟨rfl, rfl⟩
    go_wp2_with fail
    refine (HRf.out _).mono ?_
    rintro e w5 ⟨rfl, rfl⟩
    cases B with
    | true =>
      go_wp2_with fail
      refine (HLv.out _ HB3.out).mono ?_
      rintro e w6 ⟨rfl, hb6⟩
      have H6 := Lib.hid (HB3.out.trans (hb6.mono HB3.out.size))
      clear hb6
      go_wp2_with fail
      go_ret
      exact ⟨rfl, H6.out⟩
    | false =>
      go_wp2_with fail
      refine (HLv.out _ HB3.out).mono ?_
      rintro e w6 ⟨rfl, hb6⟩
      have H6 := Lib.hid (HB3.out.trans (hb6.mono HB3.out.size))
      clear hb6
      go_wp2_with fail
      go_ret
      exact ⟨rfl, H6.out⟩
  · rw [Bool.not_eq_true] at hfew
    rw [hfew] at HFw
    clear hfew hR hF hm hc
    generalize L.length = n at *
    go_enter Tryd.func3, Tryd.ntmps3
    go_wp2_with fail
    refine HFw.out.mono ?_
    rintro e w1 ⟨rfl, rfl⟩
    go_wp2_with fail
    refine (HLv.out _ (Below.refl _ _)).mono ?_
    rintro e w6 ⟨rfl, hb6⟩
    have H6 := Lib.hid hb6
    clear hb6
    go_wp2_with fail
    go_ret
    exact ⟨rfl, H6.out⟩
end Go.Proofs.YtmkckbidfpinfaaDoor
