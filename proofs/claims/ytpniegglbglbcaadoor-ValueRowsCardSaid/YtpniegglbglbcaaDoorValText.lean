/-
  Layer 12: a value's text, the program's and the document's.
-/
import Derived.Test.YtpniegglbglbcaaDoorValQuote
import Derived.Test.YtpniegglbglbcaaDoorValDig
import Derived.Test.YtpniegglbglbcaaDoorStrCmp
import Derived.Test.YtpniegglbglbcaaDoorItoa
namespace Go.Proofs.YtpniegglbglbcaaDoor
open Go.RowKit
/-- a value's box, behind whatever was made since -/
theorem box12_at (v : Vl.V) {w w1 : World} (hb : Below (w.alloc (.cells (valC v) 24)).heap.size (w.alloc (.cells (valC v) 24)) w1) :
    w1.cell? ⟨w.heap.size, 0, none⟩ = some (.int .i64 v.kind) ∧ w1.cell? ⟨w.heap.size, 1, none⟩ = some (.int .i64 v.n) ∧ w1.cell? ⟨w.heap.size, 2, none⟩ = some (.string v.s) ∧ Below w.heap.size w w1 := by
  have hlt : w.heap.size < (w.alloc (.cells (valC v) 24)).heap.size := by rw [World.size_alloc]; omega
  have hc := fun (j : Nat) => hb.cell (p := ⟨w.heap.size, j, none⟩) hlt
  refine ⟨(hc 0).trans ?_, (hc 1).trans ?_, (hc 2).trans ?_, below_box _ hb⟩
  · rw [World.cell?_alloc_at _ _ _ _ rfl]; rfl
  · rw [World.cell?_alloc_at _ _ _ _ rfl]; rfl
  · rw [World.cell?_alloc_at _ _ _ _ rfl]; rfl
/-- what Text tells -/
def textB (v : Vl.V) : ByteArray := if Vl.right v then Vl.text v else Vl.mt
theorem text_bad {v : Vl.V} (h : ¬ Vl.right v) : textB v = Vl.mt := if_neg h
theorem text_ok {v : Vl.V} (h : Vl.right v) : textB v = Vl.text v := if_pos h
theorem boolL_eq (n : Int) (h : n = 0 ∨ n = 1) : (if (n != 0) = true then (⟨#[116, 114, 117, 101]⟩ : ByteArray) else ⟨#[102, 97, 108, 115, 101]⟩) = ⟨(Vl.boolL n).toArray⟩ := by
  rcases h with rfl | rfl <;> rfl
set_option maxRecDepth 100000 in
set_option maxHeartbeats 3200000 in
theorem text12_any (v : Vl.V) (h0 : -9223372036854775808 ≤ v.n) (h1 : v.n ≤ 9223372036854775807) (w : World) (ht : Pow10 w) :
    Calls Tryd.prog 9 #[valV v] w fun e w' => e = .returned (.tuple #[.string (textB v), .int .i64 (checkE v)]) ∧ Below w.heap.size w w' := by
  have cC := check12_any v
  have HB := Lib.hid fun (w1 : World) (hb : Below (w.alloc (.cells (valC v) 24)).heap.size (w.alloc (.cells (valC v) 24)) w1) => box12_at v hb
  by_cases hr : Vl.right v
  · have hE := checkE_ok hr
    rw [hE] at cC ⊢
    rw [text_ok hr]
    obtain ⟨k, n, s⟩ := v
    have HC := Lib.hid cC
    clear cC hE
    have HT := Lib.hid ht
    rcases hr with ⟨hk, hn, hs⟩ | ⟨hk, hs⟩ | ⟨hk, hn, hs⟩ | ⟨hk, hn, hs⟩
    · simp only at hk hn hs
      subst hk hn hs
      go_enter Tryd.func9, Tryd.ntmps9
      go_wp2_with fail
      refine (HC.out _).mono ?_
      rintro e w1 ⟨rfl, hb1⟩
      obtain ⟨r0, r1, r2, hbb⟩ := HB.out w1 hb1
      have H1 := Lib.hid hbb
      clear hb1 hbb
      go_wp2_with fail
      go_ret2
      exact ⟨rfl, H1.out⟩
    · simp only at hk hs
      subst hk hs
      go_enter Tryd.func9, Tryd.ntmps9
      go_wp2_with fail
      refine (HC.out _).mono ?_
      rintro e w1 ⟨rfl, hb1⟩
      obtain ⟨r0, r1, r2, hbb⟩ := HB.out w1 hb1
      have H1 := Lib.hid hbb
      clear hb1 hbb
      go_wp2_with fail
      refine (itoa_any n h0 h1 w1 (pow10_below HT.out H1.out)).mono ?_
      rintro e w2 ⟨rfl, hb2⟩
      have H2 := Lib.hid (H1.out.trans (hb2.mono H1.out.size))
      clear hb2
      go_wp2_with fail
      go_ret2
      exact ⟨rfl, H2.out⟩
    · simp only at hk hn hs
      subst hk hn
      go_enter Tryd.func9, Tryd.ntmps9
      go_wp2_with fail
      refine (HC.out _).mono ?_
      rintro e w1 ⟨rfl, hb1⟩
      obtain ⟨r0, r1, r2, hbb⟩ := HB.out w1 hb1
      have H1 := Lib.hid hbb
      clear hb1 hbb
      go_wp2_with fail
      refine (quoted_any s hs w1).mono ?_
      rintro e w2 ⟨rfl, hb2⟩
      have H2 := Lib.hid (H1.out.trans (hb2.mono H1.out.size))
      clear hb2
      go_wp2_with fail
      go_ret2
      exact ⟨rfl, H2.out⟩
    · simp only at hk hn hs
      subst hk hs
      have HF := Lib.hid (boolL_eq n hn)
      go_enter Tryd.func9, Tryd.ntmps9
      go_wp2_with fail
      refine (HC.out _).mono ?_
      rintro e w1 ⟨rfl, hb1⟩
      obtain ⟨r0, r1, r2, hbb⟩ := HB.out w1 hb1
      have H1 := Lib.hid hbb
      clear hb1 hbb
      go_wp2_with fail
      refine (formatBool_any _ w1).mono ?_
      rintro e w2 ⟨rfl, hw2⟩
      obtain rfl := hw2.symm
      clear hw2
      rw [HF.out]
      go_wp2_with fail
      go_ret2
      exact ⟨rfl, H1.out⟩
  · have hE := checkE_bad hr
    rw [hE] at cC ⊢
    rw [text_bad hr]
    have HC := Lib.hid cC
    clear cC hE hr ht
    go_enter Tryd.func9, Tryd.ntmps9
    go_wp2_with fail
    refine (HC.out _).mono ?_
    rintro e w1 ⟨rfl, hb1⟩
    obtain ⟨r0, r1, r2, hbb⟩ := HB.out w1 hb1
    have H1 := Lib.hid hbb
    clear hb1 hbb
    go_wp2_with fail
    go_ret2
    exact ⟨rfl, H1.out⟩
set_option maxRecDepth 100000 in
set_option maxHeartbeats 3200000 in
theorem rtext12_any (v : Vl.V) (hr : Vl.right v) (h0 : -9223372036854775808 ≤ v.n) (h1 : v.n ≤ 9223372036854775807) (w : World) :
    Calls Tryd.prog 13 #[valV v] w fun e w' => e = .returned (.string (Vl.text v)) ∧ Below w.heap.size w w' := by
  obtain ⟨k, n, s⟩ := v
  have hb0 : Hid (Below w.heap.size w (w.alloc (.cells #[.int .i64 k, .int .i64 n, .string s] 24))) := Lib.hid ((Below.refl w.heap.size w).alloc (Nat.le_refl _) _)
  have hb1 : Hid (∀ w', Below (w.alloc (.cells #[.int .i64 k, .int .i64 n, .string s] 24)).heap.size (w.alloc (.cells #[.int .i64 k, .int .i64 n, .string s] 24)) w' → Below w.heap.size w w') := Lib.hid fun w' h => below_box _ h
  rcases hr with ⟨hk, hn, hs⟩ | ⟨hk, hs⟩ | ⟨hk, hn, hs⟩ | ⟨hk, hn, hs⟩
  · simp only at hk hn hs
    subst hk hn hs
    go_enter Tryd.func13, Tryd.ntmps13
    go_wp2_with fail
    go_ret
    exact ⟨rfl, hb0.out⟩
  · simp only at hk hs
    subst hk hs
    go_enter Tryd.func13, Tryd.ntmps13
    go_wp2_with fail
    refine (digits_any _ n (Nat.le_refl _) h0 h1 _).mono ?_
    rintro e w2 ⟨rfl, hb2⟩
    have H2 := Lib.hid (hb1.out _ hb2)
    clear hb2
    go_wp2_with fail
    go_ret
    exact ⟨rfl, H2.out⟩
  · simp only at hk hn hs
    subst hk hn
    go_enter Tryd.func13, Tryd.ntmps13
    go_wp2_with (go_at_call 32; refine (rquote_any s hs _).mono ?_; rintro e w1 ⟨rfl, rfl⟩)
    go_ret
    exact ⟨rfl, hb0.out⟩
  · simp only at hk hn hs
    subst hk hs
    rcases hn with rfl | rfl
    · go_enter Tryd.func13, Tryd.ntmps13
      go_wp2_with fail
      go_ret
      exact ⟨rfl, hb0.out⟩
    · go_enter Tryd.func13, Tryd.ntmps13
      go_wp2_with fail
      go_ret
      exact ⟨rfl, hb0.out⟩
end Go.Proofs.YtpniegglbglbcaaDoor
