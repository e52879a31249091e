/-
  Layer 12's laws: ValueTakes walked.
-/
import Derived.Test.YtpniegglbglbcaaDoorValLives
import Derived.Deep.Cut
namespace Go.Proofs.YtpniegglbglbcaaDoor
open Go.RowKit
theorem Vl.rows_len : ∀ (n : Nat) (r : ByteArray), (Vl.rows n r).1.length ≤ r.size
  | 0, r => Nat.zero_le _
  | n + 1, r => by
    by_cases h : (Vl.take r).2.2 = 0
    · have hl := Vl.take_less h
      have ih := rows_len n (Vl.take r).2.1
      by_cases h2 : (Vl.rows n (Vl.take r).2.1).2.2 = 0
      · rw [Vl.rows_ok h h2]; show _ + 1 ≤ _; omega
      · rw [Vl.rows_bad h h2]; exact Nat.zero_le _
    · rw [Vl.rows_err h]; exact Nat.zero_le _
theorem Vl.takeRow_len (s : ByteArray) (most : Int) : (Vl.takeRow s most).1.length ≤ s.size := by
  unfold Vl.takeRow
  split
  · exact Nat.zero_le _
  · split
    · exact Nat.zero_le _
    · split
      · exact Nat.zero_le _
      · exact Nat.le_trans (Vl.rows_len _ _) (tR12_size s)
set_option maxRecDepth 100000 in
set_option maxHeartbeats 3200000 in
theorem ValueTakes_walk (s : ByteArray) (most : Int) (hs : s.size ≤ maxLen) (_hm : (Lit.int .i64 most).wf = true) (w : World) (hT : Pow10 w) :
    Calls Tryd.prog 4 #[.string s, .int .i64 most] w fun e w' => e = .returned (.bool true) ∧ Below w.heap.size w w' := by
  have HT := Lib.hid hT
  clear hT
  by_cases hl : (s.size : Int) > 3000
  · go_enter Tryd.func4, Tryd.ntmps4
    go_wp2_with fail
    refine (lives12_any _ HT.out).mono ?_
    rintro e w1 ⟨rfl, hb⟩
    have H1 := Lib.hid hb
    clear hb
    go_wp2_with fail
    go_ret
    exact ⟨rfl, H1.out⟩
  · have cT := fun wx => take12_any s wx hs
    have cU := fun wx => rtake12_any s wx hs
    have cR := fun wx => takeRow12_any s most wx (by omega)
    have cS := fun wx => rtakeRow12_any s most wx (by omega)
    have hlen := Vl.takeRow_len s most
    generalize (Vl.take s).2.1 = R at *
    generalize (Vl.take s).2.2 = E at *
    generalize (Vl.take s).1 = V at *
    obtain ⟨k, n, x⟩ := V
    generalize Vl.takeRow s most = T at *
    obtain ⟨L, R2, E2⟩ := T
    simp only at hlen
    have HC := Lib.hid (And.intro cT (And.intro cU (And.intro cR cS)))
    clear cT cU cR cS
    go_enter Tryd.func4, Tryd.ntmps4
    go_wp2_with fail
    refine (HC.out.1 _).mono ?_
    rintro e w1 ⟨rfl, hb1⟩
    have H1 := Lib.hid hb1
    obtain ⟨r0, b0, s0⟩ := val_new ⟨k, n, x⟩ w1
    have HN1 := Lib.hid (And.intro r0 (And.intro b0 s0))
    clear hb1 r0 b0 s0
    go_upto_region 4 with (fail)
    generalize hwa : World.alloc w1 _ = wa at *
    obtain ⟨c0, c1, c2, _⟩ := val_cells (v := ⟨k, n, x⟩) HN1.out.1
    have hN : w1.heap.size < wa.heap.size := rowV_lt HN1.out.1
    go_wp2_with fail
    refine (HC.out.2.1 _).mono ?_
    rintro e w2 ⟨rfl, hb2⟩
    have ra := rowV_below HN1.out.1 hb2 hN
    obtain ⟨r0, b0, s0⟩ := val_new ⟨k, n, x⟩ w2
    have ra2 := rowV_below ra b0 (rowV_lt ra)
    have H2 := Lib.hid (H1.out.trans (HN1.out.2.1.mono H1.out.size) |>.trans (hb2.mono (Nat.le_trans H1.out.size (Nat.le_of_lt hN))))
    have hbx := Lib.hid (H2.out.trans (b0.mono H2.out.size))
    obtain ⟨d0, d1, d2, _⟩ := val_cells (v := ⟨k, n, x⟩) ra2
    obtain ⟨f0, f1, f2, _⟩ := val_cells (v := ⟨k, n, x⟩) r0
    clear hb2 ra r0 b0 s0 ra2 c0 c1 c2
    have hE : (E != E) = false := by simp
    go_upto_region 5 with (fail)
    generalize hwb : World.alloc w2 _ = wb at *
    go_wp2_with fail
    refine (HC.out.2.2.1 _).mono ?_
    rintro e w3 ⟨a3, cap3, rfl, hr3, hc3, hb3⟩
    have H3 := Lib.hid (And.intro (hbx.out.trans (hb3.mono hbx.out.size)) hr3)
    clear hb3 hr3
    go_wp2_with fail
    refine (HC.out.2.2.2 _).mono ?_
    rintro e w4 ⟨a4, cap4, rfl, hr4, hc4, hb4⟩
    have H4 := Lib.hid (And.intro (H3.out.1.trans (hb4.mono H3.out.1.size)) (And.intro (readsV_below H3.out.2 hb4) hr4))
    clear hb4 hr4
    go_wp2_with fail
    refine (sameRow12_any a3 a4 L L cap3 cap4 _ H4.out.2.1 H4.out.2.2 (by omega)).mono ?_
    rintro e w5 ⟨rfl, hb5⟩
    have H5 := Lib.hid (H4.out.1.trans (hb5.mono H4.out.1.size))
    clear hb5
    go_wp2_with fail
    refine (lives12_any _ (pow10_below HT.out H5.out)).mono ?_
    rintro e w6 ⟨rfl, hb6⟩
    have H6 := Lib.hid (H5.out.trans (hb6.mono H5.out.size))
    clear hb6
    go_wp2_with fail
    go_ret
    exact ⟨rfl, H6.out⟩
end Go.Proofs.YtpniegglbglbcaaDoor
