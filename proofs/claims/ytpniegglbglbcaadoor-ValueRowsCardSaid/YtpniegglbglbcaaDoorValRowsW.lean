/-
  Layer 12's laws: ValueRows walked.
-/
import Derived.Test.YtpniegglbglbcaaDoorValLives
import Derived.Test.YtpniegglbglbcaaDoorValOpen
import Derived.Test.YtpniegglbglbcaaDoorQTail
import Derived.Test.YtpniegglbglbcaaDoorNodQuiet
import Derived.BigQuiet
import Derived.IntWalk
namespace Go.Proofs.YtpniegglbglbcaaDoor
open Go.RowKit
set_option maxRecDepth 100000 in
set_option maxHeartbeats 12800000 in
theorem ValueRows_walk (L : List Vl.V) (a : Option Addr) (c : Nat) (hm : L.length ≤ maxLen) (w : World) (hrd : ReadsVF w a L) (hT : Pow10 w) :
    Calls Tryd.prog 5 #[.slice a L.length c] w fun e w' => e = .returned (.bool true) ∧ Below w.heap.size w w' := by
  have HT := Lib.hid hT
  clear hT
  obtain ⟨hr, hS⟩ := hrd
  unfold maxLen at hm
  by_cases hl : (L.length : Int) > 60
  · go_enter Tryd.func5, Tryd.ntmps5
    go_wp2_with fail
    refine (lives12_any _ (pow10_below HT.out (Below.refl w.heap.size w))).mono ?_
    rintro e wl ⟨rfl, hb⟩
    have HL := Lib.hid (Below.trans (Below.refl w.heap.size w) (hb.mono (Below.size (Below.refl w.heap.size w))))
    clear hb
    go_wp2_with fail
    go_ret
    exact ⟨rfl, HL.out⟩
  · have cW := fun wx hx => row12_any a L c wx hx (by omega) hS
    have cR := fun wx hx => rrightRow12_any a L c wx hx (by unfold maxLen; omega) hS
    have cX := fun wx hx hA => rrow12_any a L c wx hx (by omega) hS hA
    have HR := Lib.hid (And.intro hr hS)
    by_cases hA : AllRight L
    · rw [(row_yes hA).1, (row_yes hA).2] at cW
      rw [decide_eq_true hA] at cR
      have cX := fun wx hx => cX wx hx hA
      generalize Vl.row L = X at *
      have HC := Lib.hid (And.intro cW (And.intro cR cX))
      clear cW cR cX hr hS hA
      go_enter Tryd.func5, Tryd.ntmps5
      go_wp2_with fail
      go_loop [3] (fun i => ∃ k : Nat, k ≤ L.length ∧ i = .int .i64 (k : Int)) (fun i => L.length - (intOf i).toNat)
      case atStart => exact ⟨0, Nat.zero_le _, rfl⟩
      case round =>
        obtain ⟨k, hk, rfl⟩ := hrel
        by_cases hlt : k < L.length
        · obtain ⟨b, off, rfl, c0, c1, c2⟩ := readsV_at HR.out.1 k hlt
          generalize hx : L[k] = p at *
          obtain ⟨pk, pn, ps⟩ := p
          simp only at c0 c1 c2
          clear hx
          by_cases h500 : (ps.size : Int) > 500
          · go_wp2_with fail
            refine (lives12_any _ (pow10_below HT.out (Below.refl w.heap.size w))).mono ?_
            rintro e wl ⟨rfl, hb⟩
            have HL := Lib.hid (Below.trans (Below.refl w.heap.size w) (hb.mono (Below.size (Below.refl w.heap.size w))))
            clear hb
            go_wp2_with fail
            go_ret
            exact ⟨rfl, HL.out⟩
          · go_wp2_with fail
            go_round
            case rel => exact ⟨k + 1, by omega, by go_num⟩
            case measure => simp [intOf]; omega
        · -- the end
          go_wp2_with fail
          refine (HC.out.1 w HR.out.1).mono ?_
          rintro e w1 ⟨rfl, hb⟩
          have H1 := Lib.hid hb
          clear hb
          go_wp2_with fail
          refine (HC.out.2.1 w1 (readsV_below HR.out.1 H1.out)).mono ?_
          rintro e w2 ⟨rfl, hb⟩
          have H2 := Lib.hid (H1.out.trans (hb.mono H1.out.size))
          clear hb
          go_wp2_with fail
          go_loopw [6] (fun i wr => ∃ k : Nat, k ≤ L.length ∧ i = .int .i64 (k : Int) ∧ Hid (Below w.heap.size w wr)) (fun i _ => L.length - (intOf i).toNat)
          case atStart => exact ⟨0, Nat.zero_le _, rfl, H2⟩
          case round =>
            obtain ⟨k, hk, rfl, HI⟩ := hrel
            by_cases hlt : k + 1 < L.length
            · have hd : ((k : Int) + 1 < (L.length : Int)) := by omega
              obtain ⟨b, off, rfl, c0, c1, c2⟩ := readsV_at (readsV_below HR.out.1 HI.out) k (by omega)
              obtain ⟨b', off', e', d0, d1, d2⟩ := readsV_at (readsV_below HR.out.1 HI.out) (k + 1) hlt
              cases e'
              have k1 := fun wx => compare12_any L[k] L[k + 1] wx
              have k2 := fun wx => rcompare12_any L[k] L[k + 1] wx
              generalize Vl.cmp L[k] L[k + 1] = x at *
              generalize L[k] = p at *
              generalize L[k + 1] = q at *
              obtain ⟨pk, pn, ps⟩ := p
              obtain ⟨qk, qn, qs⟩ := q
              have HK := Lib.hid (And.intro k1 k2)
              clear k1 k2
              have hk1 : k < L.length := by omega
              have hk2 : 0 ≤ (k : Int) + 1 := by omega
              have hk3 : ((k : Int) + 1).toNat = k + 1 := by omega
              simp only at c0 c1 c2 d0 d1 d2
              go_wp2_with fail
              refine wp_region_quiet_tail (C := fun wx => (wx.cell? ⟨b, off + k * 3, none⟩ = some (.int .i64 pk) ∧ wx.cell? ⟨b, off + k * 3 + 1, none⟩ = some (.int .i64 pn) ∧ wx.cell? ⟨b, off + k * 3 + 2, none⟩ = some (.string ps) ∧ wx.cell? ⟨b, off + (k + 1) * 3, none⟩ = some (.int .i64 qk) ∧ wx.cell? ⟨b, off + (k + 1) * 3 + 1, none⟩ = some (.int .i64 qn) ∧ wx.cell? ⟨b, off + (k + 1) * 3 + 2, none⟩ = some (.string qs)) ∧ Hid (Below wr.heap.size wr wx)) 20 (by kernel_rfl) (by kernel_rfl) ⟨⟨c0, c1, c2, d0, d1, d2⟩, Lib.hid (Below.refl wr.heap.size wr).drew⟩ ?_
              simp only [List.take_succ_cons, List.take_zero, List.drop_succ_cons, List.drop_zero]
              go_big_quiet_want
              go_big_quiet_op
              go_big_quiet_on
              go_big_quiet_want
              go_big_quiet_op
              go_big_quiet_on
              go_big_quiet_want
              refine ⟨(.pointer (some ⟨b, off + k * 3, none⟩)), fun wx hSx => ?_, ?_⟩
              · obtain ⟨⟨k0, k1, k2, k3, k4, k5⟩, -⟩ := hSx
                go_simp
                try exact ⟨rfl, rfl⟩
              simp only [Act.put, List.setIfInBounds_toArray, List.set_cons_zero, List.set_cons_succ]
              go_big_quiet_on
              go_big_quiet_want
              refine ⟨(valV ⟨pk, pn, ps⟩), fun wx hSx => ?_, ?_⟩
              · obtain ⟨⟨k0, k1, k2, k3, k4, k5⟩, -⟩ := hSx
                go_simp
                try first
                  | with_reducible rfl
                  | rw [if_neg (by omega)]
              simp only [Act.put, List.setIfInBounds_toArray, List.set_cons_zero, List.set_cons_succ]
              go_big_quiet_on
              go_big_quiet_want
              go_big_quiet_op
              go_big_quiet_on
              go_big_quiet_want
              go_big_quiet_op
              go_big_quiet_on
              go_big_quiet_want
              refine ⟨(.int .i64 ((k : Int) + 1)), fun wx hSx => ?_, ?_⟩
              · obtain ⟨⟨k0, k1, k2, k3, k4, k5⟩, -⟩ := hSx
                go_simp
                first | with_reducible rfl | rw [IntWalk.i64_in _ (by omega)]
              simp only [Act.put, List.setIfInBounds_toArray, List.set_cons_zero, List.set_cons_succ]
              go_big_quiet_on
              go_big_quiet_want
              refine ⟨(.pointer (some ⟨b, off + (k + 1) * 3, none⟩)), fun wx hSx => ?_, ?_⟩
              · obtain ⟨⟨k0, k1, k2, k3, k4, k5⟩, -⟩ := hSx
                go_simp
                try exact ⟨rfl, rfl⟩
              simp only [Act.put, List.setIfInBounds_toArray, List.set_cons_zero, List.set_cons_succ]
              go_big_quiet_on
              go_big_quiet_want
              refine ⟨(valV ⟨qk, qn, qs⟩), fun wx hSx => ?_, ?_⟩
              · obtain ⟨⟨k0, k1, k2, k3, k4, k5⟩, -⟩ := hSx
                go_simp
                try first
                  | with_reducible rfl
                  | rw [if_neg (by omega)]
              simp only [Act.put, List.setIfInBounds_toArray, List.set_cons_zero, List.set_cons_succ]
              go_big_quiet_on
              go_big_quiet_want
              refine ⟨(.int .i64 x), fun wx hSx => ?_, ?_⟩
              · exact quietAt_call 22 #[valV ⟨pk, pn, ps⟩, valV ⟨qk, qn, qs⟩] (by go_simp) ((HK.out.1 wx).mono fun e w' hh => ⟨hh.1, ⟨(hh.2.cell (p := ⟨b, off + k * 3, none⟩) (World.block_lt_of_cell? _ _ hSx.1.1)).trans hSx.1.1, (hh.2.cell (p := ⟨b, off + k * 3 + 1, none⟩) (World.block_lt_of_cell? _ _ hSx.1.2.1)).trans hSx.1.2.1, (hh.2.cell (p := ⟨b, off + k * 3 + 2, none⟩) (World.block_lt_of_cell? _ _ hSx.1.2.2.1)).trans hSx.1.2.2.1, (hh.2.cell (p := ⟨b, off + (k + 1) * 3, none⟩) (World.block_lt_of_cell? _ _ hSx.1.2.2.2.1)).trans hSx.1.2.2.2.1, (hh.2.cell (p := ⟨b, off + (k + 1) * 3 + 1, none⟩) (World.block_lt_of_cell? _ _ hSx.1.2.2.2.2.1)).trans hSx.1.2.2.2.2.1, (hh.2.cell (p := ⟨b, off + (k + 1) * 3 + 2, none⟩) (World.block_lt_of_cell? _ _ hSx.1.2.2.2.2.2)).trans hSx.1.2.2.2.2.2⟩, Lib.hid (hSx.2.out.trans (hh.2.mono hSx.2.out.size))⟩)
              simp only [Act.put, List.setIfInBounds_toArray, List.set_cons_zero, List.set_cons_succ]
              go_big_quiet_on
              go_big_quiet_want
              go_big_quiet_op
              go_big_quiet_on
              go_big_quiet_want
              go_big_quiet_op
              go_big_quiet_on
              go_big_quiet_want
              refine ⟨(.pointer (some ⟨b, off + k * 3, none⟩)), fun wx hSx => ?_, ?_⟩
              · obtain ⟨⟨k0, k1, k2, k3, k4, k5⟩, -⟩ := hSx
                go_simp
                try exact ⟨rfl, rfl⟩
              simp only [Act.put, List.setIfInBounds_toArray, List.set_cons_zero, List.set_cons_succ]
              go_big_quiet_on
              go_big_quiet_want
              refine ⟨(valV ⟨pk, pn, ps⟩), fun wx hSx => ?_, ?_⟩
              · obtain ⟨⟨k0, k1, k2, k3, k4, k5⟩, -⟩ := hSx
                go_simp
                try first
                  | with_reducible rfl
                  | rw [if_neg (by omega)]
              simp only [Act.put, List.setIfInBounds_toArray, List.set_cons_zero, List.set_cons_succ]
              go_big_quiet_on
              go_big_quiet_want
              go_big_quiet_op
              go_big_quiet_on
              go_big_quiet_want
              go_big_quiet_op
              go_big_quiet_on
              go_big_quiet_want
              refine ⟨(.int .i64 ((k : Int) + 1)), fun wx hSx => ?_, ?_⟩
              · obtain ⟨⟨k0, k1, k2, k3, k4, k5⟩, -⟩ := hSx
                go_simp
                first | with_reducible rfl | rw [IntWalk.i64_in _ (by omega)]
              simp only [Act.put, List.setIfInBounds_toArray, List.set_cons_zero, List.set_cons_succ]
              go_big_quiet_on
              go_big_quiet_want
              refine ⟨(.pointer (some ⟨b, off + (k + 1) * 3, none⟩)), fun wx hSx => ?_, ?_⟩
              · obtain ⟨⟨k0, k1, k2, k3, k4, k5⟩, -⟩ := hSx
                go_simp
                try exact ⟨rfl, rfl⟩
              simp only [Act.put, List.setIfInBounds_toArray, List.set_cons_zero, List.set_cons_succ]
              go_big_quiet_on
              go_big_quiet_want
              refine ⟨(valV ⟨qk, qn, qs⟩), fun wx hSx => ?_, ?_⟩
              · obtain ⟨⟨k0, k1, k2, k3, k4, k5⟩, -⟩ := hSx
                go_simp
                try first
                  | with_reducible rfl
                  | rw [if_neg (by omega)]
              simp only [Act.put, List.setIfInBounds_toArray, List.set_cons_zero, List.set_cons_succ]
              go_big_quiet_on
              go_big_quiet_want
              refine ⟨(.int .i64 x), fun wx hSx => ?_, ?_⟩
              · exact quietAt_call 23 #[valV ⟨pk, pn, ps⟩, valV ⟨qk, qn, qs⟩] (by go_simp) ((HK.out.2 wx).mono fun e w' hh => ⟨hh.1, ⟨(hh.2.cell (p := ⟨b, off + k * 3, none⟩) (World.block_lt_of_cell? _ _ hSx.1.1)).trans hSx.1.1, (hh.2.cell (p := ⟨b, off + k * 3 + 1, none⟩) (World.block_lt_of_cell? _ _ hSx.1.2.1)).trans hSx.1.2.1, (hh.2.cell (p := ⟨b, off + k * 3 + 2, none⟩) (World.block_lt_of_cell? _ _ hSx.1.2.2.1)).trans hSx.1.2.2.1, (hh.2.cell (p := ⟨b, off + (k + 1) * 3, none⟩) (World.block_lt_of_cell? _ _ hSx.1.2.2.2.1)).trans hSx.1.2.2.2.1, (hh.2.cell (p := ⟨b, off + (k + 1) * 3 + 1, none⟩) (World.block_lt_of_cell? _ _ hSx.1.2.2.2.2.1)).trans hSx.1.2.2.2.2.1, (hh.2.cell (p := ⟨b, off + (k + 1) * 3 + 2, none⟩) (World.block_lt_of_cell? _ _ hSx.1.2.2.2.2.2)).trans hSx.1.2.2.2.2.2⟩, Lib.hid (hSx.2.out.trans (hh.2.mono hSx.2.out.size))⟩)
              simp only [Act.put, List.setIfInBounds_toArray, List.set_cons_zero, List.set_cons_succ]
              go_big_quiet_on
              refine wpQuiet_nil ?_
              rintro w4 ⟨-, hb4⟩
              have H4 := Lib.hid (HI.out.trans (hb4.out.mono HI.out.size))
              clear hb4 c0 c1 c2 d0 d1 d2
              try simp only [List.drop_succ_cons, List.drop_zero]
              have hxx : (x != x) = false := by simp
              go_wp2_with fail
              go_roundw
              case rel => exact ⟨k + 1, by omega, by go_num, H4⟩
              case measure => simp [intOf]; omega
            · have hd : ¬ ((k : Int) + 1 < (L.length : Int)) := by omega
              go_wp2_with fail
              refine (HC.out.2.2 _ (readsV_below HR.out.1 HI.out)).mono ?_
              rintro e w5 ⟨rfl, hb⟩
              have H5 := Lib.hid (HI.out.trans (hb.mono HI.out.size))
              clear hb
              go_wp2_with fail
              refine (lives12_any _ (pow10_below HT.out H5.out)).mono ?_
              rintro e wl ⟨rfl, hb⟩
              have HL := Lib.hid (Below.trans H5.out (hb.mono (Below.size H5.out)))
              clear hb
              go_wp2_with fail
              go_ret
              exact ⟨rfl, HL.out⟩
    · rw [(row_no hA).1, (row_no hA).2] at cW
      rw [decide_eq_false hA] at cR
      have HC := Lib.hid (And.intro cW cR)
      clear cW cR cX hr hS hA
      go_enter Tryd.func5, Tryd.ntmps5
      go_wp2_with fail
      go_loop [3] (fun i => ∃ k : Nat, k ≤ L.length ∧ i = .int .i64 (k : Int)) (fun i => L.length - (intOf i).toNat)
      case atStart => exact ⟨0, Nat.zero_le _, rfl⟩
      case round =>
        obtain ⟨k, hk, rfl⟩ := hrel
        by_cases hlt : k < L.length
        · obtain ⟨b, off, rfl, c0, c1, c2⟩ := readsV_at HR.out.1 k hlt
          generalize hx : L[k] = p at *
          obtain ⟨pk, pn, ps⟩ := p
          simp only at c0 c1 c2
          clear hx
          by_cases h500 : (ps.size : Int) > 500
          · go_wp2_with fail
            refine (lives12_any _ (pow10_below HT.out (Below.refl w.heap.size w))).mono ?_
            rintro e wl ⟨rfl, hb⟩
            have HL := Lib.hid (Below.trans (Below.refl w.heap.size w) (hb.mono (Below.size (Below.refl w.heap.size w))))
            clear hb
            go_wp2_with fail
            go_ret
            exact ⟨rfl, HL.out⟩
          · go_wp2_with fail
            go_round
            case rel => exact ⟨k + 1, by omega, by go_num⟩
            case measure => simp [intOf]; omega
        · -- the end
          go_wp2_with fail
          refine (HC.out.1 w HR.out.1).mono ?_
          rintro e w1 ⟨rfl, hb⟩
          have H1 := Lib.hid hb
          clear hb
          go_wp2_with fail
          refine (HC.out.2 w1 (readsV_below HR.out.1 H1.out)).mono ?_
          rintro e w2 ⟨rfl, hb⟩
          have H2 := Lib.hid (H1.out.trans (hb.mono H1.out.size))
          clear hb
          go_wp2_with fail
          refine (lives12_any _ (pow10_below HT.out H2.out)).mono ?_
          rintro e wl ⟨rfl, hb⟩
          have HL := Lib.hid (Below.trans H2.out (hb.mono (Below.size H2.out)))
          clear hb
          go_wp2_with fail
          go_ret
          exact ⟨rfl, HL.out⟩
end Go.Proofs.YtpniegglbglbcaaDoor
