/-
  Layer 12's laws: ValueBack walked.
-/
import Derived.Test.YtpniegglbglbcaaDoorValLives
import Derived.Test.YtpniegglbglbcaaDoorValOpen
import Derived.BigQuiet
import Derived.Deep.Cut
namespace Go.Proofs.YtpniegglbglbcaaDoor
open Go.RowKit
theorem zero_in12 : (-9223372036854775808 : Int) ≤ 0 ∧ (0 : Int) ≤ 9223372036854775807 := by decide
theorem takeN12 (s : ByteArray) : -9223372036854775808 ≤ (Vl.take s).1.n ∧ (Vl.take s).1.n ≤ 9223372036854775807 := by
  unfold Vl.take
  split
  · exact zero_in12
  · split
    · split
      · exact zero_in12
      · split
        · exact tN12_range (Oct.tR s)
        · exact zero_in12
    · split
      · split
        · exact zero_in12
        · split
          · exact zero_in12
          · exact zero_in12
      · split
        · exact zero_in12
        · exact zero_in12
set_option maxRecDepth 100000 in
set_option maxHeartbeats 12800000 in
theorem ValueBack_walk (L : List Vl.V) (a : Option Addr) (c : Nat) (behind s : ByteArray) (hm : L.length ≤ maxLen) (_hbl : behind.size ≤ maxLen) (hsl : s.size ≤ maxLen) (w : World) (hrd : ReadsVF w a L) (hT : Pow10 w) :
    Calls Tryd.prog 6 #[.slice a L.length c, .string behind, .string s] w fun e w' => e = .returned (.bool true) ∧ Below w.heap.size w w' := by
  have HT := Lib.hid hT
  clear hT
  obtain ⟨hr, hS⟩ := hrd
  unfold maxLen at hm
  by_cases hl : (L.length : Int) > 60
  · go_enter Tryd.func6, Tryd.ntmps6
    go_wp2_with fail
    refine (lives12_any _ (pow10_below HT.out (Below.refl w.heap.size w))).mono ?_
    rintro e wl ⟨rfl, hb⟩
    have HL := Lib.hid (Below.trans (Below.refl w.heap.size w) (hb.mono (Below.size (Below.refl w.heap.size w))))
    clear hb
    go_wp2_with fail
    go_ret
    exact ⟨rfl, HL.out⟩
  · by_cases hbe : (behind.size : Int) > 1000
    · have hl2 : decide (60 < (L.length : Int)) = false := decide_eq_false (by omega)
      go_enter Tryd.func6, Tryd.ntmps6
      go_wp2_with fail
      refine (lives12_any _ (pow10_below HT.out (Below.refl w.heap.size w))).mono ?_
      rintro e wl ⟨rfl, hb⟩
      have HL := Lib.hid (Below.trans (Below.refl w.heap.size w) (hb.mono (Below.size (Below.refl w.heap.size w))))
      clear hb
      go_wp2_with fail
      go_ret
      exact ⟨rfl, HL.out⟩
    · by_cases hse : (s.size : Int) > 1000
      · have hl2 : decide (60 < (L.length : Int)) = false := decide_eq_false (by omega)
        have hl3 : decide (1000 < (behind.size : Int)) = false := decide_eq_false (by omega)
        go_enter Tryd.func6, Tryd.ntmps6
        go_wp2_with fail
        refine (lives12_any _ (pow10_below HT.out (Below.refl w.heap.size w))).mono ?_
        rintro e wl ⟨rfl, hb⟩
        have HL := Lib.hid (Below.trans (Below.refl w.heap.size w) (hb.mono (Below.size (Below.refl w.heap.size w))))
        clear hb
        go_wp2_with fail
        go_ret
        exact ⟨rfl, HL.out⟩
      · have hl2 : decide (60 < (L.length : Int)) = false := decide_eq_false (by omega)
        have hl3 : decide (1000 < (behind.size : Int)) = false := decide_eq_false (by omega)
        have hl4 : decide (1000 < (s.size : Int)) = false := decide_eq_false (by omega)
        have hL60 : L.length ≤ 60 := by omega
        have hB1000 : behind.size ≤ 1000 := by omega
        have cW := fun wx hx => row12_any a L c wx hx (by omega) hS
        have cTK := fun wx => take12_any s wx hsl
        have hTK := Vl.take_ok s
        have hTn := takeN12 s
        have HR := Lib.hid (And.intro hr hS)
        have HC := Lib.hid (And.intro cW (And.intro cTK (And.intro hTK hTn)))
        clear cW cTK hTK hTn hr hS
        go_enter Tryd.func6, Tryd.ntmps6
        go_wp2_with fail
        go_loopw [7] (fun i wr => ∃ k : Nat, k ≤ L.length ∧ i = .int .i64 (k : Int) ∧ Hid (Below w.heap.size w wr) ∧ Hid (AllRight (L.take k))) (fun i _ => L.length - (intOf i).toNat)
        case atStart => exact ⟨0, Nat.zero_le _, rfl, Lib.hid (Below.refl _ _), Lib.hid (allRight_zero L)⟩
        case round =>
          obtain ⟨k, hk, rfl, HI, HA⟩ := hrel
          by_cases hlt : k < L.length
          · obtain ⟨b, off, rfl, c0, c1, c2⟩ := readsV_at (readsV_below HR.out.1 HI.out) k hlt
            have hf := HR.out.2 _ (List.getElem_mem hlt)
            have hZ := allRight_take HA.out hlt
            generalize hx : L[k] = p at *
            have cB := fun wx => bytes12_any p hf.1 hf.2.1 wx
            have cK := fun wx => check12_any p wx
            have cT := fun (hp : Vl.right p) wx => take12_any (Vl.bytes p ++ behind) wx (by have := Vl.bytes_size hp hf.1 hf.2.1; rw [ByteArray.size_append]; unfold maxLen; omega)
            have hTB := fun (hp : Vl.right p) => Vl.take_bytes hp hf.1 hf.2.1 behind
            have hbs := fun (hp : Vl.right p) => Vl.bytes_size hp hf.1 hf.2.1
            by_cases h500 : (p.s.size : Int) > 500
            · clear cB cK cT hTB hbs hZ hf hx
              obtain ⟨pk, pn, ps⟩ := p
              simp only at c0 c1 c2 h500
              go_wp2_with fail
              refine (lives12_any _ (pow10_below HT.out HI.out)).mono ?_
              rintro e wl ⟨rfl, hb⟩
              have HL := Lib.hid (Below.trans HI.out (hb.mono (Below.size HI.out)))
              clear hb
              go_wp2_with fail
              go_ret
              exact ⟨rfl, HL.out⟩
            · by_cases hp : Vl.right p
              · have cT := cT hp
                rw [hTB hp] at cT
                rw [bytesB_ok hp, checkE_ok hp] at cB
                have hbs := hbs hp
                generalize Vl.bytes p = BX at *
                have HP := Lib.hid (And.intro cB (And.intro cT (hZ hp)))
                clear cB cK cT hTB hZ hf hx hp
                obtain ⟨pk, pn, ps⟩ := p
                simp only at c0 c1 c2 h500
                go_wp2_with fail
                refine (HP.out.1 _).mono ?_
                rintro e w1 ⟨rfl, hb⟩
                have H1 := Lib.hid (HI.out.trans (hb.mono HI.out.size))
                have d0 := (hb.cell (World.block_lt_of_cell? _ _ c0)).trans c0
                have d1 := (hb.cell (World.block_lt_of_cell? _ _ c1)).trans c1
                have d2 := (hb.cell (World.block_lt_of_cell? _ _ c2)).trans c2
                clear hb c0 c1 c2
                go_wp2_with fail
                refine (HP.out.2.1 _).mono ?_
                rintro e w2 ⟨rfl, hb⟩
                have H2 := Lib.hid (H1.out.trans (hb.mono H1.out.size))
                obtain ⟨r0, b0, s0⟩ := val_new ⟨pk, pn, ps⟩ w2
                have c0 := (b0.cell (World.block_lt_of_cell? _ _ ((hb.cell (World.block_lt_of_cell? _ _ d0)).trans d0))).trans ((hb.cell (World.block_lt_of_cell? _ _ d0)).trans d0)
                have c1 := (b0.cell (World.block_lt_of_cell? _ _ ((hb.cell (World.block_lt_of_cell? _ _ d1)).trans d1))).trans ((hb.cell (World.block_lt_of_cell? _ _ d1)).trans d1)
                have c2 := (b0.cell (World.block_lt_of_cell? _ _ ((hb.cell (World.block_lt_of_cell? _ _ d2)).trans d2))).trans ((hb.cell (World.block_lt_of_cell? _ _ d2)).trans d2)
                obtain ⟨q0, q1, q2, _⟩ := val_cells (v := ⟨pk, pn, ps⟩) r0
                have H3 := Lib.hid (H2.out.trans (b0.mono H2.out.size))
                have n1 : (behind.toList != behind.toList) = false := by simp
                clear hb d0 d1 d2 r0 b0 s0
                go_upto_region 12 with (fail)
                generalize hwb : World.alloc w2 _ = wb at *
                go_quiet (fail)
                go_wp2_with fail
                go_roundw
                case rel => exact ⟨k + 1, by omega, by go_num, Lib.hid (below_drewN H3.out _), Lib.hid HP.out.2.2⟩
                case measure => simp [intOf]; omega
              · rw [bytesB_bad hp, checkE_bad hp] at cB
                rw [checkE_bad hp] at cK
                have HP := Lib.hid (And.intro cB cK)
                clear cB cK cT hTB hbs hZ hf hx hp
                obtain ⟨pk, pn, ps⟩ := p
                simp only at c0 c1 c2 h500
                go_wp2_with fail
                refine (HP.out.1 _).mono ?_
                rintro e w1 ⟨rfl, hb⟩
                have H1 := Lib.hid (HI.out.trans (hb.mono HI.out.size))
                have d0 := (hb.cell (World.block_lt_of_cell? _ _ c0)).trans c0
                have d1 := (hb.cell (World.block_lt_of_cell? _ _ c1)).trans c1
                have d2 := (hb.cell (World.block_lt_of_cell? _ _ c2)).trans c2
                clear hb c0 c1 c2
                go_wp2_with fail
                refine (HP.out.2 _).mono ?_
                rintro e w2 ⟨rfl, hb⟩
                have H2 := Lib.hid (H1.out.trans (hb.mono H1.out.size))
                clear hb d0 d1 d2
                go_wp2_with fail
                refine (lives12_any _ (pow10_below HT.out H2.out)).mono ?_
                rintro e wl ⟨rfl, hb⟩
                have HL := Lib.hid (Below.trans H2.out (hb.mono (Below.size H2.out)))
                clear hb
                go_wp2_with fail
                go_ret
                exact ⟨rfl, HL.out⟩
          · have hA := allRight_full HA.out hlt
            have hrow := row_yes hA
            have hXs : (Vl.row L).size ≤ 70010 := by have h := rowTo_size L L.length (by omega) (by rw [List.take_length]; exact hA) HR.out.2; rwa [rowTo_end L L.length (by omega)] at h
            have cR := fun wx => takeRow12_any (Vl.row L ++ behind) L.length wx (by rw [ByteArray.size_append]; omega)
            rw [Vl.takeRow_back L behind (fun v hv => ⟨hA v hv, (HR.out.2 v hv).1, (HR.out.2 v hv).2.1⟩) (by omega)] at cR
            have cW := fun wx hx => HC.out.1 wx hx
            rw [hrow.1, hrow.2] at cW
            have cS := fun wx (a2 : Option Addr) cap (h1 : ReadsV wx a L) (h2 : ReadsV wx a2 L) => sameRow12_any a a2 L L c cap wx h1 h2 (by unfold maxLen; omega)
            generalize Vl.row L = X at *
            have HD := Lib.hid (And.intro cW (And.intro cR cS))
            clear cW cR cS hrow hA
            go_wp2_with fail
            refine (HD.out.1 _ (readsV_below HR.out.1 HI.out)).mono ?_
            rintro e w1 ⟨rfl, hb⟩
            have H1 := Lib.hid (HI.out.trans (hb.mono HI.out.size))
            clear hb
            go_wp2_with fail
            refine (HD.out.2.1 _).mono ?_
            rintro e w2 ⟨a2, cap2, rfl, hr2, hc2, hb⟩
            have H2 := Lib.hid (And.intro (H1.out.trans (hb.mono H1.out.size)) hr2)
            clear hb hr2
            go_wp2_with fail
            refine (HD.out.2.2 _ a2 cap2 (readsV_below HR.out.1 H2.out.1) H2.out.2).mono ?_
            rintro e w3 ⟨rfl, hb⟩
            have H3 := Lib.hid (H2.out.1.trans (hb.mono H2.out.1.size))
            have n1 : (behind.toList != behind.toList) = false := by simp
            clear hb
            go_wp2_with fail
            have hTK := HC.out.2.2.1
            have cTK := HC.out.2.1
            have hTn := HC.out.2.2.2
            generalize hV : (Vl.take s).1 = V at *
            generalize hRR : (Vl.take s).2.1 = RR at *
            generalize hEE : (Vl.take s).2.2 = EE at *
            rcases hTK with ⟨rfl, hvr, hvb⟩ | ⟨hE, rfl, rfl⟩
            · have cB := fun wx => bytes12_any V hTn.1 hTn.2 wx
              rw [bytesB_ok hvr, checkE_ok hvr] at cB
              have hbs := Vl.bytes_size hvr hTn.1 hTn.2
              have hRs : RR.size ≤ 1000 := by have := congrArg ByteArray.size hvb; rw [ByteArray.size_append] at this; omega
              generalize Vl.bytes V = BV at *
              subst hvb
              obtain ⟨vk, vn, vs⟩ := V
              have HF := Lib.hid (And.intro cTK cB)
              clear cTK cB hTn hvr hV hRR hEE
              refine (HF.out.1 _).mono ?_
              rintro e w4 ⟨rfl, hb⟩
              have H4 := Lib.hid (H3.out.trans (hb.mono H3.out.size))
              obtain ⟨r0, b0, s0⟩ := val_new ⟨vk, vn, vs⟩ w4
              obtain ⟨q0, q1, q2, _⟩ := val_cells (v := ⟨vk, vn, vs⟩) r0
              have H5 := Lib.hid (H4.out.trans (b0.mono H4.out.size))
              clear hb r0 b0 s0
              go_upto_region 19 with (fail)
              generalize hwb : World.alloc w4 _ = wb at *
              go_wp2_with fail
              refine (HF.out.2 _).mono ?_
              rintro e w6 ⟨rfl, hb⟩
              have H6 := Lib.hid (H5.out.trans (hb.mono H5.out.size))
              clear hb q0 q1 q2
              go_wp2_with fail
              refine (lives12_any _ (pow10_below HT.out H6.out)).mono ?_
              rintro e wl ⟨rfl, hb⟩
              have HL := Lib.hid (Below.trans H6.out (hb.mono (Below.size H6.out)))
              clear hb
              go_wp2_with fail
              go_ret
              exact ⟨rfl, HL.out⟩
            · have q1 : (EE != 0) = true := by simpa using hE
              have HF := Lib.hid cTK
              clear cTK hTn hV hRR hEE hE
              refine (HF.out _).mono ?_
              rintro e w4 ⟨rfl, hb⟩
              have H4 := Lib.hid (H3.out.trans (hb.mono H3.out.size))
              obtain ⟨r0, b0, s0⟩ := val_new Vl.no w4
              obtain ⟨p0, p1, p2, _⟩ := val_cells (v := Vl.no) r0
              have H5 := Lib.hid (H4.out.trans (b0.mono H4.out.size))
              clear hb r0 b0 s0
              go_upto_region 19 with (fail)
              generalize hwb : World.alloc w4 _ = wb at *
              simp only [Vl.no] at p0 p1 p2
              go_wp2_with fail
              refine (lives12_any _ (pow10_below HT.out H5.out)).mono ?_
              rintro e wl ⟨rfl, hb⟩
              have HL := Lib.hid (Below.trans H5.out (hb.mono (Below.size H5.out)))
              clear hb
              go_wp2_with fail
              go_ret
              exact ⟨rfl, HL.out⟩
end Go.Proofs.YtpniegglbglbcaaDoor
