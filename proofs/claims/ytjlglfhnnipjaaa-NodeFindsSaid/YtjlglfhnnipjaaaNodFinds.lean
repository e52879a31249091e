/-
  Layer 9: the law NodeFinds, walked.
-/
import Derived.Test.YtjlglfhnnipjaaaNodLaws
import Derived.Test.YtjlglfhnnipjaaaNodOpen
import Derived.Test.YtjlglfhnnipjaaaNodQuiet
namespace Go.Proofs.Ytjlglfhnnipjaaa
open Go.RowKit
set_option maxRecDepth 100000 in
set_option maxHeartbeats 12800000 in
theorem NodeFinds_walk (leaf : Bool) (a : Option Addr) (L : List (ByteArray × ByteArray)) (c : Nat) (key : ByteArray) (hm : L.length ≤ maxLen) (hz : ∀ x ∈ L, x.1.size ≤ maxLen ∧ x.2.size ≤ maxLen) (_hc : L.length ≤ c) (_hk : key.size ≤ maxLen) (w : World) (hr : ReadsP w a L) :
    Calls Try.prog 7 #[nodV leaf a L.length c, .string key] w fun e w' => e = .returned (.bool true) ∧ Below w.heap.size w w' := by
  have hb : Below w.heap.size w (w.alloc (.cells #[.bool leaf, .slice a L.length c] 24)) := (Below.refl w.heap.size w).alloc (Nat.le_refl _) _
  have hrow := rowV_new w 24 (nodC leaf a L.length c)
  obtain ⟨r0, r1, _, _⟩ := nod_cells hrow
  have hr0 := readsP_below hr hb
  have cS : Calls Try.prog 8 #[nodV leaf a L.length c] (w.alloc (.cells #[.bool leaf, .slice a L.length c] 24)) fun e w' => e = .returned (.bool (decide (Nd.small L))) ∧ Below (w.alloc (.cells #[.bool leaf, .slice a L.length c] 24)).heap.size (w.alloc (.cells #[.bool leaf, .slice a L.length c] 24)) w' :=
    small9_any leaf a L c _ hr0 hm hz
  by_cases hs : Nd.small L
  · rw [decide_eq_true hs] at cS
    obtain ⟨hl60, hsz⟩ := hs
    have hS : ∀ x ∈ L, x.1.size ≤ 1000 ∧ x.2.size ≤ 1000 := fun x hx => by have := hsz x hx; omega
    have cC := fun wx (hx : ReadsP wx a L) => check9_any leaf a L c wx hx (by omega) hS
    have hce := Nd.check_cases ⟨leaf, L⟩
    by_cases hri : Nd.right ⟨leaf, L⟩
    · have hE2 : Nd.checkE ⟨leaf, L⟩ ≠ 2 := by
        rcases hce with ⟨h, _⟩ | ⟨_, _, h⟩ | ⟨_, _, h⟩
        · exact absurd hri h
        · rw [h]; decide
        · rw [h]; decide
      obtain ⟨hne, hfi, hris⟩ := hri
      have h0 : 0 < L.length := List.length_pos_iff.2 hne
      have hris : Nd.rising L := hris
      have cF := fun k wx (hx : ReadsP wx a L) => find9_any leaf a L c k wx hx (by omega) h0 hris
      have hown : ∀ i (hi : i < L.length), Nd.findI L L[i].1 = i ∧ Nd.foundB L L[i].1 = true := fun i hi => by
        have h1 := (Nd.find_own hris i hi).1
        refine ⟨h1, ?_⟩
        unfold Nd.foundB
        rw [h1]
        refine decide_eq_true ⟨by omega, ?_⟩
        rw [Int.toNat_natCast, List.getD_eq_getElem?_getD, List.getElem?_eq_getElem hi]; rfl
      have hu := Nd.upto_le L key
      have hfI : Nd.findI L key = (Nd.upto L key : Int) - 1 := rfl
      have hfB : Nd.foundB L key = decide (0 ≤ Nd.findI L key ∧ (L.getD (Nd.findI L key).toNat (⟨#[]⟩, ⟨#[]⟩)).1 = key) := rfl
      have hin : ∀ i (hi : i < L.length), i < Nd.upto L key → Nd.le L[i].1 key = true := fun i hi h => (Nd.upto_iff hris key i hi).2 h
      have hout : ∀ i (hi : i < L.length), ¬ i < Nd.upto L key → Nd.le L[i].1 key = false := fun i hi h => by
        cases hh : Nd.le L[i].1 key with
        | false => rfl
        | true => exact absurd ((Nd.upto_iff hris key i hi).1 hh) h
      have cG := fun wx (hx : ReadsP wx a L) => cF key wx hx
      rw [hfI] at hfB cG
      generalize Nd.foundB L key = FB at *
      generalize Nd.upto L key = u at *
      generalize Nd.checkE ⟨leaf, L⟩ = CE at *
      have dE : (CE == 2) = false := by simpa using hE2
      obtain ⟨ab, off, rfl, _, _⟩ := hr 0 h0
      have H := Lib.hid (And.intro cS (And.intro hb (And.intro hrow (And.intro hr0 (And.intro cC cF)))))
      have HF := Lib.hid (And.intro hown (And.intro hfB (And.intro hin (And.intro hout cG))))
      clear hr hb hrow hr0 cS hz cC cF cG hce hE2 hS hsz hown hfI hfB hin hout hfi hris hne
      generalize hN : w.heap.size = N at *
      go_enter Try.func7, Try.ntmps7
      go_wp2_with fail
      refine H.out.1.mono ?_
      rintro e w1 ⟨rfl, hb1⟩
      have hrow1 := rowV_below H.out.2.2.1 hb1 (rowV_lt H.out.2.2.1)
      have hr1 := readsP_below H.out.2.2.2.1 hb1
      have hbw1 : Below N w w1 := H.out.2.1.trans (hb1.mono (by rw [← hN]; exact H.out.2.1.size))
      obtain ⟨p0, p1, _, _⟩ := nod_cells hrow1
      have H1 := Lib.hid (And.intro hrow1 (And.intro hr1 hbw1))
      clear hb1 hrow1 hr1 hbw1 r0 r1
      go_wp2_with fail
      refine (H.out.2.2.2.2.1 _ H1.out.2.1).mono ?_
      rintro e w2 ⟨rfl, hb2⟩
      have hrow2 := rowV_below H1.out.1 hb2 (rowV_lt H1.out.1)
      have hr2 := readsP_below H1.out.2.1 hb2
      have hbw2 : Below N w w2 := H1.out.2.2.trans (hb2.mono (by rw [← hN]; exact H1.out.2.2.size))
      have H2 := Lib.hid (And.intro hrow2 (And.intro hr2 hbw2))
      clear hb2 hrow2 hr2 hbw2 p0 p1
      go_wp2_with fail
      go_loopw [5] (fun i wr => ∃ k : Nat, k ≤ L.length ∧ i = .int .i64 (k : Int) ∧ Hid (Below w2.heap.size w2 wr)) (fun i _ => L.length - (RowKit.intOf i).toNat)
      case atStart => exact ⟨0, Nat.zero_le _, rfl, Lib.hid (Below.refl _ _)⟩
      case round =>
        obtain ⟨k, hk, rfl, HI⟩ := hrel
        have hrN := rowV_below H2.out.1 HI.out (rowV_lt H2.out.1)
        have hrr := readsP_below H2.out.2.1 HI.out
        obtain ⟨g0, g1, _, _⟩ := nod_cells hrN
        by_cases hlt : k < L.length
        · obtain ⟨b', o', e, c0, _⟩ := hrr k hlt
          cases e
          have hfo := HF.out.1 k hlt
          have hcf := fun wx (hx : Below wr.heap.size wr wx) => H.out.2.2.2.2.2 L[k].1 wx (readsP_below hrr hx)
          rw [hfo.1, hfo.2] at hcf
          generalize L[k].1 = kk at *
          have HK := Lib.hid hcf
          clear hcf hfo hrN hrr
          go_wp2_with fail
          refine wp_region_quiet_tail (C := fun wx => (wx.cell? ⟨N, 0, none⟩ = some (.bool leaf) ∧ wx.cell? ⟨N, 1, none⟩ = some (.slice (some ⟨ab, off, none⟩) L.length c) ∧ wx.cell? ⟨ab, off + k * 2, none⟩ = some (.string kk)) ∧ Hid (Below wr.heap.size wr wx)) 12 (by kernel_rfl) (by kernel_rfl) ⟨⟨g0, g1, c0⟩, Lib.hid (Below.refl wr.heap.size wr).drew⟩ ?_
          simp only [List.take_succ_cons, List.take_zero, List.drop_succ_cons, List.drop_zero]
          go_big_quiet_want
          refine ⟨nodV leaf (some ⟨ab, off, none⟩) L.length c, fun wx hSx => ?_, ?_⟩
          · obtain ⟨⟨k0, k1, k2⟩, -⟩ := hSx
            go_simp
            try first
              | with_reducible rfl
              | rw [if_neg (by omega)]
          simp only [Act.put, List.setIfInBounds_toArray, List.set_cons_zero, List.set_cons_succ]
          go_big_quiet_on
          go_big_quiet_want
          refine ⟨.pointer (some ⟨N, 1, none⟩), fun wx hSx => ?_, ?_⟩
          · obtain ⟨⟨k0, k1, k2⟩, -⟩ := hSx
            go_simp
            try first
              | with_reducible rfl
              | rw [if_neg (by omega)]
          simp only [Act.put, List.setIfInBounds_toArray, List.set_cons_zero, List.set_cons_succ]
          go_big_quiet_on
          go_big_quiet_want
          refine ⟨.slice (some ⟨ab, off, none⟩) L.length c, fun wx hSx => ?_, ?_⟩
          · obtain ⟨⟨k0, k1, k2⟩, -⟩ := hSx
            go_simp
            try first
              | with_reducible rfl
              | rw [if_neg (by omega)]
          simp only [Act.put, List.setIfInBounds_toArray, List.set_cons_zero, List.set_cons_succ]
          go_big_quiet_on
          go_big_quiet_want
          go_big_quiet_op
          go_big_quiet_on
          go_big_quiet_want
          refine ⟨.pointer (some ⟨ab, off + k * 2, none⟩), fun wx hSx => ?_, ?_⟩
          · obtain ⟨⟨k0, k1, k2⟩, -⟩ := hSx
            go_simp
            try first
              | with_reducible rfl
              | rw [if_neg (by omega)]
          simp only [Act.put, List.setIfInBounds_toArray, List.set_cons_zero, List.set_cons_succ]
          go_big_quiet_on
          go_big_quiet_want
          refine ⟨.pointer (some ⟨ab, off + k * 2, none⟩), fun wx hSx => ?_, ?_⟩
          · obtain ⟨⟨k0, k1, k2⟩, -⟩ := hSx
            go_simp
            try first
              | with_reducible rfl
              | rw [if_neg (by omega)]
          simp only [Act.put, List.setIfInBounds_toArray, List.set_cons_zero, List.set_cons_succ]
          go_big_quiet_on
          go_big_quiet_want
          refine ⟨.string kk, fun wx hSx => ?_, ?_⟩
          · obtain ⟨⟨k0, k1, k2⟩, -⟩ := hSx
            go_simp
            try first
              | with_reducible rfl
              | rw [if_neg (by omega)]
          simp only [Act.put, List.setIfInBounds_toArray, List.set_cons_zero, List.set_cons_succ]
          go_big_quiet_on
          go_big_quiet_want
          refine ⟨.tuple #[.int .i64 (k : Int), .bool true], fun wx hSx => ?_, ?_⟩
          · exact quietAt_call 17 #[nodV leaf (some ⟨ab, off, none⟩) L.length c, .string kk] (by go_simp) ((HK.out wx hSx.2.out).mono fun e w' hh => ⟨hh.1, ⟨(hh.2.cell (p := ⟨N, 0, none⟩) (World.block_lt_of_cell? _ _ hSx.1.1)).trans hSx.1.1, (hh.2.cell (p := ⟨N, 1, none⟩) (World.block_lt_of_cell? _ _ hSx.1.2.1)).trans hSx.1.2.1, (hh.2.cell (p := ⟨ab, off + k * 2, none⟩) (World.block_lt_of_cell? _ _ hSx.1.2.2)).trans hSx.1.2.2⟩, Lib.hid (hSx.2.out.trans (hh.2.mono hSx.2.out.size))⟩)
          simp only [Act.put, List.setIfInBounds_toArray, List.set_cons_zero, List.set_cons_succ]
          go_big_quiet_on
          go_big_quiet_want
          go_big_quiet_op
          go_big_quiet_on
          go_big_quiet_want
          refine ⟨.int .i64 (k : Int), fun wx hSx => ?_, ?_⟩
          · obtain ⟨⟨k0, k1, k2⟩, -⟩ := hSx
            go_simp
            try first
              | with_reducible rfl
              | rw [if_neg (by omega)]
          simp only [Act.put, List.setIfInBounds_toArray, List.set_cons_zero, List.set_cons_succ]
          go_big_quiet_on
          go_big_quiet_want
          refine ⟨.bool true, fun wx hSx => ?_, ?_⟩
          · obtain ⟨⟨k0, k1, k2⟩, -⟩ := hSx
            go_simp
            try first
              | with_reducible rfl
              | rw [if_neg (by omega)]
          simp only [Act.put, List.setIfInBounds_toArray, List.set_cons_zero, List.set_cons_succ]
          go_big_quiet_on
          go_big_quiet_want
          go_big_quiet_op
          go_big_quiet_on
          refine wpQuiet_nil ?_
          rintro w5 ⟨-, hb5⟩
          have H5 := Lib.hid (HI.out.trans (hb5.out.mono HI.out.size))
          clear hb5
          go_wp2_with fail
          go_roundw
          case rel => exact ⟨k + 1, by omega, by go_num, H5⟩
          case measure => simp [RowKit.intOf]; omega
        · obtain rfl : k = L.length := by omega
          have hbwr : Below N w wr := H2.out.2.2.trans (HI.out.mono (by rw [← hN]; exact H2.out.2.2.size))
          have H3 := Lib.hid (And.intro hrN (And.intro hrr hbwr))
          clear hrN hrr hbwr
          by_cases hu0 : u = 0
          · subst hu0
            have hle := HF.out.2.2.2.1 0 h0 (by omega)
            have hFB := HF.out.2.1
            rw [decide_eq_false (by omega)] at hFB
            subst hFB
            go_wp2_with fail
            refine (HF.out.2.2.2.2 _ H3.out.2.1).mono ?_
            rintro e w7 ⟨rfl, hb7⟩
            have hrow7 := rowV_below H3.out.1 hb7 (rowV_lt H3.out.1)
            have hr7 := readsP_below H3.out.2.1 hb7
            have hbw7 : Below N w w7 := H3.out.2.2.trans (hb7.mono (by rw [← hN]; exact H3.out.2.2.size))
            obtain ⟨y0, y1, _, _⟩ := nod_cells hrow7
            have H7 := Lib.hid (And.intro hr7 hbw7)
            clear hb7 hrow7 hbw7 g0 g1
            obtain ⟨b', o', e, c0, _⟩ := hr7 0 (by omega)
            cases e
            generalize (L[0]'(by omega)).1 = x0 at *
            rw [Nat.zero_mul, Nat.add_zero] at c0
            have hle2 : (Op.bytesLess x0.toList key.toList || x0.toList == key.toList) = false := hle
            have HX := Lib.hid hle
            clear hle hr7
            have dk : decide (0 < (L.length : Int)) = true := decide_eq_true (by omega)
            have dq : ((0 : Int) == (L.length : Int)) = false := by simp; omega
            go_wp2_with fail
            refine (lives9_any _).mono ?_
            rintro e w9 ⟨rfl, hbl⟩
            have HL := Lib.hid (show Below N w w9 from H7.out.2.trans (hbl.mono (by rw [← hN]; exact H7.out.2.size)))
            clear hbl
            go_wp2_with fail
            go_ret
            exact ⟨rfl, by first | exact HL.out | (rw [hN]; exact HL.out)⟩

          · obtain ⟨j, rfl⟩ : ∃ j, u = j + 1 := ⟨u - 1, by omega⟩
            have hj : ((j + 1 : Nat) : Int) - 1 = (j : Int) := by omega
            have hjl : j < L.length := by omega
            by_cases hlast : j + 1 = L.length
            · by_cases hx : L[j].1 = key
              · have hle := HF.out.2.2.1 j (by omega) (by omega)
                have hFB := HF.out.2.1
                have hcg := HF.out.2.2.2.2
                rw [hj] at hFB hcg
                rw [Int.toNat_natCast, List.getD_eq_getElem?_getD, List.getElem?_eq_getElem (show j < L.length by omega)] at hFB
                have hFB2 : FB = decide (0 ≤ (j : Int) ∧ L[j].1 = key) := hFB
                have CG := Lib.hid hcg
                clear hcg hFB
                go_wp2_with fail
                refine (CG.out _ H3.out.2.1).mono ?_
                rintro e w7 ⟨rfl, hb7⟩
                have hrow7 := rowV_below H3.out.1 hb7 (rowV_lt H3.out.1)
                have hr7 := readsP_below H3.out.2.1 hb7
                have hbw7 : Below N w w7 := H3.out.2.2.trans (hb7.mono (by rw [← hN]; exact H3.out.2.2.size))
                obtain ⟨y0, y1, _, _⟩ := nod_cells hrow7
                have H7 := Lib.hid (And.intro hr7 hbw7)
                clear hb7 hrow7 hbw7 g0 g1
                obtain ⟨b', o', e, c0, _⟩ := hr7 j (by omega)
                cases e
                generalize (L[j]'(by omega)).1 = x0 at *
                have hle2 : (Op.bytesLess x0.toList key.toList || x0.toList == key.toList) = true := hle
                clear hle hr7
                have d1 : decide ((j : Int) < 0) = false := decide_eq_false (by omega)
                have d2 : decide (0 ≤ (j : Int)) = true := decide_eq_true (by omega)
                have d3 : decide ((L.length : Int) ≤ (j : Int)) = false := decide_eq_false (by omega)
                have d4 : decide ((j : Int) < -1) = false := decide_eq_false (by omega)
                have j1 : j < L.length := by omega
                have d5 : (((j : Int) + 1) == (L.length : Int)) = true := by simp; omega
                have hFB3 : FB = true := by rw [hFB2]; exact decide_eq_true ⟨by omega, hx⟩
                subst hFB3 hx
                clear hFB2
                go_wp2_with fail
                refine (lives9_any _).mono ?_
                rintro e w9 ⟨rfl, hbl⟩
                have HL := Lib.hid (show Below N w w9 from H7.out.2.trans (hbl.mono (by rw [← hN]; exact H7.out.2.size)))
                clear hbl
                go_wp2_with fail
                go_ret
                exact ⟨rfl, by first | exact HL.out | (rw [hN]; exact HL.out)⟩

              · have hle := HF.out.2.2.1 j (by omega) (by omega)
                have hFB := HF.out.2.1
                have hcg := HF.out.2.2.2.2
                rw [hj] at hFB hcg
                rw [Int.toNat_natCast, List.getD_eq_getElem?_getD, List.getElem?_eq_getElem (show j < L.length by omega)] at hFB
                have hFB2 : FB = decide (0 ≤ (j : Int) ∧ L[j].1 = key) := hFB
                have CG := Lib.hid hcg
                clear hcg hFB
                go_wp2_with fail
                refine (CG.out _ H3.out.2.1).mono ?_
                rintro e w7 ⟨rfl, hb7⟩
                have hrow7 := rowV_below H3.out.1 hb7 (rowV_lt H3.out.1)
                have hr7 := readsP_below H3.out.2.1 hb7
                have hbw7 : Below N w w7 := H3.out.2.2.trans (hb7.mono (by rw [← hN]; exact H3.out.2.2.size))
                obtain ⟨y0, y1, _, _⟩ := nod_cells hrow7
                have H7 := Lib.hid (And.intro hr7 hbw7)
                clear hb7 hrow7 hbw7 g0 g1
                obtain ⟨b', o', e, c0, _⟩ := hr7 j (by omega)
                cases e
                generalize (L[j]'(by omega)).1 = x0 at *
                have hle2 : (Op.bytesLess x0.toList key.toList || x0.toList == key.toList) = true := hle
                clear hle hr7
                have d1 : decide ((j : Int) < 0) = false := decide_eq_false (by omega)
                have d2 : decide (0 ≤ (j : Int)) = true := decide_eq_true (by omega)
                have d3 : decide ((L.length : Int) ≤ (j : Int)) = false := decide_eq_false (by omega)
                have d4 : decide ((j : Int) < -1) = false := decide_eq_false (by omega)
                have j1 : j < L.length := by omega
                have d5 : (((j : Int) + 1) == (L.length : Int)) = true := by simp; omega
                have hFB3 : FB = false := by rw [hFB2]; exact decide_eq_false fun h => hx h.2
                subst hFB3
                have hx2 := str_neq hx
                have hx3 := str_beq hx2
                rw [hx3, Bool.or_false] at hle2
                clear hFB2 hx
                go_wp2_with fail
                refine (lives9_any _).mono ?_
                rintro e w9 ⟨rfl, hbl⟩
                have HL := Lib.hid (show Below N w w9 from H7.out.2.trans (hbl.mono (by rw [← hN]; exact H7.out.2.size)))
                clear hbl
                go_wp2_with fail
                go_ret
                exact ⟨rfl, by first | exact HL.out | (rw [hN]; exact HL.out)⟩

            · by_cases hx : L[j].1 = key
              · have hle := HF.out.2.2.1 j (by omega) (by omega)
                have hFB := HF.out.2.1
                have hcg := HF.out.2.2.2.2
                rw [hj] at hFB hcg
                rw [Int.toNat_natCast, List.getD_eq_getElem?_getD, List.getElem?_eq_getElem (show j < L.length by omega)] at hFB
                have hFB2 : FB = decide (0 ≤ (j : Int) ∧ L[j].1 = key) := hFB
                have hle1 := HF.out.2.2.2.1 (j + 1) (by omega) (by omega)
                have CG := Lib.hid hcg
                clear hcg hFB
                go_wp2_with fail
                refine (CG.out _ H3.out.2.1).mono ?_
                rintro e w7 ⟨rfl, hb7⟩
                have hrow7 := rowV_below H3.out.1 hb7 (rowV_lt H3.out.1)
                have hr7 := readsP_below H3.out.2.1 hb7
                have hbw7 : Below N w w7 := H3.out.2.2.trans (hb7.mono (by rw [← hN]; exact H3.out.2.2.size))
                obtain ⟨y0, y1, _, _⟩ := nod_cells hrow7
                have H7 := Lib.hid (And.intro hr7 hbw7)
                clear hb7 hrow7 hbw7 g0 g1
                obtain ⟨b', o', e, c0, _⟩ := hr7 j (by omega)
                cases e
                obtain ⟨b', o', e, c1, _⟩ := hr7 (j + 1) (by omega)
                cases e
                generalize (L[j + 1]'(by omega)).1 = y at *
                have hle3 : (Op.bytesLess y.toList key.toList || y.toList == key.toList) = false := hle1
                clear hle1
                generalize (L[j]'(by omega)).1 = x0 at *
                have hle2 : (Op.bytesLess x0.toList key.toList || x0.toList == key.toList) = true := hle
                clear hle hr7
                have d1 : decide ((j : Int) < 0) = false := decide_eq_false (by omega)
                have d2 : decide (0 ≤ (j : Int)) = true := decide_eq_true (by omega)
                have d3 : decide ((L.length : Int) ≤ (j : Int)) = false := decide_eq_false (by omega)
                have d4 : decide ((j : Int) < -1) = false := decide_eq_false (by omega)
                have j1 : j < L.length := by omega
                have d5 : (((j : Int) + 1) == (L.length : Int)) = false := by simp; omega
                have j2 : j + 1 < L.length := by omega
                have hj1 : ((j : Int) + 1).toNat = j + 1 := by omega
                have hj2 : (0 : Int) ≤ (j : Int) + 1 := by omega
                have hj3 : (j : Int) + 1 < (L.length : Int) := by omega
                have hFB3 : FB = true := by rw [hFB2]; exact decide_eq_true ⟨by omega, hx⟩
                subst hFB3 hx
                clear hFB2
                go_wp2_with fail
                refine (lives9_any _).mono ?_
                rintro e w9 ⟨rfl, hbl⟩
                have HL := Lib.hid (show Below N w w9 from H7.out.2.trans (hbl.mono (by rw [← hN]; exact H7.out.2.size)))
                clear hbl
                go_wp2_with fail
                go_ret
                exact ⟨rfl, by first | exact HL.out | (rw [hN]; exact HL.out)⟩

              · have hle := HF.out.2.2.1 j (by omega) (by omega)
                have hFB := HF.out.2.1
                have hcg := HF.out.2.2.2.2
                rw [hj] at hFB hcg
                rw [Int.toNat_natCast, List.getD_eq_getElem?_getD, List.getElem?_eq_getElem (show j < L.length by omega)] at hFB
                have hFB2 : FB = decide (0 ≤ (j : Int) ∧ L[j].1 = key) := hFB
                have hle1 := HF.out.2.2.2.1 (j + 1) (by omega) (by omega)
                have CG := Lib.hid hcg
                clear hcg hFB
                go_wp2_with fail
                refine (CG.out _ H3.out.2.1).mono ?_
                rintro e w7 ⟨rfl, hb7⟩
                have hrow7 := rowV_below H3.out.1 hb7 (rowV_lt H3.out.1)
                have hr7 := readsP_below H3.out.2.1 hb7
                have hbw7 : Below N w w7 := H3.out.2.2.trans (hb7.mono (by rw [← hN]; exact H3.out.2.2.size))
                obtain ⟨y0, y1, _, _⟩ := nod_cells hrow7
                have H7 := Lib.hid (And.intro hr7 hbw7)
                clear hb7 hrow7 hbw7 g0 g1
                obtain ⟨b', o', e, c0, _⟩ := hr7 j (by omega)
                cases e
                obtain ⟨b', o', e, c1, _⟩ := hr7 (j + 1) (by omega)
                cases e
                generalize (L[j + 1]'(by omega)).1 = y at *
                have hle3 : (Op.bytesLess y.toList key.toList || y.toList == key.toList) = false := hle1
                clear hle1
                generalize (L[j]'(by omega)).1 = x0 at *
                have hle2 : (Op.bytesLess x0.toList key.toList || x0.toList == key.toList) = true := hle
                clear hle hr7
                have d1 : decide ((j : Int) < 0) = false := decide_eq_false (by omega)
                have d2 : decide (0 ≤ (j : Int)) = true := decide_eq_true (by omega)
                have d3 : decide ((L.length : Int) ≤ (j : Int)) = false := decide_eq_false (by omega)
                have d4 : decide ((j : Int) < -1) = false := decide_eq_false (by omega)
                have j1 : j < L.length := by omega
                have d5 : (((j : Int) + 1) == (L.length : Int)) = false := by simp; omega
                have j2 : j + 1 < L.length := by omega
                have hj1 : ((j : Int) + 1).toNat = j + 1 := by omega
                have hj2 : (0 : Int) ≤ (j : Int) + 1 := by omega
                have hj3 : (j : Int) + 1 < (L.length : Int) := by omega
                have hFB3 : FB = false := by rw [hFB2]; exact decide_eq_false fun h => hx h.2
                subst hFB3
                have hx2 := str_neq hx
                have hx3 := str_beq hx2
                rw [hx3, Bool.or_false] at hle2
                clear hFB2 hx
                go_wp2_with fail
                refine (lives9_any _).mono ?_
                rintro e w9 ⟨rfl, hbl⟩
                have HL := Lib.hid (show Below N w w9 from H7.out.2.trans (hbl.mono (by rw [← hN]; exact H7.out.2.size)))
                clear hbl
                go_wp2_with fail
                go_ret
                exact ⟨rfl, by first | exact HL.out | (rw [hN]; exact HL.out)⟩

    · have hE2 : Nd.checkE ⟨leaf, L⟩ = 2 := by
        rcases hce with ⟨_, h⟩ | ⟨h, _⟩ | ⟨h, _⟩
        · exact h
        · exact absurd h hri
        · exact absurd h hri
      rw [hE2] at cC
      have H := Lib.hid (And.intro cS (And.intro hb (And.intro hrow (And.intro hr0 cC))))
      clear hr hb hrow hr0 cS hz cC hce hS hsz hri hE2
      go_enter Try.func7, Try.ntmps7
      go_wp2_with fail
      refine H.out.1.mono ?_
      rintro e w1 ⟨rfl, hb1⟩
      have hr1 := readsP_below H.out.2.2.2.1 hb1
      obtain ⟨p0, p1, _, _⟩ := nod_cells (rowV_below H.out.2.2.1 hb1 (rowV_lt H.out.2.2.1))
      have H1 := Lib.hid (And.intro hr1 (H.out.2.1.trans (hb1.mono H.out.2.1.size)))
      clear hb1 hr1
      go_wp2_with fail
      refine (H.out.2.2.2.2 _ H1.out.1).mono ?_
      rintro e w2 ⟨rfl, hb2⟩
      have H2 := Lib.hid (H1.out.2.trans (hb2.mono H1.out.2.size))
      clear hb2
      go_wp2_with fail
      refine (lives9_any _).mono ?_
      rintro e w3 ⟨rfl, hb3⟩
      have H3 := Lib.hid (H2.out.trans (hb3.mono H2.out.size))
      clear hb3
      go_wp2_with fail
      go_ret
      exact ⟨rfl, H3.out⟩
  · rw [decide_eq_false hs] at cS
    have H := Lib.hid (And.intro cS hb)
    clear hr hb hrow hr0 cS hs hz
    go_enter Try.func7, Try.ntmps7
    go_wp2_with fail
    refine H.out.1.mono ?_
    rintro e w1 ⟨rfl, hb1⟩
    have H1 := Lib.hid (H.out.2.trans (hb1.mono H.out.2.size))
    clear hb1
    go_wp2_with fail
    refine (lives9_any _).mono ?_
    rintro e w2 ⟨rfl, hb2⟩
    have H2 := Lib.hid (H1.out.trans (hb2.mono H1.out.size))
    clear hb2
    go_wp2_with fail
    go_ret
    exact ⟨rfl, H2.out⟩
end Go.Proofs.Ytjlglfhnnipjaaa
