/-
  Layer 9: the law NodeBack, walked.
-/
import Derived.Test.YtjlglfhnnipjaaaNodLaws
import Derived.Test.YtjlglfhnnipjaaaNodOpen
namespace Go.Proofs.Ytjlglfhnnipjaaa
open Go.RowKit
set_option maxRecDepth 100000 in
set_option maxHeartbeats 12800000 in
theorem NodeBack_walk (leaf : Bool) (a : Option Addr) (L : List (ByteArray × ByteArray)) (c : Nat) (page : ByteArray) (hm : L.length ≤ maxLen) (hz : ∀ x ∈ L, x.1.size ≤ maxLen ∧ x.2.size ≤ maxLen) (_hc : L.length ≤ c) (_hk : page.size ≤ maxLen) (w : World) (hr : ReadsP w a L) :
    Calls Try.prog 6 #[nodV leaf a L.length c, .string page] w fun e w' => e = .returned (.bool true) ∧ Below w.heap.size w w' := by
  have hb : Below w.heap.size w (w.alloc (.cells #[.bool leaf, .slice a L.length c] 24)) := (Below.refl w.heap.size w).alloc (Nat.le_refl _) _
  have hrow := rowV_new w 24 (nodC leaf a L.length c)
  obtain ⟨r0, r1, _, _⟩ := nod_cells hrow
  have hr0 := readsP_below hr hb
  have cS : Calls Try.prog 8 #[nodV leaf a L.length c] (w.alloc (.cells #[.bool leaf, .slice a L.length c] 24)) fun e w' => e = .returned (.bool (decide (Nd.small L))) ∧ Below (w.alloc (.cells #[.bool leaf, .slice a L.length c] 24)).heap.size (w.alloc (.cells #[.bool leaf, .slice a L.length c] 24)) w' :=
    small9_any leaf a L c _ hr0 hm hz
  by_cases hs : Nd.small L
  · rw [decide_eq_true hs] at cS
    by_cases hk3 : 1000 < page.size
    · have d3 : decide (1000 < (page.size : Int)) = true := decide_eq_true (by omega)
      have H := Lib.hid (And.intro cS hb)
      clear hr hb hrow hr0 cS hs hz
      go_enter Try.func6, Try.ntmps6
      go_wp2_with fail
      refine H.out.1.mono ?_
      rintro e w1 ⟨rfl, hb1⟩
      have H1 := Lib.hid (H.out.2.trans (hb1.mono H.out.2.size))
      clear hb1
      go_wp2_with fail
      refine (lives9_any _).mono ?_
      rintro e w2 ⟨rfl, hb2⟩
      have H2 := Lib.hid (H1.out.trans (hb2.mono H1.out.size))
      clear hb2
      go_wp2_with fail
      go_ret
      exact ⟨rfl, H2.out⟩
    · have d3 : decide (1000 < (page.size : Int)) = false := decide_eq_false (by omega)
      obtain ⟨hl60, hsz⟩ := hs
      have hS : ∀ x ∈ L, x.1.size ≤ 1000 ∧ x.2.size ≤ 1000 := fun x hx => by have := hsz x hx; omega
      have cP := fun wx (hx : ReadsP wx a L) => put9_any leaf a L c wx hx (by omega) hS
      have cT := fun wx => take9_any page wx (by omega)
      have hok := fun h => Nd.take_ok (page := page) h
      have herr := fun h => Nd.take_err (page := page) h
      have hsmall := Nd.take_small page
      have cTn : (Nd.take page).2 ≠ 0 → ∀ wx, Calls Try.prog 19 #[.string page] wx fun e w' => ∃ a cap, e = .returned (.tuple #[nodV false a 0 cap, .int .i64 (Nd.take page).2]) ∧ Below wx.heap.size wx w' := fun h wx => by
        refine (cT wx).mono ?_
        rintro e w' ⟨a, cap, he, _, hb⟩
        rw [herr h] at he
        exact ⟨a, cap, he, hb⟩
      have cTy : (Nd.take page).2 = 0 → ∀ wx, Calls Try.prog 19 #[.string page] wx fun e w' => ∃ a cap, e = .returned (.tuple #[nodV (Nd.take page).1.leaf a (Nd.take page).1.L.length cap, .int .i64 0]) ∧ ReadsP w' a (Nd.take page).1.L ∧ Below wx.heap.size wx w' := fun h wx => by
        refine (cT wx).mono ?_
        rintro e w' ⟨a, cap, he, hr, hb⟩
        rw [h] at he
        exact ⟨a, cap, he, hr, hb⟩
      have cM := fun aa cc wx (hx : ReadsP wx aa (Nd.take page).1.L) => put9_any (Nd.take page).1.leaf aa (Nd.take page).1.L cc wx hx (by omega) (fun x hx => by have := hsmall.2 x hx; omega)
      have cK := fun aa cc wx (hx : ReadsP wx aa (Nd.take page).1.L) => check9_any (Nd.take page).1.leaf aa (Nd.take page).1.L cc wx hx (by omega) (fun x hx => by have := hsmall.2 x hx; omega)
      have cU : Nd.checkE ⟨leaf, L⟩ = 0 → ∀ wx, Calls Try.prog 19 #[.string (Nd.put ⟨leaf, L⟩)] wx fun e w' => ∃ a cap, e = .returned (.tuple #[nodV leaf a L.length cap, .int .i64 0]) ∧ ReadsP w' a L ∧ Below wx.heap.size wx w' := fun h wx => by
        have ht := Nd.take_put h
        have hps := Nd.put_size h
        refine (take9_any (Nd.put ⟨leaf, L⟩) wx (by omega)).mono ?_
        rintro e w' ⟨a, cap, he, hr, hb⟩
        rw [ht] at he hr
        exact ⟨a, cap, he, hr, hb⟩
      have hps : Nd.checkE ⟨leaf, L⟩ = 0 → (Nd.put ⟨leaf, L⟩).size = 480 := fun h => Nd.put_size h
      have hMp : (Nd.take page).2 = 0 → Nd.put ⟨(Nd.take page).1.leaf, (Nd.take page).1.L⟩ = page ∧ Nd.checkE ⟨(Nd.take page).1.leaf, (Nd.take page).1.L⟩ = 0 := fun h => ⟨(hok h).2, (hok h).1⟩
      generalize Nd.put ⟨(Nd.take page).1.leaf, (Nd.take page).1.L⟩ = MP at *
      generalize Nd.checkE ⟨(Nd.take page).1.leaf, (Nd.take page).1.L⟩ = MC at *
      generalize Nd.put ⟨leaf, L⟩ = PP at *
      generalize Nd.checkE ⟨leaf, L⟩ = CE at *
      clear cT hok herr hsmall
      generalize (Nd.take page).1.leaf = leafT at *
      generalize (Nd.take page).1.L = LT at *
      generalize (Nd.take page).2 = ET at *
      have H := Lib.hid (And.intro cS (And.intro hb (And.intro hrow (And.intro hr0 (And.intro cP cU)))))
      have HT := Lib.hid (And.intro cTn (And.intro cTy (And.intro cM (And.intro cK hMp))))
      have HS := Lib.hid (And.intro hps hsz)
      clear hr hb hrow hr0 cS hz cP cU cTn cTy cM cK hMp hps hsz hS
      generalize hN : w.heap.size = N at *
      by_cases het : ET = 0
      · have dt : (ET != 0) = false := by rw [het]; rfl
        by_cases hce : CE = 0
        · have de : (CE == 0) = true := by rw [hce]; rfl
          have dn : (PP.size : Int) ≠ 480 → False := fun h => h (by rw [HS.out.1 hce]; rfl)
          have dp : ((PP.size : Int) != 480) = false := by rw [HS.out.1 hce]; rfl
          clear dn
          go_enter Try.func6, Try.ntmps6
          go_wp2_with fail
          refine H.out.1.mono ?_
          rintro e w1 ⟨rfl, hb1⟩
          have hrow1 := rowV_below H.out.2.2.1 hb1 (rowV_lt H.out.2.2.1)
          have hr1 := readsP_below H.out.2.2.2.1 hb1
          have hbw1 : Below N w w1 := H.out.2.1.trans (hb1.mono (by rw [← hN]; exact H.out.2.1.size))
          obtain ⟨p0, p1, _, _⟩ := nod_cells hrow1
          have H1 := Lib.hid (And.intro hrow1 (And.intro hr1 hbw1))
          clear hb1 hrow1 hr1 hbw1 r0 r1
          go_wp2_with fail
          refine (H.out.2.2.2.2.1 _ H1.out.2.1).mono ?_
          rintro e w2 ⟨rfl, hb2⟩
          have hrow2 := rowV_below H1.out.1 hb2 (rowV_lt H1.out.1)
          have hr2 := readsP_below H1.out.2.1 hb2
          have hbw2 : Below N w w2 := H1.out.2.2.trans (hb2.mono (by rw [← hN]; exact H1.out.2.2.size))
          obtain ⟨q0, q1, _, _⟩ := nod_cells hrow2
          have H2 := Lib.hid (And.intro hrow2 (And.intro hr2 hbw2))
          clear hb2 hrow2 hr2 hbw2 p0 p1
          go_wp2_with fail
          refine (H.out.2.2.2.2.2 hce _).mono ?_
          rintro e w3 ⟨a7, c7, rfl, hr7, hb7⟩
          have hrow3 := rowV_alloc (rowV_below H2.out.1 hb7 (rowV_lt H2.out.1)) (.cells #[.bool leaf, .slice a7 L.length c7] 24)
          have hb7b : Below w3.heap.size w3 (w3.alloc (.cells #[.bool leaf, .slice a7 L.length c7] 24)) := (Below.refl _ _).alloc (Nat.le_refl _) _
          have hr3 := readsP_below (readsP_below H2.out.2.1 hb7) hb7b
          have hr7b := readsP_below hr7 hb7b
          have hrow7 := rowV_new w3 24 (nodC leaf a7 L.length c7)
          have hbw3 : Below N w w3 := H2.out.2.2.trans (hb7.mono (by rw [← hN]; exact H2.out.2.2.size))
          have hbw3b := hbw3.trans (hb7b.mono (by rw [← hN]; exact hbw3.size))
          obtain ⟨x0, x1, _, _⟩ := nod_cells hrow3
          obtain ⟨y0, y1, _, _⟩ := nod_cells hrow7
          have cSm := rsame9_any leaf leaf a7 a L L c7 c _ hr7b hr3 (by omega) (by omega)
          rw [decide_eq_true ⟨rfl, rfl⟩] at cSm
          have H3 := Lib.hid (And.intro cSm hbw3b)
          clear hrow3 hb7b hr3 hr7b hrow7 hbw3 hbw3b cSm hr7 hb7 q0 q1
          go_wp2_with fail
          refine H3.out.1.mono ?_
          rintro e w4 ⟨rfl, hb4⟩
          have H4 := Lib.hid (show Below N w w4 from H3.out.2.trans (hb4.mono (by rw [← hN]; exact H3.out.2.size)))
          clear hb4 x0 x1 y0 y1
          go_wp2_with fail
          refine (HT.out.2.1 het _).mono ?_
          rintro e w5 ⟨a9, c9, rfl, hr9, hb9⟩
          have hrow9 := rowV_new w5 24 (nodC leafT a9 LT.length c9)
          have hb9b : Below w5.heap.size w5 (w5.alloc (.cells #[.bool leafT, .slice a9 LT.length c9] 24)) := (Below.refl _ _).alloc (Nat.le_refl _) _
          have hbw5 : Below N w w5 := H4.out.trans (hb9.mono (by rw [← hN]; exact H4.out.size))
          have hbw5b := hbw5.trans (hb9b.mono (by rw [← hN]; exact hbw5.size))
          have hr9b := readsP_below hr9 hb9b
          obtain ⟨z0, z1, _, _⟩ := nod_cells hrow9
          have H5 := Lib.hid (And.intro hrow9 (And.intro hr9b hbw5b))
          clear hrow9 hb9b hbw5 hbw5b hr9 hr9b hb9
          go_wp2_with fail
          refine (HT.out.2.2.1 _ _ _ H5.out.2.1).mono ?_
          rintro e w6 ⟨rfl, hb6⟩
          obtain ⟨hmp, hmc⟩ := HT.out.2.2.2.2 het
          subst hmp hmc
          have hrow6 := rowV_below H5.out.1 hb6 (rowV_lt H5.out.1)
          have hr6 := readsP_below H5.out.2.1 hb6
          have hbw6 : Below N w w6 := H5.out.2.2.trans (hb6.mono (by rw [← hN]; exact H5.out.2.2.size))
          obtain ⟨v0, v1, _, _⟩ := nod_cells hrow6
          have H6 := Lib.hid (And.intro hr6 hbw6)
          clear hrow6 hr6 hbw6 hb6 z0 z1
          go_wp2_with fail
          refine (HT.out.2.2.2.1 _ _ _ H6.out.1).mono ?_
          rintro e w7 ⟨rfl, hb7⟩
          have H7 := Lib.hid (show Below N w w7 from H6.out.2.trans (hb7.mono (by rw [← hN]; exact H6.out.2.size)))
          clear hb7 v0 v1
          go_wp2_with fail
          refine (lives9_any _).mono ?_
          rintro e w9 ⟨rfl, hbl⟩
          have HL := Lib.hid (show Below N w w9 from H7.out.trans (hbl.mono (by rw [← hN]; exact H7.out.size)))
          clear hbl
          go_wp2_with fail
          go_ret
          exact ⟨rfl, by first | exact HL.out | (rw [hN]; exact HL.out)⟩
        · have de : (CE == 0) = false := by simpa using hce
          go_enter Try.func6, Try.ntmps6
          go_wp2_with fail
          refine H.out.1.mono ?_
          rintro e w1 ⟨rfl, hb1⟩
          have hrow1 := rowV_below H.out.2.2.1 hb1 (rowV_lt H.out.2.2.1)
          have hr1 := readsP_below H.out.2.2.2.1 hb1
          have hbw1 : Below N w w1 := H.out.2.1.trans (hb1.mono (by rw [← hN]; exact H.out.2.1.size))
          obtain ⟨p0, p1, _, _⟩ := nod_cells hrow1
          have H1 := Lib.hid (And.intro hrow1 (And.intro hr1 hbw1))
          clear hb1 hrow1 hr1 hbw1 r0 r1
          go_wp2_with fail
          refine (H.out.2.2.2.2.1 _ H1.out.2.1).mono ?_
          rintro e w2 ⟨rfl, hb2⟩
          have hrow2 := rowV_below H1.out.1 hb2 (rowV_lt H1.out.1)
          have hr2 := readsP_below H1.out.2.1 hb2
          have hbw2 : Below N w w2 := H1.out.2.2.trans (hb2.mono (by rw [← hN]; exact H1.out.2.2.size))
          obtain ⟨q0, q1, _, _⟩ := nod_cells hrow2
          have H2 := Lib.hid (And.intro hrow2 (And.intro hr2 hbw2))
          clear hb2 hrow2 hr2 hbw2 p0 p1
          go_wp2_with fail
          have H4 := Lib.hid H2.out.2.2
          clear q0 q1
          refine (HT.out.2.1 het _).mono ?_
          rintro e w5 ⟨a9, c9, rfl, hr9, hb9⟩
          have hrow9 := rowV_new w5 24 (nodC leafT a9 LT.length c9)
          have hb9b : Below w5.heap.size w5 (w5.alloc (.cells #[.bool leafT, .slice a9 LT.length c9] 24)) := (Below.refl _ _).alloc (Nat.le_refl _) _
          have hbw5 : Below N w w5 := H4.out.trans (hb9.mono (by rw [← hN]; exact H4.out.size))
          have hbw5b := hbw5.trans (hb9b.mono (by rw [← hN]; exact hbw5.size))
          have hr9b := readsP_below hr9 hb9b
          obtain ⟨z0, z1, _, _⟩ := nod_cells hrow9
          have H5 := Lib.hid (And.intro hrow9 (And.intro hr9b hbw5b))
          clear hrow9 hb9b hbw5 hbw5b hr9 hr9b hb9
          go_wp2_with fail
          refine (HT.out.2.2.1 _ _ _ H5.out.2.1).mono ?_
          rintro e w6 ⟨rfl, hb6⟩
          obtain ⟨hmp, hmc⟩ := HT.out.2.2.2.2 het
          subst hmp hmc
          have hrow6 := rowV_below H5.out.1 hb6 (rowV_lt H5.out.1)
          have hr6 := readsP_below H5.out.2.1 hb6
          have hbw6 : Below N w w6 := H5.out.2.2.trans (hb6.mono (by rw [← hN]; exact H5.out.2.2.size))
          obtain ⟨v0, v1, _, _⟩ := nod_cells hrow6
          have H6 := Lib.hid (And.intro hr6 hbw6)
          clear hrow6 hr6 hbw6 hb6 z0 z1
          go_wp2_with fail
          refine (HT.out.2.2.2.1 _ _ _ H6.out.1).mono ?_
          rintro e w7 ⟨rfl, hb7⟩
          have H7 := Lib.hid (show Below N w w7 from H6.out.2.trans (hb7.mono (by rw [← hN]; exact H6.out.2.size)))
          clear hb7 v0 v1
          go_wp2_with fail
          refine (lives9_any _).mono ?_
          rintro e w9 ⟨rfl, hbl⟩
          have HL := Lib.hid (show Below N w w9 from H7.out.trans (hbl.mono (by rw [← hN]; exact H7.out.size)))
          clear hbl
          go_wp2_with fail
          go_ret
          exact ⟨rfl, by first | exact HL.out | (rw [hN]; exact HL.out)⟩
      · have dt : (ET != 0) = true := by simpa using het
        by_cases hce : CE = 0
        · have de : (CE == 0) = true := by rw [hce]; rfl
          have dp : ((PP.size : Int) != 480) = false := by rw [HS.out.1 hce]; rfl
          go_enter Try.func6, Try.ntmps6
          go_wp2_with fail
          refine H.out.1.mono ?_
          rintro e w1 ⟨rfl, hb1⟩
          have hrow1 := rowV_below H.out.2.2.1 hb1 (rowV_lt H.out.2.2.1)
          have hr1 := readsP_below H.out.2.2.2.1 hb1
          have hbw1 : Below N w w1 := H.out.2.1.trans (hb1.mono (by rw [← hN]; exact H.out.2.1.size))
          obtain ⟨p0, p1, _, _⟩ := nod_cells hrow1
          have H1 := Lib.hid (And.intro hrow1 (And.intro hr1 hbw1))
          clear hb1 hrow1 hr1 hbw1 r0 r1
          go_wp2_with fail
          refine (H.out.2.2.2.2.1 _ H1.out.2.1).mono ?_
          rintro e w2 ⟨rfl, hb2⟩
          have hrow2 := rowV_below H1.out.1 hb2 (rowV_lt H1.out.1)
          have hr2 := readsP_below H1.out.2.1 hb2
          have hbw2 : Below N w w2 := H1.out.2.2.trans (hb2.mono (by rw [← hN]; exact H1.out.2.2.size))
          obtain ⟨q0, q1, _, _⟩ := nod_cells hrow2
          have H2 := Lib.hid (And.intro hrow2 (And.intro hr2 hbw2))
          clear hb2 hrow2 hr2 hbw2 p0 p1
          go_wp2_with fail
          refine (H.out.2.2.2.2.2 hce _).mono ?_
          rintro e w3 ⟨a7, c7, rfl, hr7, hb7⟩
          have hrow3 := rowV_alloc (rowV_below H2.out.1 hb7 (rowV_lt H2.out.1)) (.cells #[.bool leaf, .slice a7 L.length c7] 24)
          have hb7b : Below w3.heap.size w3 (w3.alloc (.cells #[.bool leaf, .slice a7 L.length c7] 24)) := (Below.refl _ _).alloc (Nat.le_refl _) _
          have hr3 := readsP_below (readsP_below H2.out.2.1 hb7) hb7b
          have hr7b := readsP_below hr7 hb7b
          have hrow7 := rowV_new w3 24 (nodC leaf a7 L.length c7)
          have hbw3 : Below N w w3 := H2.out.2.2.trans (hb7.mono (by rw [← hN]; exact H2.out.2.2.size))
          have hbw3b := hbw3.trans (hb7b.mono (by rw [← hN]; exact hbw3.size))
          obtain ⟨x0, x1, _, _⟩ := nod_cells hrow3
          obtain ⟨y0, y1, _, _⟩ := nod_cells hrow7
          have cSm := rsame9_any leaf leaf a7 a L L c7 c _ hr7b hr3 (by omega) (by omega)
          rw [decide_eq_true ⟨rfl, rfl⟩] at cSm
          have H3 := Lib.hid (And.intro cSm hbw3b)
          clear hrow3 hb7b hr3 hr7b hrow7 hbw3 hbw3b cSm hr7 hb7 q0 q1
          go_wp2_with fail
          refine H3.out.1.mono ?_
          rintro e w4 ⟨rfl, hb4⟩
          have H4 := Lib.hid (show Below N w w4 from H3.out.2.trans (hb4.mono (by rw [← hN]; exact H3.out.2.size)))
          clear hb4 x0 x1 y0 y1
          go_wp2_with fail
          refine (HT.out.1 het _).mono ?_
          rintro e w5 ⟨a9, c9, rfl, hb9⟩
          have hrow9 := rowV_new w5 24 (nodC false a9 0 c9)
          have hb9b : Below w5.heap.size w5 (w5.alloc (.cells #[.bool false, .slice a9 0 c9] 24)) := (Below.refl _ _).alloc (Nat.le_refl _) _
          have hbw5 : Below N w w5 := H4.out.trans (hb9.mono (by rw [← hN]; exact H4.out.size))
          have hbw5b := hbw5.trans (hb9b.mono (by rw [← hN]; exact hbw5.size))
          obtain ⟨z0, z1, _, _⟩ := nod_cells hrow9
          have cSm : Calls Try.prog 21 #[nodV false a9 0 c9, nodV false none 0 0] (w5.alloc (.cells #[.bool false, .slice a9 0 c9] 24)) _ := rsame9_any false false a9 none [] [] c9 0 _ (readsP_none _ _) (readsP_none _ _) (Nat.zero_le _) (Nat.zero_le _)
          rw [decide_eq_true ⟨rfl, rfl⟩] at cSm
          have H5 := Lib.hid (And.intro cSm hbw5b)
          clear hrow9 hb9b hbw5 hbw5b cSm hb9
          go_wp2_with fail
          refine H5.out.1.mono ?_
          rintro e w6 ⟨rfl, hb6⟩
          have H6 := Lib.hid (show Below N w w6 from H5.out.2.trans (hb6.mono (by rw [← hN]; exact H5.out.2.size)))
          clear hb6 z0 z1
          go_wp2_with fail
          refine (lives9_any _).mono ?_
          rintro e w9 ⟨rfl, hbl⟩
          have HL := Lib.hid (show Below N w w9 from H6.out.trans (hbl.mono (by rw [← hN]; exact H6.out.size)))
          clear hbl
          go_wp2_with fail
          go_ret
          exact ⟨rfl, by first | exact HL.out | (rw [hN]; exact HL.out)⟩
        · have de : (CE == 0) = false := by simpa using hce
          go_enter Try.func6, Try.ntmps6
          go_wp2_with fail
          refine H.out.1.mono ?_
          rintro e w1 ⟨rfl, hb1⟩
          have hrow1 := rowV_below H.out.2.2.1 hb1 (rowV_lt H.out.2.2.1)
          have hr1 := readsP_below H.out.2.2.2.1 hb1
          have hbw1 : Below N w w1 := H.out.2.1.trans (hb1.mono (by rw [← hN]; exact H.out.2.1.size))
          obtain ⟨p0, p1, _, _⟩ := nod_cells hrow1
          have H1 := Lib.hid (And.intro hrow1 (And.intro hr1 hbw1))
          clear hb1 hrow1 hr1 hbw1 r0 r1
          go_wp2_with fail
          refine (H.out.2.2.2.2.1 _ H1.out.2.1).mono ?_
          rintro e w2 ⟨rfl, hb2⟩
          have hrow2 := rowV_below H1.out.1 hb2 (rowV_lt H1.out.1)
          have hr2 := readsP_below H1.out.2.1 hb2
          have hbw2 : Below N w w2 := H1.out.2.2.trans (hb2.mono (by rw [← hN]; exact H1.out.2.2.size))
          obtain ⟨q0, q1, _, _⟩ := nod_cells hrow2
          have H2 := Lib.hid (And.intro hrow2 (And.intro hr2 hbw2))
          clear hb2 hrow2 hr2 hbw2 p0 p1
          go_wp2_with fail
          have H4 := Lib.hid H2.out.2.2
          clear q0 q1
          refine (HT.out.1 het _).mono ?_
          rintro e w5 ⟨a9, c9, rfl, hb9⟩
          have hrow9 := rowV_new w5 24 (nodC false a9 0 c9)
          have hb9b : Below w5.heap.size w5 (w5.alloc (.cells #[.bool false, .slice a9 0 c9] 24)) := (Below.refl _ _).alloc (Nat.le_refl _) _
          have hbw5 : Below N w w5 := H4.out.trans (hb9.mono (by rw [← hN]; exact H4.out.size))
          have hbw5b := hbw5.trans (hb9b.mono (by rw [← hN]; exact hbw5.size))
          obtain ⟨z0, z1, _, _⟩ := nod_cells hrow9
          have cSm : Calls Try.prog 21 #[nodV false a9 0 c9, nodV false none 0 0] (w5.alloc (.cells #[.bool false, .slice a9 0 c9] 24)) _ := rsame9_any false false a9 none [] [] c9 0 _ (readsP_none _ _) (readsP_none _ _) (Nat.zero_le _) (Nat.zero_le _)
          rw [decide_eq_true ⟨rfl, rfl⟩] at cSm
          have H5 := Lib.hid (And.intro cSm hbw5b)
          clear hrow9 hb9b hbw5 hbw5b cSm hb9
          go_wp2_with fail
          refine H5.out.1.mono ?_
          rintro e w6 ⟨rfl, hb6⟩
          have H6 := Lib.hid (show Below N w w6 from H5.out.2.trans (hb6.mono (by rw [← hN]; exact H5.out.2.size)))
          clear hb6 z0 z1
          go_wp2_with fail
          refine (lives9_any _).mono ?_
          rintro e w9 ⟨rfl, hbl⟩
          have HL := Lib.hid (show Below N w w9 from H6.out.trans (hbl.mono (by rw [← hN]; exact H6.out.size)))
          clear hbl
          go_wp2_with fail
          go_ret
          exact ⟨rfl, by first | exact HL.out | (rw [hN]; exact HL.out)⟩

  · rw [decide_eq_false hs] at cS
    have H := Lib.hid (And.intro cS hb)
    clear hr hb hrow hr0 cS hs hz
    go_enter Try.func6, Try.ntmps6
    go_wp2_with fail
    refine H.out.1.mono ?_
    rintro e w1 ⟨rfl, hb1⟩
    have H1 := Lib.hid (H.out.2.trans (hb1.mono H.out.2.size))
    clear hb1
    go_wp2_with fail
    refine (lives9_any _).mono ?_
    rintro e w2 ⟨rfl, hb2⟩
    have H2 := Lib.hid (H1.out.trans (hb2.mono H1.out.size))
    clear hb2
    go_wp2_with fail
    go_ret
    exact ⟨rfl, H2.out⟩
end Go.Proofs.Ytjlglfhnnipjaaa
