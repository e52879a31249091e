/-
  Layer 9: the law NodePuts, walked.
-/
import Derived.Test.YtjlglfhnnipjaaaNodLaws
import Derived.Test.YtjlglfhnnipjaaaNodOpen
import Derived.Test.YtjlglfhnnipjaaaNodQuiet
namespace Go.Proofs.Ytjlglfhnnipjaaa
open Go.RowKit
set_option maxRecDepth 100000 in
set_option maxHeartbeats 12800000 in
theorem NodePuts_walk (leaf : Bool) (a : Option Addr) (L : List (ByteArray × ByteArray)) (c : Nat) (key : ByteArray) (hm : L.length ≤ maxLen) (hz : ∀ x ∈ L, x.1.size ≤ maxLen ∧ x.2.size ≤ maxLen) (_hc : L.length ≤ c) (_hk : key.size ≤ maxLen) (w : World) (hr : ReadsP w a L) :
    Calls Try.prog 3 #[nodV leaf a L.length c, .string key] w fun e w' => e = .returned (.bool true) ∧ Below w.heap.size w w' := by
  have hb : Below w.heap.size w (w.alloc (.cells #[.bool leaf, .slice a L.length c] 24)) := (Below.refl w.heap.size w).alloc (Nat.le_refl _) _
  have hrow := rowV_new w 24 (nodC leaf a L.length c)
  obtain ⟨r0, r1, _, _⟩ := nod_cells hrow
  have hr0 := readsP_below hr hb
  have cS : Calls Try.prog 8 #[nodV leaf a L.length c] (w.alloc (.cells #[.bool leaf, .slice a L.length c] 24)) fun e w' => e = .returned (.bool (decide (Nd.small L))) ∧ Below (w.alloc (.cells #[.bool leaf, .slice a L.length c] 24)).heap.size (w.alloc (.cells #[.bool leaf, .slice a L.length c] 24)) w' :=
    small9_any leaf a L c _ hr0 hm hz
  by_cases hs : Nd.small L
  · rw [decide_eq_true hs] at cS
    by_cases hk3 : 300 < key.size
    · have d3 : decide (300 < (key.size : Int)) = true := decide_eq_true (by omega)
      have H := Lib.hid (And.intro cS hb)
      clear hr hb hrow hr0 cS hs hz
      go_enter Try.func3, Try.ntmps3
      go_wp2_with fail
      refine H.out.1.mono ?_
      rintro e w1 ⟨rfl, hb1⟩
      have H1 := Lib.hid (H.out.2.trans (hb1.mono H.out.2.size))
      clear hb1
      go_wp2_with fail
      refine (lives9_any _).mono ?_
      rintro e w2 ⟨rfl, hb2⟩
      have H2 := Lib.hid (H1.out.trans (hb2.mono H1.out.size))
      clear hb2
      go_wp2_with fail
      go_ret
      exact ⟨rfl, H2.out⟩
    · have d3 : decide (300 < (key.size : Int)) = false := decide_eq_false (by omega)
      obtain ⟨hl60, hsz⟩ := hs
      have hS : ∀ x ∈ L, x.1.size ≤ 1000 ∧ x.2.size ≤ 1000 := fun x hx => by have := hsz x hx; omega
      have cP := fun wx (hx : ReadsP wx a L) => put9_any leaf a L c wx hx (by omega) hS
      have cQ := fun wx (hx : ReadsP wx a L) => rput9_any leaf a L c wx hx (by omega) hS
      have cC := fun wx (hx : ReadsP wx a L) => check9_any leaf a L c wx hx (by omega) hS
      have cZ := fun wx (hx : ReadsP wx a L) => size9_any leaf a L c wx hx (by omega) hS
      have cY := fun wx (hx : ReadsP wx a L) => rsize9_any leaf a L c wx hx (by omega) hS
      have cE := fun wx (hx : ReadsP wx a L) => least9_any leaf a L c wx hx (by omega)
      have cR := fun wx (hx : ReadsP wx a L) => rright9_any leaf a L c wx hx (by omega)
      have cF := fun wx (hx : ReadsP wx a L) (h0 : 0 < L.length) (h1 : Nd.rising L) => find9_any leaf a L c key wx hx (by omega) h0 h1
      have cG : ∀ wx (hx : ReadsP wx a L) (h1 : Nd.rising L), Calls Try.prog 18 #[nodV leaf a L.length c, .string key] wx fun e w' => e = .returned (.tuple #[.int .i64 (Nd.findI L key), .bool (Nd.foundB L key)]) ∧ Below wx.heap.size wx w' := fun wx hx h1 => by
        have := rfind9_any leaf a L c key wx hx (by omega)
        rwa [Nd.lastK_find h1, Nd.lastB_found h1] at this
      have hE := Nd.check_cases ⟨leaf, L⟩
      have hle0 : L = [] → (L.getD 0 (⟨#[]⟩, ⟨#[]⟩)).1 = ⟨#[]⟩ := fun h => by subst h; rfl
      have hle1 : ∀ h : 0 < L.length, (L.getD 0 (⟨#[]⟩, ⟨#[]⟩)).1 = L[0].1 := fun h => by rw [List.getD_eq_getElem?_getD, List.getElem?_eq_getElem h]; rfl
      have hlez : (L.getD 0 (⟨#[]⟩, ⟨#[]⟩)).1.size ≤ 1000 := by
        rcases Nat.eq_zero_or_pos L.length with h | h
        · rw [hle0 (List.eq_nil_of_length_eq_zero h)]; exact Nat.zero_le _
        · rw [hle1 h]; exact (hS _ (List.getElem_mem h)).1
      generalize (L.getD 0 (⟨#[]⟩, ⟨#[]⟩)).1 = LE at *
      generalize Nd.put ⟨leaf, L⟩ = PP at *
      generalize Nd.checkE ⟨leaf, L⟩ = CE at *
      generalize (Nd.text ⟨leaf, L⟩).size = SZ at *
      generalize Nd.findI L key = FI at *
      generalize Nd.foundB L key = FB at *
      have H := Lib.hid (And.intro cS (And.intro hb (And.intro hrow (And.intro hr0 (And.intro cP cQ)))))
      have HC0 := Lib.hid (And.intro cC (And.intro cZ (And.intro cY cE)))
      have HR := Lib.hid (And.intro cR (And.intro cF cG))
      have hri : Nd.right ⟨leaf, L⟩ → 0 < L.length ∧ Nd.rising L := fun h => ⟨List.length_pos_iff.2 h.1, h.2.2⟩
      have HRI := Lib.hid hri
      clear hr hb hrow hr0 cS hz cP cQ cC cZ cY cE cR cF cG hE hS hsz hri
      generalize hN : w.heap.size = N at *
      have hLs : L.length ≤ 60 := hl60
      by_cases h0 : 0 < L.length
      · obtain ⟨ab, off, rfl, _, _⟩ := H.out.2.2.2.1 0 h0
        have d0 : decide (0 < (L.length : Int)) = true := decide_eq_true (by omega)
        have hle := hle1 h0
        have HLE := Lib.hid hle
        clear hle hle0 hle1
        by_cases hri : Nd.right ⟨leaf, L⟩
        · go_enter Try.func3, Try.ntmps3
          go_wp2_with fail
          refine H.out.1.mono ?_
          rintro e w1 ⟨rfl, hb1⟩
          have hrow1 := rowV_below H.out.2.2.1 hb1 (rowV_lt H.out.2.2.1)
          have hr1 := readsP_below H.out.2.2.2.1 hb1
          have hbw1 : Below N w w1 := H.out.2.1.trans (hb1.mono (by rw [← hN]; exact H.out.2.1.size))
          obtain ⟨p0, p1, _, _⟩ := nod_cells hrow1
          have H1 := Lib.hid (And.intro hrow1 (And.intro hr1 hbw1))
          clear hb1 hrow1 hr1 hbw1 r0 r1
          go_wp2_with fail
          refine (H.out.2.2.2.2.1 _ H1.out.2.1).mono ?_
          rintro e w2 ⟨rfl, hb2⟩
          have hrow2 := rowV_below H1.out.1 hb2 (rowV_lt H1.out.1)
          have hr2 := readsP_below H1.out.2.1 hb2
          have hbw2 : Below N w w2 := H1.out.2.2.trans (hb2.mono (by rw [← hN]; exact H1.out.2.2.size))
          obtain ⟨q0, q1, _, _⟩ := nod_cells hrow2
          have H2 := Lib.hid (And.intro hrow2 (And.intro hr2 hbw2))
          clear hb2 hrow2 hr2 hbw2 p0 p1
          go_wp2_with fail
          refine (H.out.2.2.2.2.2 _ H2.out.2.1).mono ?_
          rintro e w4 ⟨rfl, hb4⟩
          have hrow4 := rowV_below H2.out.1 hb4 (rowV_lt H2.out.1)
          have hr4 := readsP_below H2.out.2.1 hb4
          have hbw4 : Below N w w4 := H2.out.2.2.trans (hb4.mono (by rw [← hN]; exact H2.out.2.2.size))
          obtain ⟨n0, n1, _, _⟩ := nod_cells hrow4
          have HC := Lib.hid (And.intro (fun wx (hx : Hid (Below w4.heap.size w4 wx)) => HC0.out.1 wx (readsP_below hr4 hx.out)) (And.intro (fun wx (hx : Hid (Below w4.heap.size w4 wx)) => HC0.out.2.1 wx (readsP_below hr4 hx.out)) (And.intro (fun wx (hx : Hid (Below w4.heap.size w4 wx)) => HC0.out.2.2.1 wx (readsP_below hr4 hx.out)) (fun wx (hx : Hid (Below w4.heap.size w4 wx)) => HC0.out.2.2.2 wx (readsP_below hr4 hx.out)))))
          have H4 := Lib.hid (And.intro hrow4 (And.intro hr4 hbw4))
          have e0 : w4.cell? ⟨ab, off, none⟩ = some (.string LE) := by
            obtain ⟨b', o', e, g0, _⟩ := hr4 0 h0
            cases e
            rw [HLE.out]; simpa using g0
          clear hb4 hrow4 hr4 hbw4 q0 q1
          go_wp2_with fail
          clear e0
          refine wp_region_quiet_tail (C := fun wx => (wx.cell? ⟨N, 0, none⟩ = some (.bool leaf) ∧ wx.cell? ⟨N, 1, none⟩ = some (.slice (some ⟨ab, off, none⟩) L.length c)) ∧ Hid (Below w4.heap.size w4 wx)) 26 (by kernel_rfl) (by kernel_rfl) ⟨⟨n0, n1⟩, Lib.hid (Below.refl w4.heap.size w4).drew⟩ ?_
          simp only [List.take_succ_cons, List.take_zero, List.drop_succ_cons, List.drop_zero]
          go_big_quiet_want
          go_big_quiet_op
          go_big_quiet_on
          go_big_quiet_want
          go_big_quiet_op
          go_big_quiet_on
          go_big_quiet_want
          refine ⟨.bool false, fun wx hSx => ?_, ?_⟩
          · obtain ⟨⟨k0, k1⟩, -⟩ := hSx
            go_simp
            try first
              | with_reducible rfl
              | rw [if_neg (by omega)]
          simp only [Act.put, List.setIfInBounds_toArray, List.set_cons_zero, List.set_cons_succ]
          go_big_quiet_on
          go_big_quiet_want
          go_big_quiet_op
          go_big_quiet_on
          go_big_quiet_want
          go_big_quiet_op
          go_big_quiet_on
          go_big_quiet_want
          go_big_quiet_op
          go_big_quiet_on
          go_big_quiet_want
          refine ⟨.bool false, fun wx hSx => ?_, ?_⟩
          · obtain ⟨⟨k0, k1⟩, -⟩ := hSx
            go_simp
            try first
              | with_reducible rfl
              | rw [if_neg (by omega)]
          simp only [Act.put, List.setIfInBounds_toArray, List.set_cons_zero, List.set_cons_succ]
          go_big_quiet_on
          go_big_quiet_want
          refine ⟨.bool false, fun wx hSx => ?_, ?_⟩
          · obtain ⟨⟨k0, k1⟩, -⟩ := hSx
            go_simp
            try first
              | with_reducible rfl
              | rw [if_neg (by omega)]
          simp only [Act.put, List.setIfInBounds_toArray, List.set_cons_zero, List.set_cons_succ]
          go_big_quiet_on
          go_big_quiet_want
          go_big_quiet_op
          go_big_quiet_on
          go_big_quiet_want
          refine ⟨nodV leaf (some ⟨ab, off, none⟩) L.length c, fun wx hSx => ?_, ?_⟩
          · obtain ⟨⟨k0, k1⟩, -⟩ := hSx
            go_simp
            try first
              | with_reducible rfl
              | rw [if_neg (by omega)]
          simp only [Act.put, List.setIfInBounds_toArray, List.set_cons_zero, List.set_cons_succ]
          go_big_quiet_on
          go_big_quiet_want
          refine ⟨.int .i64 CE, fun wx hSx => ?_, ?_⟩
          · exact quietAt_call 12 #[nodV leaf (some ⟨ab, off, none⟩) L.length c] (by go_simp) ((HC.out.1 wx hSx.2.out).mono fun e w' hh => ⟨hh.1, ⟨(hh.2.cell (p := ⟨N, 0, none⟩) (World.block_lt_of_cell? _ _ hSx.1.1)).trans hSx.1.1, (hh.2.cell (p := ⟨N, 1, none⟩) (World.block_lt_of_cell? _ _ hSx.1.2)).trans hSx.1.2⟩, Lib.hid (hSx.2.out.trans (hh.2.mono hSx.2.out.size))⟩)
          simp only [Act.put, List.setIfInBounds_toArray, List.set_cons_zero, List.set_cons_succ]
          go_big_quiet_on
          go_big_quiet_want
          go_big_quiet_op
          go_big_quiet_on
          go_big_quiet_want
          refine ⟨.bool false, fun wx hSx => ?_, ?_⟩
          · obtain ⟨⟨k0, k1⟩, -⟩ := hSx
            go_simp
            try first
              | with_reducible rfl
              | rw [if_neg (by omega)]
          simp only [Act.put, List.setIfInBounds_toArray, List.set_cons_zero, List.set_cons_succ]
          go_big_quiet_on
          go_big_quiet_want
          refine ⟨.bool false, fun wx hSx => ?_, ?_⟩
          · obtain ⟨⟨k0, k1⟩, -⟩ := hSx
            go_simp
            try first
              | with_reducible rfl
              | rw [if_neg (by omega)]
          simp only [Act.put, List.setIfInBounds_toArray, List.set_cons_zero, List.set_cons_succ]
          go_big_quiet_on
          go_big_quiet_want
          go_big_quiet_op
          go_big_quiet_on
          go_big_quiet_want
          refine ⟨nodV leaf (some ⟨ab, off, none⟩) L.length c, fun wx hSx => ?_, ?_⟩
          · obtain ⟨⟨k0, k1⟩, -⟩ := hSx
            go_simp
            try first
              | with_reducible rfl
              | rw [if_neg (by omega)]
          simp only [Act.put, List.setIfInBounds_toArray, List.set_cons_zero, List.set_cons_succ]
          go_big_quiet_on
          go_big_quiet_want
          refine ⟨.int .i64 SZ, fun wx hSx => ?_, ?_⟩
          · exact quietAt_call 13 #[nodV leaf (some ⟨ab, off, none⟩) L.length c] (by go_simp) ((HC.out.2.1 wx hSx.2.out).mono fun e w' hh => ⟨hh.1, ⟨(hh.2.cell (p := ⟨N, 0, none⟩) (World.block_lt_of_cell? _ _ hSx.1.1)).trans hSx.1.1, (hh.2.cell (p := ⟨N, 1, none⟩) (World.block_lt_of_cell? _ _ hSx.1.2)).trans hSx.1.2⟩, Lib.hid (hSx.2.out.trans (hh.2.mono hSx.2.out.size))⟩)
          simp only [Act.put, List.setIfInBounds_toArray, List.set_cons_zero, List.set_cons_succ]
          go_big_quiet_on
          go_big_quiet_want
          refine ⟨nodV leaf (some ⟨ab, off, none⟩) L.length c, fun wx hSx => ?_, ?_⟩
          · obtain ⟨⟨k0, k1⟩, -⟩ := hSx
            go_simp
            try first
              | with_reducible rfl
              | rw [if_neg (by omega)]
          simp only [Act.put, List.setIfInBounds_toArray, List.set_cons_zero, List.set_cons_succ]
          go_big_quiet_on
          go_big_quiet_want
          refine ⟨.int .i64 SZ, fun wx hSx => ?_, ?_⟩
          · exact quietAt_call 14 #[nodV leaf (some ⟨ab, off, none⟩) L.length c] (by go_simp) ((HC.out.2.2.1 wx hSx.2.out).mono fun e w' hh => ⟨hh.1, ⟨(hh.2.cell (p := ⟨N, 0, none⟩) (World.block_lt_of_cell? _ _ hSx.1.1)).trans hSx.1.1, (hh.2.cell (p := ⟨N, 1, none⟩) (World.block_lt_of_cell? _ _ hSx.1.2)).trans hSx.1.2⟩, Lib.hid (hSx.2.out.trans (hh.2.mono hSx.2.out.size))⟩)
          simp only [Act.put, List.setIfInBounds_toArray, List.set_cons_zero, List.set_cons_succ]
          go_big_quiet_on
          go_big_quiet_want
          refine ⟨.bool false, fun wx hSx => ?_, ?_⟩
          · obtain ⟨⟨k0, k1⟩, -⟩ := hSx
            go_simp
            try first
              | with_reducible rfl
              | rw [if_neg (by omega)]
          simp only [Act.put, List.setIfInBounds_toArray, List.set_cons_zero, List.set_cons_succ]
          go_big_quiet_on
          go_big_quiet_want
          refine ⟨.bool false, fun wx hSx => ?_, ?_⟩
          · obtain ⟨⟨k0, k1⟩, -⟩ := hSx
            go_simp
            try first
              | with_reducible rfl
              | rw [if_neg (by omega)]
          simp only [Act.put, List.setIfInBounds_toArray, List.set_cons_zero, List.set_cons_succ]
          go_big_quiet_on
          go_big_quiet_want
          go_big_quiet_op
          go_big_quiet_on
          go_big_quiet_want
          refine ⟨nodV leaf (some ⟨ab, off, none⟩) L.length c, fun wx hSx => ?_, ?_⟩
          · obtain ⟨⟨k0, k1⟩, -⟩ := hSx
            go_simp
            try first
              | with_reducible rfl
              | rw [if_neg (by omega)]
          simp only [Act.put, List.setIfInBounds_toArray, List.set_cons_zero, List.set_cons_succ]
          go_big_quiet_on
          go_big_quiet_want
          refine ⟨.string LE, fun wx hSx => ?_, ?_⟩
          · exact quietAt_call 15 #[nodV leaf (some ⟨ab, off, none⟩) L.length c] (by go_simp) ((HC.out.2.2.2 wx hSx.2.out).mono fun e w' hh => ⟨hh.1, ⟨(hh.2.cell (p := ⟨N, 0, none⟩) (World.block_lt_of_cell? _ _ hSx.1.1)).trans hSx.1.1, (hh.2.cell (p := ⟨N, 1, none⟩) (World.block_lt_of_cell? _ _ hSx.1.2)).trans hSx.1.2⟩, Lib.hid (hSx.2.out.trans (hh.2.mono hSx.2.out.size))⟩)
          simp only [Act.put, List.setIfInBounds_toArray, List.set_cons_zero, List.set_cons_succ]
          go_big_quiet_on
          go_big_quiet_want
          go_big_quiet_op
          go_big_quiet_on
          go_big_quiet_want
          refine ⟨.bool false, fun wx hSx => ?_, ?_⟩
          · obtain ⟨⟨k0, k1⟩, -⟩ := hSx
            go_simp
            try first
              | with_reducible rfl
              | rw [if_neg (by omega)]
          simp only [Act.put, List.setIfInBounds_toArray, List.set_cons_zero, List.set_cons_succ]
          go_big_quiet_on
          refine wpQuiet_nil ?_
          rintro w5 ⟨-, hb5⟩
          have hrow5 := rowV_below H4.out.1 hb5.out (rowV_lt H4.out.1)
          have hr5 := readsP_below H4.out.2.1 hb5.out
          have hbw5 : Below N w w5 := H4.out.2.2.trans (hb5.out.mono (by rw [← hN]; exact H4.out.2.2.size))
          obtain ⟨m0, m1, _, _⟩ := nod_cells hrow5
          have cRR := HR.out.1 w5 hr5
          rw [decide_eq_true hri] at cRR
          have H5 := Lib.hid (And.intro hrow5 (And.intro hr5 (And.intro hbw5 cRR)))
          clear hrow5 hr5 hbw5 cRR n0 n1 hb5
          go_wp2_with fail
          refine H5.out.2.2.2.mono ?_
          rintro e w6 ⟨rfl, hb6⟩
          have hbw6 : Below N w w6 := H5.out.2.2.1.trans (hb6.mono (by rw [← hN]; exact H5.out.2.2.1.size))
          have hrow6 := rowV_below H5.out.1 hb6 (rowV_lt H5.out.1)
          have hr6 := readsP_below H5.out.2.1 hb6
          obtain ⟨x0, x1, _, _⟩ := nod_cells hrow6
          have H6 := Lib.hid (And.intro hrow6 (And.intro hr6 hbw6))
          clear hrow6 hr6 hbw6 hb6 m0 m1
          go_wp2_with fail
          refine (HR.out.2.1 _ H6.out.2.1 (HRI.out hri).1 (HRI.out hri).2).mono ?_
          rintro e w7 ⟨rfl, hb7⟩
          have hrow7 := rowV_below H6.out.1 hb7 (rowV_lt H6.out.1)
          have hr7 := readsP_below H6.out.2.1 hb7
          have hbw7 : Below N w w7 := H6.out.2.2.trans (hb7.mono (by rw [← hN]; exact H6.out.2.2.size))
          obtain ⟨y0, y1, _, _⟩ := nod_cells hrow7
          have H7 := Lib.hid (And.intro hr7 hbw7)
          clear hrow7 hr7 hbw7 hb7 x0 x1
          go_wp2_with fail
          refine (HR.out.2.2 _ H7.out.1 (HRI.out hri).2).mono ?_
          rintro e w8 ⟨rfl, hb8⟩
          have H8 := Lib.hid (show Below N w w8 from H7.out.2.trans (hb8.mono (by rw [← hN]; exact H7.out.2.size)))
          clear hb8 y0 y1
          go_wp2_with fail
          refine (lives9_any _).mono ?_
          rintro e w9 ⟨rfl, hbl⟩
          have HL := Lib.hid (show Below N w w9 from H8.out.trans (hbl.mono (by rw [← hN]; exact H8.out.size)))
          clear hbl
          go_wp2_with fail
          go_ret
          exact ⟨rfl, by first | exact HL.out | (rw [hN]; exact HL.out)⟩

        · go_enter Try.func3, Try.ntmps3
          go_wp2_with fail
          refine H.out.1.mono ?_
          rintro e w1 ⟨rfl, hb1⟩
          have hrow1 := rowV_below H.out.2.2.1 hb1 (rowV_lt H.out.2.2.1)
          have hr1 := readsP_below H.out.2.2.2.1 hb1
          have hbw1 : Below N w w1 := H.out.2.1.trans (hb1.mono (by rw [← hN]; exact H.out.2.1.size))
          obtain ⟨p0, p1, _, _⟩ := nod_cells hrow1
          have H1 := Lib.hid (And.intro hrow1 (And.intro hr1 hbw1))
          clear hb1 hrow1 hr1 hbw1 r0 r1
          go_wp2_with fail
          refine (H.out.2.2.2.2.1 _ H1.out.2.1).mono ?_
          rintro e w2 ⟨rfl, hb2⟩
          have hrow2 := rowV_below H1.out.1 hb2 (rowV_lt H1.out.1)
          have hr2 := readsP_below H1.out.2.1 hb2
          have hbw2 : Below N w w2 := H1.out.2.2.trans (hb2.mono (by rw [← hN]; exact H1.out.2.2.size))
          obtain ⟨q0, q1, _, _⟩ := nod_cells hrow2
          have H2 := Lib.hid (And.intro hrow2 (And.intro hr2 hbw2))
          clear hb2 hrow2 hr2 hbw2 p0 p1
          go_wp2_with fail
          refine (H.out.2.2.2.2.2 _ H2.out.2.1).mono ?_
          rintro e w4 ⟨rfl, hb4⟩
          have hrow4 := rowV_below H2.out.1 hb4 (rowV_lt H2.out.1)
          have hr4 := readsP_below H2.out.2.1 hb4
          have hbw4 : Below N w w4 := H2.out.2.2.trans (hb4.mono (by rw [← hN]; exact H2.out.2.2.size))
          obtain ⟨n0, n1, _, _⟩ := nod_cells hrow4
          have HC := Lib.hid (And.intro (fun wx (hx : Hid (Below w4.heap.size w4 wx)) => HC0.out.1 wx (readsP_below hr4 hx.out)) (And.intro (fun wx (hx : Hid (Below w4.heap.size w4 wx)) => HC0.out.2.1 wx (readsP_below hr4 hx.out)) (And.intro (fun wx (hx : Hid (Below w4.heap.size w4 wx)) => HC0.out.2.2.1 wx (readsP_below hr4 hx.out)) (fun wx (hx : Hid (Below w4.heap.size w4 wx)) => HC0.out.2.2.2 wx (readsP_below hr4 hx.out)))))
          have H4 := Lib.hid (And.intro hrow4 (And.intro hr4 hbw4))
          have e0 : w4.cell? ⟨ab, off, none⟩ = some (.string LE) := by
            obtain ⟨b', o', e, g0, _⟩ := hr4 0 h0
            cases e
            rw [HLE.out]; simpa using g0
          clear hb4 hrow4 hr4 hbw4 q0 q1
          go_wp2_with fail
          clear e0
          refine wp_region_quiet_tail (C := fun wx => (wx.cell? ⟨N, 0, none⟩ = some (.bool leaf) ∧ wx.cell? ⟨N, 1, none⟩ = some (.slice (some ⟨ab, off, none⟩) L.length c)) ∧ Hid (Below w4.heap.size w4 wx)) 26 (by kernel_rfl) (by kernel_rfl) ⟨⟨n0, n1⟩, Lib.hid (Below.refl w4.heap.size w4).drew⟩ ?_
          simp only [List.take_succ_cons, List.take_zero, List.drop_succ_cons, List.drop_zero]
          go_big_quiet_want
          go_big_quiet_op
          go_big_quiet_on
          go_big_quiet_want
          go_big_quiet_op
          go_big_quiet_on
          go_big_quiet_want
          refine ⟨.bool false, fun wx hSx => ?_, ?_⟩
          · obtain ⟨⟨k0, k1⟩, -⟩ := hSx
            go_simp
            try first
              | with_reducible rfl
              | rw [if_neg (by omega)]
          simp only [Act.put, List.setIfInBounds_toArray, List.set_cons_zero, List.set_cons_succ]
          go_big_quiet_on
          go_big_quiet_want
          go_big_quiet_op
          go_big_quiet_on
          go_big_quiet_want
          go_big_quiet_op
          go_big_quiet_on
          go_big_quiet_want
          go_big_quiet_op
          go_big_quiet_on
          go_big_quiet_want
          refine ⟨.bool false, fun wx hSx => ?_, ?_⟩
          · obtain ⟨⟨k0, k1⟩, -⟩ := hSx
            go_simp
            try first
              | with_reducible rfl
              | rw [if_neg (by omega)]
          simp only [Act.put, List.setIfInBounds_toArray, List.set_cons_zero, List.set_cons_succ]
          go_big_quiet_on
          go_big_quiet_want
          refine ⟨.bool false, fun wx hSx => ?_, ?_⟩
          · obtain ⟨⟨k0, k1⟩, -⟩ := hSx
            go_simp
            try first
              | with_reducible rfl
              | rw [if_neg (by omega)]
          simp only [Act.put, List.setIfInBounds_toArray, List.set_cons_zero, List.set_cons_succ]
          go_big_quiet_on
          go_big_quiet_want
          go_big_quiet_op
          go_big_quiet_on
          go_big_quiet_want
          refine ⟨nodV leaf (some ⟨ab, off, none⟩) L.length c, fun wx hSx => ?_, ?_⟩
          · obtain ⟨⟨k0, k1⟩, -⟩ := hSx
            go_simp
            try first
              | with_reducible rfl
              | rw [if_neg (by omega)]
          simp only [Act.put, List.setIfInBounds_toArray, List.set_cons_zero, List.set_cons_succ]
          go_big_quiet_on
          go_big_quiet_want
          refine ⟨.int .i64 CE, fun wx hSx => ?_, ?_⟩
          · exact quietAt_call 12 #[nodV leaf (some ⟨ab, off, none⟩) L.length c] (by go_simp) ((HC.out.1 wx hSx.2.out).mono fun e w' hh => ⟨hh.1, ⟨(hh.2.cell (p := ⟨N, 0, none⟩) (World.block_lt_of_cell? _ _ hSx.1.1)).trans hSx.1.1, (hh.2.cell (p := ⟨N, 1, none⟩) (World.block_lt_of_cell? _ _ hSx.1.2)).trans hSx.1.2⟩, Lib.hid (hSx.2.out.trans (hh.2.mono hSx.2.out.size))⟩)
          simp only [Act.put, List.setIfInBounds_toArray, List.set_cons_zero, List.set_cons_succ]
          go_big_quiet_on
          go_big_quiet_want
          go_big_quiet_op
          go_big_quiet_on
          go_big_quiet_want
          refine ⟨.bool false, fun wx hSx => ?_, ?_⟩
          · obtain ⟨⟨k0, k1⟩, -⟩ := hSx
            go_simp
            try first
              | with_reducible rfl
              | rw [if_neg (by omega)]
          simp only [Act.put, List.setIfInBounds_toArray, List.set_cons_zero, List.set_cons_succ]
          go_big_quiet_on
          go_big_quiet_want
          refine ⟨.bool false, fun wx hSx => ?_, ?_⟩
          · obtain ⟨⟨k0, k1⟩, -⟩ := hSx
            go_simp
            try first
              | with_reducible rfl
              | rw [if_neg (by omega)]
          simp only [Act.put, List.setIfInBounds_toArray, List.set_cons_zero, List.set_cons_succ]
          go_big_quiet_on
          go_big_quiet_want
          go_big_quiet_op
          go_big_quiet_on
          go_big_quiet_want
          refine ⟨nodV leaf (some ⟨ab, off, none⟩) L.length c, fun wx hSx => ?_, ?_⟩
          · obtain ⟨⟨k0, k1⟩, -⟩ := hSx
            go_simp
            try first
              | with_reducible rfl
              | rw [if_neg (by omega)]
          simp only [Act.put, List.setIfInBounds_toArray, List.set_cons_zero, List.set_cons_succ]
          go_big_quiet_on
          go_big_quiet_want
          refine ⟨.int .i64 SZ, fun wx hSx => ?_, ?_⟩
          · exact quietAt_call 13 #[nodV leaf (some ⟨ab, off, none⟩) L.length c] (by go_simp) ((HC.out.2.1 wx hSx.2.out).mono fun e w' hh => ⟨hh.1, ⟨(hh.2.cell (p := ⟨N, 0, none⟩) (World.block_lt_of_cell? _ _ hSx.1.1)).trans hSx.1.1, (hh.2.cell (p := ⟨N, 1, none⟩) (World.block_lt_of_cell? _ _ hSx.1.2)).trans hSx.1.2⟩, Lib.hid (hSx.2.out.trans (hh.2.mono hSx.2.out.size))⟩)
          simp only [Act.put, List.setIfInBounds_toArray, List.set_cons_zero, List.set_cons_succ]
          go_big_quiet_on
          go_big_quiet_want
          refine ⟨nodV leaf (some ⟨ab, off, none⟩) L.length c, fun wx hSx => ?_, ?_⟩
          · obtain ⟨⟨k0, k1⟩, -⟩ := hSx
            go_simp
            try first
              | with_reducible rfl
              | rw [if_neg (by omega)]
          simp only [Act.put, List.setIfInBounds_toArray, List.set_cons_zero, List.set_cons_succ]
          go_big_quiet_on
          go_big_quiet_want
          refine ⟨.int .i64 SZ, fun wx hSx => ?_, ?_⟩
          · exact quietAt_call 14 #[nodV leaf (some ⟨ab, off, none⟩) L.length c] (by go_simp) ((HC.out.2.2.1 wx hSx.2.out).mono fun e w' hh => ⟨hh.1, ⟨(hh.2.cell (p := ⟨N, 0, none⟩) (World.block_lt_of_cell? _ _ hSx.1.1)).trans hSx.1.1, (hh.2.cell (p := ⟨N, 1, none⟩) (World.block_lt_of_cell? _ _ hSx.1.2)).trans hSx.1.2⟩, Lib.hid (hSx.2.out.trans (hh.2.mono hSx.2.out.size))⟩)
          simp only [Act.put, List.setIfInBounds_toArray, List.set_cons_zero, List.set_cons_succ]
          go_big_quiet_on
          go_big_quiet_want
          refine ⟨.bool false, fun wx hSx => ?_, ?_⟩
          · obtain ⟨⟨k0, k1⟩, -⟩ := hSx
            go_simp
            try first
              | with_reducible rfl
              | rw [if_neg (by omega)]
          simp only [Act.put, List.setIfInBounds_toArray, List.set_cons_zero, List.set_cons_succ]
          go_big_quiet_on
          go_big_quiet_want
          refine ⟨.bool false, fun wx hSx => ?_, ?_⟩
          · obtain ⟨⟨k0, k1⟩, -⟩ := hSx
            go_simp
            try first
              | with_reducible rfl
              | rw [if_neg (by omega)]
          simp only [Act.put, List.setIfInBounds_toArray, List.set_cons_zero, List.set_cons_succ]
          go_big_quiet_on
          go_big_quiet_want
          go_big_quiet_op
          go_big_quiet_on
          go_big_quiet_want
          refine ⟨nodV leaf (some ⟨ab, off, none⟩) L.length c, fun wx hSx => ?_, ?_⟩
          · obtain ⟨⟨k0, k1⟩, -⟩ := hSx
            go_simp
            try first
              | with_reducible rfl
              | rw [if_neg (by omega)]
          simp only [Act.put, List.setIfInBounds_toArray, List.set_cons_zero, List.set_cons_succ]
          go_big_quiet_on
          go_big_quiet_want
          refine ⟨.string LE, fun wx hSx => ?_, ?_⟩
          · exact quietAt_call 15 #[nodV leaf (some ⟨ab, off, none⟩) L.length c] (by go_simp) ((HC.out.2.2.2 wx hSx.2.out).mono fun e w' hh => ⟨hh.1, ⟨(hh.2.cell (p := ⟨N, 0, none⟩) (World.block_lt_of_cell? _ _ hSx.1.1)).trans hSx.1.1, (hh.2.cell (p := ⟨N, 1, none⟩) (World.block_lt_of_cell? _ _ hSx.1.2)).trans hSx.1.2⟩, Lib.hid (hSx.2.out.trans (hh.2.mono hSx.2.out.size))⟩)
          simp only [Act.put, List.setIfInBounds_toArray, List.set_cons_zero, List.set_cons_succ]
          go_big_quiet_on
          go_big_quiet_want
          go_big_quiet_op
          go_big_quiet_on
          go_big_quiet_want
          refine ⟨.bool false, fun wx hSx => ?_, ?_⟩
          · obtain ⟨⟨k0, k1⟩, -⟩ := hSx
            go_simp
            try first
              | with_reducible rfl
              | rw [if_neg (by omega)]
          simp only [Act.put, List.setIfInBounds_toArray, List.set_cons_zero, List.set_cons_succ]
          go_big_quiet_on
          refine wpQuiet_nil ?_
          rintro w5 ⟨-, hb5⟩
          have hrow5 := rowV_below H4.out.1 hb5.out (rowV_lt H4.out.1)
          have hr5 := readsP_below H4.out.2.1 hb5.out
          have hbw5 : Below N w w5 := H4.out.2.2.trans (hb5.out.mono (by rw [← hN]; exact H4.out.2.2.size))
          obtain ⟨m0, m1, _, _⟩ := nod_cells hrow5
          have cRR := HR.out.1 w5 hr5
          rw [decide_eq_false hri] at cRR
          have H5 := Lib.hid (And.intro hrow5 (And.intro hr5 (And.intro hbw5 cRR)))
          clear hrow5 hr5 hbw5 cRR n0 n1 hb5
          go_wp2_with fail
          refine H5.out.2.2.2.mono ?_
          rintro e w6 ⟨rfl, hb6⟩
          have hbw6 : Below N w w6 := H5.out.2.2.1.trans (hb6.mono (by rw [← hN]; exact H5.out.2.2.1.size))
          have H6 := Lib.hid hbw6
          clear hbw6 hb6
          go_wp2_with fail
          refine (lives9_any _).mono ?_
          rintro e w7 ⟨rfl, hbl⟩
          have HL := Lib.hid (show Below N w w7 from H6.out.trans (hbl.mono (by rw [← hN]; exact H6.out.size)))
          clear hbl
          go_wp2_with fail
          go_ret
          exact ⟨rfl, by first | exact HL.out | (rw [hN]; exact HL.out)⟩

      · have d0 : decide (0 < (L.length : Int)) = false := decide_eq_false (by omega)
        have hle := hle0 (List.eq_nil_of_length_eq_zero (by omega))
        have hri : ¬ Nd.right ⟨leaf, L⟩ := fun h => h0 (HRI.out h).1
        subst hle
        go_enter Try.func3, Try.ntmps3
        go_wp2_with fail
        refine H.out.1.mono ?_
        rintro e w1 ⟨rfl, hb1⟩
        have hrow1 := rowV_below H.out.2.2.1 hb1 (rowV_lt H.out.2.2.1)
        have hr1 := readsP_below H.out.2.2.2.1 hb1
        have hbw1 : Below N w w1 := H.out.2.1.trans (hb1.mono (by rw [← hN]; exact H.out.2.1.size))
        obtain ⟨p0, p1, _, _⟩ := nod_cells hrow1
        have H1 := Lib.hid (And.intro hrow1 (And.intro hr1 hbw1))
        clear hb1 hrow1 hr1 hbw1 r0 r1
        go_wp2_with fail
        refine (H.out.2.2.2.2.1 _ H1.out.2.1).mono ?_
        rintro e w2 ⟨rfl, hb2⟩
        have hrow2 := rowV_below H1.out.1 hb2 (rowV_lt H1.out.1)
        have hr2 := readsP_below H1.out.2.1 hb2
        have hbw2 : Below N w w2 := H1.out.2.2.trans (hb2.mono (by rw [← hN]; exact H1.out.2.2.size))
        obtain ⟨q0, q1, _, _⟩ := nod_cells hrow2
        have H2 := Lib.hid (And.intro hrow2 (And.intro hr2 hbw2))
        clear hb2 hrow2 hr2 hbw2 p0 p1
        go_wp2_with fail
        refine (H.out.2.2.2.2.2 _ H2.out.2.1).mono ?_
        rintro e w4 ⟨rfl, hb4⟩
        have hrow4 := rowV_below H2.out.1 hb4 (rowV_lt H2.out.1)
        have hr4 := readsP_below H2.out.2.1 hb4
        have hbw4 : Below N w w4 := H2.out.2.2.trans (hb4.mono (by rw [← hN]; exact H2.out.2.2.size))
        obtain ⟨n0, n1, _, _⟩ := nod_cells hrow4
        have HC := Lib.hid (And.intro (fun wx (hx : Hid (Below w4.heap.size w4 wx)) => HC0.out.1 wx (readsP_below hr4 hx.out)) (And.intro (fun wx (hx : Hid (Below w4.heap.size w4 wx)) => HC0.out.2.1 wx (readsP_below hr4 hx.out)) (And.intro (fun wx (hx : Hid (Below w4.heap.size w4 wx)) => HC0.out.2.2.1 wx (readsP_below hr4 hx.out)) (fun wx (hx : Hid (Below w4.heap.size w4 wx)) => HC0.out.2.2.2 wx (readsP_below hr4 hx.out)))))
        have H4 := Lib.hid (And.intro hrow4 (And.intro hr4 hbw4))
        clear hb4 hrow4 hr4 hbw4 q0 q1
        go_wp2_with fail
        refine wp_region_quiet_tail (C := fun wx => (wx.cell? ⟨N, 0, none⟩ = some (.bool leaf) ∧ wx.cell? ⟨N, 1, none⟩ = some (.slice a L.length c)) ∧ Hid (Below w4.heap.size w4 wx)) 26 (by kernel_rfl) (by kernel_rfl) ⟨⟨n0, n1⟩, Lib.hid (Below.refl w4.heap.size w4).drew⟩ ?_
        simp only [List.take_succ_cons, List.take_zero, List.drop_succ_cons, List.drop_zero]
        go_big_quiet_want
        go_big_quiet_op
        go_big_quiet_on
        go_big_quiet_want
        go_big_quiet_op
        go_big_quiet_on
        go_big_quiet_want
        refine ⟨.bool false, fun wx hSx => ?_, ?_⟩
        · obtain ⟨⟨k0, k1⟩, -⟩ := hSx
          go_simp
          try first
            | with_reducible rfl
            | rw [if_neg (by omega)]
        simp only [Act.put, List.setIfInBounds_toArray, List.set_cons_zero, List.set_cons_succ]
        go_big_quiet_on
        go_big_quiet_want
        go_big_quiet_op
        go_big_quiet_on
        go_big_quiet_want
        go_big_quiet_op
        go_big_quiet_on
        go_big_quiet_want
        go_big_quiet_op
        go_big_quiet_on
        go_big_quiet_want
        refine ⟨.bool false, fun wx hSx => ?_, ?_⟩
        · obtain ⟨⟨k0, k1⟩, -⟩ := hSx
          go_simp
          try first
            | with_reducible rfl
            | rw [if_neg (by omega)]
        simp only [Act.put, List.setIfInBounds_toArray, List.set_cons_zero, List.set_cons_succ]
        go_big_quiet_on
        go_big_quiet_want
        refine ⟨.bool false, fun wx hSx => ?_, ?_⟩
        · obtain ⟨⟨k0, k1⟩, -⟩ := hSx
          go_simp
          try first
            | with_reducible rfl
            | rw [if_neg (by omega)]
        simp only [Act.put, List.setIfInBounds_toArray, List.set_cons_zero, List.set_cons_succ]
        go_big_quiet_on
        go_big_quiet_want
        go_big_quiet_op
        go_big_quiet_on
        go_big_quiet_want
        refine ⟨nodV leaf a L.length c, fun wx hSx => ?_, ?_⟩
        · obtain ⟨⟨k0, k1⟩, -⟩ := hSx
          go_simp
          try first
            | with_reducible rfl
            | rw [if_neg (by omega)]
        simp only [Act.put, List.setIfInBounds_toArray, List.set_cons_zero, List.set_cons_succ]
        go_big_quiet_on
        go_big_quiet_want
        refine ⟨.int .i64 CE, fun wx hSx => ?_, ?_⟩
        · exact quietAt_call 12 #[nodV leaf a L.length c] (by go_simp) ((HC.out.1 wx hSx.2.out).mono fun e w' hh => ⟨hh.1, ⟨(hh.2.cell (p := ⟨N, 0, none⟩) (World.block_lt_of_cell? _ _ hSx.1.1)).trans hSx.1.1, (hh.2.cell (p := ⟨N, 1, none⟩) (World.block_lt_of_cell? _ _ hSx.1.2)).trans hSx.1.2⟩, Lib.hid (hSx.2.out.trans (hh.2.mono hSx.2.out.size))⟩)
        simp only [Act.put, List.setIfInBounds_toArray, List.set_cons_zero, List.set_cons_succ]
        go_big_quiet_on
        go_big_quiet_want
        go_big_quiet_op
        go_big_quiet_on
        go_big_quiet_want
        refine ⟨.bool false, fun wx hSx => ?_, ?_⟩
        · obtain ⟨⟨k0, k1⟩, -⟩ := hSx
          go_simp
          try first
            | with_reducible rfl
            | rw [if_neg (by omega)]
        simp only [Act.put, List.setIfInBounds_toArray, List.set_cons_zero, List.set_cons_succ]
        go_big_quiet_on
        go_big_quiet_want
        refine ⟨.bool false, fun wx hSx => ?_, ?_⟩
        · obtain ⟨⟨k0, k1⟩, -⟩ := hSx
          go_simp
          try first
            | with_reducible rfl
            | rw [if_neg (by omega)]
        simp only [Act.put, List.setIfInBounds_toArray, List.set_cons_zero, List.set_cons_succ]
        go_big_quiet_on
        go_big_quiet_want
        go_big_quiet_op
        go_big_quiet_on
        go_big_quiet_want
        refine ⟨nodV leaf a L.length c, fun wx hSx => ?_, ?_⟩
        · obtain ⟨⟨k0, k1⟩, -⟩ := hSx
          go_simp
          try first
            | with_reducible rfl
            | rw [if_neg (by omega)]
        simp only [Act.put, List.setIfInBounds_toArray, List.set_cons_zero, List.set_cons_succ]
        go_big_quiet_on
        go_big_quiet_want
        refine ⟨.int .i64 SZ, fun wx hSx => ?_, ?_⟩
        · exact quietAt_call 13 #[nodV leaf a L.length c] (by go_simp) ((HC.out.2.1 wx hSx.2.out).mono fun e w' hh => ⟨hh.1, ⟨(hh.2.cell (p := ⟨N, 0, none⟩) (World.block_lt_of_cell? _ _ hSx.1.1)).trans hSx.1.1, (hh.2.cell (p := ⟨N, 1, none⟩) (World.block_lt_of_cell? _ _ hSx.1.2)).trans hSx.1.2⟩, Lib.hid (hSx.2.out.trans (hh.2.mono hSx.2.out.size))⟩)
        simp only [Act.put, List.setIfInBounds_toArray, List.set_cons_zero, List.set_cons_succ]
        go_big_quiet_on
        go_big_quiet_want
        refine ⟨nodV leaf a L.length c, fun wx hSx => ?_, ?_⟩
        · obtain ⟨⟨k0, k1⟩, -⟩ := hSx
          go_simp
          try first
            | with_reducible rfl
            | rw [if_neg (by omega)]
        simp only [Act.put, List.setIfInBounds_toArray, List.set_cons_zero, List.set_cons_succ]
        go_big_quiet_on
        go_big_quiet_want
        refine ⟨.int .i64 SZ, fun wx hSx => ?_, ?_⟩
        · exact quietAt_call 14 #[nodV leaf a L.length c] (by go_simp) ((HC.out.2.2.1 wx hSx.2.out).mono fun e w' hh => ⟨hh.1, ⟨(hh.2.cell (p := ⟨N, 0, none⟩) (World.block_lt_of_cell? _ _ hSx.1.1)).trans hSx.1.1, (hh.2.cell (p := ⟨N, 1, none⟩) (World.block_lt_of_cell? _ _ hSx.1.2)).trans hSx.1.2⟩, Lib.hid (hSx.2.out.trans (hh.2.mono hSx.2.out.size))⟩)
        simp only [Act.put, List.setIfInBounds_toArray, List.set_cons_zero, List.set_cons_succ]
        go_big_quiet_on
        go_big_quiet_want
        refine ⟨.bool false, fun wx hSx => ?_, ?_⟩
        · obtain ⟨⟨k0, k1⟩, -⟩ := hSx
          go_simp
          try first
            | with_reducible rfl
            | rw [if_neg (by omega)]
        simp only [Act.put, List.setIfInBounds_toArray, List.set_cons_zero, List.set_cons_succ]
        go_big_quiet_on
        go_big_quiet_want
        refine ⟨.bool false, fun wx hSx => ?_, ?_⟩
        · obtain ⟨⟨k0, k1⟩, -⟩ := hSx
          go_simp
          try first
            | with_reducible rfl
            | rw [if_neg (by omega)]
        simp only [Act.put, List.setIfInBounds_toArray, List.set_cons_zero, List.set_cons_succ]
        go_big_quiet_on
        go_big_quiet_want
        go_big_quiet_op
        go_big_quiet_on
        go_big_quiet_want
        refine ⟨nodV leaf a L.length c, fun wx hSx => ?_, ?_⟩
        · obtain ⟨⟨k0, k1⟩, -⟩ := hSx
          go_simp
          try first
            | with_reducible rfl
            | rw [if_neg (by omega)]
        simp only [Act.put, List.setIfInBounds_toArray, List.set_cons_zero, List.set_cons_succ]
        go_big_quiet_on
        go_big_quiet_want
        refine ⟨.string ⟨#[]⟩, fun wx hSx => ?_, ?_⟩
        · exact quietAt_call 15 #[nodV leaf a L.length c] (by go_simp) ((HC.out.2.2.2 wx hSx.2.out).mono fun e w' hh => ⟨hh.1, ⟨(hh.2.cell (p := ⟨N, 0, none⟩) (World.block_lt_of_cell? _ _ hSx.1.1)).trans hSx.1.1, (hh.2.cell (p := ⟨N, 1, none⟩) (World.block_lt_of_cell? _ _ hSx.1.2)).trans hSx.1.2⟩, Lib.hid (hSx.2.out.trans (hh.2.mono hSx.2.out.size))⟩)
        simp only [Act.put, List.setIfInBounds_toArray, List.set_cons_zero, List.set_cons_succ]
        go_big_quiet_on
        go_big_quiet_want
        go_big_quiet_op
        go_big_quiet_on
        go_big_quiet_want
        refine ⟨.bool false, fun wx hSx => ?_, ?_⟩
        · obtain ⟨⟨k0, k1⟩, -⟩ := hSx
          go_simp
          try first
            | with_reducible rfl
            | rw [if_neg (by omega)]
        simp only [Act.put, List.setIfInBounds_toArray, List.set_cons_zero, List.set_cons_succ]
        go_big_quiet_on
        refine wpQuiet_nil ?_
        rintro w5 ⟨-, hb5⟩
        have hrow5 := rowV_below H4.out.1 hb5.out (rowV_lt H4.out.1)
        have hr5 := readsP_below H4.out.2.1 hb5.out
        have hbw5 : Below N w w5 := H4.out.2.2.trans (hb5.out.mono (by rw [← hN]; exact H4.out.2.2.size))
        obtain ⟨m0, m1, _, _⟩ := nod_cells hrow5
        have cRR := HR.out.1 w5 hr5
        rw [decide_eq_false hri] at cRR
        have H5 := Lib.hid (And.intro hrow5 (And.intro hr5 (And.intro hbw5 cRR)))
        clear hrow5 hr5 hbw5 cRR n0 n1 hb5
        go_wp2_with fail
        refine H5.out.2.2.2.mono ?_
        rintro e w6 ⟨rfl, hb6⟩
        have hbw6 : Below N w w6 := H5.out.2.2.1.trans (hb6.mono (by rw [← hN]; exact H5.out.2.2.1.size))
        have H6 := Lib.hid hbw6
        clear hbw6 hb6
        go_wp2_with fail
        refine (lives9_any _).mono ?_
        rintro e w7 ⟨rfl, hbl⟩
        have HL := Lib.hid (show Below N w w7 from H6.out.trans (hbl.mono (by rw [← hN]; exact H6.out.size)))
        clear hbl
        go_wp2_with fail
        go_ret
        exact ⟨rfl, by first | exact HL.out | (rw [hN]; exact HL.out)⟩
  · rw [decide_eq_false hs] at cS
    have H := Lib.hid (And.intro cS hb)
    clear hr hb hrow hr0 cS hs hz
    go_enter Try.func3, Try.ntmps3
    go_wp2_with fail
    refine H.out.1.mono ?_
    rintro e w1 ⟨rfl, hb1⟩
    have H1 := Lib.hid (H.out.2.trans (hb1.mono H.out.2.size))
    clear hb1
    go_wp2_with fail
    refine (lives9_any _).mono ?_
    rintro e w2 ⟨rfl, hb2⟩
    have H2 := Lib.hid (H1.out.trans (hb2.mono H1.out.size))
    clear hb2
    go_wp2_with fail
    go_ret
    exact ⟨rfl, H2.out⟩
end Go.Proofs.Ytjlglfhnnipjaaa
