/-
  Layer 12's laws: ValueOrder walked.
-/
import Derived.Test.YtpniegglbglbcaaDoorValLives
import Derived.Test.YtpniegglbglbcaaDoorQTail
import Derived.Test.YtpniegglbglbcaaDoorNodQuiet
import Derived.BigQuiet
import Derived.Deep.Cut
namespace Go.Proofs.YtpniegglbglbcaaDoor
open Go.RowKit
/-- three boxes -/
def Box3 (w : World) (a b c : Vl.V) (wx : World) : Prop := (wx.cell? ⟨w.heap.size, 0, none⟩ = some (.int .i64 a.kind) ∧ wx.cell? ⟨w.heap.size, 1, none⟩ = some (.int .i64 a.n) ∧ wx.cell? ⟨w.heap.size, 2, none⟩ = some (.string a.s) ∧ wx.cell? ⟨w.heap.size + 1, 0, none⟩ = some (.int .i64 b.kind) ∧ wx.cell? ⟨w.heap.size + 1, 1, none⟩ = some (.int .i64 b.n) ∧ wx.cell? ⟨w.heap.size + 1, 2, none⟩ = some (.string b.s) ∧ wx.cell? ⟨w.heap.size + 2, 0, none⟩ = some (.int .i64 c.kind) ∧ wx.cell? ⟨w.heap.size + 2, 1, none⟩ = some (.int .i64 c.n) ∧ wx.cell? ⟨w.heap.size + 2, 2, none⟩ = some (.string c.s)) ∧ Hid (Below w.heap.size w wx)
theorem box3_up {w wx wy : World} {a b c : Vl.V} (h : Box3 w a b c wx) (hb : Below wx.heap.size wx wy) : Box3 w a b c wy := by
  obtain ⟨⟨h0, h1, h2, h3, h4, h5, h6, h7, h8⟩, hB⟩ := h
  have up : ∀ {p : Addr} {v : Value}, wx.cell? p = some v → wy.cell? p = some v := fun hc => (hb.cell (World.block_lt_of_cell? _ _ hc)).trans hc
  exact ⟨⟨up h0, up h1, up h2, up h3, up h4, up h5, up h6, up h7, up h8⟩, Lib.hid (hB.out.trans (hb.mono hB.out.size))⟩
theorem box3_new (a b c : Vl.V) (w : World) : Box3 w a b c (((w.alloc (.cells (valC a) 24)).alloc (.cells (valC b) 24)).alloc (.cells (valC c) 24)) := by
  obtain ⟨ra, ba, sa⟩ := val_new a w
  obtain ⟨rb, bb, sb⟩ := val_new b (w.alloc (.cells (valC a) 24))
  obtain ⟨rc, bc, sc⟩ := val_new c ((w.alloc (.cells (valC a) 24)).alloc (.cells (valC b) 24))
  rw [sb, sa] at rc
  rw [sa] at rb
  have ra2 := rowV_alloc (rowV_alloc ra (.cells (valC b) 24)) (.cells (valC c) 24)
  have rb2 := rowV_alloc rb (.cells (valC c) 24)
  obtain ⟨a0, a1, a2, _⟩ := val_cells ra2
  obtain ⟨b0, b1, b2, _⟩ := val_cells rb2
  obtain ⟨c0, c1, c2, _⟩ := val_cells rc
  exact ⟨⟨a0, a1, a2, b0, b1, b2, c0, c1, c2⟩, Lib.hid ((ba.trans (bb.mono ba.size)).trans (bc.mono (ba.trans (bb.mono ba.size)).size))⟩
set_option maxRecDepth 100000 in
set_option maxHeartbeats 12800000 in
theorem ValueOrder_walk (a b c : Vl.V) (fa : Fits a) (fb : Fits b) (_fc : Fits c) (w : World) (hT : Pow10 w) :
    Calls Tryd.prog 7 #[valV a, valV b, valV c] w fun e w' => e = .returned (.bool true) ∧ Below w.heap.size w w' := by
  have HT := Lib.hid hT
  clear hT
  have H0 := Lib.hid (box3_new a b c w)
  have cA := fun wx => check12_any a wx
  have cB := fun wx => check12_any b wx
  have cC := fun wx => check12_any c wx
  by_cases ra : Vl.right a
  · rw [checkE_ok ra] at cA
    by_cases rb : Vl.right b
    · rw [checkE_ok rb] at cB
      by_cases rc : Vl.right c
      · rw [checkE_ok rc] at cC
        have sa := Vl.right_size ra
        have sb := Vl.right_size rb
        have sc := Vl.right_size rc
        have d1 := fun wx => compare12_any a b wx
        have d2 := fun wx => compare12_any b c wx
        have d3 := fun wx => compare12_any a c wx
        have d4 := fun wx (hx : Pow10 wx) => text12_any a fa.1 fa.2.1 wx hx
        have d5 := fun wx (hx : Pow10 wx) => text12_any b fb.1 fb.2.1 wx hx
        have d6 := fun wx => compare12_any b a wx
        rw [text_ok ra, checkE_ok ra] at d4
        rw [text_ok rb, checkE_ok rb] at d5
        rw [Vl.cmp_flip a b] at d6
        have hx := Vl.cmp_range a b
        have hz := Vl.cmp_zero a b
        have htr := Vl.cmp_trans a b c
        have hti := Vl.text_inj ra rb
        have htt : a = b → Vl.text a = Vl.text b := fun e => by rw [e]
        clear fa fb _fc ra rb rc
        generalize Vl.cmp a b = x at *
        generalize Vl.cmp b c = y at *
        generalize Vl.cmp a c = z at *
        generalize Vl.text a = T1 at *
        generalize Vl.text b = T2 at *
        have HX := Lib.hid (And.intro hx (And.intro hz htr))
        have hw := Lib.hid (show IntKind.i64.wrap (-x) = -x from IntWalk.i64_in _ (by omega))
        have g1 : ¬ x < -1 := by omega
        have g2 : ¬ x > 1 := by omega
        have HK := Lib.hid (And.intro cA (And.intro cB cC))
        have HC := Lib.hid (And.intro d1 (And.intro d2 (And.intro d3 (And.intro d4 (And.intro d5 d6)))))
        have HS := Lib.hid (And.intro hti htt)
        clear d1 d2 d3 d4 d5 d6 cA cB cC hx htr hti htt
        obtain ⟨pk, pn, ps⟩ := a
        obtain ⟨qk, qn, qs⟩ := b
        obtain ⟨rk, rn, rs⟩ := c
        simp only at sa sb sc
        have hlen : ¬ ((ps.size : Int) + qs.size + rs.size > 1000) := by omega
        obtain ⟨⟨c0, c1, c2, c3, c4, c5, c6, c7, c8⟩, _⟩ := H0.out
        by_cases e0 : pk = qk
        · subst e0
          by_cases e1 : pn = qn
          · subst e1
            by_cases e2 : ps = qs
            · subst e2
              have hx1 : (x == 0) = true := by simp [hz.2 rfl]
              obtain rfl := HS.out.2 rfl
              clear hz
              go_enter Tryd.func7, Tryd.ntmps7
              generalize hw0 : World.alloc (World.alloc (World.alloc w _) _) _ = w0 at *
              go_wp2_with fail
              refine (HK.out.1 _).mono ?_
              rintro e w1 ⟨rfl, hb⟩
              have H1 := Lib.hid (box3_up H0.out hb)
              clear hb c0 c1 c2 c3 c4 c5 c6 c7 c8
              obtain ⟨⟨c0, c1, c2, c3, c4, c5, c6, c7, c8⟩, _⟩ := H1.out
              go_wp2_with fail
              refine (HK.out.2.1 _).mono ?_
              rintro e w2 ⟨rfl, hb⟩
              have H2 := Lib.hid (box3_up H1.out hb)
              clear hb c0 c1 c2 c3 c4 c5 c6 c7 c8
              obtain ⟨⟨c0, c1, c2, c3, c4, c5, c6, c7, c8⟩, _⟩ := H2.out
              go_wp2_with fail
              refine (HK.out.2.2 _).mono ?_
              rintro e w3 ⟨rfl, hb⟩
              have H3 := Lib.hid (box3_up H2.out hb)
              clear hb c0 c1 c2 c3 c4 c5 c6 c7 c8
              obtain ⟨⟨c0, c1, c2, c3, c4, c5, c6, c7, c8⟩, _⟩ := H3.out
              go_wp2_with fail
              refine wp_region_quiet_tail (C := fun wx => (wx.cell? ⟨w.heap.size, 0, none⟩ = some (.int .i64 pk) ∧ wx.cell? ⟨w.heap.size, 1, none⟩ = some (.int .i64 pn) ∧ wx.cell? ⟨w.heap.size, 2, none⟩ = some (.string ps) ∧ wx.cell? ⟨w.heap.size + 1, 0, none⟩ = some (.int .i64 pk) ∧ wx.cell? ⟨w.heap.size + 1, 1, none⟩ = some (.int .i64 pn) ∧ wx.cell? ⟨w.heap.size + 1, 2, none⟩ = some (.string ps) ∧ wx.cell? ⟨w.heap.size + 2, 0, none⟩ = some (.int .i64 rk) ∧ wx.cell? ⟨w.heap.size + 2, 1, none⟩ = some (.int .i64 rn) ∧ wx.cell? ⟨w.heap.size + 2, 2, none⟩ = some (.string rs)) ∧ Hid (Below w3.heap.size w3 wx)) 9 (by kernel_rfl) (by kernel_rfl) ⟨⟨c0, c1, c2, c3, c4, c5, c6, c7, c8⟩, Lib.hid (Below.refl w3.heap.size w3).drew⟩ ?_
              simp only [List.take_succ_cons, List.take_zero, List.drop_succ_cons, List.drop_zero]
              go_big_quiet_want
              refine ⟨(valV ⟨pk, pn, ps⟩), fun wx hSx => ?_, ?_⟩
              · obtain ⟨⟨k0, k1, k2, k3, k4, k5, k6, k7, k8⟩, -⟩ := hSx
                go_simp
                try first
                  | with_reducible rfl
                  | rw [if_neg (by omega)]
              simp only [Act.put, List.setIfInBounds_toArray, List.set_cons_zero, List.set_cons_succ]
              go_big_quiet_on
              go_big_quiet_want
              refine ⟨(valV ⟨pk, pn, ps⟩), fun wx hSx => ?_, ?_⟩
              · obtain ⟨⟨k0, k1, k2, k3, k4, k5, k6, k7, k8⟩, -⟩ := hSx
                go_simp
                try first
                  | with_reducible rfl
                  | rw [if_neg (by omega)]
              simp only [Act.put, List.setIfInBounds_toArray, List.set_cons_zero, List.set_cons_succ]
              go_big_quiet_on
              go_big_quiet_want
              refine ⟨(.int .i64 x), fun wx hSx => ?_, ?_⟩
              · exact quietAt_call 22 #[valV ⟨pk, pn, ps⟩, valV ⟨pk, pn, ps⟩] (by go_simp) ((HC.out.1 wx).mono fun e w' hh => ⟨hh.1, ⟨(hh.2.cell (p := ⟨w.heap.size, 0, none⟩) (World.block_lt_of_cell? _ _ hSx.1.1)).trans hSx.1.1, (hh.2.cell (p := ⟨w.heap.size, 1, none⟩) (World.block_lt_of_cell? _ _ hSx.1.2.1)).trans hSx.1.2.1, (hh.2.cell (p := ⟨w.heap.size, 2, none⟩) (World.block_lt_of_cell? _ _ hSx.1.2.2.1)).trans hSx.1.2.2.1, (hh.2.cell (p := ⟨w.heap.size + 1, 0, none⟩) (World.block_lt_of_cell? _ _ hSx.1.2.2.2.1)).trans hSx.1.2.2.2.1, (hh.2.cell (p := ⟨w.heap.size + 1, 1, none⟩) (World.block_lt_of_cell? _ _ hSx.1.2.2.2.2.1)).trans hSx.1.2.2.2.2.1, (hh.2.cell (p := ⟨w.heap.size + 1, 2, none⟩) (World.block_lt_of_cell? _ _ hSx.1.2.2.2.2.2.1)).trans hSx.1.2.2.2.2.2.1, (hh.2.cell (p := ⟨w.heap.size + 2, 0, none⟩) (World.block_lt_of_cell? _ _ hSx.1.2.2.2.2.2.2.1)).trans hSx.1.2.2.2.2.2.2.1, (hh.2.cell (p := ⟨w.heap.size + 2, 1, none⟩) (World.block_lt_of_cell? _ _ hSx.1.2.2.2.2.2.2.2.1)).trans hSx.1.2.2.2.2.2.2.2.1, (hh.2.cell (p := ⟨w.heap.size + 2, 2, none⟩) (World.block_lt_of_cell? _ _ hSx.1.2.2.2.2.2.2.2.2)).trans hSx.1.2.2.2.2.2.2.2.2⟩, Lib.hid (hSx.2.out.trans (hh.2.mono hSx.2.out.size))⟩)
              simp only [Act.put, List.setIfInBounds_toArray, List.set_cons_zero, List.set_cons_succ]
              go_big_quiet_on
              go_big_quiet_want
              refine ⟨(valV ⟨pk, pn, ps⟩), fun wx hSx => ?_, ?_⟩
              · obtain ⟨⟨k0, k1, k2, k3, k4, k5, k6, k7, k8⟩, -⟩ := hSx
                go_simp
                try first
                  | with_reducible rfl
                  | rw [if_neg (by omega)]
              simp only [Act.put, List.setIfInBounds_toArray, List.set_cons_zero, List.set_cons_succ]
              go_big_quiet_on
              go_big_quiet_want
              refine ⟨(valV ⟨rk, rn, rs⟩), fun wx hSx => ?_, ?_⟩
              · obtain ⟨⟨k0, k1, k2, k3, k4, k5, k6, k7, k8⟩, -⟩ := hSx
                go_simp
                try first
                  | with_reducible rfl
                  | rw [if_neg (by omega)]
              simp only [Act.put, List.setIfInBounds_toArray, List.set_cons_zero, List.set_cons_succ]
              go_big_quiet_on
              go_big_quiet_want
              refine ⟨(.int .i64 y), fun wx hSx => ?_, ?_⟩
              · exact quietAt_call 22 #[valV ⟨pk, pn, ps⟩, valV ⟨rk, rn, rs⟩] (by go_simp) ((HC.out.2.1 wx).mono fun e w' hh => ⟨hh.1, ⟨(hh.2.cell (p := ⟨w.heap.size, 0, none⟩) (World.block_lt_of_cell? _ _ hSx.1.1)).trans hSx.1.1, (hh.2.cell (p := ⟨w.heap.size, 1, none⟩) (World.block_lt_of_cell? _ _ hSx.1.2.1)).trans hSx.1.2.1, (hh.2.cell (p := ⟨w.heap.size, 2, none⟩) (World.block_lt_of_cell? _ _ hSx.1.2.2.1)).trans hSx.1.2.2.1, (hh.2.cell (p := ⟨w.heap.size + 1, 0, none⟩) (World.block_lt_of_cell? _ _ hSx.1.2.2.2.1)).trans hSx.1.2.2.2.1, (hh.2.cell (p := ⟨w.heap.size + 1, 1, none⟩) (World.block_lt_of_cell? _ _ hSx.1.2.2.2.2.1)).trans hSx.1.2.2.2.2.1, (hh.2.cell (p := ⟨w.heap.size + 1, 2, none⟩) (World.block_lt_of_cell? _ _ hSx.1.2.2.2.2.2.1)).trans hSx.1.2.2.2.2.2.1, (hh.2.cell (p := ⟨w.heap.size + 2, 0, none⟩) (World.block_lt_of_cell? _ _ hSx.1.2.2.2.2.2.2.1)).trans hSx.1.2.2.2.2.2.2.1, (hh.2.cell (p := ⟨w.heap.size + 2, 1, none⟩) (World.block_lt_of_cell? _ _ hSx.1.2.2.2.2.2.2.2.1)).trans hSx.1.2.2.2.2.2.2.2.1, (hh.2.cell (p := ⟨w.heap.size + 2, 2, none⟩) (World.block_lt_of_cell? _ _ hSx.1.2.2.2.2.2.2.2.2)).trans hSx.1.2.2.2.2.2.2.2.2⟩, Lib.hid (hSx.2.out.trans (hh.2.mono hSx.2.out.size))⟩)
              simp only [Act.put, List.setIfInBounds_toArray, List.set_cons_zero, List.set_cons_succ]
              go_big_quiet_on
              go_big_quiet_want
              refine ⟨(valV ⟨pk, pn, ps⟩), fun wx hSx => ?_, ?_⟩
              · obtain ⟨⟨k0, k1, k2, k3, k4, k5, k6, k7, k8⟩, -⟩ := hSx
                go_simp
                try first
                  | with_reducible rfl
                  | rw [if_neg (by omega)]
              simp only [Act.put, List.setIfInBounds_toArray, List.set_cons_zero, List.set_cons_succ]
              go_big_quiet_on
              go_big_quiet_want
              refine ⟨(valV ⟨rk, rn, rs⟩), fun wx hSx => ?_, ?_⟩
              · obtain ⟨⟨k0, k1, k2, k3, k4, k5, k6, k7, k8⟩, -⟩ := hSx
                go_simp
                try first
                  | with_reducible rfl
                  | rw [if_neg (by omega)]
              simp only [Act.put, List.setIfInBounds_toArray, List.set_cons_zero, List.set_cons_succ]
              go_big_quiet_on
              go_big_quiet_want
              refine ⟨(.int .i64 z), fun wx hSx => ?_, ?_⟩
              · exact quietAt_call 22 #[valV ⟨pk, pn, ps⟩, valV ⟨rk, rn, rs⟩] (by go_simp) ((HC.out.2.2.1 wx).mono fun e w' hh => ⟨hh.1, ⟨(hh.2.cell (p := ⟨w.heap.size, 0, none⟩) (World.block_lt_of_cell? _ _ hSx.1.1)).trans hSx.1.1, (hh.2.cell (p := ⟨w.heap.size, 1, none⟩) (World.block_lt_of_cell? _ _ hSx.1.2.1)).trans hSx.1.2.1, (hh.2.cell (p := ⟨w.heap.size, 2, none⟩) (World.block_lt_of_cell? _ _ hSx.1.2.2.1)).trans hSx.1.2.2.1, (hh.2.cell (p := ⟨w.heap.size + 1, 0, none⟩) (World.block_lt_of_cell? _ _ hSx.1.2.2.2.1)).trans hSx.1.2.2.2.1, (hh.2.cell (p := ⟨w.heap.size + 1, 1, none⟩) (World.block_lt_of_cell? _ _ hSx.1.2.2.2.2.1)).trans hSx.1.2.2.2.2.1, (hh.2.cell (p := ⟨w.heap.size + 1, 2, none⟩) (World.block_lt_of_cell? _ _ hSx.1.2.2.2.2.2.1)).trans hSx.1.2.2.2.2.2.1, (hh.2.cell (p := ⟨w.heap.size + 2, 0, none⟩) (World.block_lt_of_cell? _ _ hSx.1.2.2.2.2.2.2.1)).trans hSx.1.2.2.2.2.2.2.1, (hh.2.cell (p := ⟨w.heap.size + 2, 1, none⟩) (World.block_lt_of_cell? _ _ hSx.1.2.2.2.2.2.2.2.1)).trans hSx.1.2.2.2.2.2.2.2.1, (hh.2.cell (p := ⟨w.heap.size + 2, 2, none⟩) (World.block_lt_of_cell? _ _ hSx.1.2.2.2.2.2.2.2.2)).trans hSx.1.2.2.2.2.2.2.2.2⟩, Lib.hid (hSx.2.out.trans (hh.2.mono hSx.2.out.size))⟩)
              simp only [Act.put, List.setIfInBounds_toArray, List.set_cons_zero, List.set_cons_succ]
              go_big_quiet_on
              refine wpQuiet_nil ?_
              rintro w4 ⟨⟨c0, c1, c2, c3, c4, c5, c6, c7, c8⟩, hb4⟩
              have H4 : Hid (Box3 w ⟨pk, pn, ps⟩ ⟨pk, pn, ps⟩ ⟨rk, rn, rs⟩ w4) := Lib.hid ⟨⟨c0, c1, c2, c3, c4, c5, c6, c7, c8⟩, Lib.hid (H3.out.2.out.trans (hb4.out.mono H3.out.2.out.size))⟩
              clear hb4
              go_wp2_with fail
              refine (HC.out.2.2.2.1 _ (pow10_below HT.out H4.out.2.out)).mono ?_
              rintro e w5 ⟨rfl, hb⟩
              have H5 := Lib.hid (box3_up H4.out hb)
              clear hb c0 c1 c2 c3 c4 c5 c6 c7 c8
              obtain ⟨⟨c0, c1, c2, c3, c4, c5, c6, c7, c8⟩, _⟩ := H5.out
              go_wp2_with fail
              refine (HC.out.2.2.2.2.1 _ (pow10_below HT.out H5.out.2.out)).mono ?_
              rintro e w6 ⟨rfl, hb⟩
              have H6 := Lib.hid (box3_up H5.out hb)
              clear hb c0 c1 c2 c3 c4 c5 c6 c7 c8
              obtain ⟨⟨c0, c1, c2, c3, c4, c5, c6, c7, c8⟩, _⟩ := H6.out
              go_wp2_with fail
              refine (HC.out.2.2.2.2.2 _).mono ?_
              rintro e w7 ⟨rfl, hb⟩
              have H7 := Lib.hid (box3_up H6.out hb)
              clear hb c0 c1 c2 c3 c4 c5 c6 c7 c8
              obtain ⟨⟨c0, c1, c2, c3, c4, c5, c6, c7, c8⟩, _⟩ := H7.out
              by_cases hx0 : x > 0
              · go_wp2_with fail
                refine (lives12_any _ (pow10_below HT.out H7.out.2.out)).mono ?_
                rintro e wl ⟨rfl, hb⟩
                have HL := Lib.hid (H7.out.2.out.trans (hb.mono H7.out.2.out.size))
                clear hb
                go_wp2_with fail
                go_ret
                exact ⟨rfl, HL.out⟩
              · by_cases hy0 : y > 0
                · go_wp2_with fail
                  refine (lives12_any _ (pow10_below HT.out H7.out.2.out)).mono ?_
                  rintro e wl ⟨rfl, hb⟩
                  have HL := Lib.hid (H7.out.2.out.trans (hb.mono H7.out.2.out.size))
                  clear hb
                  go_wp2_with fail
                  go_ret
                  exact ⟨rfl, HL.out⟩
                · by_cases hz0 : z < 0
                  · go_wp2_with fail
                    refine (lives12_any _ (pow10_below HT.out H7.out.2.out)).mono ?_
                    rintro e wl ⟨rfl, hb⟩
                    have HL := Lib.hid (H7.out.2.out.trans (hb.mono H7.out.2.out.size))
                    clear hb
                    go_wp2_with fail
                    go_ret
                    exact ⟨rfl, HL.out⟩
                  · obtain ⟨hx1', hy1, hz1⟩ : x = 0 ∧ y = 0 ∧ z = 0 := by
                      rcases HX.out.2.2 with h | h | h | h
                      · exact absurd h hx0
                      · exact absurd h hy0
                      · exact absurd h hz0
                      · exact h
                    have e1 : (x == 0) = true := by simp [hx1']
                    have e2 : (y == 0) = true := by simp [hy1]
                    have e3 : (z == 0) = true := by simp [hz1]
                    clear hx1' hy1 hz1
                    go_wp2_with fail
                    refine (lives12_any _ (pow10_below HT.out H7.out.2.out)).mono ?_
                    rintro e wl ⟨rfl, hb⟩
                    have HL := Lib.hid (H7.out.2.out.trans (hb.mono H7.out.2.out.size))
                    clear hb
                    go_wp2_with fail
                    go_ret
                    exact ⟨rfl, HL.out⟩
            · have hne : ¬ (⟨pk, pn, ps⟩ : Vl.V) = ⟨pk, pn, qs⟩ := fun e => e2 (congrArg Vl.V.s e)
              have s1 : ¬ ps.toList = qs.toList := fun e => e2 (Sl.ba_ext (by rw [← ByteArray.toList_eq, ← ByteArray.toList_eq]; exact e))
              have s2 : (ps.toList == qs.toList) = false := by simpa using s1
              have hx1 : (x == 0) = false := by simp; exact fun e => hne (hz.1 e)
              have t1 : ¬ T1.toList = T2.toList := fun e => hne (HS.out.1 (Sl.ba_ext (by rw [← ByteArray.toList_eq, ← ByteArray.toList_eq]; exact e)))
              have t2 : (T1.toList == T2.toList) = false := by simpa using t1
              clear hz hne e2
              go_enter Tryd.func7, Tryd.ntmps7
              generalize hw0 : World.alloc (World.alloc (World.alloc w _) _) _ = w0 at *
              go_wp2_with fail
              refine (HK.out.1 _).mono ?_
              rintro e w1 ⟨rfl, hb⟩
              have H1 := Lib.hid (box3_up H0.out hb)
              clear hb c0 c1 c2 c3 c4 c5 c6 c7 c8
              obtain ⟨⟨c0, c1, c2, c3, c4, c5, c6, c7, c8⟩, _⟩ := H1.out
              go_wp2_with fail
              refine (HK.out.2.1 _).mono ?_
              rintro e w2 ⟨rfl, hb⟩
              have H2 := Lib.hid (box3_up H1.out hb)
              clear hb c0 c1 c2 c3 c4 c5 c6 c7 c8
              obtain ⟨⟨c0, c1, c2, c3, c4, c5, c6, c7, c8⟩, _⟩ := H2.out
              go_wp2_with fail
              refine (HK.out.2.2 _).mono ?_
              rintro e w3 ⟨rfl, hb⟩
              have H3 := Lib.hid (box3_up H2.out hb)
              clear hb c0 c1 c2 c3 c4 c5 c6 c7 c8
              obtain ⟨⟨c0, c1, c2, c3, c4, c5, c6, c7, c8⟩, _⟩ := H3.out
              go_wp2_with fail
              refine wp_region_quiet_tail (C := fun wx => (wx.cell? ⟨w.heap.size, 0, none⟩ = some (.int .i64 pk) ∧ wx.cell? ⟨w.heap.size, 1, none⟩ = some (.int .i64 pn) ∧ wx.cell? ⟨w.heap.size, 2, none⟩ = some (.string ps) ∧ wx.cell? ⟨w.heap.size + 1, 0, none⟩ = some (.int .i64 pk) ∧ wx.cell? ⟨w.heap.size + 1, 1, none⟩ = some (.int .i64 pn) ∧ wx.cell? ⟨w.heap.size + 1, 2, none⟩ = some (.string qs) ∧ wx.cell? ⟨w.heap.size + 2, 0, none⟩ = some (.int .i64 rk) ∧ wx.cell? ⟨w.heap.size + 2, 1, none⟩ = some (.int .i64 rn) ∧ wx.cell? ⟨w.heap.size + 2, 2, none⟩ = some (.string rs)) ∧ Hid (Below w3.heap.size w3 wx)) 9 (by kernel_rfl) (by kernel_rfl) ⟨⟨c0, c1, c2, c3, c4, c5, c6, c7, c8⟩, Lib.hid (Below.refl w3.heap.size w3).drew⟩ ?_
              simp only [List.take_succ_cons, List.take_zero, List.drop_succ_cons, List.drop_zero]
              go_big_quiet_want
              refine ⟨(valV ⟨pk, pn, ps⟩), fun wx hSx => ?_, ?_⟩
              · obtain ⟨⟨k0, k1, k2, k3, k4, k5, k6, k7, k8⟩, -⟩ := hSx
                go_simp
                try first
                  | with_reducible rfl
                  | rw [if_neg (by omega)]
              simp only [Act.put, List.setIfInBounds_toArray, List.set_cons_zero, List.set_cons_succ]
              go_big_quiet_on
              go_big_quiet_want
              refine ⟨(valV ⟨pk, pn, qs⟩), fun wx hSx => ?_, ?_⟩
              · obtain ⟨⟨k0, k1, k2, k3, k4, k5, k6, k7, k8⟩, -⟩ := hSx
                go_simp
                try first
                  | with_reducible rfl
                  | rw [if_neg (by omega)]
              simp only [Act.put, List.setIfInBounds_toArray, List.set_cons_zero, List.set_cons_succ]
              go_big_quiet_on
              go_big_quiet_want
              refine ⟨(.int .i64 x), fun wx hSx => ?_, ?_⟩
              · exact quietAt_call 22 #[valV ⟨pk, pn, ps⟩, valV ⟨pk, pn, qs⟩] (by go_simp) ((HC.out.1 wx).mono fun e w' hh => ⟨hh.1, ⟨(hh.2.cell (p := ⟨w.heap.size, 0, none⟩) (World.block_lt_of_cell? _ _ hSx.1.1)).trans hSx.1.1, (hh.2.cell (p := ⟨w.heap.size, 1, none⟩) (World.block_lt_of_cell? _ _ hSx.1.2.1)).trans hSx.1.2.1, (hh.2.cell (p := ⟨w.heap.size, 2, none⟩) (World.block_lt_of_cell? _ _ hSx.1.2.2.1)).trans hSx.1.2.2.1, (hh.2.cell (p := ⟨w.heap.size + 1, 0, none⟩) (World.block_lt_of_cell? _ _ hSx.1.2.2.2.1)).trans hSx.1.2.2.2.1, (hh.2.cell (p := ⟨w.heap.size + 1, 1, none⟩) (World.block_lt_of_cell? _ _ hSx.1.2.2.2.2.1)).trans hSx.1.2.2.2.2.1, (hh.2.cell (p := ⟨w.heap.size + 1, 2, none⟩) (World.block_lt_of_cell? _ _ hSx.1.2.2.2.2.2.1)).trans hSx.1.2.2.2.2.2.1, (hh.2.cell (p := ⟨w.heap.size + 2, 0, none⟩) (World.block_lt_of_cell? _ _ hSx.1.2.2.2.2.2.2.1)).trans hSx.1.2.2.2.2.2.2.1, (hh.2.cell (p := ⟨w.heap.size + 2, 1, none⟩) (World.block_lt_of_cell? _ _ hSx.1.2.2.2.2.2.2.2.1)).trans hSx.1.2.2.2.2.2.2.2.1, (hh.2.cell (p := ⟨w.heap.size + 2, 2, none⟩) (World.block_lt_of_cell? _ _ hSx.1.2.2.2.2.2.2.2.2)).trans hSx.1.2.2.2.2.2.2.2.2⟩, Lib.hid (hSx.2.out.trans (hh.2.mono hSx.2.out.size))⟩)
              simp only [Act.put, List.setIfInBounds_toArray, List.set_cons_zero, List.set_cons_succ]
              go_big_quiet_on
              go_big_quiet_want
              refine ⟨(valV ⟨pk, pn, qs⟩), fun wx hSx => ?_, ?_⟩
              · obtain ⟨⟨k0, k1, k2, k3, k4, k5, k6, k7, k8⟩, -⟩ := hSx
                go_simp
                try first
                  | with_reducible rfl
                  | rw [if_neg (by omega)]
              simp only [Act.put, List.setIfInBounds_toArray, List.set_cons_zero, List.set_cons_succ]
              go_big_quiet_on
              go_big_quiet_want
              refine ⟨(valV ⟨rk, rn, rs⟩), fun wx hSx => ?_, ?_⟩
              · obtain ⟨⟨k0, k1, k2, k3, k4, k5, k6, k7, k8⟩, -⟩ := hSx
                go_simp
                try first
                  | with_reducible rfl
                  | rw [if_neg (by omega)]
              simp only [Act.put, List.setIfInBounds_toArray, List.set_cons_zero, List.set_cons_succ]
              go_big_quiet_on
              go_big_quiet_want
              refine ⟨(.int .i64 y), fun wx hSx => ?_, ?_⟩
              · exact quietAt_call 22 #[valV ⟨pk, pn, qs⟩, valV ⟨rk, rn, rs⟩] (by go_simp) ((HC.out.2.1 wx).mono fun e w' hh => ⟨hh.1, ⟨(hh.2.cell (p := ⟨w.heap.size, 0, none⟩) (World.block_lt_of_cell? _ _ hSx.1.1)).trans hSx.1.1, (hh.2.cell (p := ⟨w.heap.size, 1, none⟩) (World.block_lt_of_cell? _ _ hSx.1.2.1)).trans hSx.1.2.1, (hh.2.cell (p := ⟨w.heap.size, 2, none⟩) (World.block_lt_of_cell? _ _ hSx.1.2.2.1)).trans hSx.1.2.2.1, (hh.2.cell (p := ⟨w.heap.size + 1, 0, none⟩) (World.block_lt_of_cell? _ _ hSx.1.2.2.2.1)).trans hSx.1.2.2.2.1, (hh.2.cell (p := ⟨w.heap.size + 1, 1, none⟩) (World.block_lt_of_cell? _ _ hSx.1.2.2.2.2.1)).trans hSx.1.2.2.2.2.1, (hh.2.cell (p := ⟨w.heap.size + 1, 2, none⟩) (World.block_lt_of_cell? _ _ hSx.1.2.2.2.2.2.1)).trans hSx.1.2.2.2.2.2.1, (hh.2.cell (p := ⟨w.heap.size + 2, 0, none⟩) (World.block_lt_of_cell? _ _ hSx.1.2.2.2.2.2.2.1)).trans hSx.1.2.2.2.2.2.2.1, (hh.2.cell (p := ⟨w.heap.size + 2, 1, none⟩) (World.block_lt_of_cell? _ _ hSx.1.2.2.2.2.2.2.2.1)).trans hSx.1.2.2.2.2.2.2.2.1, (hh.2.cell (p := ⟨w.heap.size + 2, 2, none⟩) (World.block_lt_of_cell? _ _ hSx.1.2.2.2.2.2.2.2.2)).trans hSx.1.2.2.2.2.2.2.2.2⟩, Lib.hid (hSx.2.out.trans (hh.2.mono hSx.2.out.size))⟩)
              simp only [Act.put, List.setIfInBounds_toArray, List.set_cons_zero, List.set_cons_succ]
              go_big_quiet_on
              go_big_quiet_want
              refine ⟨(valV ⟨pk, pn, ps⟩), fun wx hSx => ?_, ?_⟩
              · obtain ⟨⟨k0, k1, k2, k3, k4, k5, k6, k7, k8⟩, -⟩ := hSx
                go_simp
                try first
                  | with_reducible rfl
                  | rw [if_neg (by omega)]
              simp only [Act.put, List.setIfInBounds_toArray, List.set_cons_zero, List.set_cons_succ]
              go_big_quiet_on
              go_big_quiet_want
              refine ⟨(valV ⟨rk, rn, rs⟩), fun wx hSx => ?_, ?_⟩
              · obtain ⟨⟨k0, k1, k2, k3, k4, k5, k6, k7, k8⟩, -⟩ := hSx
                go_simp
                try first
                  | with_reducible rfl
                  | rw [if_neg (by omega)]
              simp only [Act.put, List.setIfInBounds_toArray, List.set_cons_zero, List.set_cons_succ]
              go_big_quiet_on
              go_big_quiet_want
              refine ⟨(.int .i64 z), fun wx hSx => ?_, ?_⟩
              · exact quietAt_call 22 #[valV ⟨pk, pn, ps⟩, valV ⟨rk, rn, rs⟩] (by go_simp) ((HC.out.2.2.1 wx).mono fun e w' hh => ⟨hh.1, ⟨(hh.2.cell (p := ⟨w.heap.size, 0, none⟩) (World.block_lt_of_cell? _ _ hSx.1.1)).trans hSx.1.1, (hh.2.cell (p := ⟨w.heap.size, 1, none⟩) (World.block_lt_of_cell? _ _ hSx.1.2.1)).trans hSx.1.2.1, (hh.2.cell (p := ⟨w.heap.size, 2, none⟩) (World.block_lt_of_cell? _ _ hSx.1.2.2.1)).trans hSx.1.2.2.1, (hh.2.cell (p := ⟨w.heap.size + 1, 0, none⟩) (World.block_lt_of_cell? _ _ hSx.1.2.2.2.1)).trans hSx.1.2.2.2.1, (hh.2.cell (p := ⟨w.heap.size + 1, 1, none⟩) (World.block_lt_of_cell? _ _ hSx.1.2.2.2.2.1)).trans hSx.1.2.2.2.2.1, (hh.2.cell (p := ⟨w.heap.size + 1, 2, none⟩) (World.block_lt_of_cell? _ _ hSx.1.2.2.2.2.2.1)).trans hSx.1.2.2.2.2.2.1, (hh.2.cell (p := ⟨w.heap.size + 2, 0, none⟩) (World.block_lt_of_cell? _ _ hSx.1.2.2.2.2.2.2.1)).trans hSx.1.2.2.2.2.2.2.1, (hh.2.cell (p := ⟨w.heap.size + 2, 1, none⟩) (World.block_lt_of_cell? _ _ hSx.1.2.2.2.2.2.2.2.1)).trans hSx.1.2.2.2.2.2.2.2.1, (hh.2.cell (p := ⟨w.heap.size + 2, 2, none⟩) (World.block_lt_of_cell? _ _ hSx.1.2.2.2.2.2.2.2.2)).trans hSx.1.2.2.2.2.2.2.2.2⟩, Lib.hid (hSx.2.out.trans (hh.2.mono hSx.2.out.size))⟩)
              simp only [Act.put, List.setIfInBounds_toArray, List.set_cons_zero, List.set_cons_succ]
              go_big_quiet_on
              refine wpQuiet_nil ?_
              rintro w4 ⟨⟨c0, c1, c2, c3, c4, c5, c6, c7, c8⟩, hb4⟩
              have H4 : Hid (Box3 w ⟨pk, pn, ps⟩ ⟨pk, pn, qs⟩ ⟨rk, rn, rs⟩ w4) := Lib.hid ⟨⟨c0, c1, c2, c3, c4, c5, c6, c7, c8⟩, Lib.hid (H3.out.2.out.trans (hb4.out.mono H3.out.2.out.size))⟩
              clear hb4
              go_wp2_with fail
              refine (HC.out.2.2.2.1 _ (pow10_below HT.out H4.out.2.out)).mono ?_
              rintro e w5 ⟨rfl, hb⟩
              have H5 := Lib.hid (box3_up H4.out hb)
              clear hb c0 c1 c2 c3 c4 c5 c6 c7 c8
              obtain ⟨⟨c0, c1, c2, c3, c4, c5, c6, c7, c8⟩, _⟩ := H5.out
              go_wp2_with fail
              refine (HC.out.2.2.2.2.1 _ (pow10_below HT.out H5.out.2.out)).mono ?_
              rintro e w6 ⟨rfl, hb⟩
              have H6 := Lib.hid (box3_up H5.out hb)
              clear hb c0 c1 c2 c3 c4 c5 c6 c7 c8
              obtain ⟨⟨c0, c1, c2, c3, c4, c5, c6, c7, c8⟩, _⟩ := H6.out
              go_wp2_with fail
              refine (HC.out.2.2.2.2.2 _).mono ?_
              rintro e w7 ⟨rfl, hb⟩
              have H7 := Lib.hid (box3_up H6.out hb)
              clear hb c0 c1 c2 c3 c4 c5 c6 c7 c8
              obtain ⟨⟨c0, c1, c2, c3, c4, c5, c6, c7, c8⟩, _⟩ := H7.out
              by_cases hx0 : x > 0
              · go_wp2_with fail
                refine (lives12_any _ (pow10_below HT.out H7.out.2.out)).mono ?_
                rintro e wl ⟨rfl, hb⟩
                have HL := Lib.hid (H7.out.2.out.trans (hb.mono H7.out.2.out.size))
                clear hb
                go_wp2_with fail
                go_ret
                exact ⟨rfl, HL.out⟩
              · by_cases hy0 : y > 0
                · go_wp2_with fail
                  refine (lives12_any _ (pow10_below HT.out H7.out.2.out)).mono ?_
                  rintro e wl ⟨rfl, hb⟩
                  have HL := Lib.hid (H7.out.2.out.trans (hb.mono H7.out.2.out.size))
                  clear hb
                  go_wp2_with fail
                  go_ret
                  exact ⟨rfl, HL.out⟩
                · by_cases hz0 : z < 0
                  · go_wp2_with fail
                    refine (lives12_any _ (pow10_below HT.out H7.out.2.out)).mono ?_
                    rintro e wl ⟨rfl, hb⟩
                    have HL := Lib.hid (H7.out.2.out.trans (hb.mono H7.out.2.out.size))
                    clear hb
                    go_wp2_with fail
                    go_ret
                    exact ⟨rfl, HL.out⟩
                  · obtain ⟨hx1', hy1, hz1⟩ : x = 0 ∧ y = 0 ∧ z = 0 := by
                      rcases HX.out.2.2 with h | h | h | h
                      · exact absurd h hx0
                      · exact absurd h hy0
                      · exact absurd h hz0
                      · exact h
                    exact absurd hx1 (by simp [hx1'])
          · have hne : ¬ (⟨pk, pn, ps⟩ : Vl.V) = ⟨pk, qn, qs⟩ := fun e => e1 (congrArg Vl.V.n e)
            have s2 : (pn == qn) = false := by simpa using e1
            have hx1 : (x == 0) = false := by simp; exact fun e => hne (hz.1 e)
            have t1 : ¬ T1.toList = T2.toList := fun e => hne (HS.out.1 (Sl.ba_ext (by rw [← ByteArray.toList_eq, ← ByteArray.toList_eq]; exact e)))
            have t2 : (T1.toList == T2.toList) = false := by simpa using t1
            clear hz hne e1
            go_enter Tryd.func7, Tryd.ntmps7
            generalize hw0 : World.alloc (World.alloc (World.alloc w _) _) _ = w0 at *
            go_wp2_with fail
            refine (HK.out.1 _).mono ?_
            rintro e w1 ⟨rfl, hb⟩
            have H1 := Lib.hid (box3_up H0.out hb)
            clear hb c0 c1 c2 c3 c4 c5 c6 c7 c8
            obtain ⟨⟨c0, c1, c2, c3, c4, c5, c6, c7, c8⟩, _⟩ := H1.out
            go_wp2_with fail
            refine (HK.out.2.1 _).mono ?_
            rintro e w2 ⟨rfl, hb⟩
            have H2 := Lib.hid (box3_up H1.out hb)
            clear hb c0 c1 c2 c3 c4 c5 c6 c7 c8
            obtain ⟨⟨c0, c1, c2, c3, c4, c5, c6, c7, c8⟩, _⟩ := H2.out
            go_wp2_with fail
            refine (HK.out.2.2 _).mono ?_
            rintro e w3 ⟨rfl, hb⟩
            have H3 := Lib.hid (box3_up H2.out hb)
            clear hb c0 c1 c2 c3 c4 c5 c6 c7 c8
            obtain ⟨⟨c0, c1, c2, c3, c4, c5, c6, c7, c8⟩, _⟩ := H3.out
            go_wp2_with fail
            refine wp_region_quiet_tail (C := fun wx => (wx.cell? ⟨w.heap.size, 0, none⟩ = some (.int .i64 pk) ∧ wx.cell? ⟨w.heap.size, 1, none⟩ = some (.int .i64 pn) ∧ wx.cell? ⟨w.heap.size, 2, none⟩ = some (.string ps) ∧ wx.cell? ⟨w.heap.size + 1, 0, none⟩ = some (.int .i64 pk) ∧ wx.cell? ⟨w.heap.size + 1, 1, none⟩ = some (.int .i64 qn) ∧ wx.cell? ⟨w.heap.size + 1, 2, none⟩ = some (.string qs) ∧ wx.cell? ⟨w.heap.size + 2, 0, none⟩ = some (.int .i64 rk) ∧ wx.cell? ⟨w.heap.size + 2, 1, none⟩ = some (.int .i64 rn) ∧ wx.cell? ⟨w.heap.size + 2, 2, none⟩ = some (.string rs)) ∧ Hid (Below w3.heap.size w3 wx)) 9 (by kernel_rfl) (by kernel_rfl) ⟨⟨c0, c1, c2, c3, c4, c5, c6, c7, c8⟩, Lib.hid (Below.refl w3.heap.size w3).drew⟩ ?_
            simp only [List.take_succ_cons, List.take_zero, List.drop_succ_cons, List.drop_zero]
            go_big_quiet_want
            refine ⟨(valV ⟨pk, pn, ps⟩), fun wx hSx => ?_, ?_⟩
            · obtain ⟨⟨k0, k1, k2, k3, k4, k5, k6, k7, k8⟩, -⟩ := hSx
              go_simp
              try first
                | with_reducible rfl
                | rw [if_neg (by omega)]
            simp only [Act.put, List.setIfInBounds_toArray, List.set_cons_zero, List.set_cons_succ]
            go_big_quiet_on
            go_big_quiet_want
            refine ⟨(valV ⟨pk, qn, qs⟩), fun wx hSx => ?_, ?_⟩
            · obtain ⟨⟨k0, k1, k2, k3, k4, k5, k6, k7, k8⟩, -⟩ := hSx
              go_simp
              try first
                | with_reducible rfl
                | rw [if_neg (by omega)]
            simp only [Act.put, List.setIfInBounds_toArray, List.set_cons_zero, List.set_cons_succ]
            go_big_quiet_on
            go_big_quiet_want
            refine ⟨(.int .i64 x), fun wx hSx => ?_, ?_⟩
            · exact quietAt_call 22 #[valV ⟨pk, pn, ps⟩, valV ⟨pk, qn, qs⟩] (by go_simp) ((HC.out.1 wx).mono fun e w' hh => ⟨hh.1, ⟨(hh.2.cell (p := ⟨w.heap.size, 0, none⟩) (World.block_lt_of_cell? _ _ hSx.1.1)).trans hSx.1.1, (hh.2.cell (p := ⟨w.heap.size, 1, none⟩) (World.block_lt_of_cell? _ _ hSx.1.2.1)).trans hSx.1.2.1, (hh.2.cell (p := ⟨w.heap.size, 2, none⟩) (World.block_lt_of_cell? _ _ hSx.1.2.2.1)).trans hSx.1.2.2.1, (hh.2.cell (p := ⟨w.heap.size + 1, 0, none⟩) (World.block_lt_of_cell? _ _ hSx.1.2.2.2.1)).trans hSx.1.2.2.2.1, (hh.2.cell (p := ⟨w.heap.size + 1, 1, none⟩) (World.block_lt_of_cell? _ _ hSx.1.2.2.2.2.1)).trans hSx.1.2.2.2.2.1, (hh.2.cell (p := ⟨w.heap.size + 1, 2, none⟩) (World.block_lt_of_cell? _ _ hSx.1.2.2.2.2.2.1)).trans hSx.1.2.2.2.2.2.1, (hh.2.cell (p := ⟨w.heap.size + 2, 0, none⟩) (World.block_lt_of_cell? _ _ hSx.1.2.2.2.2.2.2.1)).trans hSx.1.2.2.2.2.2.2.1, (hh.2.cell (p := ⟨w.heap.size + 2, 1, none⟩) (World.block_lt_of_cell? _ _ hSx.1.2.2.2.2.2.2.2.1)).trans hSx.1.2.2.2.2.2.2.2.1, (hh.2.cell (p := ⟨w.heap.size + 2, 2, none⟩) (World.block_lt_of_cell? _ _ hSx.1.2.2.2.2.2.2.2.2)).trans hSx.1.2.2.2.2.2.2.2.2⟩, Lib.hid (hSx.2.out.trans (hh.2.mono hSx.2.out.size))⟩)
            simp only [Act.put, List.setIfInBounds_toArray, List.set_cons_zero, List.set_cons_succ]
            go_big_quiet_on
            go_big_quiet_want
            refine ⟨(valV ⟨pk, qn, qs⟩), fun wx hSx => ?_, ?_⟩
            · obtain ⟨⟨k0, k1, k2, k3, k4, k5, k6, k7, k8⟩, -⟩ := hSx
              go_simp
              try first
                | with_reducible rfl
                | rw [if_neg (by omega)]
            simp only [Act.put, List.setIfInBounds_toArray, List.set_cons_zero, List.set_cons_succ]
            go_big_quiet_on
            go_big_quiet_want
            refine ⟨(valV ⟨rk, rn, rs⟩), fun wx hSx => ?_, ?_⟩
            · obtain ⟨⟨k0, k1, k2, k3, k4, k5, k6, k7, k8⟩, -⟩ := hSx
              go_simp
              try first
                | with_reducible rfl
                | rw [if_neg (by omega)]
            simp only [Act.put, List.setIfInBounds_toArray, List.set_cons_zero, List.set_cons_succ]
            go_big_quiet_on
            go_big_quiet_want
            refine ⟨(.int .i64 y), fun wx hSx => ?_, ?_⟩
            · exact quietAt_call 22 #[valV ⟨pk, qn, qs⟩, valV ⟨rk, rn, rs⟩] (by go_simp) ((HC.out.2.1 wx).mono fun e w' hh => ⟨hh.1, ⟨(hh.2.cell (p := ⟨w.heap.size, 0, none⟩) (World.block_lt_of_cell? _ _ hSx.1.1)).trans hSx.1.1, (hh.2.cell (p := ⟨w.heap.size, 1, none⟩) (World.block_lt_of_cell? _ _ hSx.1.2.1)).trans hSx.1.2.1, (hh.2.cell (p := ⟨w.heap.size, 2, none⟩) (World.block_lt_of_cell? _ _ hSx.1.2.2.1)).trans hSx.1.2.2.1, (hh.2.cell (p := ⟨w.heap.size + 1, 0, none⟩) (World.block_lt_of_cell? _ _ hSx.1.2.2.2.1)).trans hSx.1.2.2.2.1, (hh.2.cell (p := ⟨w.heap.size + 1, 1, none⟩) (World.block_lt_of_cell? _ _ hSx.1.2.2.2.2.1)).trans hSx.1.2.2.2.2.1, (hh.2.cell (p := ⟨w.heap.size + 1, 2, none⟩) (World.block_lt_of_cell? _ _ hSx.1.2.2.2.2.2.1)).trans hSx.1.2.2.2.2.2.1, (hh.2.cell (p := ⟨w.heap.size + 2, 0, none⟩) (World.block_lt_of_cell? _ _ hSx.1.2.2.2.2.2.2.1)).trans hSx.1.2.2.2.2.2.2.1, (hh.2.cell (p := ⟨w.heap.size + 2, 1, none⟩) (World.block_lt_of_cell? _ _ hSx.1.2.2.2.2.2.2.2.1)).trans hSx.1.2.2.2.2.2.2.2.1, (hh.2.cell (p := ⟨w.heap.size + 2, 2, none⟩) (World.block_lt_of_cell? _ _ hSx.1.2.2.2.2.2.2.2.2)).trans hSx.1.2.2.2.2.2.2.2.2⟩, Lib.hid (hSx.2.out.trans (hh.2.mono hSx.2.out.size))⟩)
            simp only [Act.put, List.setIfInBounds_toArray, List.set_cons_zero, List.set_cons_succ]
            go_big_quiet_on
            go_big_quiet_want
            refine ⟨(valV ⟨pk, pn, ps⟩), fun wx hSx => ?_, ?_⟩
            · obtain ⟨⟨k0, k1, k2, k3, k4, k5, k6, k7, k8⟩, -⟩ := hSx
              go_simp
              try first
                | with_reducible rfl
                | rw [if_neg (by omega)]
            simp only [Act.put, List.setIfInBounds_toArray, List.set_cons_zero, List.set_cons_succ]
            go_big_quiet_on
            go_big_quiet_want
            refine ⟨(valV ⟨rk, rn, rs⟩), fun wx hSx => ?_, ?_⟩
            · obtain ⟨⟨k0, k1, k2, k3, k4, k5, k6, k7, k8⟩, -⟩ := hSx
              go_simp
              try first
                | with_reducible rfl
                | rw [if_neg (by omega)]
            simp only [Act.put, List.setIfInBounds_toArray, List.set_cons_zero, List.set_cons_succ]
            go_big_quiet_on
            go_big_quiet_want
            refine ⟨(.int .i64 z), fun wx hSx => ?_, ?_⟩
            · exact quietAt_call 22 #[valV ⟨pk, pn, ps⟩, valV ⟨rk, rn, rs⟩] (by go_simp) ((HC.out.2.2.1 wx).mono fun e w' hh => ⟨hh.1, ⟨(hh.2.cell (p := ⟨w.heap.size, 0, none⟩) (World.block_lt_of_cell? _ _ hSx.1.1)).trans hSx.1.1, (hh.2.cell (p := ⟨w.heap.size, 1, none⟩) (World.block_lt_of_cell? _ _ hSx.1.2.1)).trans hSx.1.2.1, (hh.2.cell (p := ⟨w.heap.size, 2, none⟩) (World.block_lt_of_cell? _ _ hSx.1.2.2.1)).trans hSx.1.2.2.1, (hh.2.cell (p := ⟨w.heap.size + 1, 0, none⟩) (World.block_lt_of_cell? _ _ hSx.1.2.2.2.1)).trans hSx.1.2.2.2.1, (hh.2.cell (p := ⟨w.heap.size + 1, 1, none⟩) (World.block_lt_of_cell? _ _ hSx.1.2.2.2.2.1)).trans hSx.1.2.2.2.2.1, (hh.2.cell (p := ⟨w.heap.size + 1, 2, none⟩) (World.block_lt_of_cell? _ _ hSx.1.2.2.2.2.2.1)).trans hSx.1.2.2.2.2.2.1, (hh.2.cell (p := ⟨w.heap.size + 2, 0, none⟩) (World.block_lt_of_cell? _ _ hSx.1.2.2.2.2.2.2.1)).trans hSx.1.2.2.2.2.2.2.1, (hh.2.cell (p := ⟨w.heap.size + 2, 1, none⟩) (World.block_lt_of_cell? _ _ hSx.1.2.2.2.2.2.2.2.1)).trans hSx.1.2.2.2.2.2.2.2.1, (hh.2.cell (p := ⟨w.heap.size + 2, 2, none⟩) (World.block_lt_of_cell? _ _ hSx.1.2.2.2.2.2.2.2.2)).trans hSx.1.2.2.2.2.2.2.2.2⟩, Lib.hid (hSx.2.out.trans (hh.2.mono hSx.2.out.size))⟩)
            simp only [Act.put, List.setIfInBounds_toArray, List.set_cons_zero, List.set_cons_succ]
            go_big_quiet_on
            refine wpQuiet_nil ?_
            rintro w4 ⟨⟨c0, c1, c2, c3, c4, c5, c6, c7, c8⟩, hb4⟩
            have H4 : Hid (Box3 w ⟨pk, pn, ps⟩ ⟨pk, qn, qs⟩ ⟨rk, rn, rs⟩ w4) := Lib.hid ⟨⟨c0, c1, c2, c3, c4, c5, c6, c7, c8⟩, Lib.hid (H3.out.2.out.trans (hb4.out.mono H3.out.2.out.size))⟩
            clear hb4
            go_wp2_with fail
            refine (HC.out.2.2.2.1 _ (pow10_below HT.out H4.out.2.out)).mono ?_
            rintro e w5 ⟨rfl, hb⟩
            have H5 := Lib.hid (box3_up H4.out hb)
            clear hb c0 c1 c2 c3 c4 c5 c6 c7 c8
            obtain ⟨⟨c0, c1, c2, c3, c4, c5, c6, c7, c8⟩, _⟩ := H5.out
            go_wp2_with fail
            refine (HC.out.2.2.2.2.1 _ (pow10_below HT.out H5.out.2.out)).mono ?_
            rintro e w6 ⟨rfl, hb⟩
            have H6 := Lib.hid (box3_up H5.out hb)
            clear hb c0 c1 c2 c3 c4 c5 c6 c7 c8
            obtain ⟨⟨c0, c1, c2, c3, c4, c5, c6, c7, c8⟩, _⟩ := H6.out
            go_wp2_with fail
            refine (HC.out.2.2.2.2.2 _).mono ?_
            rintro e w7 ⟨rfl, hb⟩
            have H7 := Lib.hid (box3_up H6.out hb)
            clear hb c0 c1 c2 c3 c4 c5 c6 c7 c8
            obtain ⟨⟨c0, c1, c2, c3, c4, c5, c6, c7, c8⟩, _⟩ := H7.out
            by_cases hx0 : x > 0
            · go_wp2_with fail
              refine (lives12_any _ (pow10_below HT.out H7.out.2.out)).mono ?_
              rintro e wl ⟨rfl, hb⟩
              have HL := Lib.hid (H7.out.2.out.trans (hb.mono H7.out.2.out.size))
              clear hb
              go_wp2_with fail
              go_ret
              exact ⟨rfl, HL.out⟩
            · by_cases hy0 : y > 0
              · go_wp2_with fail
                refine (lives12_any _ (pow10_below HT.out H7.out.2.out)).mono ?_
                rintro e wl ⟨rfl, hb⟩
                have HL := Lib.hid (H7.out.2.out.trans (hb.mono H7.out.2.out.size))
                clear hb
                go_wp2_with fail
                go_ret
                exact ⟨rfl, HL.out⟩
              · by_cases hz0 : z < 0
                · go_wp2_with fail
                  refine (lives12_any _ (pow10_below HT.out H7.out.2.out)).mono ?_
                  rintro e wl ⟨rfl, hb⟩
                  have HL := Lib.hid (H7.out.2.out.trans (hb.mono H7.out.2.out.size))
                  clear hb
                  go_wp2_with fail
                  go_ret
                  exact ⟨rfl, HL.out⟩
                · obtain ⟨hx1', hy1, hz1⟩ : x = 0 ∧ y = 0 ∧ z = 0 := by
                    rcases HX.out.2.2 with h | h | h | h
                    · exact absurd h hx0
                    · exact absurd h hy0
                    · exact absurd h hz0
                    · exact h
                  exact absurd hx1 (by simp [hx1'])
        · have hne : ¬ (⟨pk, pn, ps⟩ : Vl.V) = ⟨qk, qn, qs⟩ := fun e => e0 (congrArg Vl.V.kind e)
          have s2 : (pk == qk) = false := by simpa using e0
          have hx1 : (x == 0) = false := by simp; exact fun e => hne (hz.1 e)
          have t1 : ¬ T1.toList = T2.toList := fun e => hne (HS.out.1 (Sl.ba_ext (by rw [← ByteArray.toList_eq, ← ByteArray.toList_eq]; exact e)))
          have t2 : (T1.toList == T2.toList) = false := by simpa using t1
          clear hz hne e0
          go_enter Tryd.func7, Tryd.ntmps7
          generalize hw0 : World.alloc (World.alloc (World.alloc w _) _) _ = w0 at *
          go_wp2_with fail
          refine (HK.out.1 _).mono ?_
          rintro e w1 ⟨rfl, hb⟩
          have H1 := Lib.hid (box3_up H0.out hb)
          clear hb c0 c1 c2 c3 c4 c5 c6 c7 c8
          obtain ⟨⟨c0, c1, c2, c3, c4, c5, c6, c7, c8⟩, _⟩ := H1.out
          go_wp2_with fail
          refine (HK.out.2.1 _).mono ?_
          rintro e w2 ⟨rfl, hb⟩
          have H2 := Lib.hid (box3_up H1.out hb)
          clear hb c0 c1 c2 c3 c4 c5 c6 c7 c8
          obtain ⟨⟨c0, c1, c2, c3, c4, c5, c6, c7, c8⟩, _⟩ := H2.out
          go_wp2_with fail
          refine (HK.out.2.2 _).mono ?_
          rintro e w3 ⟨rfl, hb⟩
          have H3 := Lib.hid (box3_up H2.out hb)
          clear hb c0 c1 c2 c3 c4 c5 c6 c7 c8
          obtain ⟨⟨c0, c1, c2, c3, c4, c5, c6, c7, c8⟩, _⟩ := H3.out
          go_wp2_with fail
          refine wp_region_quiet_tail (C := fun wx => (wx.cell? ⟨w.heap.size, 0, none⟩ = some (.int .i64 pk) ∧ wx.cell? ⟨w.heap.size, 1, none⟩ = some (.int .i64 pn) ∧ wx.cell? ⟨w.heap.size, 2, none⟩ = some (.string ps) ∧ wx.cell? ⟨w.heap.size + 1, 0, none⟩ = some (.int .i64 qk) ∧ wx.cell? ⟨w.heap.size + 1, 1, none⟩ = some (.int .i64 qn) ∧ wx.cell? ⟨w.heap.size + 1, 2, none⟩ = some (.string qs) ∧ wx.cell? ⟨w.heap.size + 2, 0, none⟩ = some (.int .i64 rk) ∧ wx.cell? ⟨w.heap.size + 2, 1, none⟩ = some (.int .i64 rn) ∧ wx.cell? ⟨w.heap.size + 2, 2, none⟩ = some (.string rs)) ∧ Hid (Below w3.heap.size w3 wx)) 9 (by kernel_rfl) (by kernel_rfl) ⟨⟨c0, c1, c2, c3, c4, c5, c6, c7, c8⟩, Lib.hid (Below.refl w3.heap.size w3).drew⟩ ?_
          simp only [List.take_succ_cons, List.take_zero, List.drop_succ_cons, List.drop_zero]
          go_big_quiet_want
          refine ⟨(valV ⟨pk, pn, ps⟩), fun wx hSx => ?_, ?_⟩
          · obtain ⟨⟨k0, k1, k2, k3, k4, k5, k6, k7, k8⟩, -⟩ := hSx
            go_simp
            try first
              | with_reducible rfl
              | rw [if_neg (by omega)]
          simp only [Act.put, List.setIfInBounds_toArray, List.set_cons_zero, List.set_cons_succ]
          go_big_quiet_on
          go_big_quiet_want
          refine ⟨(valV ⟨qk, qn, qs⟩), fun wx hSx => ?_, ?_⟩
          · obtain ⟨⟨k0, k1, k2, k3, k4, k5, k6, k7, k8⟩, -⟩ := hSx
            go_simp
            try first
              | with_reducible rfl
              | rw [if_neg (by omega)]
          simp only [Act.put, List.setIfInBounds_toArray, List.set_cons_zero, List.set_cons_succ]
          go_big_quiet_on
          go_big_quiet_want
          refine ⟨(.int .i64 x), fun wx hSx => ?_, ?_⟩
          · exact quietAt_call 22 #[valV ⟨pk, pn, ps⟩, valV ⟨qk, qn, qs⟩] (by go_simp) ((HC.out.1 wx).mono fun e w' hh => ⟨hh.1, ⟨(hh.2.cell (p := ⟨w.heap.size, 0, none⟩) (World.block_lt_of_cell? _ _ hSx.1.1)).trans hSx.1.1, (hh.2.cell (p := ⟨w.heap.size, 1, none⟩) (World.block_lt_of_cell? _ _ hSx.1.2.1)).trans hSx.1.2.1, (hh.2.cell (p := ⟨w.heap.size, 2, none⟩) (World.block_lt_of_cell? _ _ hSx.1.2.2.1)).trans hSx.1.2.2.1, (hh.2.cell (p := ⟨w.heap.size + 1, 0, none⟩) (World.block_lt_of_cell? _ _ hSx.1.2.2.2.1)).trans hSx.1.2.2.2.1, (hh.2.cell (p := ⟨w.heap.size + 1, 1, none⟩) (World.block_lt_of_cell? _ _ hSx.1.2.2.2.2.1)).trans hSx.1.2.2.2.2.1, (hh.2.cell (p := ⟨w.heap.size + 1, 2, none⟩) (World.block_lt_of_cell? _ _ hSx.1.2.2.2.2.2.1)).trans hSx.1.2.2.2.2.2.1, (hh.2.cell (p := ⟨w.heap.size + 2, 0, none⟩) (World.block_lt_of_cell? _ _ hSx.1.2.2.2.2.2.2.1)).trans hSx.1.2.2.2.2.2.2.1, (hh.2.cell (p := ⟨w.heap.size + 2, 1, none⟩) (World.block_lt_of_cell? _ _ hSx.1.2.2.2.2.2.2.2.1)).trans hSx.1.2.2.2.2.2.2.2.1, (hh.2.cell (p := ⟨w.heap.size + 2, 2, none⟩) (World.block_lt_of_cell? _ _ hSx.1.2.2.2.2.2.2.2.2)).trans hSx.1.2.2.2.2.2.2.2.2⟩, Lib.hid (hSx.2.out.trans (hh.2.mono hSx.2.out.size))⟩)
          simp only [Act.put, List.setIfInBounds_toArray, List.set_cons_zero, List.set_cons_succ]
          go_big_quiet_on
          go_big_quiet_want
          refine ⟨(valV ⟨qk, qn, qs⟩), fun wx hSx => ?_, ?_⟩
          · obtain ⟨⟨k0, k1, k2, k3, k4, k5, k6, k7, k8⟩, -⟩ := hSx
            go_simp
            try first
              | with_reducible rfl
              | rw [if_neg (by omega)]
          simp only [Act.put, List.setIfInBounds_toArray, List.set_cons_zero, List.set_cons_succ]
          go_big_quiet_on
          go_big_quiet_want
          refine ⟨(valV ⟨rk, rn, rs⟩), fun wx hSx => ?_, ?_⟩
          · obtain ⟨⟨k0, k1, k2, k3, k4, k5, k6, k7, k8⟩, -⟩ := hSx
            go_simp
            try first
              | with_reducible rfl
              | rw [if_neg (by omega)]
          simp only [Act.put, List.setIfInBounds_toArray, List.set_cons_zero, List.set_cons_succ]
          go_big_quiet_on
          go_big_quiet_want
          refine ⟨(.int .i64 y), fun wx hSx => ?_, ?_⟩
          · exact quietAt_call 22 #[valV ⟨qk, qn, qs⟩, valV ⟨rk, rn, rs⟩] (by go_simp) ((HC.out.2.1 wx).mono fun e w' hh => ⟨hh.1, ⟨(hh.2.cell (p := ⟨w.heap.size, 0, none⟩) (World.block_lt_of_cell? _ _ hSx.1.1)).trans hSx.1.1, (hh.2.cell (p := ⟨w.heap.size, 1, none⟩) (World.block_lt_of_cell? _ _ hSx.1.2.1)).trans hSx.1.2.1, (hh.2.cell (p := ⟨w.heap.size, 2, none⟩) (World.block_lt_of_cell? _ _ hSx.1.2.2.1)).trans hSx.1.2.2.1, (hh.2.cell (p := ⟨w.heap.size + 1, 0, none⟩) (World.block_lt_of_cell? _ _ hSx.1.2.2.2.1)).trans hSx.1.2.2.2.1, (hh.2.cell (p := ⟨w.heap.size + 1, 1, none⟩) (World.block_lt_of_cell? _ _ hSx.1.2.2.2.2.1)).trans hSx.1.2.2.2.2.1, (hh.2.cell (p := ⟨w.heap.size + 1, 2, none⟩) (World.block_lt_of_cell? _ _ hSx.1.2.2.2.2.2.1)).trans hSx.1.2.2.2.2.2.1, (hh.2.cell (p := ⟨w.heap.size + 2, 0, none⟩) (World.block_lt_of_cell? _ _ hSx.1.2.2.2.2.2.2.1)).trans hSx.1.2.2.2.2.2.2.1, (hh.2.cell (p := ⟨w.heap.size + 2, 1, none⟩) (World.block_lt_of_cell? _ _ hSx.1.2.2.2.2.2.2.2.1)).trans hSx.1.2.2.2.2.2.2.2.1, (hh.2.cell (p := ⟨w.heap.size + 2, 2, none⟩) (World.block_lt_of_cell? _ _ hSx.1.2.2.2.2.2.2.2.2)).trans hSx.1.2.2.2.2.2.2.2.2⟩, Lib.hid (hSx.2.out.trans (hh.2.mono hSx.2.out.size))⟩)
          simp only [Act.put, List.setIfInBounds_toArray, List.set_cons_zero, List.set_cons_succ]
          go_big_quiet_on
          go_big_quiet_want
          refine ⟨(valV ⟨pk, pn, ps⟩), fun wx hSx => ?_, ?_⟩
          · obtain ⟨⟨k0, k1, k2, k3, k4, k5, k6, k7, k8⟩, -⟩ := hSx
            go_simp
            try first
              | with_reducible rfl
              | rw [if_neg (by omega)]
          simp only [Act.put, List.setIfInBounds_toArray, List.set_cons_zero, List.set_cons_succ]
          go_big_quiet_on
          go_big_quiet_want
          refine ⟨(valV ⟨rk, rn, rs⟩), fun wx hSx => ?_, ?_⟩
          · obtain ⟨⟨k0, k1, k2, k3, k4, k5, k6, k7, k8⟩, -⟩ := hSx
            go_simp
            try first
              | with_reducible rfl
              | rw [if_neg (by omega)]
          simp only [Act.put, List.setIfInBounds_toArray, List.set_cons_zero, List.set_cons_succ]
          go_big_quiet_on
          go_big_quiet_want
          refine ⟨(.int .i64 z), fun wx hSx => ?_, ?_⟩
          · exact quietAt_call 22 #[valV ⟨pk, pn, ps⟩, valV ⟨rk, rn, rs⟩] (by go_simp) ((HC.out.2.2.1 wx).mono fun e w' hh => ⟨hh.1, ⟨(hh.2.cell (p := ⟨w.heap.size, 0, none⟩) (World.block_lt_of_cell? _ _ hSx.1.1)).trans hSx.1.1, (hh.2.cell (p := ⟨w.heap.size, 1, none⟩) (World.block_lt_of_cell? _ _ hSx.1.2.1)).trans hSx.1.2.1, (hh.2.cell (p := ⟨w.heap.size, 2, none⟩) (World.block_lt_of_cell? _ _ hSx.1.2.2.1)).trans hSx.1.2.2.1, (hh.2.cell (p := ⟨w.heap.size + 1, 0, none⟩) (World.block_lt_of_cell? _ _ hSx.1.2.2.2.1)).trans hSx.1.2.2.2.1, (hh.2.cell (p := ⟨w.heap.size + 1, 1, none⟩) (World.block_lt_of_cell? _ _ hSx.1.2.2.2.2.1)).trans hSx.1.2.2.2.2.1, (hh.2.cell (p := ⟨w.heap.size + 1, 2, none⟩) (World.block_lt_of_cell? _ _ hSx.1.2.2.2.2.2.1)).trans hSx.1.2.2.2.2.2.1, (hh.2.cell (p := ⟨w.heap.size + 2, 0, none⟩) (World.block_lt_of_cell? _ _ hSx.1.2.2.2.2.2.2.1)).trans hSx.1.2.2.2.2.2.2.1, (hh.2.cell (p := ⟨w.heap.size + 2, 1, none⟩) (World.block_lt_of_cell? _ _ hSx.1.2.2.2.2.2.2.2.1)).trans hSx.1.2.2.2.2.2.2.2.1, (hh.2.cell (p := ⟨w.heap.size + 2, 2, none⟩) (World.block_lt_of_cell? _ _ hSx.1.2.2.2.2.2.2.2.2)).trans hSx.1.2.2.2.2.2.2.2.2⟩, Lib.hid (hSx.2.out.trans (hh.2.mono hSx.2.out.size))⟩)
          simp only [Act.put, List.setIfInBounds_toArray, List.set_cons_zero, List.set_cons_succ]
          go_big_quiet_on
          refine wpQuiet_nil ?_
          rintro w4 ⟨⟨c0, c1, c2, c3, c4, c5, c6, c7, c8⟩, hb4⟩
          have H4 : Hid (Box3 w ⟨pk, pn, ps⟩ ⟨qk, qn, qs⟩ ⟨rk, rn, rs⟩ w4) := Lib.hid ⟨⟨c0, c1, c2, c3, c4, c5, c6, c7, c8⟩, Lib.hid (H3.out.2.out.trans (hb4.out.mono H3.out.2.out.size))⟩
          clear hb4
          go_wp2_with fail
          refine (HC.out.2.2.2.1 _ (pow10_below HT.out H4.out.2.out)).mono ?_
          rintro e w5 ⟨rfl, hb⟩
          have H5 := Lib.hid (box3_up H4.out hb)
          clear hb c0 c1 c2 c3 c4 c5 c6 c7 c8
          obtain ⟨⟨c0, c1, c2, c3, c4, c5, c6, c7, c8⟩, _⟩ := H5.out
          go_wp2_with fail
          refine (HC.out.2.2.2.2.1 _ (pow10_below HT.out H5.out.2.out)).mono ?_
          rintro e w6 ⟨rfl, hb⟩
          have H6 := Lib.hid (box3_up H5.out hb)
          clear hb c0 c1 c2 c3 c4 c5 c6 c7 c8
          obtain ⟨⟨c0, c1, c2, c3, c4, c5, c6, c7, c8⟩, _⟩ := H6.out
          go_wp2_with fail
          refine (HC.out.2.2.2.2.2 _).mono ?_
          rintro e w7 ⟨rfl, hb⟩
          have H7 := Lib.hid (box3_up H6.out hb)
          clear hb c0 c1 c2 c3 c4 c5 c6 c7 c8
          obtain ⟨⟨c0, c1, c2, c3, c4, c5, c6, c7, c8⟩, _⟩ := H7.out
          by_cases hx0 : x > 0
          · go_wp2_with fail
            refine (lives12_any _ (pow10_below HT.out H7.out.2.out)).mono ?_
            rintro e wl ⟨rfl, hb⟩
            have HL := Lib.hid (H7.out.2.out.trans (hb.mono H7.out.2.out.size))
            clear hb
            go_wp2_with fail
            go_ret
            exact ⟨rfl, HL.out⟩
          · by_cases hy0 : y > 0
            · go_wp2_with fail
              refine (lives12_any _ (pow10_below HT.out H7.out.2.out)).mono ?_
              rintro e wl ⟨rfl, hb⟩
              have HL := Lib.hid (H7.out.2.out.trans (hb.mono H7.out.2.out.size))
              clear hb
              go_wp2_with fail
              go_ret
              exact ⟨rfl, HL.out⟩
            · by_cases hz0 : z < 0
              · go_wp2_with fail
                refine (lives12_any _ (pow10_below HT.out H7.out.2.out)).mono ?_
                rintro e wl ⟨rfl, hb⟩
                have HL := Lib.hid (H7.out.2.out.trans (hb.mono H7.out.2.out.size))
                clear hb
                go_wp2_with fail
                go_ret
                exact ⟨rfl, HL.out⟩
              · obtain ⟨hx1', hy1, hz1⟩ : x = 0 ∧ y = 0 ∧ z = 0 := by
                  rcases HX.out.2.2 with h | h | h | h
                  · exact absurd h hx0
                  · exact absurd h hy0
                  · exact absurd h hz0
                  · exact h
                exact absurd hx1 (by simp [hx1'])
      · rw [checkE_bad rc] at cC
        have HK := Lib.hid (And.intro cA (And.intro cB cC))
        clear cA cB cC ra rb rc fa fb _fc
        obtain ⟨pk, pn, ps⟩ := a
        obtain ⟨qk, qn, qs⟩ := b
        obtain ⟨rk, rn, rs⟩ := c
        obtain ⟨⟨c0, c1, c2, c3, c4, c5, c6, c7, c8⟩, _⟩ := H0.out
        go_enter Tryd.func7, Tryd.ntmps7
        generalize hw0 : World.alloc (World.alloc (World.alloc w _) _) _ = w0 at *
        go_wp2_with fail
        refine (HK.out.1 _).mono ?_
        rintro e w1 ⟨rfl, hb⟩
        have H1 := Lib.hid (box3_up H0.out hb)
        clear hb c0 c1 c2 c3 c4 c5 c6 c7 c8
        obtain ⟨⟨c0, c1, c2, c3, c4, c5, c6, c7, c8⟩, _⟩ := H1.out
        go_wp2_with fail
        refine (HK.out.2.1 _).mono ?_
        rintro e w2 ⟨rfl, hb⟩
        have H2 := Lib.hid (box3_up H1.out hb)
        clear hb c0 c1 c2 c3 c4 c5 c6 c7 c8
        obtain ⟨⟨c0, c1, c2, c3, c4, c5, c6, c7, c8⟩, _⟩ := H2.out
        go_wp2_with fail
        refine (HK.out.2.2 _).mono ?_
        rintro e w3 ⟨rfl, hb⟩
        have H3 := Lib.hid (box3_up H2.out hb)
        clear hb c0 c1 c2 c3 c4 c5 c6 c7 c8
        obtain ⟨⟨c0, c1, c2, c3, c4, c5, c6, c7, c8⟩, _⟩ := H3.out
        go_wp2_with fail
        refine (lives12_any _ (pow10_below HT.out H3.out.2.out)).mono ?_
        rintro e wl ⟨rfl, hb⟩
        have HL := Lib.hid (H3.out.2.out.trans (hb.mono H3.out.2.out.size))
        clear hb
        go_wp2_with fail
        go_ret
        exact ⟨rfl, HL.out⟩
    · rw [checkE_bad rb] at cB
      have HK := Lib.hid (And.intro cA (And.intro cB cC))
      clear cA cB cC ra rb fa fb _fc
      obtain ⟨pk, pn, ps⟩ := a
      obtain ⟨qk, qn, qs⟩ := b
      obtain ⟨rk, rn, rs⟩ := c
      obtain ⟨⟨c0, c1, c2, c3, c4, c5, c6, c7, c8⟩, _⟩ := H0.out
      go_enter Tryd.func7, Tryd.ntmps7
      generalize hw0 : World.alloc (World.alloc (World.alloc w _) _) _ = w0 at *
      go_wp2_with fail
      refine (HK.out.1 _).mono ?_
      rintro e w1 ⟨rfl, hb⟩
      have H1 := Lib.hid (box3_up H0.out hb)
      clear hb c0 c1 c2 c3 c4 c5 c6 c7 c8
      obtain ⟨⟨c0, c1, c2, c3, c4, c5, c6, c7, c8⟩, _⟩ := H1.out
      go_wp2_with fail
      refine (HK.out.2.1 _).mono ?_
      rintro e w2 ⟨rfl, hb⟩
      have H2 := Lib.hid (box3_up H1.out hb)
      clear hb c0 c1 c2 c3 c4 c5 c6 c7 c8
      obtain ⟨⟨c0, c1, c2, c3, c4, c5, c6, c7, c8⟩, _⟩ := H2.out
      go_wp2_with fail
      refine (lives12_any _ (pow10_below HT.out H2.out.2.out)).mono ?_
      rintro e wl ⟨rfl, hb⟩
      have HL := Lib.hid (H2.out.2.out.trans (hb.mono H2.out.2.out.size))
      clear hb
      go_wp2_with fail
      go_ret
      exact ⟨rfl, HL.out⟩
  · rw [checkE_bad ra] at cA
    have HK := Lib.hid (And.intro cA (And.intro cB cC))
    clear cA cB cC ra fa fb _fc
    obtain ⟨pk, pn, ps⟩ := a
    obtain ⟨qk, qn, qs⟩ := b
    obtain ⟨rk, rn, rs⟩ := c
    obtain ⟨⟨c0, c1, c2, c3, c4, c5, c6, c7, c8⟩, _⟩ := H0.out
    go_enter Tryd.func7, Tryd.ntmps7
    generalize hw0 : World.alloc (World.alloc (World.alloc w _) _) _ = w0 at *
    go_wp2_with fail
    refine (HK.out.1 _).mono ?_
    rintro e w1 ⟨rfl, hb⟩
    have H1 := Lib.hid (box3_up H0.out hb)
    clear hb c0 c1 c2 c3 c4 c5 c6 c7 c8
    obtain ⟨⟨c0, c1, c2, c3, c4, c5, c6, c7, c8⟩, _⟩ := H1.out
    go_wp2_with fail
    refine (lives12_any _ (pow10_below HT.out H1.out.2.out)).mono ?_
    rintro e wl ⟨rfl, hb⟩
    have HL := Lib.hid (H1.out.2.out.trans (hb.mono H1.out.2.out.size))
    clear hb
    go_wp2_with fail
    go_ret
    exact ⟨rfl, HL.out⟩
end Go.Proofs.YtpniegglbglbcaaDoor
