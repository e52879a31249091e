/-
  Layer 15's laws: TypingNull, walked.
-/
import Derived.Test.YtmkckbidfpinfaaDoorZTypNullM
import Derived.Test.YtmkckbidfpinfaaDoorZTypOpen
import Derived.Test.YtmkckbidfpinfaaDoorPk6
import Derived.Test.YtmkckbidfpinfaaDoorPk5
namespace Go.Proofs.YtmkckbidfpinfaaDoor
open Go.RowKit Go.Shelf
open Sx (X)
attribute [local go_sem] Oper.semAt_some
theorem below_more {N : Nat} {w w1 w2 : World} (hN : w.heap.size = N) (h : Below N w w1) (h2 : Below w1.heap.size w1 w2) : Below N w w2 := by
  subst hN
  exact h.trans (h2.mono h.size)
/-- what the two kinds are to one another -/
def NullP (j k r b f : Int) : Prop := (r = 13 → f = 13 ∨ f = 14) ∧ (r = 0 → f = 14 ∨ (f = 0 ∧ Ty.Rel j k b))
theorem nullP_of {mk : Prop} {cs : List Ty.Col} {x : X} {v : Vl.V} {k r b f : Int} (h1 : (k, r) = (if Sx.allR (Sx.po x 1) = true then Ty.kd cs x else ((0 : Int), (2 : Int))) ∨ (mk ∧ k = 0 ∧ r = 2)) (hy : Sx.right (.mk 1 v Vl.mt []) = true)
    (h2 : (b, f) = (if Sx.allR (Sx.po (Ty.withX (.mk 1 v Vl.mt []) x) 1) = true then Ty.kd cs (Ty.withX (.mk 1 v Vl.mt []) x) else ((0 : Int), (2 : Int)))) : NullP v.kind k r b f := by
  rcases h1 with h1 | ⟨_, _, rfl⟩
  · rw [← Sx.right_parts] at h1 h2
    by_cases hr : Sx.right x = true
    · rw [if_pos hr] at h1
      rw [if_pos (Ty.right_with hy x hr)] at h2
      have hk : Ty.kd cs (.mk 1 v Vl.mt []) = (v.kind, 0) := by rw [Ty.kd, Ty.kdL, if_pos rfl]; rfl
      have h := Ty.kd_nul cs _ _ hk x hr
      rw [← h1, ← h2] at h
      exact h
    · rw [if_neg hr] at h1
      have e : r = 2 := congrArg Prod.snd h1
      subst e
      exact ⟨fun e => (by cases e), fun e => (by cases e)⟩
  · exact ⟨fun e => (by cases e), fun e => (by cases e)⟩
set_option maxRecDepth 100000 in
set_option maxHeartbeats 12800000 in
theorem TypingNull_walk (x : X) (a : Option Addr) (c : Nat) (L : List ColV) (al : Option Addr) (cap : Nat) (v : Vl.V) (hm : L.length ≤ maxLen) (_hc : L.length ≤ cap) (hv : Fits v) (w : World) (hX : XOk w w.heap.size True x a) (hok : Sx.okX x) (hR : ReadsCF w al L) (hF : Facts13 w) :
    Calls Tryd.prog 4 #[xV x a c, .slice al L.length cap, valV v] w fun e w' => e = .returned (.bool true) ∧ Below w.heap.size w w' := by
  have HLv := Lib.hid fun (wx : World) (hb : Below w.heap.size w wx) => lives15_any wx (errR_below hF.2 hb)
  have HSm := Lib.hid fun (wx : World) (hb : Below w.heap.size w wx) => Small14_any (fun j => j < w.heap.size) x hok a c wx (xat_below (xok_at x a hX) hb)
  have HFw := Lib.hid fun (wx : World) (hb : Below w.heap.size w wx) => fewC15_any L al L.length cap rfl hm (fun c h => hR.2 c h) wx (readsC_below hR.1 hb)
  have HVl := Lib.hid fun wx => val15_any v wx
  have hxr := (x_new x a c w).1
  have hxb := (x_new x a c w).2.1
  obtain ⟨W2, hW2⟩ : ∃ W2, (w.alloc (.cells (xC x a c) 36)).alloc (.cells (valC v) 33) = W2 := ⟨_, rfl⟩
  have hb2 : Below w.heap.size w W2 := by rw [← hW2]; exact hxb.alloc (by simp) _
  have hs2 : W2.heap.size = w.heap.size + 2 := by rw [← hW2]; simp
  have hr1 : RowV W2 w.heap.size 36 (xC x a c).toList := by rw [← hW2]; exact rowV_alloc hxr _
  have hr2 : RowV W2 (w.heap.size + 1) 33 (valC v).toList := by
    rw [← hW2]
    have := rowV_new (w.alloc (.cells (xC x a c) 36)) 33 (valC v).toList
    rw [World.size_alloc] at this
    exact this
  have HRow := Lib.hid fun (wx : World) (hb : Below W2.heap.size W2 wx) => And.intro (rowV_below hr1 hb (rowV_lt hr1)) (And.intro (rowV_below hr2 hb (rowV_lt hr2)) (hb2.trans (hb.mono hb2.size)))
  have HW2 := Lib.hid hW2
  clear hxr hxb hr1 hr2 hb2 hW2
  by_cases hsm : Sx.smallX x = true
  · obtain ⟨hfine, hdeep, -⟩ := Sx.smallX_facts hsm hok
    have hsb : Sx.smallB 30 x = true := by unfold Sx.smallX at hsm; rw [Bool.and_eq_true] at hsm; exact hsm.1
    rw [hsm] at HSm
    by_cases hfew : fewC L = true
    · obtain ⟨h12, h300⟩ := fewC_is hfew
      rw [hfew] at HFw
      have hYl : (X.mk 1 v Vl.mt []).l = [] := rfl
      have hYf : Sx.fine (.mk 1 v Vl.mt []) := by
        rw [Sx.fine, Sx.okX, Sx.fineL, Sx.okL]
        exact ⟨⟨⟨hv.1, hv.2.1⟩, hv.2.2, by decide, by decide, trivial⟩, by decide, trivial⟩
      have hYd : Sx.deep (.mk 1 v Vl.mt []) ≤ 1 := by rw [Sx.deep, Sx.deepL]; omega
      have hNm : ∀ c ∈ L, c.name.size ≤ 1000000 := fun c h => by have := h300 c h; omega
      have HCh := Lib.hid fun (wx : World) (hb : Below w.heap.size w wx) => check14_any (mk := False) (.mk 1 v Vl.mt []) none 0 wx (by rw [XOk]; exact .inl rfl) hYf (by omega) (errR_below hF.2 hb)
      have HK1 := Lib.hid fun (wx : World) (hb : Below w.heap.size w wx) => Upw.Kind15_any (mk := True) x a c L al cap (by omega) hNm wx (xok_same hb.size (fun j hj => hb.block j hj) x a hX) hfine (by omega) (errR_below hF.2 hb) (readsC_below hR.1 hb)
      have HWi := Lib.hid fun (wx : World) (hb : Below w.heap.size w wx) => with15_any (.mk 1 v Vl.mt []) hYl 30 x hsb (fun j => j < w.heap.size) a c wx (xat_below (xok_at x a hX) hb)
      have HK2 := Lib.hid fun (a1 : Option Addr) (c1 : Nat) (wx : World) (hb : Below w.heap.size w wx) (hx1 : XU wx (Ty.withX (.mk 1 v Vl.mt []) x) a1) => (Upw.Kind15_any (mk := False) (Ty.withX (.mk 1 v Vl.mt []) x) a1 c1 L al cap (by omega) hNm wx (xu_ok hx1) (Ty.fine_with hYf x hfine) (by have := Ty.deep_with hYd x; omega) (errR_below hF.2 hb) (readsC_below hR.1 hb)).mono (fun e w' h => (by
        obtain ⟨k, r, h1, h2, h3⟩ := h
        rcases h3 with h3 | h3
        · exact ⟨k, r, h1, h2, h3⟩
        · exact h3.1.elim : ∃ k r : Int, e = .returned (.tuple #[.int .i64 k, .int .i64 r]) ∧ Below wx.heap.size wx w' ∧ (k, r) = (if Sx.allR (Sx.po (Ty.withX (.mk 1 v Vl.mt []) x) 1) = true then Ty.kd (L.map colK) (Ty.withX (.mk 1 v Vl.mt []) x) else ((0 : Int), (2 : Int)))))
      have HNP := Lib.hid fun (hy : Sx.right (.mk 1 v Vl.mt []) = true) (k r b f : Int) h1 h2 => nullP_of (mk := True) (cs := L.map colK) (x := x) (v := v) (k := k) (r := r) (b := b) (f := f) h1 hy h2
      have hRP := Lib.hid (Sx.right_parts (.mk 1 v Vl.mt []) 1)
      clear hfine hdeep hsb hsm hfew h12 h300 hYl hYf hYd hNm hR hF hX hok hm _hc hv
      generalize hNL : L.length = NL at *
      generalize hNN : w.heap.size = N at *
      have hNX := Lib.hid hNN
      clear hNN hNL
      generalize hYY : X.mk 1 v Vl.mt [] = Y at *
      clear hYY
      generalize hZZ : (if Sx.allR (Sx.po (Ty.withX Y x) 1) = true then Ty.kd (L.map colK) (Ty.withX Y x) else ((0 : Int), (2 : Int))) = ZZ at *
      clear hZZ
      go_enter Tryd.func4, Tryd.ntmps4
      go_upto_region 1 with (fail)
      generalize hWg : World.alloc _ _ = Wg
      obtain rfl : Wg = W2 := hWg.symm.trans HW2.out
      clear hWg
      simp only [hNX.out]
      have hB0 := (HRow.out _ (Below.refl _ _)).2.2
      obtain ⟨d0, d1, d2, d3, d4, d5⟩ := x_cells (HRow.out _ (Below.refl _ _)).1
      obtain ⟨v0, v1, v2⟩ := (⟨rowV_cell (HRow.out _ (Below.refl _ _)).2.1 0, rowV_cell (HRow.out _ (Below.refl _ _)).2.1 1, rowV_cell (HRow.out _ (Below.refl _ _)).2.1 2⟩ : _ ∧ _ ∧ _)
      simp only [Nat.zero_add, List.getElem?_cons_zero, List.getElem?_cons_succ] at d0 d1 d2 d3 d4 d5 v0 v1 v2
      have HB0 := Lib.hid hB0
      clear hB0
      go_wp2_with fail
      refine (HSm.out _ HB0.out).mono ?_
      rintro e w3 ⟨rfl, hb3⟩
      have H3 := Lib.hid (And.intro hb3 (below_more hNX.out HB0.out hb3))
      clear hb3 d0 d1 d2 d3 d4 d5 v0 v1 v2
      go_wp2_with fail
      refine (HFw.out _ H3.out.2).mono ?_
      rintro e w4 ⟨rfl, hb4⟩
      obtain rfl : w4 = w3 := hb4
      obtain ⟨d0, d1, d2, d3, d4, d5⟩ := x_cells (HRow.out _ H3.out.1).1
      obtain ⟨v0, v1, v2⟩ := (⟨rowV_cell (HRow.out _ H3.out.1).2.1 0, rowV_cell (HRow.out _ H3.out.1).2.1 1, rowV_cell (HRow.out _ H3.out.1).2.1 2⟩ : _ ∧ _ ∧ _)
      simp only [Nat.zero_add, List.getElem?_cons_zero, List.getElem?_cons_succ] at d0 d1 d2 d3 d4 d5 v0 v1 v2
      go_wp2_with fail
      refine (HVl.out _).mono ?_
      rintro e w4 ⟨rfl, hb4⟩
      have H4 := Lib.hid (And.intro (H3.out.1.trans (hb4.mono H3.out.1.size)) (below_more hNX.out H3.out.2 hb4))
      clear hb4 d0 d1 d2 d3 d4 d5 v0 v1 v2
      go_wp2_with fail
      refine (HCh.out _ H4.out.2).mono ?_
      rintro e w5 ⟨r0, rfl, hb5, hr0⟩
      have H5 := Lib.hid (And.intro (H4.out.1.trans (hb5.mono H4.out.1.size)) (below_more hNX.out H4.out.2 hb5))
      clear hb5
      rcases hr0 with ⟨rfl, hall⟩ | ⟨rfl, -⟩
      · have HY := Lib.hid (hRP.out.trans hall)
        clear hall
        obtain ⟨d0, d1, d2, d3, d4, d5⟩ := x_cells (HRow.out _ H5.out.1).1
        obtain ⟨v0, v1, v2⟩ := (⟨rowV_cell (HRow.out _ H5.out.1).2.1 0, rowV_cell (HRow.out _ H5.out.1).2.1 1, rowV_cell (HRow.out _ H5.out.1).2.1 2⟩ : _ ∧ _ ∧ _)
        simp only [Nat.zero_add, List.getElem?_cons_zero, List.getElem?_cons_succ] at d0 d1 d2 d3 d4 d5 v0 v1 v2
        go_wp2_with fail
        refine (HK1.out _ H5.out.2).mono ?_
        rintro e w6 ⟨k, r, rfl, hb6, hk⟩
        have H6 := Lib.hid (And.intro (H5.out.1.trans (hb6.mono H5.out.1.size)) (And.intro (below_more hNX.out H5.out.2 hb6) hk))
        clear hb6 hk d0 d1 d2 d3 d4 d5 v0 v1 v2
        obtain ⟨d0, d1, d2, d3, d4, d5⟩ := x_cells (HRow.out _ H6.out.1).1
        obtain ⟨v0, v1, v2⟩ := (⟨rowV_cell (HRow.out _ H6.out.1).2.1 0, rowV_cell (HRow.out _ H6.out.1).2.1 1, rowV_cell (HRow.out _ H6.out.1).2.1 2⟩ : _ ∧ _ ∧ _)
        simp only [Nat.zero_add, List.getElem?_cons_zero, List.getElem?_cons_succ] at d0 d1 d2 d3 d4 d5 v0 v1 v2
        go_wp2_with fail
        refine wp_region_plan (S := fun wx => wx.cell? ⟨N, 0, none⟩ = some (.int .i64 x.op) ∧ wx.cell? ⟨N, 1, none⟩ = some (.int .i64 x.v.kind) ∧ wx.cell? ⟨N, 2, none⟩ = some (.int .i64 x.v.n) ∧ wx.cell? ⟨N, 3, none⟩ = some (.string x.v.s) ∧ wx.cell? ⟨N, 4, none⟩ = some (.string x.s) ∧ wx.cell? ⟨N, 5, none⟩ = some (.slice a x.l.length c) ∧ wx.cell? ⟨N + 1, 0, none⟩ = some (.int .i64 v.kind) ∧ wx.cell? ⟨N + 1, 1, none⟩ = some (.int .i64 v.n) ∧ wx.cell? ⟨N + 1, 2, none⟩ = some (.string v.s) ∧ Hid (Below Wg.heap.size Wg wx)) 10 [(true, 0), (true, 1), (true, 4), (false, 2), (false, 3), (false, 5), (true, 6), (true, 7), (true, 8), (true, 9)] (by kernel_rfl) (fun _ d _ _ _ h => by cases d <;> exact h) (by kernel_rfl) ⟨d0, d1, d2, d3, d4, d5, v0, v1, v2, Lib.hid (H6.out.1.drew)⟩ ?_
        refine wpPlan_step (i := 0) rfl ⟨(xV x a c), ⟨by rfl, fun wx hSx => ?_⟩, ?_⟩
        · obtain ⟨d0, d1, d2, d3, d4, d5, v0, v1, v2, -⟩ := hSx
          go_simp
        simp only [Act.put, List.setIfInBounds_toArray, List.set_cons_zero, List.set_cons_succ]
        refine wpPlan_step (i := 1) rfl ⟨(valV v), ⟨by rfl, fun wx hSx => ?_⟩, ?_⟩
        · obtain ⟨d0, d1, d2, d3, d4, d5, v0, v1, v2, -⟩ := hSx
          go_simp
        simp only [Act.put, List.setIfInBounds_toArray, List.set_cons_zero, List.set_cons_succ]
        refine wpPlan_step (i := 4) rfl ⟨(.slice al NL cap), ⟨by rfl, fun wx hSx => ?_⟩, ?_⟩
        · obtain ⟨d0, d1, d2, d3, d4, d5, v0, v1, v2, -⟩ := hSx
          go_simp
        simp only [Act.put, List.setIfInBounds_toArray, List.set_cons_zero, List.set_cons_succ]
        have HS0 : Hid (w6.drew.cell? ⟨N, 0, none⟩ = some (.int .i64 x.op) ∧ w6.drew.cell? ⟨N, 1, none⟩ = some (.int .i64 x.v.kind) ∧ w6.drew.cell? ⟨N, 2, none⟩ = some (.int .i64 x.v.n) ∧ w6.drew.cell? ⟨N, 3, none⟩ = some (.string x.v.s) ∧ w6.drew.cell? ⟨N, 4, none⟩ = some (.string x.s) ∧ w6.drew.cell? ⟨N, 5, none⟩ = some (.slice a x.l.length c) ∧ w6.drew.cell? ⟨N + 1, 0, none⟩ = some (.int .i64 v.kind) ∧ w6.drew.cell? ⟨N + 1, 1, none⟩ = some (.int .i64 v.n) ∧ w6.drew.cell? ⟨N + 1, 2, none⟩ = some (.string v.s) ∧ Hid (Below Wg.heap.size Wg w6.drew)) := Lib.hid ⟨d0, d1, d2, d3, d4, d5, v0, v1, v2, Lib.hid (H6.out.1.drew)⟩
        clear d0 d1 d2 d3 d4 d5 v0 v1 v2
        refine wpPlan_call (i := 2) rfl (by rfl) 14 #[valV v] (by go_simp) (HVl.out _) ?_
        rintro e w7 ⟨rfl, hb7⟩
        have hS7 : w7.cell? ⟨N, 0, none⟩ = some (.int .i64 x.op) ∧ w7.cell? ⟨N, 1, none⟩ = some (.int .i64 x.v.kind) ∧ w7.cell? ⟨N, 2, none⟩ = some (.int .i64 x.v.n) ∧ w7.cell? ⟨N, 3, none⟩ = some (.string x.v.s) ∧ w7.cell? ⟨N, 4, none⟩ = some (.string x.s) ∧ w7.cell? ⟨N, 5, none⟩ = some (.slice a x.l.length c) ∧ w7.cell? ⟨N + 1, 0, none⟩ = some (.int .i64 v.kind) ∧ w7.cell? ⟨N + 1, 1, none⟩ = some (.int .i64 v.n) ∧ w7.cell? ⟨N + 1, 2, none⟩ = some (.string v.s) ∧ Hid (Below Wg.heap.size Wg w7) := ⟨(hb7.cell (World.block_lt_of_cell? _ _ HS0.out.1)).trans HS0.out.1, (hb7.cell (World.block_lt_of_cell? _ _ HS0.out.2.1)).trans HS0.out.2.1, (hb7.cell (World.block_lt_of_cell? _ _ HS0.out.2.2.1)).trans HS0.out.2.2.1, (hb7.cell (World.block_lt_of_cell? _ _ HS0.out.2.2.2.1)).trans HS0.out.2.2.2.1, (hb7.cell (World.block_lt_of_cell? _ _ HS0.out.2.2.2.2.1)).trans HS0.out.2.2.2.2.1, (hb7.cell (World.block_lt_of_cell? _ _ HS0.out.2.2.2.2.2.1)).trans HS0.out.2.2.2.2.2.1, (hb7.cell (World.block_lt_of_cell? _ _ HS0.out.2.2.2.2.2.2.1)).trans HS0.out.2.2.2.2.2.2.1, (hb7.cell (World.block_lt_of_cell? _ _ HS0.out.2.2.2.2.2.2.2.1)).trans HS0.out.2.2.2.2.2.2.2.1, (hb7.cell (World.block_lt_of_cell? _ _ HS0.out.2.2.2.2.2.2.2.2.1)).trans HS0.out.2.2.2.2.2.2.2.2.1, Lib.hid (HS0.out.2.2.2.2.2.2.2.2.2.out.trans (hb7.mono HS0.out.2.2.2.2.2.2.2.2.2.out.size))⟩
        have H7 := Lib.hid hS7
        clear hS7 hb7
        refine .inl ⟨_, rfl, H7.out, ?_⟩
        simp only [Act.put, List.setIfInBounds_toArray, List.set_cons_zero, List.set_cons_succ]
        refine wpPlan_call (i := 3) rfl (by rfl) 16 #[xV x a c, xV Y none 0] (by go_simp) (HWi.out _ (HRow.out _ H7.out.2.2.2.2.2.2.2.2.2.out).2.2) ?_
        rintro e w8 ⟨a1, c1, rfl, hX8, hb8⟩
        have hS8 : w8.cell? ⟨N, 0, none⟩ = some (.int .i64 x.op) ∧ w8.cell? ⟨N, 1, none⟩ = some (.int .i64 x.v.kind) ∧ w8.cell? ⟨N, 2, none⟩ = some (.int .i64 x.v.n) ∧ w8.cell? ⟨N, 3, none⟩ = some (.string x.v.s) ∧ w8.cell? ⟨N, 4, none⟩ = some (.string x.s) ∧ w8.cell? ⟨N, 5, none⟩ = some (.slice a x.l.length c) ∧ w8.cell? ⟨N + 1, 0, none⟩ = some (.int .i64 v.kind) ∧ w8.cell? ⟨N + 1, 1, none⟩ = some (.int .i64 v.n) ∧ w8.cell? ⟨N + 1, 2, none⟩ = some (.string v.s) ∧ Hid (Below Wg.heap.size Wg w8) := ⟨(hb8.cell (World.block_lt_of_cell? _ _ H7.out.1)).trans H7.out.1, (hb8.cell (World.block_lt_of_cell? _ _ H7.out.2.1)).trans H7.out.2.1, (hb8.cell (World.block_lt_of_cell? _ _ H7.out.2.2.1)).trans H7.out.2.2.1, (hb8.cell (World.block_lt_of_cell? _ _ H7.out.2.2.2.1)).trans H7.out.2.2.2.1, (hb8.cell (World.block_lt_of_cell? _ _ H7.out.2.2.2.2.1)).trans H7.out.2.2.2.2.1, (hb8.cell (World.block_lt_of_cell? _ _ H7.out.2.2.2.2.2.1)).trans H7.out.2.2.2.2.2.1, (hb8.cell (World.block_lt_of_cell? _ _ H7.out.2.2.2.2.2.2.1)).trans H7.out.2.2.2.2.2.2.1, (hb8.cell (World.block_lt_of_cell? _ _ H7.out.2.2.2.2.2.2.2.1)).trans H7.out.2.2.2.2.2.2.2.1, (hb8.cell (World.block_lt_of_cell? _ _ H7.out.2.2.2.2.2.2.2.2.1)).trans H7.out.2.2.2.2.2.2.2.2.1, Lib.hid (H7.out.2.2.2.2.2.2.2.2.2.out.trans (hb8.mono H7.out.2.2.2.2.2.2.2.2.2.out.size))⟩
        have H8 := Lib.hid (And.intro hS8 (xat_mono (fun j hj => hj.2) _ _ hX8))
        clear hS8 hb8 hX8
        refine .inl ⟨_, rfl, H8.out.1, ?_⟩
        simp only [Act.put, List.setIfInBounds_toArray, List.set_cons_zero, List.set_cons_succ]
        generalize Ty.withX Y x = Z at *
        refine wpPlan_call (i := 5) rfl (by rfl) 15 #[xV Z a1 c1, .slice al NL cap] (by go_simp) (HK2.out a1 c1 _ (HRow.out _ H8.out.1.2.2.2.2.2.2.2.2.2.out).2.2 H8.out.2) ?_
        rintro e w9 ⟨kb, kf, rfl, hb9, hfin⟩
        have hS9 : w9.cell? ⟨N, 0, none⟩ = some (.int .i64 x.op) ∧ w9.cell? ⟨N, 1, none⟩ = some (.int .i64 x.v.kind) ∧ w9.cell? ⟨N, 2, none⟩ = some (.int .i64 x.v.n) ∧ w9.cell? ⟨N, 3, none⟩ = some (.string x.v.s) ∧ w9.cell? ⟨N, 4, none⟩ = some (.string x.s) ∧ w9.cell? ⟨N, 5, none⟩ = some (.slice a x.l.length c) ∧ w9.cell? ⟨N + 1, 0, none⟩ = some (.int .i64 v.kind) ∧ w9.cell? ⟨N + 1, 1, none⟩ = some (.int .i64 v.n) ∧ w9.cell? ⟨N + 1, 2, none⟩ = some (.string v.s) ∧ Hid (Below Wg.heap.size Wg w9) := ⟨(hb9.cell (World.block_lt_of_cell? _ _ H8.out.1.1)).trans H8.out.1.1, (hb9.cell (World.block_lt_of_cell? _ _ H8.out.1.2.1)).trans H8.out.1.2.1, (hb9.cell (World.block_lt_of_cell? _ _ H8.out.1.2.2.1)).trans H8.out.1.2.2.1, (hb9.cell (World.block_lt_of_cell? _ _ H8.out.1.2.2.2.1)).trans H8.out.1.2.2.2.1, (hb9.cell (World.block_lt_of_cell? _ _ H8.out.1.2.2.2.2.1)).trans H8.out.1.2.2.2.2.1, (hb9.cell (World.block_lt_of_cell? _ _ H8.out.1.2.2.2.2.2.1)).trans H8.out.1.2.2.2.2.2.1, (hb9.cell (World.block_lt_of_cell? _ _ H8.out.1.2.2.2.2.2.2.1)).trans H8.out.1.2.2.2.2.2.2.1, (hb9.cell (World.block_lt_of_cell? _ _ H8.out.1.2.2.2.2.2.2.2.1)).trans H8.out.1.2.2.2.2.2.2.2.1, (hb9.cell (World.block_lt_of_cell? _ _ H8.out.1.2.2.2.2.2.2.2.2.1)).trans H8.out.1.2.2.2.2.2.2.2.2.1, Lib.hid (H8.out.1.2.2.2.2.2.2.2.2.2.out.trans (hb9.mono H8.out.1.2.2.2.2.2.2.2.2.2.out.size))⟩
        have H9 := Lib.hid (And.intro hS9 hfin)
        clear hS9 hb9 hfin
        refine .inl ⟨_, rfl, H9.out.1, ?_⟩
        simp only [Act.put, List.setIfInBounds_toArray, List.set_cons_zero, List.set_cons_succ]
        refine wpPlan_step (i := 6) rfl ⟨(.tuple #[.int .i64 kb, .int .i64 kf]), ⟨by rfl, fun wx hSx => ?_⟩, ?_⟩
        · obtain ⟨d0, d1, d2, d3, d4, d5, v0, v1, v2, -⟩ := hSx
          go_simp
        simp only [Act.put, List.setIfInBounds_toArray, List.set_cons_zero, List.set_cons_succ]
        refine wpPlan_step (i := 7) rfl ⟨(.int .i64 kb), ⟨by rfl, fun wx hSx => ?_⟩, ?_⟩
        · obtain ⟨d0, d1, d2, d3, d4, d5, v0, v1, v2, -⟩ := hSx
          go_simp
        simp only [Act.put, List.setIfInBounds_toArray, List.set_cons_zero, List.set_cons_succ]
        refine wpPlan_step (i := 8) rfl ⟨(.int .i64 kf), ⟨by rfl, fun wx hSx => ?_⟩, ?_⟩
        · obtain ⟨d0, d1, d2, d3, d4, d5, v0, v1, v2, -⟩ := hSx
          go_simp
        simp only [Act.put, List.setIfInBounds_toArray, List.set_cons_zero, List.set_cons_succ]
        refine wpPlan_step (i := 9) rfl ⟨(.int .i64 kb), ⟨by rfl, fun wx hSx => ?_⟩, ?_⟩
        · obtain ⟨d0, d1, d2, d3, d4, d5, v0, v1, v2, -⟩ := hSx
          go_simp
        simp only [Act.put, List.setIfInBounds_toArray, List.set_cons_zero, List.set_cons_succ]
        show wpList _ _ _ _ _ w9
        simp only [List.drop_succ_cons, List.drop_zero]
        have hnp := HNP.out HY.out k r kb kf H6.out.2.2 H9.out.2
        have HB9 := Lib.hid (HRow.out _ (H9.out.1.2.2.2.2.2.2.2.2.2.out)).2.2
        obtain ⟨v0, -⟩ := (⟨rowV_cell (HRow.out _ (H9.out.1.2.2.2.2.2.2.2.2.2.out)).2.1 0, trivial⟩ : _ ∧ True)
        simp only [List.getElem?_cons_zero] at v0
        by_cases r13 : r = 13
        · subst r13
          rcases hnp.1 rfl with rfl | rfl
          · clear hnp
            go_wp2_with fail
            refine (HLv.out _ HB9.out).mono ?_
            rintro e wl ⟨rfl, hbl⟩
            have HL := Lib.hid (below_more hNX.out HB9.out hbl)
            clear hbl
            go_wp2_with fail
            go_ret
            exact ⟨rfl, HL.out⟩
          · clear hnp
            go_wp2_with fail
            refine (HLv.out _ HB9.out).mono ?_
            rintro e wl ⟨rfl, hbl⟩
            have HL := Lib.hid (below_more hNX.out HB9.out hbl)
            clear hbl
            go_wp2_with fail
            go_ret
            exact ⟨rfl, HL.out⟩
        · have t1 : (r == 13) = false := by simpa using r13
          by_cases r0 : r = 0
          · subst r0
            rcases hnp.2 rfl with rfl | ⟨rfl, hrel⟩
            · clear hnp
              go_wp2_with fail
              refine (HLv.out _ HB9.out).mono ?_
              rintro e wl ⟨rfl, hbl⟩
              have HL := Lib.hid (below_more hNX.out HB9.out hbl)
              clear hbl
              go_wp2_with fail
              go_ret
              exact ⟨rfl, HL.out⟩
            · clear hnp
              by_cases e1 : kb = k
              · subst e1
                clear hrel
                go_wp2_with fail
                refine (HLv.out _ HB9.out).mono ?_
                rintro e wl ⟨rfl, hbl⟩
                have HL := Lib.hid (below_more hNX.out HB9.out hbl)
                clear hbl
                go_wp2_with fail
                go_ret
                exact ⟨rfl, HL.out⟩
              · have t2 : (kb == k) = false := by simpa using e1
                rcases hrel with h | ⟨rfl, h⟩ | ⟨rfl, rfl⟩
                · exact absurd h e1
                · generalize hvk : v.kind = vk at *
                  subst h
                  clear hvk
                  have t3 : (kb == 0) = false := by simpa using e1
                  go_wp2_with fail
                  refine (HLv.out _ HB9.out).mono ?_
                  rintro e wl ⟨rfl, hbl⟩
                  have HL := Lib.hid (below_more hNX.out HB9.out hbl)
                  clear hbl
                  go_wp2_with fail
                  go_ret
                  exact ⟨rfl, HL.out⟩
                · go_wp2_with fail
                  refine (HLv.out _ HB9.out).mono ?_
                  rintro e wl ⟨rfl, hbl⟩
                  have HL := Lib.hid (below_more hNX.out HB9.out hbl)
                  clear hbl
                  go_wp2_with fail
                  go_ret
                  exact ⟨rfl, HL.out⟩
          · have t2 : (r != 0) = true := by simpa using r0
            clear hnp
            go_wp2_with fail
            refine (HLv.out _ HB9.out).mono ?_
            rintro e wl ⟨rfl, hbl⟩
            have HL := Lib.hid (below_more hNX.out HB9.out hbl)
            clear hbl
            go_wp2_with fail
            go_ret
            exact ⟨rfl, HL.out⟩
      · go_wp2_with fail
        refine (HLv.out _ H5.out.2).mono ?_
        rintro e wl ⟨rfl, hbl⟩
        have HL := Lib.hid (below_more hNX.out H5.out.2 hbl)
        clear hbl
        go_wp2_with fail
        go_ret
        exact ⟨rfl, HL.out⟩
    · rw [Bool.not_eq_true] at hfew
      rw [hfew] at HFw
      clear hfine hdeep hsb hsm hfew hR hF hX hok hm _hc hv
      generalize hNL : L.length = NL at *
      generalize hNN : w.heap.size = N at *
      have hNX := Lib.hid hNN
      clear hNN hNL
      go_enter Tryd.func4, Tryd.ntmps4
      go_upto_region 1 with (fail)
      generalize hWg : World.alloc _ _ = Wg
      obtain rfl : Wg = W2 := hWg.symm.trans HW2.out
      clear hWg
      simp only [hNX.out]
      have hB0 := (HRow.out _ (Below.refl _ _)).2.2
      obtain ⟨d0, d1, d2, d3, d4, d5⟩ := x_cells (HRow.out _ (Below.refl _ _)).1
      obtain ⟨v0, v1, v2⟩ := (⟨rowV_cell (HRow.out _ (Below.refl _ _)).2.1 0, rowV_cell (HRow.out _ (Below.refl _ _)).2.1 1, rowV_cell (HRow.out _ (Below.refl _ _)).2.1 2⟩ : _ ∧ _ ∧ _)
      simp only [Nat.zero_add, List.getElem?_cons_zero, List.getElem?_cons_succ] at d0 d1 d2 d3 d4 d5 v0 v1 v2
      have HB0 := Lib.hid hB0
      clear hB0
      go_wp2_with fail
      refine (HSm.out _ HB0.out).mono ?_
      rintro e w3 ⟨rfl, hb3⟩
      have H3 := Lib.hid (And.intro hb3 (below_more hNX.out HB0.out hb3))
      clear hb3 d0 d1 d2 d3 d4 d5 v0 v1 v2
      go_wp2_with fail
      refine (HFw.out _ H3.out.2).mono ?_
      rintro e w4 ⟨rfl, hb4⟩
      obtain rfl : w4 = w3 := hb4
      go_wp2_with fail
      refine (HLv.out _ H3.out.2).mono ?_
      rintro e wl ⟨rfl, hbl⟩
      have HL := Lib.hid (below_more hNX.out H3.out.2 hbl)
      clear hbl
      go_wp2_with fail
      go_ret
      exact ⟨rfl, HL.out⟩
  · rw [Bool.not_eq_true] at hsm
    rw [hsm] at HSm
    clear hsm hR hF hX hok hm _hc hv
    generalize hNL : L.length = NL at *
    generalize hNN : w.heap.size = N at *
    have hNX := Lib.hid hNN
    clear hNN hNL
    go_enter Tryd.func4, Tryd.ntmps4
    go_upto_region 1 with (fail)
    generalize hWg : World.alloc _ _ = Wg
    obtain rfl : Wg = W2 := hWg.symm.trans HW2.out
    clear hWg
    simp only [hNX.out]
    have hB0 := (HRow.out _ (Below.refl _ _)).2.2
    obtain ⟨d0, d1, d2, d3, d4, d5⟩ := x_cells (HRow.out _ (Below.refl _ _)).1
    obtain ⟨v0, v1, v2⟩ := (⟨rowV_cell (HRow.out _ (Below.refl _ _)).2.1 0, rowV_cell (HRow.out _ (Below.refl _ _)).2.1 1, rowV_cell (HRow.out _ (Below.refl _ _)).2.1 2⟩ : _ ∧ _ ∧ _)
    simp only [Nat.zero_add, List.getElem?_cons_zero, List.getElem?_cons_succ] at d0 d1 d2 d3 d4 d5 v0 v1 v2
    have HB0 := Lib.hid hB0
    clear hB0
    go_wp2_with fail
    refine (HSm.out _ HB0.out).mono ?_
    rintro e w3 ⟨rfl, hb3⟩
    have H3 := Lib.hid (And.intro hb3 (below_more hNX.out HB0.out hb3))
    clear hb3 d0 d1 d2 d3 d4 d5 v0 v1 v2
    go_wp2_with fail
    refine (HLv.out _ H3.out.2).mono ?_
    rintro e wl ⟨rfl, hbl⟩
    have HL := Lib.hid (below_more hNX.out H3.out.2 hbl)
    clear hbl
    go_wp2_with fail
    go_ret
    exact ⟨rfl, HL.out⟩
end Go.Proofs.YtmkckbidfpinfaaDoor
