/-
  Layer 15's laws: lives (the document's example).
-/
import Derived.Test.YtmkckbidfpinfaaDoorZTypMake
namespace Go.Proofs.YtmkckbidfpinfaaDoor
open Go.RowKit Go.Shelf
open Sx (X)
attribute [local go_sem] Oper.semAt_some
def exC15 : List ColV := [⟨⟨#[97]⟩, 1, none, 0, 0⟩]
def exN15 : X := .mk 2 Vl.no ⟨#[97]⟩ []
def exV15 : X := .mk 1 ⟨1, 1, Vl.mt⟩ Vl.mt []
def exT15 : X := .mk 1 ⟨2, 0, ⟨#[120]⟩⟩ Vl.mt []
def exA15 : X := .mk 4 Vl.no Vl.mt [exN15, exV15]
def exB15 : X := .mk 4 Vl.no Vl.mt [exN15, exT15]
theorem ex15_a : (if Sx.allR (Sx.po exA15 1) = true then Ty.kd (exC15.map colK) exA15 else (0, 2)) = (1, 0) := by decide +kernel
theorem ex15_b : (if Sx.allR (Sx.po exB15 1) = true then Ty.kd (exC15.map colK) exB15 else (0, 2)) = (0, 14) := by decide +kernel
theorem ex15_fa : Sx.right exA15 = true ∧ Sx.fit exA15 = true ∧ Sx.deep exA15 ≤ 1000 ∧ (Ty.up exA15).length ≤ 100000 := by decide +kernel
theorem ex15_fb : Sx.right exB15 = true ∧ Sx.fit exB15 = true ∧ Sx.deep exB15 ≤ 1000 ∧ (Ty.up exB15).length ≤ 100000 := by decide +kernel
theorem ex15_c : Ty.ColsR exC15 0 := .inr ⟨by decide, .inr ⟨fun j hj => by
  have h : j < 1 := hj
  obtain rfl : j = 0 := by omega
  decide +kernel, rfl⟩⟩
/-- Kind, of an expression in unmarked rows, told outright -/
theorem kind15_is {x : X} {k r : Int} (a : Option Addr) (c : Nat) (L : List ColV) (al : Option Addr) (n cap : Nat) (hn : L.length = n) (hL : L.length ≤ 100000) (hN : ∀ y ∈ L, y.name.size ≤ 1000000) (w : World) (hX : XU w x a) (hR : Sx.right x = true ∧ Sx.fit x = true ∧ Sx.deep x ≤ 1000 ∧ (Ty.up x).length ≤ 100000) (hE : ErrR w) (hC : ReadsC w al L) (hk : (if Sx.allR (Sx.po x 1) = true then Ty.kd (L.map colK) x else (0, 2)) = (k, r)) :
    Calls Tryd.prog 15 #[xV x a c, .slice al n cap] w fun e w' => e = .returned (.tuple #[.int .i64 k, .int .i64 r]) ∧ Below w.heap.size w w' := by
  subst hn
  refine (Upw.Kind15_any (mk := False) x a c L al cap hL hN w (xu_ok hX) (Sx.fine_right _ x (Nat.le_refl _) hR.1 hR.2.1) hR.2.2.1 hE hC).mono ?_
  rintro e w' ⟨k', r', rfl, hb, h⟩
  rcases h with h | h
  · rw [hk] at h
    have e1 : k' = k := congrArg Prod.fst h
    have e2 : r' = r := congrArg Prod.snd h
    subst e1; subst e2
    exact ⟨rfl, hb⟩
  · exact h.1.elim
set_option maxRecDepth 100000 in
set_option maxHeartbeats 6400000 in
theorem lives15_any (w : World) (hE : ErrR w) : Calls Tryd.prog 7 #[] w fun e w' => e = .returned (.bool true) ∧ Below w.heap.size w w' := by
  have cN := fun wx => name15_any ⟨#[97]⟩ wx
  have cV := fun wx => val15_any ⟨1, 1, Vl.mt⟩ wx
  have cT := fun wx => val15_any ⟨2, 0, ⟨#[120]⟩⟩ wx
  rw [show (X.mk 2 Vl.no ⟨#[97]⟩ []) = exN15 from rfl] at cN
  rw [show (X.mk 1 ⟨1, 1, Vl.mt⟩ Vl.mt []) = exV15 from rfl] at cV
  rw [show (X.mk 1 ⟨2, 0, ⟨#[120]⟩⟩ Vl.mt []) = exT15 from rfl] at cT
  have cA := fun wx => plus15_any exN15 exV15 none none 0 0 wx
  have cB := fun wx => plus15_any exN15 exT15 none none 0 0 wx
  unfold TwoP at cA cB
  rw [show (X.mk 4 Vl.no Vl.mt [exN15, exV15]) = exA15 from rfl] at cA
  rw [show (X.mk 4 Vl.no Vl.mt [exN15, exT15]) = exB15 from rfl] at cB
  have cF := fun wx => fits15_any 0 2 wx
  rw [show Ty.fits 0 2 = true from rfl] at cF
  have hb1 := (Below.refl w.heap.size w).alloc (Nat.le_refl _) (.cells #[.string ⟨#[97]⟩, .int .i64 1, .slice none 0 0] 49)
  have hr1 := rowV_new w 49 [.string ⟨#[97]⟩, .int .i64 1, .slice none 0 0]
  have hC1 : ReadsC (w.alloc (.cells #[.string ⟨#[97]⟩, .int .i64 1, .slice none 0 0] 49)) (some ⟨w.heap.size, 0, none⟩) exC15 := fun i hi => by
    have h : i < 1 := hi
    obtain rfl : i = 0 := by omega
    exact ⟨w.heap.size, 0, rfl, rowV_cell hr1 0, rowV_cell hr1 1, rowV_cell hr1 2⟩
  have hXN : ∀ wx, XU wx exN15 none := fun wx => xu_leaf wx _ _ _ _
  have hXV : ∀ wx, XU wx exV15 none := fun wx => xu_leaf wx _ _ _ _
  have hXT : ∀ wx, XU wx exT15 none := fun wx => xu_leaf wx _ _ _ _
  have cK1 := fun (wx : World) (g : Nat) (hb : Below w.heap.size w wx) (hx : XU wx exA15 (some ⟨g, 0, none⟩)) (hc : ReadsC wx (some ⟨w.heap.size, 0, none⟩) exC15) => kind15_is (some ⟨g, 0, none⟩) 2 exC15 (some ⟨w.heap.size, 0, none⟩) 1 1 rfl (by decide) (by decide) wx hx ex15_fa (errR_below hE hb) hc ex15_a
  have cK2 := fun (wx : World) (g : Nat) (hb : Below w.heap.size w wx) (hx : XU wx exB15 (some ⟨g, 0, none⟩)) (hc : ReadsC wx (some ⟨w.heap.size, 0, none⟩) exC15) => kind15_is (some ⟨g, 0, none⟩) 2 exC15 (some ⟨w.heap.size, 0, none⟩) 1 1 rfl (by decide) (by decide) wx hx ex15_fb (errR_below hE hb) hc ex15_b
  have cC := fun (wx : World) (hb : Below w.heap.size w wx) (hc : ReadsC wx (some ⟨w.heap.size, 0, none⟩) exC15) => (columns15_any exC15 (some ⟨w.heap.size, 0, none⟩) 1 1 rfl (by decide) (by decide) (by decide) wx hc (errR_below hE hb)).mono (fun e w' h => (by
    obtain ⟨⟨r, h1, h2⟩, h3⟩ := h
    have := Ty.colsR_one h2 ex15_c
    subst this
    exact ⟨h1, h3⟩ : e = .returned (.int .i64 0) ∧ Below wx.heap.size wx w'))
  have H := Lib.hid (And.intro cN (And.intro cV (And.intro cT (And.intro cA (And.intro cB (And.intro cF (And.intro hXN (And.intro hXV hXT))))))))
  have HK := Lib.hid (And.intro cK1 (And.intro cK2 cC))
  have HC := Lib.hid (And.intro hb1 hC1)
  clear cN cV cT cA cB cF hXN hXV hXT cK1 cK2 cC hb1 hC1 hr1 hE
  generalize exN15 = XN at *
  generalize exV15 = XV at *
  generalize exT15 = XT at *
  generalize exA15 = XA at *
  generalize exB15 = XB at *
  generalize exC15 = LC at *
  go_enter Tryd.func7, Tryd.ntmps7
  go_wp2_with fail
  refine (H.out.1 _).mono ?_
  rintro e w2 ⟨rfl, hb2⟩
  have hB2 := HC.out.1.trans (hb2.mono HC.out.1.size)
  have H2 := Lib.hid (And.intro hB2 (readsC_below HC.out.2 hb2))
  clear hb2 hB2
  go_wp2_with fail
  refine (H.out.2.1 _).mono ?_
  rintro e w3 ⟨rfl, hb3⟩
  have hB3 := H2.out.1.trans (hb3.mono H2.out.1.size)
  have H3 := Lib.hid (And.intro hB3 (readsC_below H2.out.2 hb3))
  clear hb3 hB3
  go_wp2_with fail
  refine (H.out.2.2.2.1 _).mono ?_
  rintro e w4 ⟨g4, rfl, hb4, hx4⟩
  have hB4 := H3.out.1.trans (hb4.mono H3.out.1.size)
  have H4 := Lib.hid (And.intro hB4 (And.intro (readsC_below H3.out.2 hb4) (hx4 (H.out.2.2.2.2.2.2.1 _) (H.out.2.2.2.2.2.2.2.1 _))))
  clear hb4 hB4 hx4
  go_wp2_with fail
  refine (HK.out.1 _ g4 H4.out.1 H4.out.2.2 H4.out.2.1).mono ?_
  rintro e w5 ⟨rfl, hb5⟩
  have hB5 := H4.out.1.trans (hb5.mono H4.out.1.size)
  have H5 := Lib.hid (And.intro hB5 (readsC_below H4.out.2.1 hb5))
  clear hb5 hB5
  go_wp2_with fail
  refine (H.out.1 _).mono ?_
  rintro e w6 ⟨rfl, hb6⟩
  have hB6 := H5.out.1.trans (hb6.mono H5.out.1.size)
  have H6 := Lib.hid (And.intro hB6 (readsC_below H5.out.2 hb6))
  clear hb6 hB6
  go_wp2_with fail
  refine (H.out.2.2.1 _).mono ?_
  rintro e w7 ⟨rfl, hb7⟩
  have hB7 := H6.out.1.trans (hb7.mono H6.out.1.size)
  have H7 := Lib.hid (And.intro hB7 (readsC_below H6.out.2 hb7))
  clear hb7 hB7
  go_wp2_with fail
  refine (H.out.2.2.2.2.1 _).mono ?_
  rintro e w8 ⟨g8, rfl, hb8, hx8⟩
  have hB8 := H7.out.1.trans (hb8.mono H7.out.1.size)
  have H8 := Lib.hid (And.intro hB8 (And.intro (readsC_below H7.out.2 hb8) (hx8 (H.out.2.2.2.2.2.2.1 _) (H.out.2.2.2.2.2.2.2.2 _))))
  clear hb8 hB8 hx8
  go_wp2_with fail
  refine (HK.out.2.1 _ g8 H8.out.1 H8.out.2.2 H8.out.2.1).mono ?_
  rintro e w9 ⟨rfl, hb9⟩
  have hB9 := H8.out.1.trans (hb9.mono H8.out.1.size)
  have H9 := Lib.hid (And.intro hB9 (readsC_below H8.out.2.1 hb9))
  clear hb9 hB9
  go_wp2_with fail
  refine (HK.out.2.2 _ H9.out.1 H9.out.2).mono ?_
  rintro e w10 ⟨rfl, hb10⟩
  have HA := Lib.hid (H9.out.1.trans (hb10.mono H9.out.1.size))
  clear hb10
  go_wp2_with fail
  refine (H.out.2.2.2.2.2.1 _).mono ?_
  rintro e w11 ⟨rfl, rfl⟩
  go_wp2_with fail
  go_ret
  exact ⟨rfl, HA.out⟩
end Go.Proofs.YtmkckbidfpinfaaDoor
