/-
  Layer 16's laws: lives (the document's examples).
-/
import Derived.Test.YtmkllibfblacfaaGreatDoorZEvMake
namespace Go.Proofs.YtmkllibfblacfaaGreatDoor
open Go.RowKit Go.Shelf
open Sx (X)
open Vl (V)
attribute [local go_sem] Oper.semAt_some
def exL16 : List ColV := [⟨⟨#[97]⟩, 1, none, 0, 0⟩]
def exR16 : List V := [⟨1, 7, Vl.mt⟩]
def exN16 : X := .mk 2 Vl.no ⟨#[97]⟩ []
def exI16 (n : Int) : X := .mk 1 ⟨1, n, Vl.mt⟩ Vl.mt []
def exV16 (v : V) : X := .mk 1 v Vl.mt []
def exM16 : X := .mk 3 Vl.no Vl.mt [exI16 2]
def exA16 : X := .mk 7 Vl.no Vl.mt [exN16, exM16]
def exB16 : X := .mk 14 Vl.no Vl.mt [exV16 Vl.no, exV16 ⟨3, 0, Vl.mt⟩]
def exC16 : X := .mk 4 Vl.no Vl.mt [exI16 9223372036854775807, exI16 1]
theorem ex16_a : Ev.eval exL16 exR16 exA16 = (⟨1, -3, Vl.mt⟩, 0) := by decide +kernel
theorem ex16_b : Ev.eval [] [] exB16 = (⟨3, 0, Vl.mt⟩, 0) := by decide +kernel
theorem ex16_c : Ev.eval [] [] exC16 = (Vl.no, 15) := by decide +kernel
theorem ex16_fa : Sx.fine exA16 ∧ Sx.deep exA16 ≤ 1000 := ⟨Sx.fine_right _ _ (Nat.le_refl _) (by decide +kernel) (by decide +kernel), by decide +kernel⟩
theorem ex16_fb : Sx.fine exB16 ∧ Sx.deep exB16 ≤ 1000 := ⟨Sx.fine_right _ _ (Nat.le_refl _) (by decide +kernel) (by decide +kernel), by decide +kernel⟩
theorem ex16_fc : Sx.fine exC16 ∧ Sx.deep exC16 ≤ 1000 := ⟨Sx.fine_right _ _ (Nat.le_refl _) (by decide +kernel) (by decide +kernel), by decide +kernel⟩
theorem xu_one {w : World} {g : Nat} {x : X} {a : Option Addr} {c : Nat} (hr : RowV w g 43 (xC x a c).toList) (hx : XU w x a) (op : Int) (v : Vl.V) (s : ByteArray) : XU w (.mk op v s [x]) (some ⟨g, 0, none⟩) := by
  unfold XU
  rw [XAt]
  refine .inr ⟨g, 0, rfl, ⟨_, _, hr⟩, ?_⟩
  rw [LAt, LAt]
  exact ⟨⟨a, c, ⟨rowV_cell hr 0, rowV_cell hr 1, rowV_cell hr 2, rowV_cell hr 3, rowV_cell hr 4, rowV_cell hr 5⟩, hx⟩, trivial⟩
set_option maxRecDepth 100000 in
set_option maxHeartbeats 6400000 in
theorem lives16_any (w : World) (hE : ErrR w) : Calls Tryz.prog 14 #[] w fun e w' => e = .returned (.bool true) ∧ Below w.heap.size w w' := by
  have cI := fun n wx => num16_any n wx
  have cV0 := fun wx => val16_any Vl.no wx
  have cV3 := fun wx => val16_any ⟨3, 0, Vl.mt⟩ wx
  have cT := fun op x y a b c d wx => two16_any op x y a b c d wx
  have cA := fun wx => add16_any 3 4 (by decide) (by decide) wx
  rw [show Ev.add 3 4 = (7, 0) from by decide] at cA
  have cE1 := fun (wx : World) (g h k : Nat) (hb : Below w.heap.size w wx) (hx : XU wx exA16 (some ⟨g, 0, none⟩)) (hc : ReadsC wx (some ⟨h, 0, none⟩) exL16) (hv : ReadsV wx (some ⟨k, 0, none⟩) exR16) =>
    eval16_any exA16 (some ⟨g, 0, none⟩) 2 exL16 (some ⟨h, 0, none⟩) 1 1 exR16 (some ⟨k, 0, none⟩) 1 1 rfl rfl (by decide) (by decide) (by decide) (by intro v hv; rw [List.mem_singleton.1 hv]; exact ⟨by decide, by decide⟩) wx hx ex16_fa.1 ex16_fa.2 (errR_below hE hb) hc hv
  have cE2 := fun (x : X) (hf : Sx.fine x ∧ Sx.deep x ≤ 1000) (wx : World) (g : Nat) (hb : Below w.heap.size w wx) (hx : XU wx x (some ⟨g, 0, none⟩)) =>
    eval16_any x (some ⟨g, 0, none⟩) 2 [] none 0 0 [] none 0 0 rfl rfl (by decide) (by decide) (by decide) (by intro v hv; cases hv) wx hx hf.1 hf.2 (errR_below hE hb) (fun i hi => absurd hi (Nat.not_lt_zero _)) (fun i hi => absurd hi (Nat.not_lt_zero _))
  rw [ex16_a] at cE1
  have cEb := cE2 exB16 ex16_fb
  have cEc := cE2 exC16 ex16_fc
  rw [ex16_b] at cEb
  rw [ex16_c] at cEc
  have HI := Lib.hid cI
  have HV := Lib.hid (And.intro cV0 cV3)
  have HT := Lib.hid cT
  have HA := Lib.hid cA
  have HE := Lib.hid (And.intro cE1 (And.intro cEb cEc))
  clear cI cV0 cV3 cT cA cE1 cE2 cEb cEc hE
  go_enter Tryz.func14, Tryz.ntmps14
  go_wp2_with fail
  refine (HI.out 2 _).mono ?_
  rintro e w1 ⟨rfl, hb1⟩
  obtain ⟨Wa, hWa⟩ : ∃ W, w1.alloc (.cells (xC (exI16 2) none 0) 43) = W := ⟨_, rfl⟩
  have hra : RowV Wa w1.heap.size 43 (xC (exI16 2) none 0).toList := by rw [← hWa]; exact rowV_new w1 _ [_, _, _, _, _, _]
  have hba : Below w.heap.size w Wa := by rw [← hWa]; exact hb1.alloc hb1.size _
  have HWa := Lib.hid (And.intro hba (xu_one hra (xu_leaf Wa _ _ _ _) 3 Vl.no Vl.mt))
  have EWa := Lib.hid hWa
  clear hWa hra hba hb1
  go_wp2_with fail
  rw [show w1.alloc (.cells #[.int .i64 1, .int .i64 1, .int .i64 2, .string Vl.mt, .string Vl.mt, .slice none 0 0] 43) = Wa from EWa.out]
  clear EWa
  refine (HT.out 7 exN16 exM16 none (some ⟨w1.heap.size, 0, none⟩) 0 1 Wa).mono ?_
  rintro e w2 ⟨g2, rfl, hb2, hx2⟩
  have hB2 := HWa.out.1.trans (hb2.mono HWa.out.1.size)
  have hX2 := hx2 (xu_leaf Wa _ _ _ _) HWa.out.2
  obtain ⟨Wc, hWc⟩ : ∃ W, w2.alloc (.cells #[.string ⟨#[97]⟩, .int .i64 1, .slice none 0 0] 34) = W := ⟨_, rfl⟩
  have hrc : RowV Wc w2.heap.size 34 [.string ⟨#[97]⟩, .int .i64 1, .slice none 0 0] := by rw [← hWc]; exact rowV_new w2 _ [_, _, _]
  have hbc : Below w2.heap.size w2 Wc := by rw [← hWc]; exact (Below.refl _ _).alloc (Nat.le_refl _) _
  obtain ⟨Wd, hWd⟩ : ∃ W, Wc.alloc (.cells #[.int .i64 1, .int .i64 7, .string ⟨#[]⟩] 31) = W := ⟨_, rfl⟩
  have hrd : RowV Wd Wc.heap.size 31 [.int .i64 1, .int .i64 7, .string ⟨#[]⟩] := by rw [← hWd]; exact rowV_new Wc _ [_, _, _]
  have hbd : Below Wc.heap.size Wc Wd := by rw [← hWd]; exact (Below.refl _ _).alloc (Nat.le_refl _) _
  have hrc2 := rowV_below hrc hbd (rowV_lt hrc)
  have hBd := (hB2.trans (hbc.mono hB2.size)).trans (hbd.mono (hB2.trans (hbc.mono hB2.size)).size)
  have hCd : ReadsC Wd (some ⟨w2.heap.size, 0, none⟩) exL16 := fun i hi => by
    have h : i < 1 := hi
    obtain rfl : i = 0 := by omega
    exact ⟨w2.heap.size, 0, rfl, rowV_cell hrc2 0, rowV_cell hrc2 1, rowV_cell hrc2 2⟩
  have hVd : ReadsV Wd (some ⟨Wc.heap.size, 0, none⟩) exR16 := fun i hi => by
    have h : i < 1 := hi
    obtain rfl : i = 0 := by omega
    exact ⟨Wc.heap.size, 0, rfl, rowV_cell hrd 0, rowV_cell hrd 1, rowV_cell hrd 2⟩
  have hsc : Wc.heap.size = w2.heap.size + 1 := by rw [← hWc, World.size_alloc]
  have HD := Lib.hid (HE.out.1 Wd g2 w2.heap.size Wc.heap.size hBd (xu_below (xu_below hX2 hbc) hbd) hCd hVd)
  have HBd := Lib.hid hBd
  have EWc := Lib.hid hWc
  have EWd := Lib.hid hWd
  have hsc2 := Lib.hid hsc
  clear hB2 hX2 hx2 hb2 hWc hWd hrc hrd hbc hbd hrc2 hBd hCd hVd hsc HWa
  go_wp2_with fail
  rw [EWc.out, EWd.out, ← hsc2.out]
  clear EWc EWd
  refine HD.out.mono ?_
  rintro e w3 ⟨rfl, hb3⟩
  have hB3 := HBd.out.trans (hb3.mono HBd.out.size)
  obtain ⟨W4, hW4⟩ : ∃ W, w3.alloc (.cells #[.int .i64 1, .int .i64 (-3), .string Vl.mt] 31) = W := ⟨_, rfl⟩
  have hr4 : RowV W4 w3.heap.size 31 [.int .i64 1, .int .i64 (-3), .string Vl.mt] := by rw [← hW4]; exact rowV_new w3 _ [_, _, _]
  have hB4 : Below w.heap.size w W4 := by rw [← hW4]; exact hB3.alloc hB3.size _
  have H4 := Lib.hid (And.intro hB4 hr4)
  have E4 := Lib.hid hW4
  clear HD HBd hsc2 hb3 hB3 hW4 hr4 hB4
  go_wp2_with fail
  rw [E4.out]
  clear E4
  refine (HV.out.1 _).mono ?_
  rintro e w5 ⟨rfl, hb5⟩
  have H5 := Lib.hid (And.intro (H4.out.1.trans (hb5.mono H4.out.1.size)) (rowV_below H4.out.2 hb5 (rowV_lt H4.out.2)))
  clear hb5
  go_wp2_with fail
  refine (HV.out.2 _).mono ?_
  rintro e w6 ⟨rfl, hb6⟩
  have H6 := Lib.hid (And.intro (H5.out.1.trans (hb6.mono H5.out.1.size)) (rowV_below H5.out.2 hb6 (rowV_lt H5.out.2)))
  clear hb6
  go_wp2_with fail
  refine (HT.out 14 (exV16 Vl.no) (exV16 ⟨3, 0, Vl.mt⟩) none none 0 0 _).mono ?_
  rintro e w7 ⟨g7, rfl, hb7, hx7⟩
  have hX7 := hx7 (xu_leaf _ _ _ _ _) (xu_leaf _ _ _ _ _)
  have H7 := Lib.hid (And.intro (H6.out.1.trans (hb7.mono H6.out.1.size)) (And.intro (rowV_below H6.out.2 hb7 (rowV_lt H6.out.2)) hX7))
  clear hb7 hx7 hX7
  go_wp2_with fail
  refine (HE.out.2.1 _ g7 H7.out.1 H7.out.2.2).mono ?_
  rintro e w8 ⟨rfl, hb8⟩
  have hB8 := H7.out.1.trans (hb8.mono H7.out.1.size)
  have hr8 := rowV_below H7.out.2.1 hb8 (rowV_lt H7.out.2.1)
  obtain ⟨W9, hW9⟩ : ∃ W, w8.alloc (.cells #[.int .i64 3, .int .i64 0, .string Vl.mt] 31) = W := ⟨_, rfl⟩
  have hr9 : RowV W9 w8.heap.size 31 [.int .i64 3, .int .i64 0, .string Vl.mt] := by rw [← hW9]; exact rowV_new w8 _ [_, _, _]
  have hb9 : Below w8.heap.size w8 W9 := by rw [← hW9]; exact (Below.refl _ _).alloc (Nat.le_refl _) _
  have H9 := Lib.hid (And.intro (hB8.trans (hb9.mono hB8.size)) (And.intro (rowV_below hr8 hb9 (rowV_lt hr8)) hr9))
  have E9 := Lib.hid hW9
  clear hb8 hB8 hr8 hW9 hr9 hb9
  go_wp2_with fail
  rw [E9.out]
  clear E9
  refine (HI.out 9223372036854775807 _).mono ?_
  rintro e w10 ⟨rfl, hb10⟩
  have H10 := Lib.hid (And.intro (H9.out.1.trans (hb10.mono H9.out.1.size)) (And.intro (rowV_below H9.out.2.1 hb10 (rowV_lt H9.out.2.1)) (rowV_below H9.out.2.2 hb10 (rowV_lt H9.out.2.2))))
  clear hb10
  go_wp2_with fail
  refine (HI.out 1 _).mono ?_
  rintro e w11 ⟨rfl, hb11⟩
  have H11 := Lib.hid (And.intro (H10.out.1.trans (hb11.mono H10.out.1.size)) (And.intro (rowV_below H10.out.2.1 hb11 (rowV_lt H10.out.2.1)) (rowV_below H10.out.2.2 hb11 (rowV_lt H10.out.2.2))))
  clear hb11
  go_wp2_with fail
  refine (HT.out 4 (exI16 9223372036854775807) (exI16 1) none none 0 0 _).mono ?_
  rintro e w12 ⟨g12, rfl, hb12, hx12⟩
  have hX12 := hx12 (xu_leaf _ _ _ _ _) (xu_leaf _ _ _ _ _)
  have H12 := Lib.hid (And.intro (H11.out.1.trans (hb12.mono H11.out.1.size)) (And.intro (rowV_below H11.out.2.1 hb12 (rowV_lt H11.out.2.1)) (And.intro (rowV_below H11.out.2.2 hb12 (rowV_lt H11.out.2.2)) hX12)))
  clear hb12 hx12 hX12
  go_wp2_with fail
  refine (HE.out.2.2 _ g12 H12.out.1 H12.out.2.2.2).mono ?_
  rintro e w13 ⟨rfl, hb13⟩
  have hB13 := H12.out.1.trans (hb13.mono H12.out.1.size)
  have hr13 := rowV_below H12.out.2.1 hb13 (rowV_lt H12.out.2.1)
  have hq13 := rowV_below H12.out.2.2.1 hb13 (rowV_lt H12.out.2.2.1)
  obtain ⟨W14, hW14⟩ : ∃ W, w13.alloc (.cells #[.int .i64 Vl.no.kind, .int .i64 Vl.no.n, .string Vl.no.s] 31) = W := ⟨_, rfl⟩
  have hb14 : Below w13.heap.size w13 W14 := by rw [← hW14]; exact (Below.refl _ _).alloc (Nat.le_refl _) _
  have hB14 := hB13.trans (hb14.mono hB13.size)
  have hr14 := rowV_below hr13 hb14 (rowV_lt hr13)
  have hq14 := rowV_below hq13 hb14 (rowV_lt hq13)
  have E14 := Lib.hid hW14
  have H14 := Lib.hid hB14
  have z0 := rowV_cell hr14 0
  have z1 := rowV_cell hr14 1
  have y0 := rowV_cell hq14 0
  have y1 := rowV_cell hq14 1
  simp only [List.getElem?_cons_zero, List.getElem?_cons_succ] at z0 z1 y0 y1
  clear hB13 hr13 hq13 hb13 hW14 hb14 hB14 hr14 hq14
  go_wp2_with fail
  rw [E14.out]
  clear E14
  refine (HA.out _).mono ?_
  rintro e w15 ⟨rfl, rfl⟩
  go_wp2_with fail
  go_ret
  exact ⟨rfl, H14.out⟩
end Go.Proofs.YtmkllibfblacfaaGreatDoor
