/-
  Layer 14, the program's: what a right expression is written as.
-/
import Derived.Test.YtekahmlppaabjaaGreatDoorPk4
import Derived.Test.YtekahmlppaabjaaGreatDoorPk5
namespace Go.Proofs.YtekahmlppaabjaaGreatDoor
open Go.RowKit
open Sx (X)
namespace Sx
theorem op_right {x : X} (h : right x = true) : 1 ≤ x.op ∧ x.op ≤ 16 := by
  cases form_of h with
  | val v h hn => exact ⟨by show (1 : Int) ≤ 1; omega, by show (1 : Int) ≤ 16; omega⟩
  | name s h => exact ⟨by show (1 : Int) ≤ 2; omega, by show (2 : Int) ≤ 16; omega⟩
  | neg a h => exact ⟨by show (1 : Int) ≤ 3; omega, by show (3 : Int) ≤ 16; omega⟩
  | bin op a b h4 h15 ha hb => exact ⟨by show (1 : Int) ≤ op; omega, by show op ≤ 16; omega⟩
  | cond a b c ha hb hc => exact ⟨by show (1 : Int) ≤ 16; omega, by show (16 : Int) ≤ 16; omega⟩
theorem cond_cat (A B C : ByteArray) : ⟨#[105, 102, 32]⟩ ++ A ++ ⟨#[32, 116, 104, 101, 110, 32]⟩ ++ B ++ ⟨#[32, 101, 108, 115, 101, 32]⟩ ++ C = ⟨#[105, 102, 32]⟩ ++ A ++ ⟨#[32]⟩ ++ ⟨#[116, 104, 101, 110]⟩ ++ ⟨#[32]⟩ ++ B ++ ⟨#[32]⟩ ++ ⟨#[101, 108, 115, 101]⟩ ++ ⟨#[32]⟩ ++ C := by
  have e1 : (⟨#[32, 116, 104, 101, 110, 32]⟩ : ByteArray) = ⟨#[32]⟩ ++ ⟨#[116, 104, 101, 110]⟩ ++ ⟨#[32]⟩ := by rfl
  have e2 : (⟨#[32, 101, 108, 115, 101, 32]⟩ : ByteArray) = ⟨#[32]⟩ ++ ⟨#[101, 108, 115, 101]⟩ ++ ⟨#[32]⟩ := by rfl
  rw [e1, e2]
  simp only [ByteArray.append_assoc]
end Sx
set_option maxRecDepth 100000 in
set_option maxHeartbeats 25600000 in
theorem written14_any (S : Nat → Prop) : ∀ (n : Nat) (x : X), Sx.deep x ≤ n → Sx.right x = true → Sx.okX x → Sx.fit x = true → Sx.size x ≤ 900000 → ∀ (lev : Nat), lev ≤ 7 → ∀ (a : Option Addr) (c : Nat) (w : World), XAt w S x a → Twos w → Pow10 w → Calls Tryz.prog 16 #[xV x a c, .int .i64 (lev : Int)] w fun e w' => e = .returned (.string (Sx.wt x lev)) ∧ Below w.heap.size w w' := by
  intro n
  induction n with
  | zero => intro x hn; have := Sx.deep_pos x; omega
  | succ n ih =>
    intro x hn hr hok hf hsz
    have hop := Sx.op_right hr
    have own : ∀ (lev : Nat), lev ≤ Sx.lvl x.op → ∀ (a : Option Addr) (c : Nat) (w : World), XAt w S x a → Twos w → Pow10 w → Calls Tryz.prog 16 #[xV x a c, .int .i64 (lev : Int)] w fun e w' => e = .returned (.string (Lx.mk (Sx.flat (Sx.ps x)))) ∧ Below w.heap.size w w' := by
      intro lev hlev a c w hx hT hP
      have hB0 := Lib.hid (x_new x a c w).2.1
      have HLV := Lib.hid (levelOf14_any x.op hop.1 hop.2 (w.alloc (.cells (xC x a c) 29)) (twos_below hT (x_new x a c w).2.1))
      have HT := Lib.hid (And.intro hT hP)
      have HL := Lib.hid fun (wr : World) (hb : Below (w.alloc (.cells (xC x a c) 29)).heap.size (w.alloc (.cells (xC x a c) 29)) wr) => x_look hb
      have HX := Lib.hid hx
      have HI := Lib.hid ih
      have hlt : decide ((Sx.lvl x.op : Int) < (lev : Int)) = false := decide_eq_false (by omega)
      obtain ⟨⟨c0, c1, c2, c3, c4, c5⟩, _⟩ := HL.out _ (Below.refl _ _)
      simp only [Nat.zero_add] at c0 c1 c2 c3 c4 c5
      clear hx ih hT hP
      cases Sx.form_of hr with
      | val v h hnn =>
        have hoo := Sx.okX_is hok
        have HE := Lib.hid (Sx.wt_val h)
        have HV := Lib.hid fun (wx : World) (hbx : Below w.heap.size w wx) => text12_any v hoo.1.1 hoo.1.2 wx (pow10_below HT.out.2 hbx)
        rw [text_ok h, checkE_ok h] at HV
        have hl7 : Sx.lvl (X.op (.mk 1 v Vl.mt [])) = 7 := rfl
        rw [hl7] at hlt HLV
        clear hoo
        go_enter Tryz.func16, Tryz.ntmps16
        go_wp2_with (go_at_call 23; refine HLV.out.mono ?_; rintro e w1 ⟨rfl, rfl⟩)
        refine (HV.out _ hB0.out).mono ?_
        rintro e w2 ⟨rfl, hb2⟩
        have H2 := Lib.hid (x_look hb2).2
        clear hb2
        go_wp2_with fail
        go_ret
        exact ⟨ret_str HE.out.symm, H2.out⟩
      | name s h =>
        have HE := Lib.hid (Sx.wt_name s)
        have hl7 : Sx.lvl (X.op (.mk 2 Vl.no s [])) = 7 := rfl
        rw [hl7] at hlt HLV
        go_enter Tryz.func16, Tryz.ntmps16
        go_wp2_with (go_at_call 23; refine HLV.out.mono ?_; rintro e w1 ⟨rfl, rfl⟩)
        go_ret
        exact ⟨ret_str HE.out.symm, hB0.out⟩
      | neg y h =>
        have hdy : Sx.deep (.mk 3 Vl.no Vl.mt [y]) = max (Sx.deep y) 0 + 1 := rfl
        have hsy : Sx.size (.mk 3 Vl.no Vl.mt [y]) = 1 + (Sx.size y + 0) := rfl
        have hfy : Sx.fit y = true := by simp only [Sx.fit, Sx.fitL, Bool.and_eq_true] at hf; exact hf.2.1
        have hoy : Sx.okX y := Sx.okX_at hok (i := 0) (by show 0 < 1; omega)
        obtain ⟨b, o, a1, q1, rfl, ⟨d0, d1, d2, d3, d4, d5⟩, hy⟩ := xat_l1 HX.out
        have HC := Lib.hid fun (wx : World) (hbx : Below w.heap.size w wx) => HI.out y (by omega) h hoy hfy (by omega) 6 (by omega) a1 q1 wx (xat_below hy hbx) (twos_below HT.out.1 hbx) (pow10_below HT.out.2 hbx)
        have hzs := Sx.wt_size h hfy 6
        have HE := Lib.hid (Sx.wt_neg y)
        have hl7 : Sx.lvl (X.op (.mk 3 Vl.no Vl.mt [y])) = 6 := rfl
        rw [hl7] at hlt HLV
        have h45 : (⟨#[45]⟩ : ByteArray).size = 1 := rfl
        have e0 := cell_keep hB0.out d0
        have e1 := cell_keep hB0.out d1
        have e2 := cell_keep hB0.out d2
        have e3 := cell_keep hB0.out d3
        have e4 := cell_keep hB0.out d4
        have e5 := cell_keep hB0.out d5
        clear hy hdy d0 d1 d2 d3 d4 d5
        generalize Sx.wt y 6 = WY at *
        go_enter Tryz.func16, Tryz.ntmps16
        go_wp2_with (first | (go_at_call 23; refine HLV.out.mono ?_; rintro e w1 ⟨rfl, rfl⟩))
        refine (HC.out _ hB0.out).mono ?_
        rintro e w2 ⟨rfl, hb2⟩
        have H2 := Lib.hid (x_look hb2).2
        clear hb2
        go_wp2_with fail
        go_ret
        exact ⟨ret_str HE.out.symm, H2.out⟩
      | bin op y1 y2 h4 h15 ha hb =>
        have hdx : Sx.deep (Sx.bin op y1 y2) = max (Sx.deep y1) (max (Sx.deep y2) 0) + 1 := rfl
        have hsx : Sx.size (Sx.bin op y1 y2) = 1 + (Sx.size y1 + (Sx.size y2 + 0)) := rfl
        have hfx : Sx.fit y1 = true ∧ Sx.fit y2 = true := by simp only [Sx.fit, Sx.fitL, Bool.and_eq_true] at hf; exact ⟨hf.2.1, hf.2.2.1⟩
        have ho1 : Sx.okX y1 := Sx.okX_at hok (i := 0) (by show 0 < 2; omega)
        have ho2 : Sx.okX y2 := Sx.okX_at hok (i := 1) (by show 1 < 2; omega)
        have hlv := Sx.lvl_bin h4 h15
        obtain ⟨b, o, a1, q1, a2, q2, rfl, K1, K2, hy1, hy2⟩ := xat_l2 HX.out
        have f1 : (op == 1) = false := by simp; omega
        have f2 : (op == 2) = false := by simp; omega
        have f3 : (op == 3) = false := by simp; omega
        have f16 : (op == 16) = false := by simp; omega
        have hz1 : (Sx.wt y1 (Sx.left op)).size ≤ 100000000 := Nat.le_trans (Sx.wt_size ha hfx.1 (Sx.left op)) (by omega)
        have hz2 : (Sx.wt y2 (Sx.lvl op + 1)).size ≤ 100000000 := Nat.le_trans (Sx.wt_size hb hfx.2 (Sx.lvl op + 1)) (by omega)
        have hzs : (Lx.mk (Sx.sign op)).size ≤ 3 := by
          rcases Sx.op_facts h4 h15 with rfl | rfl | rfl | rfl | rfl | rfl | rfl | rfl | rfl | rfl | rfl | rfl <;> decide
        have HE := Lib.hid (Sx.wt_bin y1 y2 h4 h15)
        have hleft : Sx.left op ≤ 7 := by unfold Sx.left; split <;> omega
        have HC1 := Lib.hid fun (wx : World) (hbx : Below w.heap.size w wx) => HI.out y1 (by omega) ha ho1 hfx.1 (by omega) (Sx.left op) hleft a1 q1 wx (xat_below hy1 hbx) (twos_below HT.out.1 hbx) (pow10_below HT.out.2 hbx)
        have HC2 := Lib.hid fun (wx : World) (hbx : Below w.heap.size w wx) => HI.out y2 (by omega) hb ho2 hfx.2 (by omega) (Sx.lvl op + 1) (by omega) a2 q2 wx (xat_below hy2 hbx) (twos_below HT.out.1 hbx) (pow10_below HT.out.2 hbx)
        obtain ⟨d0, d1, d2, d3, d4, d5⟩ := cells6_keep K1 hB0.out
        obtain ⟨e0, e1, e2, e3, e4, e5⟩ := cells6_keep K2 hB0.out
        clear K1 K2 hy1 hy2 hdx c1 c2 c3 c4
        generalize hA : Sx.wt y1 (Sx.left op) = A at *
        generalize hBB : Sx.wt y2 (Sx.lvl op + 1) = B at *
        generalize hSG : Lx.mk (Sx.sign op) = SG at *
        have h32 : (⟨#[32]⟩ : ByteArray).size = 1 := rfl
        have z1 : (A ++ ⟨#[32]⟩ : ByteArray).size = A.size + 1 := by rw [ByteArray.size_append, h32]
        have z2 : (A ++ ⟨#[32]⟩ ++ SG : ByteArray).size = A.size + 1 + SG.size := by rw [ByteArray.size_append, z1]
        have z3 : (A ++ ⟨#[32]⟩ ++ SG ++ ⟨#[32]⟩ : ByteArray).size = A.size + 1 + SG.size + 1 := by rw [ByteArray.size_append, z2, h32]
        obtain ⟨kk, rfl⟩ : ∃ kk : Nat, op = (kk : Int) := ⟨op.toNat, by omega⟩
        have hk16 : kk < 16 := by omega
        have htw := twos_below HT.out.1 hB0.out kk (by omega) (by omega)
        have tw0 := htw.1
        have tw1 := htw.2
        rw [hSG] at tw0
        clear htw
        have cSd := fun wx => sides14_any (Sx.lvl (kk : Int)) (by omega) wx
        have hleft2 : (if Sx.lvl (kk : Int) = 3 then 4 else Sx.lvl (kk : Int)) = Sx.left (kk : Int) := rfl
        rw [hleft2] at cSd
        have hpc : ((Sx.lvl (kk : Int) + 1 : Nat) : Int) = (Sx.lvl (kk : Int) : Int) + 1 := by omega
        rw [hpc] at HC2
        have hlt2 : decide (((Sx.lvl (kk : Int) : Nat) : Int) < (lev : Int)) = false := hlt
        have HLV2 := HLV
        have hLVe : ((Sx.lvl (X.op (Sx.bin (kk : Int) y1 y2)) : Nat) : Int) = ((Sx.lvl (kk : Int) : Nat) : Int) := rfl
        rw [hLVe] at HLV2
        clear hA hBB hSG hlt HLV hleft2 hpc hleft hLVe
        generalize hLF : ((Sx.left (kk : Int) : Nat) : Int) = LF at *
        generalize hOW : ((Sx.lvl (kk : Int) : Nat) : Int) = OW at *
        generalize hRG : OW + 1 = RG at *
        have HSD := Lib.hid cSd
        have HO1 := Lib.hid (And.intro hLF (And.intro hOW hRG))
        clear cSd hLF hOW hRG hlv hlev h4 h15
        go_enter Tryz.func16, Tryz.ntmps16
        go_wp2_with (first | (go_at_call 23; refine HLV2.out.mono ?_; rintro e w1 ⟨rfl, rfl⟩) | (go_at_call 25; refine (HSD.out _).mono ?_; rintro e w1 ⟨rfl, rfl⟩))
        have HC := Lib.hid (And.intro (fun (wx : World) (hbx : Below (w.alloc (.cells (xC (Sx.bin (kk : Int) y1 y2) (some ⟨b, o, none⟩) c) 29)).heap.size (w.alloc (.cells (xC (Sx.bin (kk : Int) y1 y2) (some ⟨b, o, none⟩) c) 29)) wx) => HC1.out wx (hB0.out.trans (hbx.mono hB0.out.size))) (fun (wx : World) (hbx : Below (w.alloc (.cells (xC (Sx.bin (kk : Int) y1 y2) (some ⟨b, o, none⟩) c) 29)).heap.size (w.alloc (.cells (xC (Sx.bin (kk : Int) y1 y2) (some ⟨b, o, none⟩) c) 29)) wx) => HC2.out wx (hB0.out.trans (hbx.mono hB0.out.size))))
        have HBx := Lib.hid fun (wx : World) (hbx : Below (w.alloc (.cells (xC (Sx.bin (kk : Int) y1 y2) (some ⟨b, o, none⟩) c) 29)).heap.size (w.alloc (.cells (xC (Sx.bin (kk : Int) y1 y2) (some ⟨b, o, none⟩) c) 29)) wx) => (x_look hbx).2
        clear HC1 HC2 HL HX HI hB0
        generalize hwr : (w.alloc (.cells (xC (Sx.bin (kk : Int) y1 y2) (some ⟨b, o, none⟩) c) 29)) = wr at *
        refine wp_region_quiet_tail (C := fun wx => (wx.cell? ⟨w.heap.size, 0, none⟩ = some (.int .i64 (kk : Int)) ∧ wx.cell? ⟨w.heap.size, 5, none⟩ = some (.slice (some ⟨b, o, none⟩) 2 c) ∧ wx.cell? ⟨b, o, none⟩ = some (.int .i64 y1.op) ∧ wx.cell? ⟨b, o + 1, none⟩ = some (.int .i64 y1.v.kind) ∧ wx.cell? ⟨b, o + 2, none⟩ = some (.int .i64 y1.v.n) ∧ wx.cell? ⟨b, o + 3, none⟩ = some (.string y1.v.s) ∧ wx.cell? ⟨b, o + 4, none⟩ = some (.string y1.s) ∧ wx.cell? ⟨b, o + 5, none⟩ = some (.slice a1 y1.l.length q1) ∧ wx.cell? ⟨b, o + 6, none⟩ = some (.int .i64 y2.op) ∧ wx.cell? ⟨b, o + 7, none⟩ = some (.int .i64 y2.v.kind) ∧ wx.cell? ⟨b, o + 8, none⟩ = some (.int .i64 y2.v.n) ∧ wx.cell? ⟨b, o + 9, none⟩ = some (.string y2.v.s) ∧ wx.cell? ⟨b, o + 10, none⟩ = some (.string y2.s) ∧ wx.cell? ⟨b, o + 11, none⟩ = some (.slice a2 y2.l.length q2) ∧ wx.cell? ⟨0, kk * 2, none⟩ = some (.string SG)) ∧ Hid (Below wr.heap.size wr wx)) 21 (by kernel_rfl) (by kernel_rfl) ⟨⟨c0, c5, d0, d1, d2, d3, d4, d5, e0, e1, e2, e3, e4, e5, tw0⟩, Lib.hid (Below.refl wr.heap.size wr).drew⟩ ?_
        simp only [List.take_succ_cons, List.take_zero, List.drop_succ_cons, List.drop_zero]
        go_big_quiet_want
        refine ⟨(.pointer (some ⟨w.heap.size, 5, none⟩)), fun wx hSx => ?_, ?_⟩
        · obtain ⟨⟨k0, k1, k2, k3, k4, k5, k6, k7, k8, k9, k10, k11, k12, k13, k14⟩, -⟩ := hSx
          go_simp
          try rfl
        simp only [Act.put, List.setIfInBounds_toArray, List.set_cons_zero, List.set_cons_succ]
        go_big_quiet_on
        go_big_quiet_want
        refine ⟨(.slice (some ⟨b, o, none⟩) 2 c), fun wx hSx => ?_, ?_⟩
        · obtain ⟨⟨k0, k1, k2, k3, k4, k5, k6, k7, k8, k9, k10, k11, k12, k13, k14⟩, -⟩ := hSx
          go_simp
          try rfl
        simp only [Act.put, List.setIfInBounds_toArray, List.set_cons_zero, List.set_cons_succ]
        go_big_quiet_on
        go_big_quiet_want
        refine ⟨(.pointer (some ⟨b, o, none⟩)), fun wx hSx => ?_, ?_⟩
        · obtain ⟨⟨k0, k1, k2, k3, k4, k5, k6, k7, k8, k9, k10, k11, k12, k13, k14⟩, -⟩ := hSx
          go_simp
          try rfl
        simp only [Act.put, List.setIfInBounds_toArray, List.set_cons_zero, List.set_cons_succ]
        go_big_quiet_on
        go_big_quiet_want
        refine ⟨(xV y1 a1 q1), fun wx hSx => ?_, ?_⟩
        · obtain ⟨⟨k0, k1, k2, k3, k4, k5, k6, k7, k8, k9, k10, k11, k12, k13, k14⟩, -⟩ := hSx
          go_simp
          try rfl
        simp only [Act.put, List.setIfInBounds_toArray, List.set_cons_zero, List.set_cons_succ]
        go_big_quiet_on
        go_big_quiet_want
        go_big_quiet_op
        go_big_quiet_on
        go_big_quiet_want
        refine ⟨(.string A), fun wx hSx => ?_, ?_⟩
        · exact quietAt_call 16 #[xV y1 a1 q1, .int .i64 LF] (by go_simp) ((HC.out.1 wx hSx.2.out).mono fun e w' hh => ⟨hh.1, ⟨(hh.2.cell (p := ⟨w.heap.size, 0, none⟩) (World.block_lt_of_cell? _ _ hSx.1.1)).trans hSx.1.1, (hh.2.cell (p := ⟨w.heap.size, 5, none⟩) (World.block_lt_of_cell? _ _ hSx.1.2.1)).trans hSx.1.2.1, (hh.2.cell (p := ⟨b, o, none⟩) (World.block_lt_of_cell? _ _ hSx.1.2.2.1)).trans hSx.1.2.2.1, (hh.2.cell (p := ⟨b, o + 1, none⟩) (World.block_lt_of_cell? _ _ hSx.1.2.2.2.1)).trans hSx.1.2.2.2.1, (hh.2.cell (p := ⟨b, o + 2, none⟩) (World.block_lt_of_cell? _ _ hSx.1.2.2.2.2.1)).trans hSx.1.2.2.2.2.1, (hh.2.cell (p := ⟨b, o + 3, none⟩) (World.block_lt_of_cell? _ _ hSx.1.2.2.2.2.2.1)).trans hSx.1.2.2.2.2.2.1, (hh.2.cell (p := ⟨b, o + 4, none⟩) (World.block_lt_of_cell? _ _ hSx.1.2.2.2.2.2.2.1)).trans hSx.1.2.2.2.2.2.2.1, (hh.2.cell (p := ⟨b, o + 5, none⟩) (World.block_lt_of_cell? _ _ hSx.1.2.2.2.2.2.2.2.1)).trans hSx.1.2.2.2.2.2.2.2.1, (hh.2.cell (p := ⟨b, o + 6, none⟩) (World.block_lt_of_cell? _ _ hSx.1.2.2.2.2.2.2.2.2.1)).trans hSx.1.2.2.2.2.2.2.2.2.1, (hh.2.cell (p := ⟨b, o + 7, none⟩) (World.block_lt_of_cell? _ _ hSx.1.2.2.2.2.2.2.2.2.2.1)).trans hSx.1.2.2.2.2.2.2.2.2.2.1, (hh.2.cell (p := ⟨b, o + 8, none⟩) (World.block_lt_of_cell? _ _ hSx.1.2.2.2.2.2.2.2.2.2.2.1)).trans hSx.1.2.2.2.2.2.2.2.2.2.2.1, (hh.2.cell (p := ⟨b, o + 9, none⟩) (World.block_lt_of_cell? _ _ hSx.1.2.2.2.2.2.2.2.2.2.2.2.1)).trans hSx.1.2.2.2.2.2.2.2.2.2.2.2.1, (hh.2.cell (p := ⟨b, o + 10, none⟩) (World.block_lt_of_cell? _ _ hSx.1.2.2.2.2.2.2.2.2.2.2.2.2.1)).trans hSx.1.2.2.2.2.2.2.2.2.2.2.2.2.1, (hh.2.cell (p := ⟨b, o + 11, none⟩) (World.block_lt_of_cell? _ _ hSx.1.2.2.2.2.2.2.2.2.2.2.2.2.2.1)).trans hSx.1.2.2.2.2.2.2.2.2.2.2.2.2.2.1, (hh.2.cell (p := ⟨0, kk * 2, none⟩) (World.block_lt_of_cell? _ _ hSx.1.2.2.2.2.2.2.2.2.2.2.2.2.2.2)).trans hSx.1.2.2.2.2.2.2.2.2.2.2.2.2.2.2⟩, Lib.hid (hSx.2.out.trans (hh.2.mono hSx.2.out.size))⟩)
        simp only [Act.put, List.setIfInBounds_toArray, List.set_cons_zero, List.set_cons_succ]
        go_big_quiet_on
        go_big_quiet_want
        refine ⟨(.string (A ++ ⟨#[32]⟩)), fun wx hSx => ?_, ?_⟩
        · obtain ⟨⟨k0, k1, k2, k3, k4, k5, k6, k7, k8, k9, k10, k11, k12, k13, k14⟩, -⟩ := hSx
          go_simp
          first
            | rfl
            | (rw [if_neg (by omega)]; done)
            | (rw [if_neg (by omega)]; exact ⟨rfl, rfl⟩)
        simp only [Act.put, List.setIfInBounds_toArray, List.set_cons_zero, List.set_cons_succ]
        go_big_quiet_on
        go_big_quiet_want
        refine ⟨(.pointer (some ⟨w.heap.size, 0, none⟩)), fun wx hSx => ?_, ?_⟩
        · obtain ⟨⟨k0, k1, k2, k3, k4, k5, k6, k7, k8, k9, k10, k11, k12, k13, k14⟩, -⟩ := hSx
          go_simp
          try rfl
        simp only [Act.put, List.setIfInBounds_toArray, List.set_cons_zero, List.set_cons_succ]
        go_big_quiet_on
        go_big_quiet_want
        refine ⟨(.int .i64 (kk : Int)), fun wx hSx => ?_, ?_⟩
        · obtain ⟨⟨k0, k1, k2, k3, k4, k5, k6, k7, k8, k9, k10, k11, k12, k13, k14⟩, -⟩ := hSx
          go_simp
          try rfl
        simp only [Act.put, List.setIfInBounds_toArray, List.set_cons_zero, List.set_cons_succ]
        go_big_quiet_on
        go_big_quiet_want
        refine ⟨(.pointer (some ⟨0, kk * 2, none⟩)), fun wx hSx => ?_, ?_⟩
        · obtain ⟨⟨k0, k1, k2, k3, k4, k5, k6, k7, k8, k9, k10, k11, k12, k13, k14⟩, -⟩ := hSx
          go_simp
          rw [if_pos (show ((kk : Nat) : Int) < 16 by omega)]
          exact ⟨rfl, rfl⟩
        simp only [Act.put, List.setIfInBounds_toArray, List.set_cons_zero, List.set_cons_succ]
        go_big_quiet_on
        go_big_quiet_want
        refine ⟨(.pointer (some ⟨0, kk * 2, none⟩)), fun wx hSx => ?_, ?_⟩
        · obtain ⟨⟨k0, k1, k2, k3, k4, k5, k6, k7, k8, k9, k10, k11, k12, k13, k14⟩, -⟩ := hSx
          go_simp
          try rfl
        simp only [Act.put, List.setIfInBounds_toArray, List.set_cons_zero, List.set_cons_succ]
        go_big_quiet_on
        go_big_quiet_want
        refine ⟨(.string SG), fun wx hSx => ?_, ?_⟩
        · obtain ⟨⟨k0, k1, k2, k3, k4, k5, k6, k7, k8, k9, k10, k11, k12, k13, k14⟩, -⟩ := hSx
          go_simp
          try rfl
        simp only [Act.put, List.setIfInBounds_toArray, List.set_cons_zero, List.set_cons_succ]
        go_big_quiet_on
        go_big_quiet_want
        refine ⟨(.string (A ++ ⟨#[32]⟩ ++ SG)), fun wx hSx => ?_, ?_⟩
        · obtain ⟨⟨k0, k1, k2, k3, k4, k5, k6, k7, k8, k9, k10, k11, k12, k13, k14⟩, -⟩ := hSx
          go_simp
          first
            | rfl
            | (rw [if_neg (by omega)]; done)
            | (rw [if_neg (by omega)]; exact ⟨rfl, rfl⟩)
        simp only [Act.put, List.setIfInBounds_toArray, List.set_cons_zero, List.set_cons_succ]
        go_big_quiet_on
        go_big_quiet_want
        refine ⟨(.string (A ++ ⟨#[32]⟩ ++ SG ++ ⟨#[32]⟩)), fun wx hSx => ?_, ?_⟩
        · obtain ⟨⟨k0, k1, k2, k3, k4, k5, k6, k7, k8, k9, k10, k11, k12, k13, k14⟩, -⟩ := hSx
          go_simp
          first
            | rfl
            | (rw [if_neg (by omega)]; done)
            | (rw [if_neg (by omega)]; exact ⟨rfl, rfl⟩)
        simp only [Act.put, List.setIfInBounds_toArray, List.set_cons_zero, List.set_cons_succ]
        go_big_quiet_on
        go_big_quiet_want
        refine ⟨(.pointer (some ⟨w.heap.size, 5, none⟩)), fun wx hSx => ?_, ?_⟩
        · obtain ⟨⟨k0, k1, k2, k3, k4, k5, k6, k7, k8, k9, k10, k11, k12, k13, k14⟩, -⟩ := hSx
          go_simp
          try rfl
        simp only [Act.put, List.setIfInBounds_toArray, List.set_cons_zero, List.set_cons_succ]
        go_big_quiet_on
        go_big_quiet_want
        refine ⟨(.slice (some ⟨b, o, none⟩) 2 c), fun wx hSx => ?_, ?_⟩
        · obtain ⟨⟨k0, k1, k2, k3, k4, k5, k6, k7, k8, k9, k10, k11, k12, k13, k14⟩, -⟩ := hSx
          go_simp
          try rfl
        simp only [Act.put, List.setIfInBounds_toArray, List.set_cons_zero, List.set_cons_succ]
        go_big_quiet_on
        go_big_quiet_want
        refine ⟨(.pointer (some ⟨b, o + 6, none⟩)), fun wx hSx => ?_, ?_⟩
        · obtain ⟨⟨k0, k1, k2, k3, k4, k5, k6, k7, k8, k9, k10, k11, k12, k13, k14⟩, -⟩ := hSx
          go_simp
          try rfl
        simp only [Act.put, List.setIfInBounds_toArray, List.set_cons_zero, List.set_cons_succ]
        go_big_quiet_on
        go_big_quiet_want
        refine ⟨(xV y2 a2 q2), fun wx hSx => ?_, ?_⟩
        · obtain ⟨⟨k0, k1, k2, k3, k4, k5, k6, k7, k8, k9, k10, k11, k12, k13, k14⟩, -⟩ := hSx
          go_simp
          try rfl
        simp only [Act.put, List.setIfInBounds_toArray, List.set_cons_zero, List.set_cons_succ]
        go_big_quiet_on
        go_big_quiet_want
        go_big_quiet_op
        go_big_quiet_on
        go_big_quiet_want
        refine ⟨(.string B), fun wx hSx => ?_, ?_⟩
        · exact quietAt_call 16 #[xV y2 a2 q2, .int .i64 RG] (by go_simp) ((HC.out.2 wx hSx.2.out).mono fun e w' hh => ⟨hh.1, ⟨(hh.2.cell (p := ⟨w.heap.size, 0, none⟩) (World.block_lt_of_cell? _ _ hSx.1.1)).trans hSx.1.1, (hh.2.cell (p := ⟨w.heap.size, 5, none⟩) (World.block_lt_of_cell? _ _ hSx.1.2.1)).trans hSx.1.2.1, (hh.2.cell (p := ⟨b, o, none⟩) (World.block_lt_of_cell? _ _ hSx.1.2.2.1)).trans hSx.1.2.2.1, (hh.2.cell (p := ⟨b, o + 1, none⟩) (World.block_lt_of_cell? _ _ hSx.1.2.2.2.1)).trans hSx.1.2.2.2.1, (hh.2.cell (p := ⟨b, o + 2, none⟩) (World.block_lt_of_cell? _ _ hSx.1.2.2.2.2.1)).trans hSx.1.2.2.2.2.1, (hh.2.cell (p := ⟨b, o + 3, none⟩) (World.block_lt_of_cell? _ _ hSx.1.2.2.2.2.2.1)).trans hSx.1.2.2.2.2.2.1, (hh.2.cell (p := ⟨b, o + 4, none⟩) (World.block_lt_of_cell? _ _ hSx.1.2.2.2.2.2.2.1)).trans hSx.1.2.2.2.2.2.2.1, (hh.2.cell (p := ⟨b, o + 5, none⟩) (World.block_lt_of_cell? _ _ hSx.1.2.2.2.2.2.2.2.1)).trans hSx.1.2.2.2.2.2.2.2.1, (hh.2.cell (p := ⟨b, o + 6, none⟩) (World.block_lt_of_cell? _ _ hSx.1.2.2.2.2.2.2.2.2.1)).trans hSx.1.2.2.2.2.2.2.2.2.1, (hh.2.cell (p := ⟨b, o + 7, none⟩) (World.block_lt_of_cell? _ _ hSx.1.2.2.2.2.2.2.2.2.2.1)).trans hSx.1.2.2.2.2.2.2.2.2.2.1, (hh.2.cell (p := ⟨b, o + 8, none⟩) (World.block_lt_of_cell? _ _ hSx.1.2.2.2.2.2.2.2.2.2.2.1)).trans hSx.1.2.2.2.2.2.2.2.2.2.2.1, (hh.2.cell (p := ⟨b, o + 9, none⟩) (World.block_lt_of_cell? _ _ hSx.1.2.2.2.2.2.2.2.2.2.2.2.1)).trans hSx.1.2.2.2.2.2.2.2.2.2.2.2.1, (hh.2.cell (p := ⟨b, o + 10, none⟩) (World.block_lt_of_cell? _ _ hSx.1.2.2.2.2.2.2.2.2.2.2.2.2.1)).trans hSx.1.2.2.2.2.2.2.2.2.2.2.2.2.1, (hh.2.cell (p := ⟨b, o + 11, none⟩) (World.block_lt_of_cell? _ _ hSx.1.2.2.2.2.2.2.2.2.2.2.2.2.2.1)).trans hSx.1.2.2.2.2.2.2.2.2.2.2.2.2.2.1, (hh.2.cell (p := ⟨0, kk * 2, none⟩) (World.block_lt_of_cell? _ _ hSx.1.2.2.2.2.2.2.2.2.2.2.2.2.2.2)).trans hSx.1.2.2.2.2.2.2.2.2.2.2.2.2.2.2⟩, Lib.hid (hSx.2.out.trans (hh.2.mono hSx.2.out.size))⟩)
        simp only [Act.put, List.setIfInBounds_toArray, List.set_cons_zero, List.set_cons_succ]
        go_big_quiet_on
        go_big_quiet_want
        refine ⟨(.string (A ++ ⟨#[32]⟩ ++ SG ++ ⟨#[32]⟩ ++ B)), fun wx hSx => ?_, ?_⟩
        · obtain ⟨⟨k0, k1, k2, k3, k4, k5, k6, k7, k8, k9, k10, k11, k12, k13, k14⟩, -⟩ := hSx
          go_simp
          first
            | rfl
            | (rw [if_neg (by omega)]; done)
            | (rw [if_neg (by omega)]; exact ⟨rfl, rfl⟩)
        simp only [Act.put, List.setIfInBounds_toArray, List.set_cons_zero, List.set_cons_succ]
        go_big_quiet_on
        refine wpQuiet_nil ?_
        rintro w4 ⟨-, hb4⟩
        have HB4 := Lib.hid (HBx.out _ hb4.out)
        clear hb4
        go_wp2_with fail
        go_ret
        exact ⟨ret_str HE.out.symm, HB4.out⟩
      | cond y1 y2 y3 ha hb hc =>
        have hdx : Sx.deep (.mk 16 Vl.no Vl.mt [y1, y2, y3]) = max (Sx.deep y1) (max (Sx.deep y2) (max (Sx.deep y3) 0)) + 1 := rfl
        have hsx : Sx.size (.mk 16 Vl.no Vl.mt [y1, y2, y3]) = 1 + (Sx.size y1 + (Sx.size y2 + (Sx.size y3 + 0))) := rfl
        have hfx : Sx.fit y1 = true ∧ Sx.fit y2 = true ∧ Sx.fit y3 = true := by simp only [Sx.fit, Sx.fitL, Bool.and_eq_true] at hf; exact ⟨hf.2.1, hf.2.2.1, hf.2.2.2.1⟩
        have ho1 : Sx.okX y1 := Sx.okX_at hok (i := 0) (by show 0 < 3; omega)
        have ho2 : Sx.okX y2 := Sx.okX_at hok (i := 1) (by show 1 < 3; omega)
        have ho3 : Sx.okX y3 := Sx.okX_at hok (i := 2) (by show 2 < 3; omega)
        obtain ⟨b, o, a1, q1, a2, q2, a3, q3, rfl, K1, K2, K3, hy1, hy2, hy3⟩ := xat_l3 HX.out
        have hz1 : (Sx.wt y1 0).size ≤ 100000000 := Nat.le_trans (Sx.wt_size ha hfx.1 0) (by omega)
        have hz2 : (Sx.wt y2 0).size ≤ 100000000 := Nat.le_trans (Sx.wt_size hb hfx.2.1 0) (by omega)
        have hz3 : (Sx.wt y3 0).size ≤ 100000000 := Nat.le_trans (Sx.wt_size hc hfx.2.2 0) (by omega)
        have HE := Lib.hid ((Sx.wt_cond y1 y2 y3).trans (Sx.cond_cat _ _ _))
        have HC1 := Lib.hid fun (wx : World) (hbx : Below w.heap.size w wx) => HI.out y1 (by omega) ha ho1 hfx.1 (by omega) 0 (by omega) a1 q1 wx (xat_below hy1 hbx) (twos_below HT.out.1 hbx) (pow10_below HT.out.2 hbx)
        have HC2 := Lib.hid fun (wx : World) (hbx : Below w.heap.size w wx) => HI.out y2 (by omega) hb ho2 hfx.2.1 (by omega) 0 (by omega) a2 q2 wx (xat_below hy2 hbx) (twos_below HT.out.1 hbx) (pow10_below HT.out.2 hbx)
        have HC3 := Lib.hid fun (wx : World) (hbx : Below w.heap.size w wx) => HI.out y3 (by omega) hc ho3 hfx.2.2 (by omega) 0 (by omega) a3 q3 wx (xat_below hy3 hbx) (twos_below HT.out.1 hbx) (pow10_below HT.out.2 hbx)
        obtain ⟨d0, d1, d2, d3, d4, d5⟩ := cells6_keep K1 hB0.out
        obtain ⟨e0, e1, e2, e3, e4, e5⟩ := cells6_keep K2 hB0.out
        obtain ⟨f0, f1, f2, f3, f4, f5⟩ := cells6_keep K3 hB0.out
        have hl7 : Sx.lvl (X.op (.mk 16 Vl.no Vl.mt [y1, y2, y3])) = 0 := rfl
        rw [hl7] at hlt HLV
        clear K1 K2 K3 hy1 hy2 hy3 hdx c1 c2 c3 c4
        generalize hA : Sx.wt y1 0 = A at *
        generalize hBB : Sx.wt y2 0 = B at *
        generalize hCC : Sx.wt y3 0 = C at *
        clear hA hBB hCC
        have hif : (⟨#[105, 102, 32]⟩ : ByteArray).size = 3 := rfl
        have hsp : (⟨#[32]⟩ : ByteArray).size = 1 := rfl
        have hth : (⟨#[116, 104, 101, 110]⟩ : ByteArray).size = 4 := rfl
        have hel : (⟨#[101, 108, 115, 101]⟩ : ByteArray).size = 4 := rfl
        have z1 : (⟨#[105, 102, 32]⟩ ++ A : ByteArray).size = 3 + A.size := by rw [ByteArray.size_append, hif]
        have z2 : (⟨#[105, 102, 32]⟩ ++ A ++ ⟨#[32]⟩ : ByteArray).size = 3 + A.size + 1 := by rw [ByteArray.size_append, z1, hsp]
        have z3 : (⟨#[105, 102, 32]⟩ ++ A ++ ⟨#[32]⟩ ++ ⟨#[116, 104, 101, 110]⟩ : ByteArray).size = 3 + A.size + 1 + 4 := by rw [ByteArray.size_append, z2, hth]
        have z4 : (⟨#[105, 102, 32]⟩ ++ A ++ ⟨#[32]⟩ ++ ⟨#[116, 104, 101, 110]⟩ ++ ⟨#[32]⟩ : ByteArray).size = 3 + A.size + 1 + 4 + 1 := by rw [ByteArray.size_append, z3, hsp]
        have z5 : (⟨#[105, 102, 32]⟩ ++ A ++ ⟨#[32]⟩ ++ ⟨#[116, 104, 101, 110]⟩ ++ ⟨#[32]⟩ ++ B : ByteArray).size = 3 + A.size + 1 + 4 + 1 + B.size := by rw [ByteArray.size_append, z4]
        have z6 : (⟨#[105, 102, 32]⟩ ++ A ++ ⟨#[32]⟩ ++ ⟨#[116, 104, 101, 110]⟩ ++ ⟨#[32]⟩ ++ B ++ ⟨#[32]⟩ : ByteArray).size = 3 + A.size + 1 + 4 + 1 + B.size + 1 := by rw [ByteArray.size_append, z5, hsp]
        have z7 : (⟨#[105, 102, 32]⟩ ++ A ++ ⟨#[32]⟩ ++ ⟨#[116, 104, 101, 110]⟩ ++ ⟨#[32]⟩ ++ B ++ ⟨#[32]⟩ ++ ⟨#[101, 108, 115, 101]⟩ : ByteArray).size = 3 + A.size + 1 + 4 + 1 + B.size + 1 + 4 := by rw [ByteArray.size_append, z6, hel]
        have z8 : (⟨#[105, 102, 32]⟩ ++ A ++ ⟨#[32]⟩ ++ ⟨#[116, 104, 101, 110]⟩ ++ ⟨#[32]⟩ ++ B ++ ⟨#[32]⟩ ++ ⟨#[101, 108, 115, 101]⟩ ++ ⟨#[32]⟩ : ByteArray).size = 3 + A.size + 1 + 4 + 1 + B.size + 1 + 4 + 1 := by rw [ByteArray.size_append, z7, hsp]
        go_enter Tryz.func16, Tryz.ntmps16
        go_wp2_with (first | (go_at_call 23; refine HLV.out.mono ?_; rintro e w1 ⟨rfl, rfl⟩))
        have HC := Lib.hid (And.intro (fun (wx : World) (hbx : Below (w.alloc (.cells (xC (.mk 16 Vl.no Vl.mt [y1, y2, y3]) (some ⟨b, o, none⟩) c) 29)).heap.size (w.alloc (.cells (xC (.mk 16 Vl.no Vl.mt [y1, y2, y3]) (some ⟨b, o, none⟩) c) 29)) wx) => HC1.out wx (hB0.out.trans (hbx.mono hB0.out.size))) (And.intro (fun (wx : World) (hbx : Below (w.alloc (.cells (xC (.mk 16 Vl.no Vl.mt [y1, y2, y3]) (some ⟨b, o, none⟩) c) 29)).heap.size (w.alloc (.cells (xC (.mk 16 Vl.no Vl.mt [y1, y2, y3]) (some ⟨b, o, none⟩) c) 29)) wx) => HC2.out wx (hB0.out.trans (hbx.mono hB0.out.size))) (fun (wx : World) (hbx : Below (w.alloc (.cells (xC (.mk 16 Vl.no Vl.mt [y1, y2, y3]) (some ⟨b, o, none⟩) c) 29)).heap.size (w.alloc (.cells (xC (.mk 16 Vl.no Vl.mt [y1, y2, y3]) (some ⟨b, o, none⟩) c) 29)) wx) => HC3.out wx (hB0.out.trans (hbx.mono hB0.out.size)))))
        have HBx := Lib.hid fun (wx : World) (hbx : Below (w.alloc (.cells (xC (.mk 16 Vl.no Vl.mt [y1, y2, y3]) (some ⟨b, o, none⟩) c) 29)).heap.size (w.alloc (.cells (xC (.mk 16 Vl.no Vl.mt [y1, y2, y3]) (some ⟨b, o, none⟩) c) 29)) wx) => (x_look hbx).2
        clear HC1 HC2 HC3 HL HX HI hB0
        generalize hwr : (w.alloc (.cells (xC (.mk 16 Vl.no Vl.mt [y1, y2, y3]) (some ⟨b, o, none⟩) c) 29)) = wr at *
        refine wp_region_quiet_tail (C := fun wx => (wx.cell? ⟨w.heap.size, 0, none⟩ = some (.int .i64 16) ∧ wx.cell? ⟨w.heap.size, 5, none⟩ = some (.slice (some ⟨b, o, none⟩) 3 c) ∧ wx.cell? ⟨b, o, none⟩ = some (.int .i64 y1.op) ∧ wx.cell? ⟨b, o + 1, none⟩ = some (.int .i64 y1.v.kind) ∧ wx.cell? ⟨b, o + 2, none⟩ = some (.int .i64 y1.v.n) ∧ wx.cell? ⟨b, o + 3, none⟩ = some (.string y1.v.s) ∧ wx.cell? ⟨b, o + 4, none⟩ = some (.string y1.s) ∧ wx.cell? ⟨b, o + 5, none⟩ = some (.slice a1 y1.l.length q1) ∧ wx.cell? ⟨b, o + 6, none⟩ = some (.int .i64 y2.op) ∧ wx.cell? ⟨b, o + 7, none⟩ = some (.int .i64 y2.v.kind) ∧ wx.cell? ⟨b, o + 8, none⟩ = some (.int .i64 y2.v.n) ∧ wx.cell? ⟨b, o + 9, none⟩ = some (.string y2.v.s) ∧ wx.cell? ⟨b, o + 10, none⟩ = some (.string y2.s) ∧ wx.cell? ⟨b, o + 11, none⟩ = some (.slice a2 y2.l.length q2) ∧ wx.cell? ⟨b, o + 12, none⟩ = some (.int .i64 y3.op) ∧ wx.cell? ⟨b, o + 13, none⟩ = some (.int .i64 y3.v.kind) ∧ wx.cell? ⟨b, o + 14, none⟩ = some (.int .i64 y3.v.n) ∧ wx.cell? ⟨b, o + 15, none⟩ = some (.string y3.v.s) ∧ wx.cell? ⟨b, o + 16, none⟩ = some (.string y3.s) ∧ wx.cell? ⟨b, o + 17, none⟩ = some (.slice a3 y3.l.length q3)) ∧ Hid (Below wr.heap.size wr wx)) 24 (by kernel_rfl) (by kernel_rfl) ⟨⟨c0, c5, d0, d1, d2, d3, d4, d5, e0, e1, e2, e3, e4, e5, f0, f1, f2, f3, f4, f5⟩, Lib.hid (Below.refl wr.heap.size wr).drew⟩ ?_
        simp only [List.take_succ_cons, List.take_zero, List.drop_succ_cons, List.drop_zero]
        go_big_quiet_want
        refine ⟨(.pointer (some ⟨w.heap.size, 5, none⟩)), fun wx hSx => ?_, ?_⟩
        · obtain ⟨⟨k0, k1, k2, k3, k4, k5, k6, k7, k8, k9, k10, k11, k12, k13, k14, k15, k16, k17, k18, k19⟩, -⟩ := hSx
          go_simp
          try rfl
        simp only [Act.put, List.setIfInBounds_toArray, List.set_cons_zero, List.set_cons_succ]
        go_big_quiet_on
        go_big_quiet_want
        refine ⟨(.slice (some ⟨b, o, none⟩) 3 c), fun wx hSx => ?_, ?_⟩
        · obtain ⟨⟨k0, k1, k2, k3, k4, k5, k6, k7, k8, k9, k10, k11, k12, k13, k14, k15, k16, k17, k18, k19⟩, -⟩ := hSx
          go_simp
          try rfl
        simp only [Act.put, List.setIfInBounds_toArray, List.set_cons_zero, List.set_cons_succ]
        go_big_quiet_on
        go_big_quiet_want
        refine ⟨(.pointer (some ⟨b, o, none⟩)), fun wx hSx => ?_, ?_⟩
        · obtain ⟨⟨k0, k1, k2, k3, k4, k5, k6, k7, k8, k9, k10, k11, k12, k13, k14, k15, k16, k17, k18, k19⟩, -⟩ := hSx
          go_simp
          try rfl
        simp only [Act.put, List.setIfInBounds_toArray, List.set_cons_zero, List.set_cons_succ]
        go_big_quiet_on
        go_big_quiet_want
        refine ⟨(xV y1 a1 q1), fun wx hSx => ?_, ?_⟩
        · obtain ⟨⟨k0, k1, k2, k3, k4, k5, k6, k7, k8, k9, k10, k11, k12, k13, k14, k15, k16, k17, k18, k19⟩, -⟩ := hSx
          go_simp
          try rfl
        simp only [Act.put, List.setIfInBounds_toArray, List.set_cons_zero, List.set_cons_succ]
        go_big_quiet_on
        go_big_quiet_want
        refine ⟨(.string A), fun wx hSx => ?_, ?_⟩
        · exact quietAt_call 16 #[xV y1 a1 q1, .int .i64 0] (by go_simp) ((HC.out.1 wx hSx.2.out).mono fun e w' hh => ⟨hh.1, ⟨(hh.2.cell (p := ⟨w.heap.size, 0, none⟩) (World.block_lt_of_cell? _ _ hSx.1.1)).trans hSx.1.1, (hh.2.cell (p := ⟨w.heap.size, 5, none⟩) (World.block_lt_of_cell? _ _ hSx.1.2.1)).trans hSx.1.2.1, (hh.2.cell (p := ⟨b, o, none⟩) (World.block_lt_of_cell? _ _ hSx.1.2.2.1)).trans hSx.1.2.2.1, (hh.2.cell (p := ⟨b, o + 1, none⟩) (World.block_lt_of_cell? _ _ hSx.1.2.2.2.1)).trans hSx.1.2.2.2.1, (hh.2.cell (p := ⟨b, o + 2, none⟩) (World.block_lt_of_cell? _ _ hSx.1.2.2.2.2.1)).trans hSx.1.2.2.2.2.1, (hh.2.cell (p := ⟨b, o + 3, none⟩) (World.block_lt_of_cell? _ _ hSx.1.2.2.2.2.2.1)).trans hSx.1.2.2.2.2.2.1, (hh.2.cell (p := ⟨b, o + 4, none⟩) (World.block_lt_of_cell? _ _ hSx.1.2.2.2.2.2.2.1)).trans hSx.1.2.2.2.2.2.2.1, (hh.2.cell (p := ⟨b, o + 5, none⟩) (World.block_lt_of_cell? _ _ hSx.1.2.2.2.2.2.2.2.1)).trans hSx.1.2.2.2.2.2.2.2.1, (hh.2.cell (p := ⟨b, o + 6, none⟩) (World.block_lt_of_cell? _ _ hSx.1.2.2.2.2.2.2.2.2.1)).trans hSx.1.2.2.2.2.2.2.2.2.1, (hh.2.cell (p := ⟨b, o + 7, none⟩) (World.block_lt_of_cell? _ _ hSx.1.2.2.2.2.2.2.2.2.2.1)).trans hSx.1.2.2.2.2.2.2.2.2.2.1, (hh.2.cell (p := ⟨b, o + 8, none⟩) (World.block_lt_of_cell? _ _ hSx.1.2.2.2.2.2.2.2.2.2.2.1)).trans hSx.1.2.2.2.2.2.2.2.2.2.2.1, (hh.2.cell (p := ⟨b, o + 9, none⟩) (World.block_lt_of_cell? _ _ hSx.1.2.2.2.2.2.2.2.2.2.2.2.1)).trans hSx.1.2.2.2.2.2.2.2.2.2.2.2.1, (hh.2.cell (p := ⟨b, o + 10, none⟩) (World.block_lt_of_cell? _ _ hSx.1.2.2.2.2.2.2.2.2.2.2.2.2.1)).trans hSx.1.2.2.2.2.2.2.2.2.2.2.2.2.1, (hh.2.cell (p := ⟨b, o + 11, none⟩) (World.block_lt_of_cell? _ _ hSx.1.2.2.2.2.2.2.2.2.2.2.2.2.2.1)).trans hSx.1.2.2.2.2.2.2.2.2.2.2.2.2.2.1, (hh.2.cell (p := ⟨b, o + 12, none⟩) (World.block_lt_of_cell? _ _ hSx.1.2.2.2.2.2.2.2.2.2.2.2.2.2.2.1)).trans hSx.1.2.2.2.2.2.2.2.2.2.2.2.2.2.2.1, (hh.2.cell (p := ⟨b, o + 13, none⟩) (World.block_lt_of_cell? _ _ hSx.1.2.2.2.2.2.2.2.2.2.2.2.2.2.2.2.1)).trans hSx.1.2.2.2.2.2.2.2.2.2.2.2.2.2.2.2.1, (hh.2.cell (p := ⟨b, o + 14, none⟩) (World.block_lt_of_cell? _ _ hSx.1.2.2.2.2.2.2.2.2.2.2.2.2.2.2.2.2.1)).trans hSx.1.2.2.2.2.2.2.2.2.2.2.2.2.2.2.2.2.1, (hh.2.cell (p := ⟨b, o + 15, none⟩) (World.block_lt_of_cell? _ _ hSx.1.2.2.2.2.2.2.2.2.2.2.2.2.2.2.2.2.2.1)).trans hSx.1.2.2.2.2.2.2.2.2.2.2.2.2.2.2.2.2.2.1, (hh.2.cell (p := ⟨b, o + 16, none⟩) (World.block_lt_of_cell? _ _ hSx.1.2.2.2.2.2.2.2.2.2.2.2.2.2.2.2.2.2.2.1)).trans hSx.1.2.2.2.2.2.2.2.2.2.2.2.2.2.2.2.2.2.2.1, (hh.2.cell (p := ⟨b, o + 17, none⟩) (World.block_lt_of_cell? _ _ hSx.1.2.2.2.2.2.2.2.2.2.2.2.2.2.2.2.2.2.2.2)).trans hSx.1.2.2.2.2.2.2.2.2.2.2.2.2.2.2.2.2.2.2.2⟩, Lib.hid (hSx.2.out.trans (hh.2.mono hSx.2.out.size))⟩)
        simp only [Act.put, List.setIfInBounds_toArray, List.set_cons_zero, List.set_cons_succ]
        go_big_quiet_on
        go_big_quiet_want
        refine ⟨(.string (⟨#[105, 102, 32]⟩ ++ A)), fun wx hSx => ?_, ?_⟩
        · obtain ⟨⟨k0, k1, k2, k3, k4, k5, k6, k7, k8, k9, k10, k11, k12, k13, k14, k15, k16, k17, k18, k19⟩, -⟩ := hSx
          go_simp
          first
            | rfl
            | (rw [if_neg (by omega)]; done)
            | (rw [if_neg (by omega)]; exact ⟨rfl, rfl⟩)
        simp only [Act.put, List.setIfInBounds_toArray, List.set_cons_zero, List.set_cons_succ]
        go_big_quiet_on
        go_big_quiet_want
        refine ⟨(.string (⟨#[105, 102, 32]⟩ ++ A ++ ⟨#[32]⟩)), fun wx hSx => ?_, ?_⟩
        · obtain ⟨⟨k0, k1, k2, k3, k4, k5, k6, k7, k8, k9, k10, k11, k12, k13, k14, k15, k16, k17, k18, k19⟩, -⟩ := hSx
          go_simp
          first
            | rfl
            | (rw [if_neg (by omega)]; done)
            | (rw [if_neg (by omega)]; exact ⟨rfl, rfl⟩)
        simp only [Act.put, List.setIfInBounds_toArray, List.set_cons_zero, List.set_cons_succ]
        go_big_quiet_on
        go_big_quiet_want
        refine ⟨(.string (⟨#[105, 102, 32]⟩ ++ A ++ ⟨#[32]⟩ ++ ⟨#[116, 104, 101, 110]⟩)), fun wx hSx => ?_, ?_⟩
        · obtain ⟨⟨k0, k1, k2, k3, k4, k5, k6, k7, k8, k9, k10, k11, k12, k13, k14, k15, k16, k17, k18, k19⟩, -⟩ := hSx
          go_simp
          first
            | rfl
            | (rw [if_neg (by omega)]; done)
            | (rw [if_neg (by omega)]; exact ⟨rfl, rfl⟩)
        simp only [Act.put, List.setIfInBounds_toArray, List.set_cons_zero, List.set_cons_succ]
        go_big_quiet_on
        go_big_quiet_want
        refine ⟨(.string (⟨#[105, 102, 32]⟩ ++ A ++ ⟨#[32]⟩ ++ ⟨#[116, 104, 101, 110]⟩ ++ ⟨#[32]⟩)), fun wx hSx => ?_, ?_⟩
        · obtain ⟨⟨k0, k1, k2, k3, k4, k5, k6, k7, k8, k9, k10, k11, k12, k13, k14, k15, k16, k17, k18, k19⟩, -⟩ := hSx
          go_simp
          first
            | rfl
            | (rw [if_neg (by omega)]; done)
            | (rw [if_neg (by omega)]; exact ⟨rfl, rfl⟩)
        simp only [Act.put, List.setIfInBounds_toArray, List.set_cons_zero, List.set_cons_succ]
        go_big_quiet_on
        go_big_quiet_want
        refine ⟨(.pointer (some ⟨w.heap.size, 5, none⟩)), fun wx hSx => ?_, ?_⟩
        · obtain ⟨⟨k0, k1, k2, k3, k4, k5, k6, k7, k8, k9, k10, k11, k12, k13, k14, k15, k16, k17, k18, k19⟩, -⟩ := hSx
          go_simp
          try rfl
        simp only [Act.put, List.setIfInBounds_toArray, List.set_cons_zero, List.set_cons_succ]
        go_big_quiet_on
        go_big_quiet_want
        refine ⟨(.slice (some ⟨b, o, none⟩) 3 c), fun wx hSx => ?_, ?_⟩
        · obtain ⟨⟨k0, k1, k2, k3, k4, k5, k6, k7, k8, k9, k10, k11, k12, k13, k14, k15, k16, k17, k18, k19⟩, -⟩ := hSx
          go_simp
          try rfl
        simp only [Act.put, List.setIfInBounds_toArray, List.set_cons_zero, List.set_cons_succ]
        go_big_quiet_on
        go_big_quiet_want
        refine ⟨(.pointer (some ⟨b, o + 6, none⟩)), fun wx hSx => ?_, ?_⟩
        · obtain ⟨⟨k0, k1, k2, k3, k4, k5, k6, k7, k8, k9, k10, k11, k12, k13, k14, k15, k16, k17, k18, k19⟩, -⟩ := hSx
          go_simp
          try rfl
        simp only [Act.put, List.setIfInBounds_toArray, List.set_cons_zero, List.set_cons_succ]
        go_big_quiet_on
        go_big_quiet_want
        refine ⟨(xV y2 a2 q2), fun wx hSx => ?_, ?_⟩
        · obtain ⟨⟨k0, k1, k2, k3, k4, k5, k6, k7, k8, k9, k10, k11, k12, k13, k14, k15, k16, k17, k18, k19⟩, -⟩ := hSx
          go_simp
          try rfl
        simp only [Act.put, List.setIfInBounds_toArray, List.set_cons_zero, List.set_cons_succ]
        go_big_quiet_on
        go_big_quiet_want
        refine ⟨(.string B), fun wx hSx => ?_, ?_⟩
        · exact quietAt_call 16 #[xV y2 a2 q2, .int .i64 0] (by go_simp) ((HC.out.2.1 wx hSx.2.out).mono fun e w' hh => ⟨hh.1, ⟨(hh.2.cell (p := ⟨w.heap.size, 0, none⟩) (World.block_lt_of_cell? _ _ hSx.1.1)).trans hSx.1.1, (hh.2.cell (p := ⟨w.heap.size, 5, none⟩) (World.block_lt_of_cell? _ _ hSx.1.2.1)).trans hSx.1.2.1, (hh.2.cell (p := ⟨b, o, none⟩) (World.block_lt_of_cell? _ _ hSx.1.2.2.1)).trans hSx.1.2.2.1, (hh.2.cell (p := ⟨b, o + 1, none⟩) (World.block_lt_of_cell? _ _ hSx.1.2.2.2.1)).trans hSx.1.2.2.2.1, (hh.2.cell (p := ⟨b, o + 2, none⟩) (World.block_lt_of_cell? _ _ hSx.1.2.2.2.2.1)).trans hSx.1.2.2.2.2.1, (hh.2.cell (p := ⟨b, o + 3, none⟩) (World.block_lt_of_cell? _ _ hSx.1.2.2.2.2.2.1)).trans hSx.1.2.2.2.2.2.1, (hh.2.cell (p := ⟨b, o + 4, none⟩) (World.block_lt_of_cell? _ _ hSx.1.2.2.2.2.2.2.1)).trans hSx.1.2.2.2.2.2.2.1, (hh.2.cell (p := ⟨b, o + 5, none⟩) (World.block_lt_of_cell? _ _ hSx.1.2.2.2.2.2.2.2.1)).trans hSx.1.2.2.2.2.2.2.2.1, (hh.2.cell (p := ⟨b, o + 6, none⟩) (World.block_lt_of_cell? _ _ hSx.1.2.2.2.2.2.2.2.2.1)).trans hSx.1.2.2.2.2.2.2.2.2.1, (hh.2.cell (p := ⟨b, o + 7, none⟩) (World.block_lt_of_cell? _ _ hSx.1.2.2.2.2.2.2.2.2.2.1)).trans hSx.1.2.2.2.2.2.2.2.2.2.1, (hh.2.cell (p := ⟨b, o + 8, none⟩) (World.block_lt_of_cell? _ _ hSx.1.2.2.2.2.2.2.2.2.2.2.1)).trans hSx.1.2.2.2.2.2.2.2.2.2.2.1, (hh.2.cell (p := ⟨b, o + 9, none⟩) (World.block_lt_of_cell? _ _ hSx.1.2.2.2.2.2.2.2.2.2.2.2.1)).trans hSx.1.2.2.2.2.2.2.2.2.2.2.2.1, (hh.2.cell (p := ⟨b, o + 10, none⟩) (World.block_lt_of_cell? _ _ hSx.1.2.2.2.2.2.2.2.2.2.2.2.2.1)).trans hSx.1.2.2.2.2.2.2.2.2.2.2.2.2.1, (hh.2.cell (p := ⟨b, o + 11, none⟩) (World.block_lt_of_cell? _ _ hSx.1.2.2.2.2.2.2.2.2.2.2.2.2.2.1)).trans hSx.1.2.2.2.2.2.2.2.2.2.2.2.2.2.1, (hh.2.cell (p := ⟨b, o + 12, none⟩) (World.block_lt_of_cell? _ _ hSx.1.2.2.2.2.2.2.2.2.2.2.2.2.2.2.1)).trans hSx.1.2.2.2.2.2.2.2.2.2.2.2.2.2.2.1, (hh.2.cell (p := ⟨b, o + 13, none⟩) (World.block_lt_of_cell? _ _ hSx.1.2.2.2.2.2.2.2.2.2.2.2.2.2.2.2.1)).trans hSx.1.2.2.2.2.2.2.2.2.2.2.2.2.2.2.2.1, (hh.2.cell (p := ⟨b, o + 14, none⟩) (World.block_lt_of_cell? _ _ hSx.1.2.2.2.2.2.2.2.2.2.2.2.2.2.2.2.2.1)).trans hSx.1.2.2.2.2.2.2.2.2.2.2.2.2.2.2.2.2.1, (hh.2.cell (p := ⟨b, o + 15, none⟩) (World.block_lt_of_cell? _ _ hSx.1.2.2.2.2.2.2.2.2.2.2.2.2.2.2.2.2.2.1)).trans hSx.1.2.2.2.2.2.2.2.2.2.2.2.2.2.2.2.2.2.1, (hh.2.cell (p := ⟨b, o + 16, none⟩) (World.block_lt_of_cell? _ _ hSx.1.2.2.2.2.2.2.2.2.2.2.2.2.2.2.2.2.2.2.1)).trans hSx.1.2.2.2.2.2.2.2.2.2.2.2.2.2.2.2.2.2.2.1, (hh.2.cell (p := ⟨b, o + 17, none⟩) (World.block_lt_of_cell? _ _ hSx.1.2.2.2.2.2.2.2.2.2.2.2.2.2.2.2.2.2.2.2)).trans hSx.1.2.2.2.2.2.2.2.2.2.2.2.2.2.2.2.2.2.2.2⟩, Lib.hid (hSx.2.out.trans (hh.2.mono hSx.2.out.size))⟩)
        simp only [Act.put, List.setIfInBounds_toArray, List.set_cons_zero, List.set_cons_succ]
        go_big_quiet_on
        go_big_quiet_want
        refine ⟨(.string (⟨#[105, 102, 32]⟩ ++ A ++ ⟨#[32]⟩ ++ ⟨#[116, 104, 101, 110]⟩ ++ ⟨#[32]⟩ ++ B)), fun wx hSx => ?_, ?_⟩
        · obtain ⟨⟨k0, k1, k2, k3, k4, k5, k6, k7, k8, k9, k10, k11, k12, k13, k14, k15, k16, k17, k18, k19⟩, -⟩ := hSx
          go_simp
          first
            | rfl
            | (rw [if_neg (by omega)]; done)
            | (rw [if_neg (by omega)]; exact ⟨rfl, rfl⟩)
        simp only [Act.put, List.setIfInBounds_toArray, List.set_cons_zero, List.set_cons_succ]
        go_big_quiet_on
        go_big_quiet_want
        refine ⟨(.string (⟨#[105, 102, 32]⟩ ++ A ++ ⟨#[32]⟩ ++ ⟨#[116, 104, 101, 110]⟩ ++ ⟨#[32]⟩ ++ B ++ ⟨#[32]⟩)), fun wx hSx => ?_, ?_⟩
        · obtain ⟨⟨k0, k1, k2, k3, k4, k5, k6, k7, k8, k9, k10, k11, k12, k13, k14, k15, k16, k17, k18, k19⟩, -⟩ := hSx
          go_simp
          first
            | rfl
            | (rw [if_neg (by omega)]; done)
            | (rw [if_neg (by omega)]; exact ⟨rfl, rfl⟩)
        simp only [Act.put, List.setIfInBounds_toArray, List.set_cons_zero, List.set_cons_succ]
        go_big_quiet_on
        go_big_quiet_want
        refine ⟨(.string (⟨#[105, 102, 32]⟩ ++ A ++ ⟨#[32]⟩ ++ ⟨#[116, 104, 101, 110]⟩ ++ ⟨#[32]⟩ ++ B ++ ⟨#[32]⟩ ++ ⟨#[101, 108, 115, 101]⟩)), fun wx hSx => ?_, ?_⟩
        · obtain ⟨⟨k0, k1, k2, k3, k4, k5, k6, k7, k8, k9, k10, k11, k12, k13, k14, k15, k16, k17, k18, k19⟩, -⟩ := hSx
          go_simp
          first
            | rfl
            | (rw [if_neg (by omega)]; done)
            | (rw [if_neg (by omega)]; exact ⟨rfl, rfl⟩)
        simp only [Act.put, List.setIfInBounds_toArray, List.set_cons_zero, List.set_cons_succ]
        go_big_quiet_on
        go_big_quiet_want
        refine ⟨(.string (⟨#[105, 102, 32]⟩ ++ A ++ ⟨#[32]⟩ ++ ⟨#[116, 104, 101, 110]⟩ ++ ⟨#[32]⟩ ++ B ++ ⟨#[32]⟩ ++ ⟨#[101, 108, 115, 101]⟩ ++ ⟨#[32]⟩)), fun wx hSx => ?_, ?_⟩
        · obtain ⟨⟨k0, k1, k2, k3, k4, k5, k6, k7, k8, k9, k10, k11, k12, k13, k14, k15, k16, k17, k18, k19⟩, -⟩ := hSx
          go_simp
          first
            | rfl
            | (rw [if_neg (by omega)]; done)
            | (rw [if_neg (by omega)]; exact ⟨rfl, rfl⟩)
        simp only [Act.put, List.setIfInBounds_toArray, List.set_cons_zero, List.set_cons_succ]
        go_big_quiet_on
        go_big_quiet_want
        refine ⟨(.pointer (some ⟨w.heap.size, 5, none⟩)), fun wx hSx => ?_, ?_⟩
        · obtain ⟨⟨k0, k1, k2, k3, k4, k5, k6, k7, k8, k9, k10, k11, k12, k13, k14, k15, k16, k17, k18, k19⟩, -⟩ := hSx
          go_simp
          try rfl
        simp only [Act.put, List.setIfInBounds_toArray, List.set_cons_zero, List.set_cons_succ]
        go_big_quiet_on
        go_big_quiet_want
        refine ⟨(.slice (some ⟨b, o, none⟩) 3 c), fun wx hSx => ?_, ?_⟩
        · obtain ⟨⟨k0, k1, k2, k3, k4, k5, k6, k7, k8, k9, k10, k11, k12, k13, k14, k15, k16, k17, k18, k19⟩, -⟩ := hSx
          go_simp
          try rfl
        simp only [Act.put, List.setIfInBounds_toArray, List.set_cons_zero, List.set_cons_succ]
        go_big_quiet_on
        go_big_quiet_want
        refine ⟨(.pointer (some ⟨b, o + 12, none⟩)), fun wx hSx => ?_, ?_⟩
        · obtain ⟨⟨k0, k1, k2, k3, k4, k5, k6, k7, k8, k9, k10, k11, k12, k13, k14, k15, k16, k17, k18, k19⟩, -⟩ := hSx
          go_simp
          try rfl
        simp only [Act.put, List.setIfInBounds_toArray, List.set_cons_zero, List.set_cons_succ]
        go_big_quiet_on
        go_big_quiet_want
        refine ⟨(xV y3 a3 q3), fun wx hSx => ?_, ?_⟩
        · obtain ⟨⟨k0, k1, k2, k3, k4, k5, k6, k7, k8, k9, k10, k11, k12, k13, k14, k15, k16, k17, k18, k19⟩, -⟩ := hSx
          go_simp
          try rfl
        simp only [Act.put, List.setIfInBounds_toArray, List.set_cons_zero, List.set_cons_succ]
        go_big_quiet_on
        go_big_quiet_want
        refine ⟨(.string C), fun wx hSx => ?_, ?_⟩
        · exact quietAt_call 16 #[xV y3 a3 q3, .int .i64 0] (by go_simp) ((HC.out.2.2 wx hSx.2.out).mono fun e w' hh => ⟨hh.1, ⟨(hh.2.cell (p := ⟨w.heap.size, 0, none⟩) (World.block_lt_of_cell? _ _ hSx.1.1)).trans hSx.1.1, (hh.2.cell (p := ⟨w.heap.size, 5, none⟩) (World.block_lt_of_cell? _ _ hSx.1.2.1)).trans hSx.1.2.1, (hh.2.cell (p := ⟨b, o, none⟩) (World.block_lt_of_cell? _ _ hSx.1.2.2.1)).trans hSx.1.2.2.1, (hh.2.cell (p := ⟨b, o + 1, none⟩) (World.block_lt_of_cell? _ _ hSx.1.2.2.2.1)).trans hSx.1.2.2.2.1, (hh.2.cell (p := ⟨b, o + 2, none⟩) (World.block_lt_of_cell? _ _ hSx.1.2.2.2.2.1)).trans hSx.1.2.2.2.2.1, (hh.2.cell (p := ⟨b, o + 3, none⟩) (World.block_lt_of_cell? _ _ hSx.1.2.2.2.2.2.1)).trans hSx.1.2.2.2.2.2.1, (hh.2.cell (p := ⟨b, o + 4, none⟩) (World.block_lt_of_cell? _ _ hSx.1.2.2.2.2.2.2.1)).trans hSx.1.2.2.2.2.2.2.1, (hh.2.cell (p := ⟨b, o + 5, none⟩) (World.block_lt_of_cell? _ _ hSx.1.2.2.2.2.2.2.2.1)).trans hSx.1.2.2.2.2.2.2.2.1, (hh.2.cell (p := ⟨b, o + 6, none⟩) (World.block_lt_of_cell? _ _ hSx.1.2.2.2.2.2.2.2.2.1)).trans hSx.1.2.2.2.2.2.2.2.2.1, (hh.2.cell (p := ⟨b, o + 7, none⟩) (World.block_lt_of_cell? _ _ hSx.1.2.2.2.2.2.2.2.2.2.1)).trans hSx.1.2.2.2.2.2.2.2.2.2.1, (hh.2.cell (p := ⟨b, o + 8, none⟩) (World.block_lt_of_cell? _ _ hSx.1.2.2.2.2.2.2.2.2.2.2.1)).trans hSx.1.2.2.2.2.2.2.2.2.2.2.1, (hh.2.cell (p := ⟨b, o + 9, none⟩) (World.block_lt_of_cell? _ _ hSx.1.2.2.2.2.2.2.2.2.2.2.2.1)).trans hSx.1.2.2.2.2.2.2.2.2.2.2.2.1, (hh.2.cell (p := ⟨b, o + 10, none⟩) (World.block_lt_of_cell? _ _ hSx.1.2.2.2.2.2.2.2.2.2.2.2.2.1)).trans hSx.1.2.2.2.2.2.2.2.2.2.2.2.2.1, (hh.2.cell (p := ⟨b, o + 11, none⟩) (World.block_lt_of_cell? _ _ hSx.1.2.2.2.2.2.2.2.2.2.2.2.2.2.1)).trans hSx.1.2.2.2.2.2.2.2.2.2.2.2.2.2.1, (hh.2.cell (p := ⟨b, o + 12, none⟩) (World.block_lt_of_cell? _ _ hSx.1.2.2.2.2.2.2.2.2.2.2.2.2.2.2.1)).trans hSx.1.2.2.2.2.2.2.2.2.2.2.2.2.2.2.1, (hh.2.cell (p := ⟨b, o + 13, none⟩) (World.block_lt_of_cell? _ _ hSx.1.2.2.2.2.2.2.2.2.2.2.2.2.2.2.2.1)).trans hSx.1.2.2.2.2.2.2.2.2.2.2.2.2.2.2.2.1, (hh.2.cell (p := ⟨b, o + 14, none⟩) (World.block_lt_of_cell? _ _ hSx.1.2.2.2.2.2.2.2.2.2.2.2.2.2.2.2.2.1)).trans hSx.1.2.2.2.2.2.2.2.2.2.2.2.2.2.2.2.2.1, (hh.2.cell (p := ⟨b, o + 15, none⟩) (World.block_lt_of_cell? _ _ hSx.1.2.2.2.2.2.2.2.2.2.2.2.2.2.2.2.2.2.1)).trans hSx.1.2.2.2.2.2.2.2.2.2.2.2.2.2.2.2.2.2.1, (hh.2.cell (p := ⟨b, o + 16, none⟩) (World.block_lt_of_cell? _ _ hSx.1.2.2.2.2.2.2.2.2.2.2.2.2.2.2.2.2.2.2.1)).trans hSx.1.2.2.2.2.2.2.2.2.2.2.2.2.2.2.2.2.2.2.1, (hh.2.cell (p := ⟨b, o + 17, none⟩) (World.block_lt_of_cell? _ _ hSx.1.2.2.2.2.2.2.2.2.2.2.2.2.2.2.2.2.2.2.2)).trans hSx.1.2.2.2.2.2.2.2.2.2.2.2.2.2.2.2.2.2.2.2⟩, Lib.hid (hSx.2.out.trans (hh.2.mono hSx.2.out.size))⟩)
        simp only [Act.put, List.setIfInBounds_toArray, List.set_cons_zero, List.set_cons_succ]
        go_big_quiet_on
        go_big_quiet_want
        refine ⟨(.string (⟨#[105, 102, 32]⟩ ++ A ++ ⟨#[32]⟩ ++ ⟨#[116, 104, 101, 110]⟩ ++ ⟨#[32]⟩ ++ B ++ ⟨#[32]⟩ ++ ⟨#[101, 108, 115, 101]⟩ ++ ⟨#[32]⟩ ++ C)), fun wx hSx => ?_, ?_⟩
        · obtain ⟨⟨k0, k1, k2, k3, k4, k5, k6, k7, k8, k9, k10, k11, k12, k13, k14, k15, k16, k17, k18, k19⟩, -⟩ := hSx
          go_simp
          first
            | rfl
            | (rw [if_neg (by omega)]; done)
            | (rw [if_neg (by omega)]; exact ⟨rfl, rfl⟩)
        simp only [Act.put, List.setIfInBounds_toArray, List.set_cons_zero, List.set_cons_succ]
        go_big_quiet_on
        refine wpQuiet_nil ?_
        rintro w4 ⟨-, hb4⟩
        have HB4 := Lib.hid (HBx.out _ hb4.out)
        clear hb4
        go_wp2_with fail
        go_ret
        exact ⟨ret_str HE.out.symm, HB4.out⟩
    intro lev h7 a c w hx hT hP
    by_cases hlt : Sx.lvl x.op < lev
    · have HE := Lib.hid (Sx.wt_paren hlt)
      have hzs := Sx.wt_size hr hf 0
      have HO := Lib.hid fun (wx : World) (hbx : Below w.heap.size w wx) => own 0 (Nat.zero_le _) a c wx (xat_below hx hbx) (twos_below hT hbx) (pow10_below hP hbx)
      have HLV := Lib.hid (levelOf14_any x.op hop.1 hop.2 (w.alloc (.cells (xC x a c) 29)) (twos_below hT (x_new x a c w).2.1))
      have HT := Lib.hid (And.intro hT hP)
      rw [← Sx.wt_own (Nat.zero_le _)] at HO
      obtain ⟨hr0, hb0, hs0⟩ := x_new x a c w
      obtain ⟨c0, c1, c2, c3, c4, c5⟩ := x_cells hr0
      simp only [Nat.zero_add] at c0 c1 c2 c3 c4 c5
      have HB0 := Lib.hid hb0
      have t0 : decide ((Sx.lvl x.op : Int) < (lev : Int)) = true := decide_eq_true (by omega)
      have t0' : decide (Sx.lvl x.op < lev) = true := decide_eq_true hlt
      have t0'' : Sx.lvl x.op < lev := hlt
      have h40 : (⟨#[40]⟩ : ByteArray).size = 1 := rfl
      have h41 : (⟨#[41]⟩ : ByteArray).size = 1 := rfl
      generalize Sx.wt x 0 = WX at *
      have hz2 : (⟨#[40]⟩ ++ WX : ByteArray).size = WX.size + 1 := by rw [ByteArray.size_append, h40]; omega
      clear hx own ih hr0 hb0 hlt
      go_enter Tryz.func16, Tryz.ntmps16
      go_wp2_with (first | (go_at_call 23; refine HLV.out.mono ?_; rintro e w1 ⟨rfl, rfl⟩))
      refine (HO.out _ HB0.out).mono ?_
      rintro e w2 ⟨rfl, hb2⟩
      have H2 := Lib.hid (x_look hb2).2
      clear hb2
      go_wp2_with fail
      go_ret
      exact ⟨ret_str HE.out.symm, H2.out⟩
    · rw [Sx.wt_own (by omega)]
      exact own lev (by omega) a c w hx hT hP
end Go.Proofs.YtekahmlppaabjaaGreatDoor
