/-
  Layer 16's laws: EvalOrder, walked, of two values of kind 1.
-/
import Derived.Test.YtmkllibfblacfaaGreatDoorZEvOrdC
namespace Go.Proofs.YtmkllibfblacfaaGreatDoor
open Go.RowKit Go.Shelf
open Sx (X)
open Vl (V)
attribute [local go_sem] Oper.semAt_some
set_option maxRecDepth 100000 in
set_option maxHeartbeats 12800000 in
theorem ordK_1 (a b : V) (ka : a.kind = 1) (kb : b.kind = 1) (hra : Vl.right a) (hrb : Vl.right b) (fa : Fits a) (fb : Fits b) (w : World) (hF : Facts13 w) : Calls Tryz.prog 4 #[valV a, valV b] w fun e w' => e = .returned (.bool true) ∧ Below w.heap.size w w' := by
  have HL := Lib.hid fun (wx : World) (hb : Below w.heap.size w wx) => lives16_any wx (errR_below hF.2 hb)
  have hk : a.kind = b.kind := ka.trans kb.symm
  have h12 : a.kind = 1 ∨ a.kind = 2 := by rw [ka]; decide
  obtain ⟨W3, hW3⟩ : ∃ W3, ((w.alloc (.cells (valC a) 31)).alloc (.cells (valC b) 31)).alloc (.cells #[.string ⟨#[97]⟩, .int .i64 0, .slice none 0 0, .string ⟨#[98]⟩, .int .i64 0, .slice none 0 0] 34) = W3 := ⟨_, rfl⟩
  have hs3 : W3.heap.size = w.heap.size + 3 := by rw [← hW3]; simp
  have hb3 : Below w.heap.size w W3 := by rw [← hW3]; exact (((Below.refl w.heap.size w).alloc (Nat.le_refl _) _).alloc (by simp) _).alloc (by simp; omega) _
  have hx3 : RowV W3 w.heap.size 31 (valC a).toList := by rw [← hW3]; exact rowV_alloc (rowV_alloc (rowV_new w _ _) _) _
  have hy3 : RowV W3 (w.heap.size + 1) 31 (valC b).toList := by
    rw [← hW3]
    have h := rowV_new (w.alloc (.cells (valC a) 31)) 31 (valC b).toList
    rw [World.size_alloc] at h
    exact rowV_alloc h _
  have hc3 : RowV W3 (w.heap.size + 1 + 1) 34 [.string ⟨#[97]⟩, .int .i64 0, .slice none 0 0, .string ⟨#[98]⟩, .int .i64 0, .slice none 0 0] := by
    rw [← hW3]
    have h := rowV_new ((w.alloc (.cells (valC a) 31)).alloc (.cells (valC b) 31)) 34 [.string ⟨#[97]⟩, .int .i64 0, .slice none 0 0, .string ⟨#[98]⟩, .int .i64 0, .slice none 0 0]
    rw [World.size_alloc, World.size_alloc] at h
    exact h
  have hC3 : ReadsC W3 (some ⟨w.heap.size + 1 + 1, 0, none⟩) exL2 := fun i hi => by
    have h : i < 2 := hi
    have : i = 0 ∨ i = 1 := by omega
    rcases this with rfl | rfl
    · exact ⟨_, 0, rfl, rowV_cell hc3 0, rowV_cell hc3 1, rowV_cell hc3 2⟩
    · exact ⟨_, 0, rfl, rowV_cell hc3 3, rowV_cell hc3 4, rowV_cell hc3 5⟩
  have HE := Lib.hid fun (wx : World) (k g h : Nat) (hkk : k < 6) (hb : Below w.heap.size w wx) (hc : ReadsC wx (some ⟨w.heap.size + 1 + 1, 0, none⟩) exL2) (hx : XU wx (ordX (8 + k)) (some ⟨g, 0, none⟩)) (hv : ReadsV wx (some ⟨h, 0, none⟩) [a, b]) =>
    ord_eval k hkk hk h12 hra hrb ▸ eval16_any (ordX (8 + k)) (some ⟨g, 0, none⟩) 2 exL2 (some ⟨w.heap.size + 1 + 1, 0, none⟩) 2 2 [a, b] (some ⟨h, 0, none⟩) 2 2 rfl rfl (by decide) (by decide) (by decide) (by
      intro v hv
      rcases List.mem_cons.1 hv with h | h
      · subst h; exact ⟨⟨fa.1, fa.2.1⟩, by have := Vl.right_size hra; omega⟩
      · rw [List.mem_singleton.1 h]; exact ⟨⟨fb.1, fb.2.1⟩, by have := Vl.right_size hrb; omega⟩) wx hx (ord_fine k hkk).2.1 (ord_fine k hkk).2.2 (errR_below hF.2 hb) hc hv
  have HT := Lib.hid fun op x y a b c d wx => two16_any op x y a b c d wx
  have HK := Lib.hid (And.intro (check12_any a) (check12_any b))
  rw [checkE_ok hra, checkE_ok hrb] at HK
  have z0 := rowV_cell hx3 0
  have z1 := rowV_cell hx3 1
  have z2 := rowV_cell hx3 2
  have y0 := rowV_cell hy3 0
  have y1 := rowV_cell hy3 1
  have y2 := rowV_cell hy3 2
  simp only [List.getElem?_cons_zero, List.getElem?_cons_succ] at z0 z1 z2 y0 y1 y2
  have HO := Lib.hid (ord_one a b)
  have HLen : Hid ((ordL a b).length = 6) := Lib.hid rfl
  have H0 : Hid ((ordL a b).getD 0 false = decide (a = b)) := Lib.hid rfl
  have H3 := Lib.hid (And.intro hb3 (And.intro hx3 (And.intro hy3 hC3)))
  have hs3' := Lib.hid hs3
  generalize ordL a b = LO at *
  obtain ⟨ak, an, ay⟩ := a
  obtain ⟨bk, bn, bz⟩ := b
  dsimp only at ka kb hk h12 z0 z1 z2 y0 y1 y2
  subst ka
  subst kb
  clear hra hrb hb3 hx3 hy3 hc3 hC3 hs3 fa fb hF
  clear hk h12
  · go_enter Tryz.func4, Tryz.ntmps4
    go_wp2_with fail
    clear hW3
    refine (HK.out.1 _).mono ?_
    rintro e w4 ⟨rfl, hb4⟩
    have hy4 := rowV_below H3.out.2.2.1 hb4 (rowV_lt H3.out.2.2.1)
    have HC4 := Lib.hid (And.intro (H3.out.1.trans (hb4.mono H3.out.1.size)) (And.intro (rowV_below H3.out.2.1 hb4 (rowV_lt H3.out.2.1)) (And.intro hy4 (readsC_below H3.out.2.2.2 hb4))))
    clear z0 z1 z2 y0 y1 y2
    have y0 := rowV_cell hy4 0
    have y1 := rowV_cell hy4 1
    have y2 := rowV_cell hy4 2
    simp only [List.getElem?_cons_zero, List.getElem?_cons_succ] at y0 y1 y2
    clear H3 hy4 hb4
    go_wp2_with fail
    refine (HK.out.2 _).mono ?_
    rintro e w5 ⟨rfl, hb5⟩
    have HC5 := Lib.hid (And.intro (HC4.out.1.trans (hb5.mono HC4.out.1.size)) (And.intro (rowV_below HC4.out.2.1 hb5 (rowV_lt HC4.out.2.1)) (And.intro (rowV_below HC4.out.2.2.1 hb5 (rowV_lt HC4.out.2.2.1)) (readsC_below HC4.out.2.2.2 hb5))))
    clear HC4 y0 y1 y2 hb5
    go_wp2_with fail
    go_loopw [6, 7] (fun got i wr => ∃ (k : Nat) (ao : Option Addr) (cp : Nat), got = .slice ao k cp ∧ i = .int .i64 (8 + (k : Int)) ∧ k ≤ 6 ∧ Hid (OwL fBl 4 1 wr w5.heap.size (.slice ao k cp) (LO.take k)) ∧ Hid (Below w5.heap.size w5 wr)) (fun _ i _ => (14 - intOf i).toNat)
    case atStart => exact ⟨0, none, 0, rfl, rfl, by omega, Lib.hid (owL_nil _), Lib.hid (Below.refl _ _)⟩
    case round =>
      obtain ⟨k, ao, cp, rfl, rfl, hk, HG, HB⟩ := hrel
      by_cases hlt : k < 6
      · have t2 : (8 + (k : Int)) ≤ 13 := by omega
        have hx := rowV_below HC5.out.2.1 HB.out (rowV_lt HC5.out.2.1)
        have hy := rowV_below HC5.out.2.2.1 HB.out (rowV_lt HC5.out.2.2.1)
        have x0 := rowV_cell hx 0
        have x1 := rowV_cell hx 1
        have x2 := rowV_cell hx 2
        have y0 := rowV_cell hy 0
        have y1 := rowV_cell hy 1
        have y2 := rowV_cell hy 2
        simp only [List.getElem?_cons_zero, List.getElem?_cons_succ] at x0 x1 x2 y0 y1 y2
        obtain ⟨bk, hbk⟩ : ∃ bk, LO.getD k false = bk := ⟨_, rfl⟩
        go_wp2_with fail
        have HR := Lib.hid (And.intro hx hy)
        have HW := Lib.hid (And.intro (HC5.out.1.trans (HB.out.mono HC5.out.1.size)) (readsC_below HC5.out.2.2.2 HB.out))
        have HLB : Hid (LO.getD k false = bk) := Lib.hid hbk
        clear x0 x1 x2 y0 y1 y2 hx hy hbk
        refine wp_region_relyC (ordG k (.slice (some ⟨w.heap.size + 1 + 1, 0, none⟩) 2 2) (valV ⟨1, an, ay⟩) (valV ⟨1, bn, bz⟩) ⟨1, an, ay⟩ ⟨1, bn, bz⟩ (Ev.truth bk) wr) (by kernel_rfl) (by kernel_rfl) ⟨(Below.refl _ _).drew, (fun j v h => by cases h), fun _ => rfl⟩ ?hstep ?hend
        case hstep =>
          intro st wx i o ax ho hn haft hG hf
          have f7 : ax.tmps.getD 7 undef = .int .i64 (8 + (k : Int)) := frame_stay hf (by kernel_rfl)
          have f5 : ax.tmps.getD 5 undef = .slice (some ⟨w.heap.size + 1 + 1, 0, none⟩) 2 2 := frame_stay hf (by kernel_rfl)
          have f2 : ax.tmps.getD 2 undef = .pointer (some ⟨w.heap.size, 0, none⟩) := frame_stay hf (by kernel_rfl)
          have f3 : ax.tmps.getD 3 undef = .pointer (some ⟨w.heap.size + 1, 0, none⟩) := frame_stay hf (by kernel_rfl)
          match i, ho, hn, haft with
          | 0, ho, hn, haft =>
            obtain rfl := Option.some.inj ho
            refine .inl ⟨(.int .i64 (8 + (k : Int))), wx, ?_, ordG_pure (by decide) (by decide) hG rfl⟩
            go_simp
          | 1, ho, hn, haft =>
            obtain rfl := Option.some.inj ho
            refine .inl ⟨(xV (ordN 97) none 0), wx, ?_, ordG_pure (by decide) (by decide) hG rfl⟩
            go_simp; exact ⟨rfl, rfl, rfl, rfl, rfl, rfl⟩
          | 2, ho, hn, haft =>
            obtain rfl := Option.some.inj ho
            refine .inl ⟨(xV (ordN 98) none 0), wx, ?_, ordG_pure (by decide) (by decide) hG rfl⟩
            go_simp; exact ⟨rfl, rfl, rfl, rfl, rfl, rfl⟩
          | 3, ho, hn, haft =>
            obtain rfl := Option.some.inj ho
            obtain ⟨v0, h0⟩ := Option.isSome_iff_exists.1 (haft ⟨0, .data⟩ (by simp) rfl)
            obtain rfl : v0 = (.int .i64 (8 + (k : Int))) := hG.2.1 0 v0 h0
            have e46 : ax.tmps.getD 46 undef = (.int .i64 (8 + (k : Int))) := hf.come 0 _ 46 _ rfl rfl h0
            obtain ⟨v1, h1⟩ := Option.isSome_iff_exists.1 (haft ⟨1, .data⟩ (by simp) rfl)
            obtain rfl : v1 = (xV (ordN 97) none 0) := hG.2.1 1 v1 h1
            have e47 : ax.tmps.getD 47 undef = (xV (ordN 97) none 0) := hf.come 1 _ 47 _ rfl rfl h1
            obtain ⟨v2, h2⟩ := Option.isSome_iff_exists.1 (haft ⟨2, .data⟩ (by simp) rfl)
            obtain rfl : v2 = (xV (ordN 98) none 0) := hG.2.1 2 v2 h2
            have e48 : ax.tmps.getD 48 undef = (xV (ordN 98) none 0) := hf.come 2 _ 48 _ rfl rfl h2
            refine .inr (.inr ⟨17, #[.int .i64 (8 + (k : Int)), xV (ordN 97) none 0, xV (ordN 98) none 0], _, by go_simp, HT.out (8 + (k : Int)) (ordN 97) (ordN 98) none none 0 0 wx, ?_⟩)
            rintro e w1 ⟨g, rfl, hb1, hx1⟩
            exact ⟨_, rfl, ordG_more (by decide) (by decide) hG hb1 ⟨g, rfl, fun _ => hx1 (xu_leaf _ _ _ _ _) (xu_leaf _ _ _ _ _)⟩⟩
          | 4, ho, hn, haft =>
            obtain rfl := Option.some.inj ho
            refine .inl ⟨(.slice (some ⟨w.heap.size + 1 + 1, 0, none⟩) 2 2), wx, ?_, ordG_pure (by decide) (by decide) hG rfl⟩
            go_simp
          | 5, ho, hn, haft =>
            obtain rfl := Option.some.inj ho
            have hr := rowV_below HR.out.1 hG.1 (rowV_lt HR.out.1)
            have x0 := rowV_cell hr 0
            have x1 := rowV_cell hr 1
            have x2 := rowV_cell hr 2
            simp only [List.getElem?_cons_zero, List.getElem?_cons_succ] at x0 x1 x2
            refine .inl ⟨(valV ⟨1, an, ay⟩), wx, ?_, ordG_pure (by decide) (by decide) hG rfl⟩
            go_simp
          | 6, ho, hn, haft =>
            obtain rfl := Option.some.inj ho
            have hr := rowV_below HR.out.2 hG.1 (rowV_lt HR.out.2)
            have x0 := rowV_cell hr 0
            have x1 := rowV_cell hr 1
            have x2 := rowV_cell hr 2
            simp only [List.getElem?_cons_zero, List.getElem?_cons_succ] at x0 x1 x2
            refine .inl ⟨(valV ⟨1, bn, bz⟩), wx, ?_, ordG_pure (by decide) (by decide) hG rfl⟩
            go_simp
          | 7, ho, hn, haft =>
            obtain rfl := Option.some.inj ho
            obtain ⟨v5, h5⟩ := Option.isSome_iff_exists.1 (haft ⟨5, .data⟩ (by simp) rfl)
            obtain rfl : v5 = (valV ⟨1, an, ay⟩) := hG.2.1 5 v5 h5
            have e51 : ax.tmps.getD 51 undef = (valV ⟨1, an, ay⟩) := hf.come 5 _ 51 _ rfl rfl h5
            obtain ⟨v6, h6⟩ := Option.isSome_iff_exists.1 (haft ⟨6, .data⟩ (by simp) rfl)
            obtain rfl : v6 = (valV ⟨1, bn, bz⟩) := hG.2.1 6 v6 h6
            have e52 : ax.tmps.getD 52 undef = (valV ⟨1, bn, bz⟩) := hf.come 6 _ 52 _ rfl rfl h6
            rw [Array.getD_eq_getD_getElem?] at e51 e52
            refine .inl ⟨.slice (some ⟨wx.heap.size, 0, none⟩) 2 2, wx.alloc (.cells #[.int .i64 1, .int .i64 an, .string ay, .int .i64 1, .int .i64 bn, .string bz] 31), ?_, ordG_more (by decide) (by decide) hG ((Below.refl _ _).alloc (Nat.le_refl _) _) ⟨wx.heap.size, rfl, fun _ => reads_two16 (rowV_new wx _ [_, _, _, _, _, _])⟩⟩
            go_simp
          | 8, ho, hn, haft =>
            obtain rfl := Option.some.inj ho
            obtain ⟨v3, h3⟩ := Option.isSome_iff_exists.1 (haft ⟨3, .data⟩ (by simp) rfl)
            have e49 : ax.tmps.getD 49 undef = v3 := hf.come 3 _ 49 _ rfl rfl h3
            obtain ⟨v4, h4⟩ := Option.isSome_iff_exists.1 (haft ⟨4, .data⟩ (by simp) rfl)
            obtain rfl : v4 = (.slice (some ⟨w.heap.size + 1 + 1, 0, none⟩) 2 2) := hG.2.1 4 v4 h4
            have e50 : ax.tmps.getD 50 undef = (.slice (some ⟨w.heap.size + 1 + 1, 0, none⟩) 2 2) := hf.come 4 _ 50 _ rfl rfl h4
            obtain ⟨v7, h7⟩ := Option.isSome_iff_exists.1 (haft ⟨7, .data⟩ (by simp) rfl)
            have e53 : ax.tmps.getD 53 undef = v7 := hf.come 7 _ 53 _ rfl rfl h7
            obtain ⟨g3, rfl, hx3⟩ := hG.2.1 3 v3 h3
            obtain ⟨g7, rfl, hv7⟩ := hG.2.1 7 v7 h7
            have hp : (st 8).isSome = false := by rw [hn]; rfl
            have hB := HW.out.1.trans (hG.1.mono HW.out.1.size)
            refine .inr (.inr ⟨16, #[xV (ordX (8 + k)) (some ⟨g3, 0, none⟩) 2, .slice (some ⟨w.heap.size + 1 + 1, 0, none⟩) 2 2, .slice (some ⟨g7, 0, none⟩) 2 2], _, by go_simp, HE.out wx k g3 g7 hlt hB (readsC_below HW.out.2 hG.1) (hx3 hp) (hv7 hp), ?_⟩)
            rintro e w1 ⟨rfl, hb1⟩
            exact ⟨_, rfl, ordG_eval hG hb1 (by rw [HLB.out])⟩
          | 9, ho, hn, haft =>
            obtain rfl := Option.some.inj ho
            obtain ⟨v8, h8⟩ := Option.isSome_iff_exists.1 (haft ⟨8, .data⟩ (by simp) rfl)
            obtain rfl : v8 = (.tuple #[valV (Ev.truth bk), .int .i64 0]) := hG.2.1 8 v8 h8
            have e54 : ax.tmps.getD 54 undef = (.tuple #[valV (Ev.truth bk), .int .i64 0]) := hf.come 8 _ 54 _ rfl rfl h8
            refine .inl ⟨(.tuple #[valV (Ev.truth bk), .int .i64 0]), wx, ?_, ordG_pure (by decide) (by decide) hG rfl⟩
            go_simp
          | 10, ho, hn, haft =>
            obtain rfl := Option.some.inj ho
            obtain ⟨v9, h9⟩ := Option.isSome_iff_exists.1 (haft ⟨9, .data⟩ (by simp) rfl)
            obtain rfl : v9 = (.tuple #[valV (Ev.truth bk), .int .i64 0]) := hG.2.1 9 v9 h9
            have e45 : ax.tmps.getD 45 undef = (.tuple #[valV (Ev.truth bk), .int .i64 0]) := hf.come 9 _ 45 _ rfl rfl h9
            refine .inl ⟨(valV (Ev.truth bk)), wx, ?_, ordG_pure (by decide) (by decide) hG rfl⟩
            go_simp
          | 11, ho, hn, haft =>
            obtain rfl := Option.some.inj ho
            obtain ⟨v9, h9⟩ := Option.isSome_iff_exists.1 (haft ⟨9, .data⟩ (by simp) rfl)
            obtain rfl : v9 = (.tuple #[valV (Ev.truth bk), .int .i64 0]) := hG.2.1 9 v9 h9
            have e45 : ax.tmps.getD 45 undef = (.tuple #[valV (Ev.truth bk), .int .i64 0]) := hf.come 9 _ 45 _ rfl rfl h9
            refine .inl ⟨(.int .i64 0), wx, ?_, ordG_pure (by decide) (by decide) hG rfl⟩
            go_simp
          | 12, ho, hn, haft =>
            obtain rfl := Option.some.inj ho
            have hp : (st 13).isSome = false := by rw [hG.2.2 hn]; rfl
            refine .inl ⟨.pointer (some ⟨wx.heap.size, 0, none⟩), wx.alloc (.cells #[.int .i64 0, .int .i64 0, .string ⟨#[]⟩] 31), ?_, ordG_more (by decide) (by decide) hG ((Below.refl _ _).alloc (Nat.le_refl _) _) ⟨wx.heap.size, rfl, hG.1.size, by rw [hp]; exact rowV_new wx _ [_, _, _]⟩⟩
            go_simp
          | 13, ho, hn, haft =>
            obtain rfl := Option.some.inj ho
            obtain ⟨v10, h10⟩ := Option.isSome_iff_exists.1 (haft ⟨10, .data⟩ (by simp) rfl)
            obtain rfl : v10 = (valV (Ev.truth bk)) := hG.2.1 10 v10 h10
            have e55 : ax.tmps.getD 55 undef = (valV (Ev.truth bk)) := hf.come 10 _ 55 _ rfl rfl h10
            obtain ⟨v12, h12⟩ := Option.isSome_iff_exists.1 (haft ⟨12, .data⟩ (by simp) rfl)
            have e8 : ax.tmps.getD 8 undef = v12 := hf.come 12 _ 8 _ rfl rfl h12
            obtain ⟨g, rfl, hBg, hr⟩ := hG.2.1 12 v12 h12
            have hp : (st 13).isSome = false := by rw [hn]; rfl
            rw [hp] at hr
            have h8 : (st 8).isSome = true := haft ⟨8, .chain⟩ (by simp) rfl
            have x0 := rowV_cell hr 0
            have x1 := rowV_cell hr 1
            have x2 := rowV_cell hr 2
            have q0 := rowV_frozen hr 0
            have q1 := rowV_frozen hr 1
            have q2 := rowV_frozen hr 2
            simp only [List.getElem?_cons_zero, List.getElem?_cons_succ, Bool.false_eq_true, if_false] at x0 x1 x2
            have hpt := val_put hr (Ev.truth bk).kind (Ev.truth bk).n (Ev.truth bk).s
            refine .inr (.inl ⟨_, ?_, ordG_store hG h8 h12 hBg hpt.1 ((((Only.refl (fun j => j = g) wx).setCell (fun _ => rfl) _).setCell (fun _ => rfl) _).setCell (fun _ => rfl) _)⟩)
            go_simp
          | 14, ho, hn, haft =>
            obtain rfl := Option.some.inj ho
            obtain ⟨v11, h11⟩ := Option.isSome_iff_exists.1 (haft ⟨11, .data⟩ (by simp) rfl)
            obtain rfl : v11 = (.int .i64 0) := hG.2.1 11 v11 h11
            have e56 : ax.tmps.getD 56 undef = (.int .i64 0) := hf.come 11 _ 56 _ rfl rfl h11
            refine .inl ⟨(.int .i64 0), wx, ?_, ordG_pure (by decide) (by decide) hG rfl⟩
            go_simp
          | (i + 15), ho, hn, haft => cases ho
        case hend =>
          intro st wx ax hall hG hf
          obtain ⟨v0, h0⟩ := Option.isSome_iff_exists.1 (hall 0 (by decide))
          obtain rfl : v0 = (.int .i64 (8 + (k : Int))) := hG.2.1 0 v0 h0
          have q46 : ax.tmps.getD 46 undef = (.int .i64 (8 + (k : Int))) := hf.come 0 _ 46 _ rfl rfl h0
          obtain ⟨v1, h1⟩ := Option.isSome_iff_exists.1 (hall 1 (by decide))
          obtain rfl : v1 = (xV (ordN 97) none 0) := hG.2.1 1 v1 h1
          have q47 : ax.tmps.getD 47 undef = (xV (ordN 97) none 0) := hf.come 1 _ 47 _ rfl rfl h1
          obtain ⟨v2, h2⟩ := Option.isSome_iff_exists.1 (hall 2 (by decide))
          obtain rfl : v2 = (xV (ordN 98) none 0) := hG.2.1 2 v2 h2
          have q48 : ax.tmps.getD 48 undef = (xV (ordN 98) none 0) := hf.come 2 _ 48 _ rfl rfl h2
          obtain ⟨v3, h3⟩ := Option.isSome_iff_exists.1 (hall 3 (by decide))
          have q49 : ax.tmps.getD 49 undef = v3 := hf.come 3 _ 49 _ rfl rfl h3
          obtain ⟨v4, h4⟩ := Option.isSome_iff_exists.1 (hall 4 (by decide))
          obtain rfl : v4 = (.slice (some ⟨w.heap.size + 1 + 1, 0, none⟩) 2 2) := hG.2.1 4 v4 h4
          have q50 : ax.tmps.getD 50 undef = (.slice (some ⟨w.heap.size + 1 + 1, 0, none⟩) 2 2) := hf.come 4 _ 50 _ rfl rfl h4
          obtain ⟨v5, h5⟩ := Option.isSome_iff_exists.1 (hall 5 (by decide))
          obtain rfl : v5 = (valV ⟨1, an, ay⟩) := hG.2.1 5 v5 h5
          have q51 : ax.tmps.getD 51 undef = (valV ⟨1, an, ay⟩) := hf.come 5 _ 51 _ rfl rfl h5
          obtain ⟨v6, h6⟩ := Option.isSome_iff_exists.1 (hall 6 (by decide))
          obtain rfl : v6 = (valV ⟨1, bn, bz⟩) := hG.2.1 6 v6 h6
          have q52 : ax.tmps.getD 52 undef = (valV ⟨1, bn, bz⟩) := hf.come 6 _ 52 _ rfl rfl h6
          obtain ⟨v7, h7⟩ := Option.isSome_iff_exists.1 (hall 7 (by decide))
          have q53 : ax.tmps.getD 53 undef = v7 := hf.come 7 _ 53 _ rfl rfl h7
          obtain ⟨v8, h8⟩ := Option.isSome_iff_exists.1 (hall 8 (by decide))
          obtain rfl : v8 = (.tuple #[valV (Ev.truth bk), .int .i64 0]) := hG.2.1 8 v8 h8
          have q54 : ax.tmps.getD 54 undef = (.tuple #[valV (Ev.truth bk), .int .i64 0]) := hf.come 8 _ 54 _ rfl rfl h8
          obtain ⟨v9, h9⟩ := Option.isSome_iff_exists.1 (hall 9 (by decide))
          obtain rfl : v9 = (.tuple #[valV (Ev.truth bk), .int .i64 0]) := hG.2.1 9 v9 h9
          have q45 : ax.tmps.getD 45 undef = (.tuple #[valV (Ev.truth bk), .int .i64 0]) := hf.come 9 _ 45 _ rfl rfl h9
          obtain ⟨v10, h10⟩ := Option.isSome_iff_exists.1 (hall 10 (by decide))
          obtain rfl : v10 = (valV (Ev.truth bk)) := hG.2.1 10 v10 h10
          have q55 : ax.tmps.getD 55 undef = (valV (Ev.truth bk)) := hf.come 10 _ 55 _ rfl rfl h10
          obtain ⟨v11, h11⟩ := Option.isSome_iff_exists.1 (hall 11 (by decide))
          obtain rfl : v11 = (.int .i64 0) := hG.2.1 11 v11 h11
          have q56 : ax.tmps.getD 56 undef = (.int .i64 0) := hf.come 11 _ 56 _ rfl rfl h11
          obtain ⟨v12, h12⟩ := Option.isSome_iff_exists.1 (hall 12 (by decide))
          have q8 : ax.tmps.getD 8 undef = v12 := hf.come 12 _ 8 _ rfl rfl h12
          obtain ⟨v14, h14⟩ := Option.isSome_iff_exists.1 (hall 14 (by decide))
          obtain rfl : v14 = (.int .i64 0) := hG.2.1 14 v14 h14
          have q9 : ax.tmps.getD 9 undef = (.int .i64 0) := hf.come 14 _ 9 _ rfl rfl h14
          have h13 : (st 13).isSome = true := hall 13 (by decide)
          obtain ⟨g12, rfl, hBg, hr12⟩ := hG.2.1 12 v12 h12
          rw [h13, if_pos rfl] at hr12
          have hax := frame_sets hf [(46, (.int .i64 (8 + (k : Int)))), (47, (xV (ordN 97) none 0)), (48, (xV (ordN 98) none 0)), (49, v3), (50, (.slice (some ⟨w.heap.size + 1 + 1, 0, none⟩) 2 2)), (51, (valV ⟨1, an, ay⟩)), (52, (valV ⟨1, bn, bz⟩)), (53, v7), (54, (.tuple #[valV (Ev.truth bk), .int .i64 0])), (45, (.tuple #[valV (Ev.truth bk), .int .i64 0])), (55, (valV (Ev.truth bk))), (56, (.int .i64 0)), (8, (.pointer (some ⟨g12, 0, none⟩))), (9, (.int .i64 0))] (by kernel_rfl) (by simp only [List.forall_mem_cons, List.not_mem_nil, false_imp_iff, implies_true, and_true]; exact ⟨q46, q47, q48, q49, q50, q51, q52, q53, q54, q45, q55, q56, q8, q9⟩)
          simp only [List.foldl_cons, List.foldl_nil, List.setIfInBounds_toArray, List.set_cons_zero, List.set_cons_succ] at hax
          have hB8 := hG.1
          clear hf hG hall q46 q47 q48 q49 q50 q51 q52 q53 q54 q45 q55 q56 q8 q9 h0 h1 h2 h3 h4 h5 h6 h7 h8 h9 h10 h11 h12 h14
          subst hax
          obtain ⟨e0, e1, e2⟩ := And.intro (rowV_cell hr12 0) (And.intro (rowV_cell hr12 1) (rowV_cell hr12 2))
          simp only [List.getElem?_cons_zero, List.getElem?_cons_succ] at e0 e1 e2
          have HX := Lib.hid (And.intro (owL_below HG.out hB8) (HB.out.trans (hB8.mono HB.out.size)))
          have hT := truthW16_any bk
          have HTw := Lib.hid hT
          obtain ⟨nb, hnb⟩ : ∃ nb, (Ev.truth bk).n = nb := ⟨_, rfl⟩
          rw [show (if bk = true then (1 : Int) else 0) = nb from hnb] at HTw
          rw [show (Ev.truth bk).kind = 3 from rfl] at e0
          rw [hnb] at e1
          rw [show (Ev.truth bk).s = Vl.mt from rfl] at e2
          clear hnb HG HB hB8 hr12 h13 hBg hT
          go_wp2_with fail
          refine (HTw.out _).mono ?_
          rintro e w7 ⟨rfl, hb7⟩
          obtain ⟨p1, p2, p3, p4⟩ := box_appG 4 [.bool bk] (owL_below HX.out.1 hb7) (HX.out.2.trans (hb7.mono HX.out.2.size)) (Nat.le_refl _)
          have HO7 := Lib.hid (And.intro p1 (And.intro p2 (And.intro p3 p4)))
          clear hb7 p1 p2 p3 p4 e0 e1 e2
          go_wp2_with (at_builtin; refine wpList_append_one (f := fBl) (B := w5.heap.size) bool_elem rfl (.tmp 64) (.tmp 67) 37 rfl Tryz.underlying37 (.slice ao k cp) (LO.take k) bk rfl HO7.out.1 w7.heap.size 1 rfl HO7.out.2.2.2 rfl (by intro u hu; rw [List.mem_singleton.1 hu]; rfl) (by rw [List.length_take]; omega) HO7.out.2.2.1 ?_; intro gg cap w8 h1 h2 h3 h4; have HF8 := Lib.hid (And.intro h1 (And.intro h2 (And.intro h3 h4))); clear h1 h2 h3 h4; rw [show (LO.take k).length = k by rw [List.length_take, HLen.out]; omega])
          have hfin : OwL fBl 4 1 w8 w5.heap.size (.slice (some ⟨gg, 0, none⟩) (k + 1) cap) (LO.take (k + 1)) := by
            have h := HF8.out.1
            rw [show (LO.take k).length = k by rw [List.length_take, HLen.out]; omega] at h
            have hk6 : k < LO.length := by rw [HLen.out]; exact hlt
            rw [List.take_succ_eq_append_getElem hk6]
            rw [← HLB.out, List.getD_eq_getElem?_getD, List.getElem?_eq_getElem hk6] at h
            exact h
          have HFin := Lib.hid (And.intro hfin (HO7.out.2.1.trans (HF8.out.2.1.below (fun j _ e => (owL_lt HO7.out.1 j e).1) HO7.out.2.2.1)))
          clear hfin
          go_roundw
          case rel => exact ⟨k + 1, _, cap, rfl, by go_num, by omega, Lib.hid HFin.out.1, Lib.hid HFin.out.2⟩
          case measure => simp only [intOf]; omega
      · obtain rfl : k = 6 := by omega
        have hL6 : LO.take 6 = LO := List.take_of_length_le (by rw [HLen.out]; exact Nat.le_refl _)
        rw [hL6] at HG
        clear hL6
        have hx := rowV_below HC5.out.2.1 HB.out (rowV_lt HC5.out.2.1)
        have hy := rowV_below HC5.out.2.2.1 HB.out (rowV_lt HC5.out.2.2.1)
        have x0 := rowV_cell hx 0
        have x1 := rowV_cell hx 1
        have x2 := rowV_cell hx 2
        have y0 := rowV_cell hy 0
        have y1 := rowV_cell hy 1
        have y2 := rowV_cell hy 2
        simp only [List.getElem?_cons_zero, List.getElem?_cons_succ] at x0 x1 x2 y0 y1 y2
        have HBw := Lib.hid (HC5.out.1.trans (HB.out.mono HC5.out.1.size))
        have HO2 := HO.out
        clear hx hy HO
        rcases HO2 with rfl | rfl | rfl
        · obtain ⟨g, c', eg, hc⟩ := owL_cell (f := fBl) (fun _ _ => rfl) HG.out 0 (by decide)
          injection eg with eg _ _
          subst eg
          have c0 : wr.cell? ⟨g, 0, none⟩ = some (.bool true) := by
            obtain ⟨g2, c2, eg, hc⟩ := owL_cell (f := fBl) (fun _ _ => rfl) HG.out 0 (by decide)
            injection eg with eg _ _
            injection eg with eg
            injection eg with eg
            subst eg
            exact (hc 0 _ rfl).1
          have c1 : wr.cell? ⟨g, 1, none⟩ = some (.bool false) := by
            obtain ⟨g2, c2, eg, hc⟩ := owL_cell (f := fBl) (fun _ _ => rfl) HG.out 1 (by decide)
            injection eg with eg _ _
            injection eg with eg
            injection eg with eg
            subst eg
            exact (hc 0 _ rfl).1
          have c2 : wr.cell? ⟨g, 2, none⟩ = some (.bool false) := by
            obtain ⟨g2, c2, eg, hc⟩ := owL_cell (f := fBl) (fun _ _ => rfl) HG.out 2 (by decide)
            injection eg with eg _ _
            injection eg with eg
            injection eg with eg
            subst eg
            exact (hc 0 _ rfl).1
          have c3 : wr.cell? ⟨g, 3, none⟩ = some (.bool true) := by
            obtain ⟨g2, c2, eg, hc⟩ := owL_cell (f := fBl) (fun _ _ => rfl) HG.out 3 (by decide)
            injection eg with eg _ _
            injection eg with eg
            injection eg with eg
            subst eg
            exact (hc 0 _ rfl).1
          have c4 : wr.cell? ⟨g, 4, none⟩ = some (.bool false) := by
            obtain ⟨g2, c2, eg, hc⟩ := owL_cell (f := fBl) (fun _ _ => rfl) HG.out 4 (by decide)
            injection eg with eg _ _
            injection eg with eg
            injection eg with eg
            subst eg
            exact (hc 0 _ rfl).1
          have c5 : wr.cell? ⟨g, 5, none⟩ = some (.bool true) := by
            obtain ⟨g2, c2, eg, hc⟩ := owL_cell (f := fBl) (fun _ _ => rfl) HG.out 5 (by decide)
            injection eg with eg _ _
            injection eg with eg
            injection eg with eg
            subst eg
            exact (hc 0 _ rfl).1
          clear hc
          go_wp2_with fail
          go_loopw [10, 11] (fun one i w' => ∃ (j : Nat), one = .int .i64 (cntO [true, false, false, true, false, true] j) ∧ i = .int .i64 (j : Int) ∧ j ≤ 6 ∧ w' = wr) (fun _ i _ => (6 - intOf i).toNat)
          case atStart => exact ⟨0, rfl, rfl, by omega, rfl⟩
          case round =>
            obtain ⟨j, rfl, rfl, hj, rfl⟩ := hrel
            have hj7 : j = 0 ∨ j = 1 ∨ j = 2 ∨ j = 3 ∨ j = 4 ∨ j = 5 ∨ j = 6 := by omega
            rcases hj7 with rfl | rfl | rfl | rfl | rfl | rfl | rfl
            · rw [show cntO [true, false, false, true, false, true] 0 = 0 from rfl, show ((0 : Nat) : Int) = 0 from rfl]
              go_wp2_with fail
              go_roundw
              case rel => exact ⟨1, rfl, rfl, by omega, trivial⟩
              case measure => simp only [intOf]; omega
            · rw [show cntO [true, false, false, true, false, true] 1 = 1 from rfl, show ((1 : Nat) : Int) = 1 from rfl]
              go_wp2_with fail
              go_roundw
              case rel => exact ⟨2, rfl, rfl, by omega, trivial⟩
              case measure => simp only [intOf]; omega
            · rw [show cntO [true, false, false, true, false, true] 2 = 1 from rfl, show ((2 : Nat) : Int) = 2 from rfl]
              go_wp2_with fail
              go_roundw
              case rel => exact ⟨3, rfl, rfl, by omega, trivial⟩
              case measure => simp only [intOf]; omega
            · rw [show cntO [true, false, false, true, false, true] 3 = 1 from rfl, show ((3 : Nat) : Int) = 3 from rfl]
              go_wp2_with fail
              go_roundw
              case rel => exact ⟨4, rfl, rfl, by omega, trivial⟩
              case measure => simp only [intOf]; omega
            · rw [show cntO [true, false, false, true, false, true] 4 = 1 from rfl, show ((4 : Nat) : Int) = 4 from rfl]
              go_wp2_with fail
              go_roundw
              case rel => exact ⟨5, rfl, rfl, by omega, trivial⟩
              case measure => simp only [intOf]; omega
            · rw [show cntO [true, false, false, true, false, true] 5 = 1 from rfl, show ((5 : Nat) : Int) = 5 from rfl]
              go_wp2_with fail
              go_roundw
              case rel => exact ⟨6, rfl, rfl, by omega, trivial⟩
              case measure => simp only [intOf]; omega
            · rw [show cntO [true, false, false, true, false, true] 6 = 1 from rfl, show ((6 : Nat) : Int) = 6 from rfl]
              go_wp2_with fail
              have HQ := fun wx => eql_val ⟨1, an, ay⟩ ⟨1, bn, bz⟩ wx
              rw [show decide (_ = _) = true from H0.out.symm] at HQ
              refine wp_region_quiet_tail (C := fun wx => (wx.cell? ⟨g, 0, none⟩ = some (.bool true) ∧ wx.cell? ⟨g, 1, none⟩ = some (.bool false) ∧ wx.cell? ⟨g, 2, none⟩ = some (.bool false) ∧ wx.cell? ⟨g, 3, none⟩ = some (.bool true) ∧ wx.cell? ⟨g, 4, none⟩ = some (.bool false) ∧ wx.cell? ⟨g, 5, none⟩ = some (.bool true) ∧ wx.cell? ⟨w.heap.size, 0, none⟩ = some (.int .i64 1) ∧ wx.cell? ⟨w.heap.size, 1, none⟩ = some (.int .i64 an) ∧ wx.cell? ⟨w.heap.size, 2, none⟩ = some (.string ay) ∧ wx.cell? ⟨w.heap.size + 1, 0, none⟩ = some (.int .i64 1) ∧ wx.cell? ⟨w.heap.size + 1, 1, none⟩ = some (.int .i64 bn) ∧ wx.cell? ⟨w.heap.size + 1, 2, none⟩ = some (.string bz)) ∧ Hid (Below wr.heap.size wr wx)) 44 (by kernel_rfl) (by kernel_rfl) ⟨⟨c0, c1, c2, c3, c4, c5, x0, x1, x2, y0, y1, y2⟩, Lib.hid (Below.refl wr.heap.size wr).drew⟩ ?_
              simp only [List.take_succ_cons, List.take_zero, List.drop_succ_cons, List.drop_zero]
              go_big_quiet_want
              go_big_quiet_op
              go_big_quiet_on
              go_big_quiet_want
              refine ⟨(.bool true), fun wx hSx => ?_, ?_⟩
              · obtain ⟨⟨k0, k1, k2, k3, k4, k5, k6, k7, k8, k9, k10, k11⟩, -⟩ := hSx
                go_simp
                try first
                  | with_reducible rfl
                  | rw [if_neg (by omega)]
              simp only [Act.put, List.setIfInBounds_toArray, List.set_cons_zero, List.set_cons_succ]
              go_big_quiet_on
              go_big_quiet_want
              go_big_quiet_op
              go_big_quiet_on
              go_big_quiet_want
              go_big_quiet_op
              go_big_quiet_on
              go_big_quiet_want
              refine ⟨(.pointer (some ⟨g, 1, none⟩)), fun wx hSx => ?_, ?_⟩
              · obtain ⟨⟨k0, k1, k2, k3, k4, k5, k6, k7, k8, k9, k10, k11⟩, -⟩ := hSx
                go_simp
                try first
                  | with_reducible rfl
                  | rw [if_neg (by omega)]
              simp only [Act.put, List.setIfInBounds_toArray, List.set_cons_zero, List.set_cons_succ]
              go_big_quiet_on
              go_big_quiet_want
              refine ⟨(.bool false), fun wx hSx => ?_, ?_⟩
              · obtain ⟨⟨k0, k1, k2, k3, k4, k5, k6, k7, k8, k9, k10, k11⟩, -⟩ := hSx
                go_simp
                try first
                  | with_reducible rfl
                  | rw [if_neg (by omega)]
              simp only [Act.put, List.setIfInBounds_toArray, List.set_cons_zero, List.set_cons_succ]
              go_big_quiet_on
              go_big_quiet_want
              go_big_quiet_op
              go_big_quiet_on
              go_big_quiet_want
              refine ⟨(.pointer (some ⟨g, 0, none⟩)), fun wx hSx => ?_, ?_⟩
              · obtain ⟨⟨k0, k1, k2, k3, k4, k5, k6, k7, k8, k9, k10, k11⟩, -⟩ := hSx
                go_simp
                try first
                  | with_reducible rfl
                  | rw [if_neg (by omega)]
              simp only [Act.put, List.setIfInBounds_toArray, List.set_cons_zero, List.set_cons_succ]
              go_big_quiet_on
              go_big_quiet_want
              refine ⟨(.bool true), fun wx hSx => ?_, ?_⟩
              · obtain ⟨⟨k0, k1, k2, k3, k4, k5, k6, k7, k8, k9, k10, k11⟩, -⟩ := hSx
                go_simp
                try first
                  | with_reducible rfl
                  | rw [if_neg (by omega)]
              simp only [Act.put, List.setIfInBounds_toArray, List.set_cons_zero, List.set_cons_succ]
              go_big_quiet_on
              go_big_quiet_want
              refine ⟨(.bool false), fun wx hSx => ?_, ?_⟩
              · obtain ⟨⟨k0, k1, k2, k3, k4, k5, k6, k7, k8, k9, k10, k11⟩, -⟩ := hSx
                go_simp
                try first
                  | with_reducible rfl
                  | rw [if_neg (by omega)]
              simp only [Act.put, List.setIfInBounds_toArray, List.set_cons_zero, List.set_cons_succ]
              go_big_quiet_on
              go_big_quiet_want
              refine ⟨(.bool true), fun wx hSx => ?_, ?_⟩
              · obtain ⟨⟨k0, k1, k2, k3, k4, k5, k6, k7, k8, k9, k10, k11⟩, -⟩ := hSx
                go_simp
                try first
                  | with_reducible rfl
                  | rw [if_neg (by omega)]
              simp only [Act.put, List.setIfInBounds_toArray, List.set_cons_zero, List.set_cons_succ]
              go_big_quiet_on
              go_big_quiet_want
              refine ⟨(.bool true), fun wx hSx => ?_, ?_⟩
              · obtain ⟨⟨k0, k1, k2, k3, k4, k5, k6, k7, k8, k9, k10, k11⟩, -⟩ := hSx
                go_simp
                try first
                  | with_reducible rfl
                  | rw [if_neg (by omega)]
              simp only [Act.put, List.setIfInBounds_toArray, List.set_cons_zero, List.set_cons_succ]
              go_big_quiet_on
              go_big_quiet_want
              go_big_quiet_op
              go_big_quiet_on
              go_big_quiet_want
              go_big_quiet_op
              go_big_quiet_on
              go_big_quiet_want
              refine ⟨(.pointer (some ⟨g, 3, none⟩)), fun wx hSx => ?_, ?_⟩
              · obtain ⟨⟨k0, k1, k2, k3, k4, k5, k6, k7, k8, k9, k10, k11⟩, -⟩ := hSx
                go_simp
                try first
                  | with_reducible rfl
                  | rw [if_neg (by omega)]
              simp only [Act.put, List.setIfInBounds_toArray, List.set_cons_zero, List.set_cons_succ]
              go_big_quiet_on
              go_big_quiet_want
              refine ⟨(.bool true), fun wx hSx => ?_, ?_⟩
              · obtain ⟨⟨k0, k1, k2, k3, k4, k5, k6, k7, k8, k9, k10, k11⟩, -⟩ := hSx
                go_simp
                try first
                  | with_reducible rfl
                  | rw [if_neg (by omega)]
              simp only [Act.put, List.setIfInBounds_toArray, List.set_cons_zero, List.set_cons_succ]
              go_big_quiet_on
              go_big_quiet_want
              go_big_quiet_op
              go_big_quiet_on
              go_big_quiet_want
              refine ⟨(.pointer (some ⟨g, 4, none⟩)), fun wx hSx => ?_, ?_⟩
              · obtain ⟨⟨k0, k1, k2, k3, k4, k5, k6, k7, k8, k9, k10, k11⟩, -⟩ := hSx
                go_simp
                try first
                  | with_reducible rfl
                  | rw [if_neg (by omega)]
              simp only [Act.put, List.setIfInBounds_toArray, List.set_cons_zero, List.set_cons_succ]
              go_big_quiet_on
              go_big_quiet_want
              refine ⟨(.bool false), fun wx hSx => ?_, ?_⟩
              · obtain ⟨⟨k0, k1, k2, k3, k4, k5, k6, k7, k8, k9, k10, k11⟩, -⟩ := hSx
                go_simp
                try first
                  | with_reducible rfl
                  | rw [if_neg (by omega)]
              simp only [Act.put, List.setIfInBounds_toArray, List.set_cons_zero, List.set_cons_succ]
              go_big_quiet_on
              go_big_quiet_want
              refine ⟨(.bool true), fun wx hSx => ?_, ?_⟩
              · obtain ⟨⟨k0, k1, k2, k3, k4, k5, k6, k7, k8, k9, k10, k11⟩, -⟩ := hSx
                go_simp
                try first
                  | with_reducible rfl
                  | rw [if_neg (by omega)]
              simp only [Act.put, List.setIfInBounds_toArray, List.set_cons_zero, List.set_cons_succ]
              go_big_quiet_on
              go_big_quiet_want
              refine ⟨(.bool true), fun wx hSx => ?_, ?_⟩
              · obtain ⟨⟨k0, k1, k2, k3, k4, k5, k6, k7, k8, k9, k10, k11⟩, -⟩ := hSx
                go_simp
                try first
                  | with_reducible rfl
                  | rw [if_neg (by omega)]
              simp only [Act.put, List.setIfInBounds_toArray, List.set_cons_zero, List.set_cons_succ]
              go_big_quiet_on
              go_big_quiet_want
              refine ⟨(.bool true), fun wx hSx => ?_, ?_⟩
              · obtain ⟨⟨k0, k1, k2, k3, k4, k5, k6, k7, k8, k9, k10, k11⟩, -⟩ := hSx
                go_simp
                try first
                  | with_reducible rfl
                  | rw [if_neg (by omega)]
              simp only [Act.put, List.setIfInBounds_toArray, List.set_cons_zero, List.set_cons_succ]
              go_big_quiet_on
              go_big_quiet_want
              go_big_quiet_op
              go_big_quiet_on
              go_big_quiet_want
              go_big_quiet_op
              go_big_quiet_on
              go_big_quiet_want
              refine ⟨(.pointer (some ⟨g, 5, none⟩)), fun wx hSx => ?_, ?_⟩
              · obtain ⟨⟨k0, k1, k2, k3, k4, k5, k6, k7, k8, k9, k10, k11⟩, -⟩ := hSx
                go_simp
                try first
                  | with_reducible rfl
                  | rw [if_neg (by omega)]
              simp only [Act.put, List.setIfInBounds_toArray, List.set_cons_zero, List.set_cons_succ]
              go_big_quiet_on
              go_big_quiet_want
              refine ⟨(.bool true), fun wx hSx => ?_, ?_⟩
              · obtain ⟨⟨k0, k1, k2, k3, k4, k5, k6, k7, k8, k9, k10, k11⟩, -⟩ := hSx
                go_simp
                try first
                  | with_reducible rfl
                  | rw [if_neg (by omega)]
              simp only [Act.put, List.setIfInBounds_toArray, List.set_cons_zero, List.set_cons_succ]
              go_big_quiet_on
              go_big_quiet_want
              go_big_quiet_op
              go_big_quiet_on
              go_big_quiet_want
              refine ⟨(.pointer (some ⟨g, 2, none⟩)), fun wx hSx => ?_, ?_⟩
              · obtain ⟨⟨k0, k1, k2, k3, k4, k5, k6, k7, k8, k9, k10, k11⟩, -⟩ := hSx
                go_simp
                try first
                  | with_reducible rfl
                  | rw [if_neg (by omega)]
              simp only [Act.put, List.setIfInBounds_toArray, List.set_cons_zero, List.set_cons_succ]
              go_big_quiet_on
              go_big_quiet_want
              refine ⟨(.bool false), fun wx hSx => ?_, ?_⟩
              · obtain ⟨⟨k0, k1, k2, k3, k4, k5, k6, k7, k8, k9, k10, k11⟩, -⟩ := hSx
                go_simp
                try first
                  | with_reducible rfl
                  | rw [if_neg (by omega)]
              simp only [Act.put, List.setIfInBounds_toArray, List.set_cons_zero, List.set_cons_succ]
              go_big_quiet_on
              go_big_quiet_want
              refine ⟨(.bool true), fun wx hSx => ?_, ?_⟩
              · obtain ⟨⟨k0, k1, k2, k3, k4, k5, k6, k7, k8, k9, k10, k11⟩, -⟩ := hSx
                go_simp
                try first
                  | with_reducible rfl
                  | rw [if_neg (by omega)]
              simp only [Act.put, List.setIfInBounds_toArray, List.set_cons_zero, List.set_cons_succ]
              go_big_quiet_on
              go_big_quiet_want
              refine ⟨(.bool true), fun wx hSx => ?_, ?_⟩
              · obtain ⟨⟨k0, k1, k2, k3, k4, k5, k6, k7, k8, k9, k10, k11⟩, -⟩ := hSx
                go_simp
                try first
                  | with_reducible rfl
                  | rw [if_neg (by omega)]
              simp only [Act.put, List.setIfInBounds_toArray, List.set_cons_zero, List.set_cons_succ]
              go_big_quiet_on
              go_big_quiet_want
              refine ⟨(.bool true), fun wx hSx => ?_, ?_⟩
              · obtain ⟨⟨k0, k1, k2, k3, k4, k5, k6, k7, k8, k9, k10, k11⟩, -⟩ := hSx
                go_simp
                try first
                  | with_reducible rfl
                  | rw [if_neg (by omega)]
              simp only [Act.put, List.setIfInBounds_toArray, List.set_cons_zero, List.set_cons_succ]
              go_big_quiet_on
              go_big_quiet_want
              go_big_quiet_op
              go_big_quiet_on
              go_big_quiet_want
              go_big_quiet_op
              go_big_quiet_on
              go_big_quiet_want
              refine ⟨(.pointer (some ⟨g, 0, none⟩)), fun wx hSx => ?_, ?_⟩
              · obtain ⟨⟨k0, k1, k2, k3, k4, k5, k6, k7, k8, k9, k10, k11⟩, -⟩ := hSx
                go_simp
                try first
                  | with_reducible rfl
                  | rw [if_neg (by omega)]
              simp only [Act.put, List.setIfInBounds_toArray, List.set_cons_zero, List.set_cons_succ]
              go_big_quiet_on
              go_big_quiet_want
              refine ⟨(.bool true), fun wx hSx => ?_, ?_⟩
              · obtain ⟨⟨k0, k1, k2, k3, k4, k5, k6, k7, k8, k9, k10, k11⟩, -⟩ := hSx
                go_simp
                try first
                  | with_reducible rfl
                  | rw [if_neg (by omega)]
              simp only [Act.put, List.setIfInBounds_toArray, List.set_cons_zero, List.set_cons_succ]
              go_big_quiet_on
              go_big_quiet_want
              refine ⟨(valV ⟨1, an, ay⟩), fun wx hSx => ?_, ?_⟩
              · obtain ⟨⟨k0, k1, k2, k3, k4, k5, k6, k7, k8, k9, k10, k11⟩, -⟩ := hSx
                go_simp
                try first
                  | with_reducible rfl
                  | rw [if_neg (by omega)]
              simp only [Act.put, List.setIfInBounds_toArray, List.set_cons_zero, List.set_cons_succ]
              go_big_quiet_on
              go_big_quiet_want
              refine ⟨(valV ⟨1, bn, bz⟩), fun wx hSx => ?_, ?_⟩
              · obtain ⟨⟨k0, k1, k2, k3, k4, k5, k6, k7, k8, k9, k10, k11⟩, -⟩ := hSx
                go_simp
                try first
                  | with_reducible rfl
                  | rw [if_neg (by omega)]
              simp only [Act.put, List.setIfInBounds_toArray, List.set_cons_zero, List.set_cons_succ]
              go_big_quiet_on
              go_big_quiet_want
              refine ⟨(.bool true), fun wx hSx => ?_, ?_⟩
              · obtain ⟨⟨k0, k1, k2, k3, k4, k5, k6, k7, k8, k9, k10, k11⟩, -⟩ := hSx
                go_simp
                try first
                  | with_reducible rfl
                  | rw [if_neg (by omega)]
              simp only [Act.put, List.setIfInBounds_toArray, List.set_cons_zero, List.set_cons_succ]
              go_big_quiet_on
              go_big_quiet_want
              refine ⟨(.bool true), fun wx hSx => ?_, ?_⟩
              · obtain ⟨⟨k0, k1, k2, k3, k4, k5, k6, k7, k8, k9, k10, k11⟩, -⟩ := hSx
                go_simp
                try first
                  | with_reducible rfl
                  | rw [if_neg (by omega)]
              simp only [Act.put, List.setIfInBounds_toArray, List.set_cons_zero, List.set_cons_succ]
              go_big_quiet_on
              go_big_quiet_want
              refine ⟨(.bool true), fun wx hSx => ?_, ?_⟩
              · obtain ⟨⟨k0, k1, k2, k3, k4, k5, k6, k7, k8, k9, k10, k11⟩, -⟩ := hSx
                go_simp
                try first
                  | with_reducible rfl
                  | rw [if_neg (by omega)]
              simp only [Act.put, List.setIfInBounds_toArray, List.set_cons_zero, List.set_cons_succ]
              go_big_quiet_on
              go_big_quiet_want
              go_big_quiet_op
              go_big_quiet_on
              go_big_quiet_want
              refine ⟨(.bool true), fun wx hSx => ?_, ?_⟩
              · exact quietAt_call 14 #[] (by go_simp) ((HL.out wx (HBw.out.trans (hSx.2.out.mono HBw.out.size))).mono fun e w' hh => ⟨hh.1, ⟨(hh.2.cell (p := ⟨g, 0, none⟩) (World.block_lt_of_cell? _ _ hSx.1.1)).trans hSx.1.1, (hh.2.cell (p := ⟨g, 1, none⟩) (World.block_lt_of_cell? _ _ hSx.1.2.1)).trans hSx.1.2.1, (hh.2.cell (p := ⟨g, 2, none⟩) (World.block_lt_of_cell? _ _ hSx.1.2.2.1)).trans hSx.1.2.2.1, (hh.2.cell (p := ⟨g, 3, none⟩) (World.block_lt_of_cell? _ _ hSx.1.2.2.2.1)).trans hSx.1.2.2.2.1, (hh.2.cell (p := ⟨g, 4, none⟩) (World.block_lt_of_cell? _ _ hSx.1.2.2.2.2.1)).trans hSx.1.2.2.2.2.1, (hh.2.cell (p := ⟨g, 5, none⟩) (World.block_lt_of_cell? _ _ hSx.1.2.2.2.2.2.1)).trans hSx.1.2.2.2.2.2.1, (hh.2.cell (p := ⟨w.heap.size, 0, none⟩) (World.block_lt_of_cell? _ _ hSx.1.2.2.2.2.2.2.1)).trans hSx.1.2.2.2.2.2.2.1, (hh.2.cell (p := ⟨w.heap.size, 1, none⟩) (World.block_lt_of_cell? _ _ hSx.1.2.2.2.2.2.2.2.1)).trans hSx.1.2.2.2.2.2.2.2.1, (hh.2.cell (p := ⟨w.heap.size, 2, none⟩) (World.block_lt_of_cell? _ _ hSx.1.2.2.2.2.2.2.2.2.1)).trans hSx.1.2.2.2.2.2.2.2.2.1, (hh.2.cell (p := ⟨w.heap.size + 1, 0, none⟩) (World.block_lt_of_cell? _ _ hSx.1.2.2.2.2.2.2.2.2.2.1)).trans hSx.1.2.2.2.2.2.2.2.2.2.1, (hh.2.cell (p := ⟨w.heap.size + 1, 1, none⟩) (World.block_lt_of_cell? _ _ hSx.1.2.2.2.2.2.2.2.2.2.2.1)).trans hSx.1.2.2.2.2.2.2.2.2.2.2.1, (hh.2.cell (p := ⟨w.heap.size + 1, 2, none⟩) (World.block_lt_of_cell? _ _ hSx.1.2.2.2.2.2.2.2.2.2.2.2)).trans hSx.1.2.2.2.2.2.2.2.2.2.2.2⟩, Lib.hid (hSx.2.out.trans (hh.2.mono hSx.2.out.size))⟩)
              simp only [Act.put, List.setIfInBounds_toArray, List.set_cons_zero, List.set_cons_succ]
              go_big_quiet_on
              go_big_quiet_want
              refine ⟨(.bool true), fun wx hSx => ?_, ?_⟩
              · obtain ⟨⟨k0, k1, k2, k3, k4, k5, k6, k7, k8, k9, k10, k11⟩, -⟩ := hSx
                go_simp
                try first
                  | with_reducible rfl
                  | rw [if_neg (by omega)]
              simp only [Act.put, List.setIfInBounds_toArray, List.set_cons_zero, List.set_cons_succ]
              go_big_quiet_on
              refine wpQuiet_nil ?_
              rintro w9 ⟨-, hb9⟩
              go_wp2_with fail
              go_ret
              exact ⟨rfl, HBw.out.trans (hb9.out.mono HBw.out.size)⟩
        · obtain ⟨g, c', eg, hc⟩ := owL_cell (f := fBl) (fun _ _ => rfl) HG.out 0 (by decide)
          injection eg with eg _ _
          subst eg
          have c0 : wr.cell? ⟨g, 0, none⟩ = some (.bool false) := by
            obtain ⟨g2, c2, eg, hc⟩ := owL_cell (f := fBl) (fun _ _ => rfl) HG.out 0 (by decide)
            injection eg with eg _ _
            injection eg with eg
            injection eg with eg
            subst eg
            exact (hc 0 _ rfl).1
          have c1 : wr.cell? ⟨g, 1, none⟩ = some (.bool true) := by
            obtain ⟨g2, c2, eg, hc⟩ := owL_cell (f := fBl) (fun _ _ => rfl) HG.out 1 (by decide)
            injection eg with eg _ _
            injection eg with eg
            injection eg with eg
            subst eg
            exact (hc 0 _ rfl).1
          have c2 : wr.cell? ⟨g, 2, none⟩ = some (.bool true) := by
            obtain ⟨g2, c2, eg, hc⟩ := owL_cell (f := fBl) (fun _ _ => rfl) HG.out 2 (by decide)
            injection eg with eg _ _
            injection eg with eg
            injection eg with eg
            subst eg
            exact (hc 0 _ rfl).1
          have c3 : wr.cell? ⟨g, 3, none⟩ = some (.bool true) := by
            obtain ⟨g2, c2, eg, hc⟩ := owL_cell (f := fBl) (fun _ _ => rfl) HG.out 3 (by decide)
            injection eg with eg _ _
            injection eg with eg
            injection eg with eg
            subst eg
            exact (hc 0 _ rfl).1
          have c4 : wr.cell? ⟨g, 4, none⟩ = some (.bool false) := by
            obtain ⟨g2, c2, eg, hc⟩ := owL_cell (f := fBl) (fun _ _ => rfl) HG.out 4 (by decide)
            injection eg with eg _ _
            injection eg with eg
            injection eg with eg
            subst eg
            exact (hc 0 _ rfl).1
          have c5 : wr.cell? ⟨g, 5, none⟩ = some (.bool false) := by
            obtain ⟨g2, c2, eg, hc⟩ := owL_cell (f := fBl) (fun _ _ => rfl) HG.out 5 (by decide)
            injection eg with eg _ _
            injection eg with eg
            injection eg with eg
            subst eg
            exact (hc 0 _ rfl).1
          clear hc
          go_wp2_with fail
          go_loopw [10, 11] (fun one i w' => ∃ (j : Nat), one = .int .i64 (cntO [false, true, true, true, false, false] j) ∧ i = .int .i64 (j : Int) ∧ j ≤ 6 ∧ w' = wr) (fun _ i _ => (6 - intOf i).toNat)
          case atStart => exact ⟨0, rfl, rfl, by omega, rfl⟩
          case round =>
            obtain ⟨j, rfl, rfl, hj, rfl⟩ := hrel
            have hj7 : j = 0 ∨ j = 1 ∨ j = 2 ∨ j = 3 ∨ j = 4 ∨ j = 5 ∨ j = 6 := by omega
            rcases hj7 with rfl | rfl | rfl | rfl | rfl | rfl | rfl
            · rw [show cntO [false, true, true, true, false, false] 0 = 0 from rfl, show ((0 : Nat) : Int) = 0 from rfl]
              go_wp2_with fail
              go_roundw
              case rel => exact ⟨1, rfl, rfl, by omega, trivial⟩
              case measure => simp only [intOf]; omega
            · rw [show cntO [false, true, true, true, false, false] 1 = 0 from rfl, show ((1 : Nat) : Int) = 1 from rfl]
              go_wp2_with fail
              go_roundw
              case rel => exact ⟨2, rfl, rfl, by omega, trivial⟩
              case measure => simp only [intOf]; omega
            · rw [show cntO [false, true, true, true, false, false] 2 = 0 from rfl, show ((2 : Nat) : Int) = 2 from rfl]
              go_wp2_with fail
              go_roundw
              case rel => exact ⟨3, rfl, rfl, by omega, trivial⟩
              case measure => simp only [intOf]; omega
            · rw [show cntO [false, true, true, true, false, false] 3 = 1 from rfl, show ((3 : Nat) : Int) = 3 from rfl]
              go_wp2_with fail
              go_roundw
              case rel => exact ⟨4, rfl, rfl, by omega, trivial⟩
              case measure => simp only [intOf]; omega
            · rw [show cntO [false, true, true, true, false, false] 4 = 1 from rfl, show ((4 : Nat) : Int) = 4 from rfl]
              go_wp2_with fail
              go_roundw
              case rel => exact ⟨5, rfl, rfl, by omega, trivial⟩
              case measure => simp only [intOf]; omega
            · rw [show cntO [false, true, true, true, false, false] 5 = 1 from rfl, show ((5 : Nat) : Int) = 5 from rfl]
              go_wp2_with fail
              go_roundw
              case rel => exact ⟨6, rfl, rfl, by omega, trivial⟩
              case measure => simp only [intOf]; omega
            · rw [show cntO [false, true, true, true, false, false] 6 = 1 from rfl, show ((6 : Nat) : Int) = 6 from rfl]
              go_wp2_with fail
              have HQ := fun wx => eql_val ⟨1, an, ay⟩ ⟨1, bn, bz⟩ wx
              rw [show decide (_ = _) = false from H0.out.symm] at HQ
              refine wp_region_quiet_tail (C := fun wx => (wx.cell? ⟨g, 0, none⟩ = some (.bool false) ∧ wx.cell? ⟨g, 1, none⟩ = some (.bool true) ∧ wx.cell? ⟨g, 2, none⟩ = some (.bool true) ∧ wx.cell? ⟨g, 3, none⟩ = some (.bool true) ∧ wx.cell? ⟨g, 4, none⟩ = some (.bool false) ∧ wx.cell? ⟨g, 5, none⟩ = some (.bool false) ∧ wx.cell? ⟨w.heap.size, 0, none⟩ = some (.int .i64 1) ∧ wx.cell? ⟨w.heap.size, 1, none⟩ = some (.int .i64 an) ∧ wx.cell? ⟨w.heap.size, 2, none⟩ = some (.string ay) ∧ wx.cell? ⟨w.heap.size + 1, 0, none⟩ = some (.int .i64 1) ∧ wx.cell? ⟨w.heap.size + 1, 1, none⟩ = some (.int .i64 bn) ∧ wx.cell? ⟨w.heap.size + 1, 2, none⟩ = some (.string bz)) ∧ Hid (Below wr.heap.size wr wx)) 44 (by kernel_rfl) (by kernel_rfl) ⟨⟨c0, c1, c2, c3, c4, c5, x0, x1, x2, y0, y1, y2⟩, Lib.hid (Below.refl wr.heap.size wr).drew⟩ ?_
              simp only [List.take_succ_cons, List.take_zero, List.drop_succ_cons, List.drop_zero]
              go_big_quiet_want
              go_big_quiet_op
              go_big_quiet_on
              go_big_quiet_want
              refine ⟨(.bool true), fun wx hSx => ?_, ?_⟩
              · obtain ⟨⟨k0, k1, k2, k3, k4, k5, k6, k7, k8, k9, k10, k11⟩, -⟩ := hSx
                go_simp
                try first
                  | with_reducible rfl
                  | rw [if_neg (by omega)]
              simp only [Act.put, List.setIfInBounds_toArray, List.set_cons_zero, List.set_cons_succ]
              go_big_quiet_on
              go_big_quiet_want
              go_big_quiet_op
              go_big_quiet_on
              go_big_quiet_want
              go_big_quiet_op
              go_big_quiet_on
              go_big_quiet_want
              refine ⟨(.pointer (some ⟨g, 1, none⟩)), fun wx hSx => ?_, ?_⟩
              · obtain ⟨⟨k0, k1, k2, k3, k4, k5, k6, k7, k8, k9, k10, k11⟩, -⟩ := hSx
                go_simp
                try first
                  | with_reducible rfl
                  | rw [if_neg (by omega)]
              simp only [Act.put, List.setIfInBounds_toArray, List.set_cons_zero, List.set_cons_succ]
              go_big_quiet_on
              go_big_quiet_want
              refine ⟨(.bool true), fun wx hSx => ?_, ?_⟩
              · obtain ⟨⟨k0, k1, k2, k3, k4, k5, k6, k7, k8, k9, k10, k11⟩, -⟩ := hSx
                go_simp
                try first
                  | with_reducible rfl
                  | rw [if_neg (by omega)]
              simp only [Act.put, List.setIfInBounds_toArray, List.set_cons_zero, List.set_cons_succ]
              go_big_quiet_on
              go_big_quiet_want
              go_big_quiet_op
              go_big_quiet_on
              go_big_quiet_want
              refine ⟨(.pointer (some ⟨g, 0, none⟩)), fun wx hSx => ?_, ?_⟩
              · obtain ⟨⟨k0, k1, k2, k3, k4, k5, k6, k7, k8, k9, k10, k11⟩, -⟩ := hSx
                go_simp
                try first
                  | with_reducible rfl
                  | rw [if_neg (by omega)]
              simp only [Act.put, List.setIfInBounds_toArray, List.set_cons_zero, List.set_cons_succ]
              go_big_quiet_on
              go_big_quiet_want
              refine ⟨(.bool false), fun wx hSx => ?_, ?_⟩
              · obtain ⟨⟨k0, k1, k2, k3, k4, k5, k6, k7, k8, k9, k10, k11⟩, -⟩ := hSx
                go_simp
                try first
                  | with_reducible rfl
                  | rw [if_neg (by omega)]
              simp only [Act.put, List.setIfInBounds_toArray, List.set_cons_zero, List.set_cons_succ]
              go_big_quiet_on
              go_big_quiet_want
              refine ⟨(.bool true), fun wx hSx => ?_, ?_⟩
              · obtain ⟨⟨k0, k1, k2, k3, k4, k5, k6, k7, k8, k9, k10, k11⟩, -⟩ := hSx
                go_simp
                try first
                  | with_reducible rfl
                  | rw [if_neg (by omega)]
              simp only [Act.put, List.setIfInBounds_toArray, List.set_cons_zero, List.set_cons_succ]
              go_big_quiet_on
              go_big_quiet_want
              refine ⟨(.bool true), fun wx hSx => ?_, ?_⟩
              · obtain ⟨⟨k0, k1, k2, k3, k4, k5, k6, k7, k8, k9, k10, k11⟩, -⟩ := hSx
                go_simp
                try first
                  | with_reducible rfl
                  | rw [if_neg (by omega)]
              simp only [Act.put, List.setIfInBounds_toArray, List.set_cons_zero, List.set_cons_succ]
              go_big_quiet_on
              go_big_quiet_want
              refine ⟨(.bool true), fun wx hSx => ?_, ?_⟩
              · obtain ⟨⟨k0, k1, k2, k3, k4, k5, k6, k7, k8, k9, k10, k11⟩, -⟩ := hSx
                go_simp
                try first
                  | with_reducible rfl
                  | rw [if_neg (by omega)]
              simp only [Act.put, List.setIfInBounds_toArray, List.set_cons_zero, List.set_cons_succ]
              go_big_quiet_on
              go_big_quiet_want
              go_big_quiet_op
              go_big_quiet_on
              go_big_quiet_want
              go_big_quiet_op
              go_big_quiet_on
              go_big_quiet_want
              refine ⟨(.pointer (some ⟨g, 3, none⟩)), fun wx hSx => ?_, ?_⟩
              · obtain ⟨⟨k0, k1, k2, k3, k4, k5, k6, k7, k8, k9, k10, k11⟩, -⟩ := hSx
                go_simp
                try first
                  | with_reducible rfl
                  | rw [if_neg (by omega)]
              simp only [Act.put, List.setIfInBounds_toArray, List.set_cons_zero, List.set_cons_succ]
              go_big_quiet_on
              go_big_quiet_want
              refine ⟨(.bool true), fun wx hSx => ?_, ?_⟩
              · obtain ⟨⟨k0, k1, k2, k3, k4, k5, k6, k7, k8, k9, k10, k11⟩, -⟩ := hSx
                go_simp
                try first
                  | with_reducible rfl
                  | rw [if_neg (by omega)]
              simp only [Act.put, List.setIfInBounds_toArray, List.set_cons_zero, List.set_cons_succ]
              go_big_quiet_on
              go_big_quiet_want
              go_big_quiet_op
              go_big_quiet_on
              go_big_quiet_want
              refine ⟨(.pointer (some ⟨g, 4, none⟩)), fun wx hSx => ?_, ?_⟩
              · obtain ⟨⟨k0, k1, k2, k3, k4, k5, k6, k7, k8, k9, k10, k11⟩, -⟩ := hSx
                go_simp
                try first
                  | with_reducible rfl
                  | rw [if_neg (by omega)]
              simp only [Act.put, List.setIfInBounds_toArray, List.set_cons_zero, List.set_cons_succ]
              go_big_quiet_on
              go_big_quiet_want
              refine ⟨(.bool false), fun wx hSx => ?_, ?_⟩
              · obtain ⟨⟨k0, k1, k2, k3, k4, k5, k6, k7, k8, k9, k10, k11⟩, -⟩ := hSx
                go_simp
                try first
                  | with_reducible rfl
                  | rw [if_neg (by omega)]
              simp only [Act.put, List.setIfInBounds_toArray, List.set_cons_zero, List.set_cons_succ]
              go_big_quiet_on
              go_big_quiet_want
              refine ⟨(.bool true), fun wx hSx => ?_, ?_⟩
              · obtain ⟨⟨k0, k1, k2, k3, k4, k5, k6, k7, k8, k9, k10, k11⟩, -⟩ := hSx
                go_simp
                try first
                  | with_reducible rfl
                  | rw [if_neg (by omega)]
              simp only [Act.put, List.setIfInBounds_toArray, List.set_cons_zero, List.set_cons_succ]
              go_big_quiet_on
              go_big_quiet_want
              refine ⟨(.bool true), fun wx hSx => ?_, ?_⟩
              · obtain ⟨⟨k0, k1, k2, k3, k4, k5, k6, k7, k8, k9, k10, k11⟩, -⟩ := hSx
                go_simp
                try first
                  | with_reducible rfl
                  | rw [if_neg (by omega)]
              simp only [Act.put, List.setIfInBounds_toArray, List.set_cons_zero, List.set_cons_succ]
              go_big_quiet_on
              go_big_quiet_want
              refine ⟨(.bool true), fun wx hSx => ?_, ?_⟩
              · obtain ⟨⟨k0, k1, k2, k3, k4, k5, k6, k7, k8, k9, k10, k11⟩, -⟩ := hSx
                go_simp
                try first
                  | with_reducible rfl
                  | rw [if_neg (by omega)]
              simp only [Act.put, List.setIfInBounds_toArray, List.set_cons_zero, List.set_cons_succ]
              go_big_quiet_on
              go_big_quiet_want
              go_big_quiet_op
              go_big_quiet_on
              go_big_quiet_want
              go_big_quiet_op
              go_big_quiet_on
              go_big_quiet_want
              refine ⟨(.pointer (some ⟨g, 5, none⟩)), fun wx hSx => ?_, ?_⟩
              · obtain ⟨⟨k0, k1, k2, k3, k4, k5, k6, k7, k8, k9, k10, k11⟩, -⟩ := hSx
                go_simp
                try first
                  | with_reducible rfl
                  | rw [if_neg (by omega)]
              simp only [Act.put, List.setIfInBounds_toArray, List.set_cons_zero, List.set_cons_succ]
              go_big_quiet_on
              go_big_quiet_want
              refine ⟨(.bool false), fun wx hSx => ?_, ?_⟩
              · obtain ⟨⟨k0, k1, k2, k3, k4, k5, k6, k7, k8, k9, k10, k11⟩, -⟩ := hSx
                go_simp
                try first
                  | with_reducible rfl
                  | rw [if_neg (by omega)]
              simp only [Act.put, List.setIfInBounds_toArray, List.set_cons_zero, List.set_cons_succ]
              go_big_quiet_on
              go_big_quiet_want
              go_big_quiet_op
              go_big_quiet_on
              go_big_quiet_want
              refine ⟨(.pointer (some ⟨g, 2, none⟩)), fun wx hSx => ?_, ?_⟩
              · obtain ⟨⟨k0, k1, k2, k3, k4, k5, k6, k7, k8, k9, k10, k11⟩, -⟩ := hSx
                go_simp
                try first
                  | with_reducible rfl
                  | rw [if_neg (by omega)]
              simp only [Act.put, List.setIfInBounds_toArray, List.set_cons_zero, List.set_cons_succ]
              go_big_quiet_on
              go_big_quiet_want
              refine ⟨(.bool true), fun wx hSx => ?_, ?_⟩
              · obtain ⟨⟨k0, k1, k2, k3, k4, k5, k6, k7, k8, k9, k10, k11⟩, -⟩ := hSx
                go_simp
                try first
                  | with_reducible rfl
                  | rw [if_neg (by omega)]
              simp only [Act.put, List.setIfInBounds_toArray, List.set_cons_zero, List.set_cons_succ]
              go_big_quiet_on
              go_big_quiet_want
              refine ⟨(.bool false), fun wx hSx => ?_, ?_⟩
              · obtain ⟨⟨k0, k1, k2, k3, k4, k5, k6, k7, k8, k9, k10, k11⟩, -⟩ := hSx
                go_simp
                try first
                  | with_reducible rfl
                  | rw [if_neg (by omega)]
              simp only [Act.put, List.setIfInBounds_toArray, List.set_cons_zero, List.set_cons_succ]
              go_big_quiet_on
              go_big_quiet_want
              refine ⟨(.bool true), fun wx hSx => ?_, ?_⟩
              · obtain ⟨⟨k0, k1, k2, k3, k4, k5, k6, k7, k8, k9, k10, k11⟩, -⟩ := hSx
                go_simp
                try first
                  | with_reducible rfl
                  | rw [if_neg (by omega)]
              simp only [Act.put, List.setIfInBounds_toArray, List.set_cons_zero, List.set_cons_succ]
              go_big_quiet_on
              go_big_quiet_want
              refine ⟨(.bool true), fun wx hSx => ?_, ?_⟩
              · obtain ⟨⟨k0, k1, k2, k3, k4, k5, k6, k7, k8, k9, k10, k11⟩, -⟩ := hSx
                go_simp
                try first
                  | with_reducible rfl
                  | rw [if_neg (by omega)]
              simp only [Act.put, List.setIfInBounds_toArray, List.set_cons_zero, List.set_cons_succ]
              go_big_quiet_on
              go_big_quiet_want
              go_big_quiet_op
              go_big_quiet_on
              go_big_quiet_want
              go_big_quiet_op
              go_big_quiet_on
              go_big_quiet_want
              refine ⟨(.pointer (some ⟨g, 0, none⟩)), fun wx hSx => ?_, ?_⟩
              · obtain ⟨⟨k0, k1, k2, k3, k4, k5, k6, k7, k8, k9, k10, k11⟩, -⟩ := hSx
                go_simp
                try first
                  | with_reducible rfl
                  | rw [if_neg (by omega)]
              simp only [Act.put, List.setIfInBounds_toArray, List.set_cons_zero, List.set_cons_succ]
              go_big_quiet_on
              go_big_quiet_want
              refine ⟨(.bool false), fun wx hSx => ?_, ?_⟩
              · obtain ⟨⟨k0, k1, k2, k3, k4, k5, k6, k7, k8, k9, k10, k11⟩, -⟩ := hSx
                go_simp
                try first
                  | with_reducible rfl
                  | rw [if_neg (by omega)]
              simp only [Act.put, List.setIfInBounds_toArray, List.set_cons_zero, List.set_cons_succ]
              go_big_quiet_on
              go_big_quiet_want
              refine ⟨(valV ⟨1, an, ay⟩), fun wx hSx => ?_, ?_⟩
              · obtain ⟨⟨k0, k1, k2, k3, k4, k5, k6, k7, k8, k9, k10, k11⟩, -⟩ := hSx
                go_simp
                try first
                  | with_reducible rfl
                  | rw [if_neg (by omega)]
              simp only [Act.put, List.setIfInBounds_toArray, List.set_cons_zero, List.set_cons_succ]
              go_big_quiet_on
              go_big_quiet_want
              refine ⟨(valV ⟨1, bn, bz⟩), fun wx hSx => ?_, ?_⟩
              · obtain ⟨⟨k0, k1, k2, k3, k4, k5, k6, k7, k8, k9, k10, k11⟩, -⟩ := hSx
                go_simp
                try first
                  | with_reducible rfl
                  | rw [if_neg (by omega)]
              simp only [Act.put, List.setIfInBounds_toArray, List.set_cons_zero, List.set_cons_succ]
              go_big_quiet_on
              go_big_quiet_want
              refine ⟨(.bool false), fun wx hSx => ?_, ?_⟩
              · obtain ⟨⟨k0, k1, k2, k3, k4, k5, k6, k7, k8, k9, k10, k11⟩, -⟩ := hSx
                go_simp
                try first
                  | with_reducible rfl
                  | rw [if_neg (by omega)]
              simp only [Act.put, List.setIfInBounds_toArray, List.set_cons_zero, List.set_cons_succ]
              go_big_quiet_on
              go_big_quiet_want
              refine ⟨(.bool true), fun wx hSx => ?_, ?_⟩
              · obtain ⟨⟨k0, k1, k2, k3, k4, k5, k6, k7, k8, k9, k10, k11⟩, -⟩ := hSx
                go_simp
                try first
                  | with_reducible rfl
                  | rw [if_neg (by omega)]
              simp only [Act.put, List.setIfInBounds_toArray, List.set_cons_zero, List.set_cons_succ]
              go_big_quiet_on
              go_big_quiet_want
              refine ⟨(.bool true), fun wx hSx => ?_, ?_⟩
              · obtain ⟨⟨k0, k1, k2, k3, k4, k5, k6, k7, k8, k9, k10, k11⟩, -⟩ := hSx
                go_simp
                try first
                  | with_reducible rfl
                  | rw [if_neg (by omega)]
              simp only [Act.put, List.setIfInBounds_toArray, List.set_cons_zero, List.set_cons_succ]
              go_big_quiet_on
              go_big_quiet_want
              go_big_quiet_op
              go_big_quiet_on
              go_big_quiet_want
              refine ⟨(.bool true), fun wx hSx => ?_, ?_⟩
              · exact quietAt_call 14 #[] (by go_simp) ((HL.out wx (HBw.out.trans (hSx.2.out.mono HBw.out.size))).mono fun e w' hh => ⟨hh.1, ⟨(hh.2.cell (p := ⟨g, 0, none⟩) (World.block_lt_of_cell? _ _ hSx.1.1)).trans hSx.1.1, (hh.2.cell (p := ⟨g, 1, none⟩) (World.block_lt_of_cell? _ _ hSx.1.2.1)).trans hSx.1.2.1, (hh.2.cell (p := ⟨g, 2, none⟩) (World.block_lt_of_cell? _ _ hSx.1.2.2.1)).trans hSx.1.2.2.1, (hh.2.cell (p := ⟨g, 3, none⟩) (World.block_lt_of_cell? _ _ hSx.1.2.2.2.1)).trans hSx.1.2.2.2.1, (hh.2.cell (p := ⟨g, 4, none⟩) (World.block_lt_of_cell? _ _ hSx.1.2.2.2.2.1)).trans hSx.1.2.2.2.2.1, (hh.2.cell (p := ⟨g, 5, none⟩) (World.block_lt_of_cell? _ _ hSx.1.2.2.2.2.2.1)).trans hSx.1.2.2.2.2.2.1, (hh.2.cell (p := ⟨w.heap.size, 0, none⟩) (World.block_lt_of_cell? _ _ hSx.1.2.2.2.2.2.2.1)).trans hSx.1.2.2.2.2.2.2.1, (hh.2.cell (p := ⟨w.heap.size, 1, none⟩) (World.block_lt_of_cell? _ _ hSx.1.2.2.2.2.2.2.2.1)).trans hSx.1.2.2.2.2.2.2.2.1, (hh.2.cell (p := ⟨w.heap.size, 2, none⟩) (World.block_lt_of_cell? _ _ hSx.1.2.2.2.2.2.2.2.2.1)).trans hSx.1.2.2.2.2.2.2.2.2.1, (hh.2.cell (p := ⟨w.heap.size + 1, 0, none⟩) (World.block_lt_of_cell? _ _ hSx.1.2.2.2.2.2.2.2.2.2.1)).trans hSx.1.2.2.2.2.2.2.2.2.2.1, (hh.2.cell (p := ⟨w.heap.size + 1, 1, none⟩) (World.block_lt_of_cell? _ _ hSx.1.2.2.2.2.2.2.2.2.2.2.1)).trans hSx.1.2.2.2.2.2.2.2.2.2.2.1, (hh.2.cell (p := ⟨w.heap.size + 1, 2, none⟩) (World.block_lt_of_cell? _ _ hSx.1.2.2.2.2.2.2.2.2.2.2.2)).trans hSx.1.2.2.2.2.2.2.2.2.2.2.2⟩, Lib.hid (hSx.2.out.trans (hh.2.mono hSx.2.out.size))⟩)
              simp only [Act.put, List.setIfInBounds_toArray, List.set_cons_zero, List.set_cons_succ]
              go_big_quiet_on
              go_big_quiet_want
              refine ⟨(.bool true), fun wx hSx => ?_, ?_⟩
              · obtain ⟨⟨k0, k1, k2, k3, k4, k5, k6, k7, k8, k9, k10, k11⟩, -⟩ := hSx
                go_simp
                try first
                  | with_reducible rfl
                  | rw [if_neg (by omega)]
              simp only [Act.put, List.setIfInBounds_toArray, List.set_cons_zero, List.set_cons_succ]
              go_big_quiet_on
              refine wpQuiet_nil ?_
              rintro w9 ⟨-, hb9⟩
              go_wp2_with fail
              go_ret
              exact ⟨rfl, HBw.out.trans (hb9.out.mono HBw.out.size)⟩
        · obtain ⟨g, c', eg, hc⟩ := owL_cell (f := fBl) (fun _ _ => rfl) HG.out 0 (by decide)
          injection eg with eg _ _
          subst eg
          have c0 : wr.cell? ⟨g, 0, none⟩ = some (.bool false) := by
            obtain ⟨g2, c2, eg, hc⟩ := owL_cell (f := fBl) (fun _ _ => rfl) HG.out 0 (by decide)
            injection eg with eg _ _
            injection eg with eg
            injection eg with eg
            subst eg
            exact (hc 0 _ rfl).1
          have c1 : wr.cell? ⟨g, 1, none⟩ = some (.bool true) := by
            obtain ⟨g2, c2, eg, hc⟩ := owL_cell (f := fBl) (fun _ _ => rfl) HG.out 1 (by decide)
            injection eg with eg _ _
            injection eg with eg
            injection eg with eg
            subst eg
            exact (hc 0 _ rfl).1
          have c2 : wr.cell? ⟨g, 2, none⟩ = some (.bool false) := by
            obtain ⟨g2, c2, eg, hc⟩ := owL_cell (f := fBl) (fun _ _ => rfl) HG.out 2 (by decide)
            injection eg with eg _ _
            injection eg with eg
            injection eg with eg
            subst eg
            exact (hc 0 _ rfl).1
          have c3 : wr.cell? ⟨g, 3, none⟩ = some (.bool false) := by
            obtain ⟨g2, c2, eg, hc⟩ := owL_cell (f := fBl) (fun _ _ => rfl) HG.out 3 (by decide)
            injection eg with eg _ _
            injection eg with eg
            injection eg with eg
            subst eg
            exact (hc 0 _ rfl).1
          have c4 : wr.cell? ⟨g, 4, none⟩ = some (.bool true) := by
            obtain ⟨g2, c2, eg, hc⟩ := owL_cell (f := fBl) (fun _ _ => rfl) HG.out 4 (by decide)
            injection eg with eg _ _
            injection eg with eg
            injection eg with eg
            subst eg
            exact (hc 0 _ rfl).1
          have c5 : wr.cell? ⟨g, 5, none⟩ = some (.bool true) := by
            obtain ⟨g2, c2, eg, hc⟩ := owL_cell (f := fBl) (fun _ _ => rfl) HG.out 5 (by decide)
            injection eg with eg _ _
            injection eg with eg
            injection eg with eg
            subst eg
            exact (hc 0 _ rfl).1
          clear hc
          go_wp2_with fail
          go_loopw [10, 11] (fun one i w' => ∃ (j : Nat), one = .int .i64 (cntO [false, true, false, false, true, true] j) ∧ i = .int .i64 (j : Int) ∧ j ≤ 6 ∧ w' = wr) (fun _ i _ => (6 - intOf i).toNat)
          case atStart => exact ⟨0, rfl, rfl, by omega, rfl⟩
          case round =>
            obtain ⟨j, rfl, rfl, hj, rfl⟩ := hrel
            have hj7 : j = 0 ∨ j = 1 ∨ j = 2 ∨ j = 3 ∨ j = 4 ∨ j = 5 ∨ j = 6 := by omega
            rcases hj7 with rfl | rfl | rfl | rfl | rfl | rfl | rfl
            · rw [show cntO [false, true, false, false, true, true] 0 = 0 from rfl, show ((0 : Nat) : Int) = 0 from rfl]
              go_wp2_with fail
              go_roundw
              case rel => exact ⟨1, rfl, rfl, by omega, trivial⟩
              case measure => simp only [intOf]; omega
            · rw [show cntO [false, true, false, false, true, true] 1 = 0 from rfl, show ((1 : Nat) : Int) = 1 from rfl]
              go_wp2_with fail
              go_roundw
              case rel => exact ⟨2, rfl, rfl, by omega, trivial⟩
              case measure => simp only [intOf]; omega
            · rw [show cntO [false, true, false, false, true, true] 2 = 0 from rfl, show ((2 : Nat) : Int) = 2 from rfl]
              go_wp2_with fail
              go_roundw
              case rel => exact ⟨3, rfl, rfl, by omega, trivial⟩
              case measure => simp only [intOf]; omega
            · rw [show cntO [false, true, false, false, true, true] 3 = 0 from rfl, show ((3 : Nat) : Int) = 3 from rfl]
              go_wp2_with fail
              go_roundw
              case rel => exact ⟨4, rfl, rfl, by omega, trivial⟩
              case measure => simp only [intOf]; omega
            · rw [show cntO [false, true, false, false, true, true] 4 = 0 from rfl, show ((4 : Nat) : Int) = 4 from rfl]
              go_wp2_with fail
              go_roundw
              case rel => exact ⟨5, rfl, rfl, by omega, trivial⟩
              case measure => simp only [intOf]; omega
            · rw [show cntO [false, true, false, false, true, true] 5 = 1 from rfl, show ((5 : Nat) : Int) = 5 from rfl]
              go_wp2_with fail
              go_roundw
              case rel => exact ⟨6, rfl, rfl, by omega, trivial⟩
              case measure => simp only [intOf]; omega
            · rw [show cntO [false, true, false, false, true, true] 6 = 1 from rfl, show ((6 : Nat) : Int) = 6 from rfl]
              go_wp2_with fail
              have HQ := fun wx => eql_val ⟨1, an, ay⟩ ⟨1, bn, bz⟩ wx
              rw [show decide (_ = _) = false from H0.out.symm] at HQ
              refine wp_region_quiet_tail (C := fun wx => (wx.cell? ⟨g, 0, none⟩ = some (.bool false) ∧ wx.cell? ⟨g, 1, none⟩ = some (.bool true) ∧ wx.cell? ⟨g, 2, none⟩ = some (.bool false) ∧ wx.cell? ⟨g, 3, none⟩ = some (.bool false) ∧ wx.cell? ⟨g, 4, none⟩ = some (.bool true) ∧ wx.cell? ⟨g, 5, none⟩ = some (.bool true) ∧ wx.cell? ⟨w.heap.size, 0, none⟩ = some (.int .i64 1) ∧ wx.cell? ⟨w.heap.size, 1, none⟩ = some (.int .i64 an) ∧ wx.cell? ⟨w.heap.size, 2, none⟩ = some (.string ay) ∧ wx.cell? ⟨w.heap.size + 1, 0, none⟩ = some (.int .i64 1) ∧ wx.cell? ⟨w.heap.size + 1, 1, none⟩ = some (.int .i64 bn) ∧ wx.cell? ⟨w.heap.size + 1, 2, none⟩ = some (.string bz)) ∧ Hid (Below wr.heap.size wr wx)) 44 (by kernel_rfl) (by kernel_rfl) ⟨⟨c0, c1, c2, c3, c4, c5, x0, x1, x2, y0, y1, y2⟩, Lib.hid (Below.refl wr.heap.size wr).drew⟩ ?_
              simp only [List.take_succ_cons, List.take_zero, List.drop_succ_cons, List.drop_zero]
              go_big_quiet_want
              go_big_quiet_op
              go_big_quiet_on
              go_big_quiet_want
              refine ⟨(.bool true), fun wx hSx => ?_, ?_⟩
              · obtain ⟨⟨k0, k1, k2, k3, k4, k5, k6, k7, k8, k9, k10, k11⟩, -⟩ := hSx
                go_simp
                try first
                  | with_reducible rfl
                  | rw [if_neg (by omega)]
              simp only [Act.put, List.setIfInBounds_toArray, List.set_cons_zero, List.set_cons_succ]
              go_big_quiet_on
              go_big_quiet_want
              go_big_quiet_op
              go_big_quiet_on
              go_big_quiet_want
              go_big_quiet_op
              go_big_quiet_on
              go_big_quiet_want
              refine ⟨(.pointer (some ⟨g, 1, none⟩)), fun wx hSx => ?_, ?_⟩
              · obtain ⟨⟨k0, k1, k2, k3, k4, k5, k6, k7, k8, k9, k10, k11⟩, -⟩ := hSx
                go_simp
                try first
                  | with_reducible rfl
                  | rw [if_neg (by omega)]
              simp only [Act.put, List.setIfInBounds_toArray, List.set_cons_zero, List.set_cons_succ]
              go_big_quiet_on
              go_big_quiet_want
              refine ⟨(.bool true), fun wx hSx => ?_, ?_⟩
              · obtain ⟨⟨k0, k1, k2, k3, k4, k5, k6, k7, k8, k9, k10, k11⟩, -⟩ := hSx
                go_simp
                try first
                  | with_reducible rfl
                  | rw [if_neg (by omega)]
              simp only [Act.put, List.setIfInBounds_toArray, List.set_cons_zero, List.set_cons_succ]
              go_big_quiet_on
              go_big_quiet_want
              go_big_quiet_op
              go_big_quiet_on
              go_big_quiet_want
              refine ⟨(.pointer (some ⟨g, 0, none⟩)), fun wx hSx => ?_, ?_⟩
              · obtain ⟨⟨k0, k1, k2, k3, k4, k5, k6, k7, k8, k9, k10, k11⟩, -⟩ := hSx
                go_simp
                try first
                  | with_reducible rfl
                  | rw [if_neg (by omega)]
              simp only [Act.put, List.setIfInBounds_toArray, List.set_cons_zero, List.set_cons_succ]
              go_big_quiet_on
              go_big_quiet_want
              refine ⟨(.bool false), fun wx hSx => ?_, ?_⟩
              · obtain ⟨⟨k0, k1, k2, k3, k4, k5, k6, k7, k8, k9, k10, k11⟩, -⟩ := hSx
                go_simp
                try first
                  | with_reducible rfl
                  | rw [if_neg (by omega)]
              simp only [Act.put, List.setIfInBounds_toArray, List.set_cons_zero, List.set_cons_succ]
              go_big_quiet_on
              go_big_quiet_want
              refine ⟨(.bool true), fun wx hSx => ?_, ?_⟩
              · obtain ⟨⟨k0, k1, k2, k3, k4, k5, k6, k7, k8, k9, k10, k11⟩, -⟩ := hSx
                go_simp
                try first
                  | with_reducible rfl
                  | rw [if_neg (by omega)]
              simp only [Act.put, List.setIfInBounds_toArray, List.set_cons_zero, List.set_cons_succ]
              go_big_quiet_on
              go_big_quiet_want
              refine ⟨(.bool true), fun wx hSx => ?_, ?_⟩
              · obtain ⟨⟨k0, k1, k2, k3, k4, k5, k6, k7, k8, k9, k10, k11⟩, -⟩ := hSx
                go_simp
                try first
                  | with_reducible rfl
                  | rw [if_neg (by omega)]
              simp only [Act.put, List.setIfInBounds_toArray, List.set_cons_zero, List.set_cons_succ]
              go_big_quiet_on
              go_big_quiet_want
              refine ⟨(.bool true), fun wx hSx => ?_, ?_⟩
              · obtain ⟨⟨k0, k1, k2, k3, k4, k5, k6, k7, k8, k9, k10, k11⟩, -⟩ := hSx
                go_simp
                try first
                  | with_reducible rfl
                  | rw [if_neg (by omega)]
              simp only [Act.put, List.setIfInBounds_toArray, List.set_cons_zero, List.set_cons_succ]
              go_big_quiet_on
              go_big_quiet_want
              go_big_quiet_op
              go_big_quiet_on
              go_big_quiet_want
              go_big_quiet_op
              go_big_quiet_on
              go_big_quiet_want
              refine ⟨(.pointer (some ⟨g, 3, none⟩)), fun wx hSx => ?_, ?_⟩
              · obtain ⟨⟨k0, k1, k2, k3, k4, k5, k6, k7, k8, k9, k10, k11⟩, -⟩ := hSx
                go_simp
                try first
                  | with_reducible rfl
                  | rw [if_neg (by omega)]
              simp only [Act.put, List.setIfInBounds_toArray, List.set_cons_zero, List.set_cons_succ]
              go_big_quiet_on
              go_big_quiet_want
              refine ⟨(.bool false), fun wx hSx => ?_, ?_⟩
              · obtain ⟨⟨k0, k1, k2, k3, k4, k5, k6, k7, k8, k9, k10, k11⟩, -⟩ := hSx
                go_simp
                try first
                  | with_reducible rfl
                  | rw [if_neg (by omega)]
              simp only [Act.put, List.setIfInBounds_toArray, List.set_cons_zero, List.set_cons_succ]
              go_big_quiet_on
              go_big_quiet_want
              go_big_quiet_op
              go_big_quiet_on
              go_big_quiet_want
              refine ⟨(.pointer (some ⟨g, 4, none⟩)), fun wx hSx => ?_, ?_⟩
              · obtain ⟨⟨k0, k1, k2, k3, k4, k5, k6, k7, k8, k9, k10, k11⟩, -⟩ := hSx
                go_simp
                try first
                  | with_reducible rfl
                  | rw [if_neg (by omega)]
              simp only [Act.put, List.setIfInBounds_toArray, List.set_cons_zero, List.set_cons_succ]
              go_big_quiet_on
              go_big_quiet_want
              refine ⟨(.bool true), fun wx hSx => ?_, ?_⟩
              · obtain ⟨⟨k0, k1, k2, k3, k4, k5, k6, k7, k8, k9, k10, k11⟩, -⟩ := hSx
                go_simp
                try first
                  | with_reducible rfl
                  | rw [if_neg (by omega)]
              simp only [Act.put, List.setIfInBounds_toArray, List.set_cons_zero, List.set_cons_succ]
              go_big_quiet_on
              go_big_quiet_want
              refine ⟨(.bool false), fun wx hSx => ?_, ?_⟩
              · obtain ⟨⟨k0, k1, k2, k3, k4, k5, k6, k7, k8, k9, k10, k11⟩, -⟩ := hSx
                go_simp
                try first
                  | with_reducible rfl
                  | rw [if_neg (by omega)]
              simp only [Act.put, List.setIfInBounds_toArray, List.set_cons_zero, List.set_cons_succ]
              go_big_quiet_on
              go_big_quiet_want
              refine ⟨(.bool true), fun wx hSx => ?_, ?_⟩
              · obtain ⟨⟨k0, k1, k2, k3, k4, k5, k6, k7, k8, k9, k10, k11⟩, -⟩ := hSx
                go_simp
                try first
                  | with_reducible rfl
                  | rw [if_neg (by omega)]
              simp only [Act.put, List.setIfInBounds_toArray, List.set_cons_zero, List.set_cons_succ]
              go_big_quiet_on
              go_big_quiet_want
              refine ⟨(.bool true), fun wx hSx => ?_, ?_⟩
              · obtain ⟨⟨k0, k1, k2, k3, k4, k5, k6, k7, k8, k9, k10, k11⟩, -⟩ := hSx
                go_simp
                try first
                  | with_reducible rfl
                  | rw [if_neg (by omega)]
              simp only [Act.put, List.setIfInBounds_toArray, List.set_cons_zero, List.set_cons_succ]
              go_big_quiet_on
              go_big_quiet_want
              go_big_quiet_op
              go_big_quiet_on
              go_big_quiet_want
              go_big_quiet_op
              go_big_quiet_on
              go_big_quiet_want
              refine ⟨(.pointer (some ⟨g, 5, none⟩)), fun wx hSx => ?_, ?_⟩
              · obtain ⟨⟨k0, k1, k2, k3, k4, k5, k6, k7, k8, k9, k10, k11⟩, -⟩ := hSx
                go_simp
                try first
                  | with_reducible rfl
                  | rw [if_neg (by omega)]
              simp only [Act.put, List.setIfInBounds_toArray, List.set_cons_zero, List.set_cons_succ]
              go_big_quiet_on
              go_big_quiet_want
              refine ⟨(.bool true), fun wx hSx => ?_, ?_⟩
              · obtain ⟨⟨k0, k1, k2, k3, k4, k5, k6, k7, k8, k9, k10, k11⟩, -⟩ := hSx
                go_simp
                try first
                  | with_reducible rfl
                  | rw [if_neg (by omega)]
              simp only [Act.put, List.setIfInBounds_toArray, List.set_cons_zero, List.set_cons_succ]
              go_big_quiet_on
              go_big_quiet_want
              go_big_quiet_op
              go_big_quiet_on
              go_big_quiet_want
              refine ⟨(.pointer (some ⟨g, 2, none⟩)), fun wx hSx => ?_, ?_⟩
              · obtain ⟨⟨k0, k1, k2, k3, k4, k5, k6, k7, k8, k9, k10, k11⟩, -⟩ := hSx
                go_simp
                try first
                  | with_reducible rfl
                  | rw [if_neg (by omega)]
              simp only [Act.put, List.setIfInBounds_toArray, List.set_cons_zero, List.set_cons_succ]
              go_big_quiet_on
              go_big_quiet_want
              refine ⟨(.bool false), fun wx hSx => ?_, ?_⟩
              · obtain ⟨⟨k0, k1, k2, k3, k4, k5, k6, k7, k8, k9, k10, k11⟩, -⟩ := hSx
                go_simp
                try first
                  | with_reducible rfl
                  | rw [if_neg (by omega)]
              simp only [Act.put, List.setIfInBounds_toArray, List.set_cons_zero, List.set_cons_succ]
              go_big_quiet_on
              go_big_quiet_want
              refine ⟨(.bool true), fun wx hSx => ?_, ?_⟩
              · obtain ⟨⟨k0, k1, k2, k3, k4, k5, k6, k7, k8, k9, k10, k11⟩, -⟩ := hSx
                go_simp
                try first
                  | with_reducible rfl
                  | rw [if_neg (by omega)]
              simp only [Act.put, List.setIfInBounds_toArray, List.set_cons_zero, List.set_cons_succ]
              go_big_quiet_on
              go_big_quiet_want
              refine ⟨(.bool true), fun wx hSx => ?_, ?_⟩
              · obtain ⟨⟨k0, k1, k2, k3, k4, k5, k6, k7, k8, k9, k10, k11⟩, -⟩ := hSx
                go_simp
                try first
                  | with_reducible rfl
                  | rw [if_neg (by omega)]
              simp only [Act.put, List.setIfInBounds_toArray, List.set_cons_zero, List.set_cons_succ]
              go_big_quiet_on
              go_big_quiet_want
              refine ⟨(.bool true), fun wx hSx => ?_, ?_⟩
              · obtain ⟨⟨k0, k1, k2, k3, k4, k5, k6, k7, k8, k9, k10, k11⟩, -⟩ := hSx
                go_simp
                try first
                  | with_reducible rfl
                  | rw [if_neg (by omega)]
              simp only [Act.put, List.setIfInBounds_toArray, List.set_cons_zero, List.set_cons_succ]
              go_big_quiet_on
              go_big_quiet_want
              go_big_quiet_op
              go_big_quiet_on
              go_big_quiet_want
              go_big_quiet_op
              go_big_quiet_on
              go_big_quiet_want
              refine ⟨(.pointer (some ⟨g, 0, none⟩)), fun wx hSx => ?_, ?_⟩
              · obtain ⟨⟨k0, k1, k2, k3, k4, k5, k6, k7, k8, k9, k10, k11⟩, -⟩ := hSx
                go_simp
                try first
                  | with_reducible rfl
                  | rw [if_neg (by omega)]
              simp only [Act.put, List.setIfInBounds_toArray, List.set_cons_zero, List.set_cons_succ]
              go_big_quiet_on
              go_big_quiet_want
              refine ⟨(.bool false), fun wx hSx => ?_, ?_⟩
              · obtain ⟨⟨k0, k1, k2, k3, k4, k5, k6, k7, k8, k9, k10, k11⟩, -⟩ := hSx
                go_simp
                try first
                  | with_reducible rfl
                  | rw [if_neg (by omega)]
              simp only [Act.put, List.setIfInBounds_toArray, List.set_cons_zero, List.set_cons_succ]
              go_big_quiet_on
              go_big_quiet_want
              refine ⟨(valV ⟨1, an, ay⟩), fun wx hSx => ?_, ?_⟩
              · obtain ⟨⟨k0, k1, k2, k3, k4, k5, k6, k7, k8, k9, k10, k11⟩, -⟩ := hSx
                go_simp
                try first
                  | with_reducible rfl
                  | rw [if_neg (by omega)]
              simp only [Act.put, List.setIfInBounds_toArray, List.set_cons_zero, List.set_cons_succ]
              go_big_quiet_on
              go_big_quiet_want
              refine ⟨(valV ⟨1, bn, bz⟩), fun wx hSx => ?_, ?_⟩
              · obtain ⟨⟨k0, k1, k2, k3, k4, k5, k6, k7, k8, k9, k10, k11⟩, -⟩ := hSx
                go_simp
                try first
                  | with_reducible rfl
                  | rw [if_neg (by omega)]
              simp only [Act.put, List.setIfInBounds_toArray, List.set_cons_zero, List.set_cons_succ]
              go_big_quiet_on
              go_big_quiet_want
              refine ⟨(.bool false), fun wx hSx => ?_, ?_⟩
              · obtain ⟨⟨k0, k1, k2, k3, k4, k5, k6, k7, k8, k9, k10, k11⟩, -⟩ := hSx
                go_simp
                try first
                  | with_reducible rfl
                  | rw [if_neg (by omega)]
              simp only [Act.put, List.setIfInBounds_toArray, List.set_cons_zero, List.set_cons_succ]
              go_big_quiet_on
              go_big_quiet_want
              refine ⟨(.bool true), fun wx hSx => ?_, ?_⟩
              · obtain ⟨⟨k0, k1, k2, k3, k4, k5, k6, k7, k8, k9, k10, k11⟩, -⟩ := hSx
                go_simp
                try first
                  | with_reducible rfl
                  | rw [if_neg (by omega)]
              simp only [Act.put, List.setIfInBounds_toArray, List.set_cons_zero, List.set_cons_succ]
              go_big_quiet_on
              go_big_quiet_want
              refine ⟨(.bool true), fun wx hSx => ?_, ?_⟩
              · obtain ⟨⟨k0, k1, k2, k3, k4, k5, k6, k7, k8, k9, k10, k11⟩, -⟩ := hSx
                go_simp
                try first
                  | with_reducible rfl
                  | rw [if_neg (by omega)]
              simp only [Act.put, List.setIfInBounds_toArray, List.set_cons_zero, List.set_cons_succ]
              go_big_quiet_on
              go_big_quiet_want
              go_big_quiet_op
              go_big_quiet_on
              go_big_quiet_want
              refine ⟨(.bool true), fun wx hSx => ?_, ?_⟩
              · exact quietAt_call 14 #[] (by go_simp) ((HL.out wx (HBw.out.trans (hSx.2.out.mono HBw.out.size))).mono fun e w' hh => ⟨hh.1, ⟨(hh.2.cell (p := ⟨g, 0, none⟩) (World.block_lt_of_cell? _ _ hSx.1.1)).trans hSx.1.1, (hh.2.cell (p := ⟨g, 1, none⟩) (World.block_lt_of_cell? _ _ hSx.1.2.1)).trans hSx.1.2.1, (hh.2.cell (p := ⟨g, 2, none⟩) (World.block_lt_of_cell? _ _ hSx.1.2.2.1)).trans hSx.1.2.2.1, (hh.2.cell (p := ⟨g, 3, none⟩) (World.block_lt_of_cell? _ _ hSx.1.2.2.2.1)).trans hSx.1.2.2.2.1, (hh.2.cell (p := ⟨g, 4, none⟩) (World.block_lt_of_cell? _ _ hSx.1.2.2.2.2.1)).trans hSx.1.2.2.2.2.1, (hh.2.cell (p := ⟨g, 5, none⟩) (World.block_lt_of_cell? _ _ hSx.1.2.2.2.2.2.1)).trans hSx.1.2.2.2.2.2.1, (hh.2.cell (p := ⟨w.heap.size, 0, none⟩) (World.block_lt_of_cell? _ _ hSx.1.2.2.2.2.2.2.1)).trans hSx.1.2.2.2.2.2.2.1, (hh.2.cell (p := ⟨w.heap.size, 1, none⟩) (World.block_lt_of_cell? _ _ hSx.1.2.2.2.2.2.2.2.1)).trans hSx.1.2.2.2.2.2.2.2.1, (hh.2.cell (p := ⟨w.heap.size, 2, none⟩) (World.block_lt_of_cell? _ _ hSx.1.2.2.2.2.2.2.2.2.1)).trans hSx.1.2.2.2.2.2.2.2.2.1, (hh.2.cell (p := ⟨w.heap.size + 1, 0, none⟩) (World.block_lt_of_cell? _ _ hSx.1.2.2.2.2.2.2.2.2.2.1)).trans hSx.1.2.2.2.2.2.2.2.2.2.1, (hh.2.cell (p := ⟨w.heap.size + 1, 1, none⟩) (World.block_lt_of_cell? _ _ hSx.1.2.2.2.2.2.2.2.2.2.2.1)).trans hSx.1.2.2.2.2.2.2.2.2.2.2.1, (hh.2.cell (p := ⟨w.heap.size + 1, 2, none⟩) (World.block_lt_of_cell? _ _ hSx.1.2.2.2.2.2.2.2.2.2.2.2)).trans hSx.1.2.2.2.2.2.2.2.2.2.2.2⟩, Lib.hid (hSx.2.out.trans (hh.2.mono hSx.2.out.size))⟩)
              simp only [Act.put, List.setIfInBounds_toArray, List.set_cons_zero, List.set_cons_succ]
              go_big_quiet_on
              go_big_quiet_want
              refine ⟨(.bool true), fun wx hSx => ?_, ?_⟩
              · obtain ⟨⟨k0, k1, k2, k3, k4, k5, k6, k7, k8, k9, k10, k11⟩, -⟩ := hSx
                go_simp
                try first
                  | with_reducible rfl
                  | rw [if_neg (by omega)]
              simp only [Act.put, List.setIfInBounds_toArray, List.set_cons_zero, List.set_cons_succ]
              go_big_quiet_on
              refine wpQuiet_nil ?_
              rintro w9 ⟨-, hb9⟩
              go_wp2_with fail
              go_ret
              exact ⟨rfl, HBw.out.trans (hb9.out.mono HBw.out.size)⟩
end Go.Proofs.YtmkllibfblacfaaGreatDoor
