/-
  Layer 16's laws: EvalOrder, walked.
-/
import Derived.Test.YtmkllibfblacfaaGreatDoorZEvOrdW1
import Derived.Test.YtmkllibfblacfaaGreatDoorZEvOrdW2
namespace Go.Proofs.YtmkllibfblacfaaGreatDoor
open Go.RowKit Go.Shelf
open Vl (V)
attribute [local go_sem] Oper.semAt_some
set_option maxRecDepth 100000 in
set_option maxHeartbeats 3200000 in
theorem EvalOrder_walk (a b : V) (fa : Fits a) (fb : Fits b) (w : World) (hF : Facts13 w) : Calls Tryz.prog 4 #[valV a, valV b] w fun e w' => e = .returned (.bool true) ∧ Below w.heap.size w w' := by
  by_cases hok : a.kind = b.kind ∧ (a.kind = 1 ∨ a.kind = 2) ∧ Vl.right a ∧ Vl.right b
  · obtain ⟨hk, h12, hra, hrb⟩ := hok
    rcases h12 with h | h
    · exact ordK_1 a b h (hk ▸ h) hra hrb fa fb w hF
    · exact ordK_2 a b h (hk ▸ h) hra hrb fa fb w hF
  have HL := Lib.hid fun (wx : World) (hb : Below w.heap.size w wx) => lives16_any wx (errR_below hF.2 hb)
  obtain ⟨W3, hW3⟩ : ∃ W3, ((w.alloc (.cells (valC a) 31)).alloc (.cells (valC b) 31)).alloc (.cells #[.string ⟨#[97]⟩, .int .i64 0, .slice none 0 0, .string ⟨#[98]⟩, .int .i64 0, .slice none 0 0] 34) = W3 := ⟨_, rfl⟩
  have hb3 : Below w.heap.size w W3 := by rw [← hW3]; exact (((Below.refl w.heap.size w).alloc (Nat.le_refl _) _).alloc (by simp) _).alloc (by simp; omega) _
  have hx3 : RowV W3 w.heap.size 31 (valC a).toList := by rw [← hW3]; exact rowV_alloc (rowV_alloc (rowV_new w _ _) _) _
  have hy3 : RowV W3 (w.heap.size + 1) 31 (valC b).toList := by
    rw [← hW3]
    have h := rowV_new (w.alloc (.cells (valC a) 31)) 31 (valC b).toList
    rw [World.size_alloc] at h
    exact rowV_alloc h _
  have z0 := rowV_cell hx3 0
  have z1 := rowV_cell hx3 1
  have z2 := rowV_cell hx3 2
  have y0 := rowV_cell hy3 0
  have y1 := rowV_cell hy3 1
  have y2 := rowV_cell hy3 2
  simp only [List.getElem?_cons_zero, List.getElem?_cons_succ] at z0 z1 z2 y0 y1 y2
  have HK := Lib.hid (And.intro (check12_any a) (check12_any b))
  have H3 := Lib.hid (And.intro hb3 hy3)
  clear hb3 hx3 hy3 hF fa fb
  by_cases hk : a.kind = b.kind
  · by_cases h12 : a.kind = 1 ∨ a.kind = 2
    · have hk2 : (a.kind = 1 ∧ b.kind = 1) ∨ (a.kind = 2 ∧ b.kind = 2) := by omega
      have hks : Hid (a.kind = b.kind) := Lib.hid hk
      by_cases hra : Vl.right a
      · have hrb : ¬ Vl.right b := fun h => hok ⟨hk, h12, hra, h⟩
        rw [checkE_ok hra, checkE_bad hrb] at HK
        clear hok hk h12 hra hrb
        obtain ⟨ak, an, ay⟩ := a
        obtain ⟨bk, bn, bz⟩ := b
        dsimp only at hk2 z0 z1 z2 y0 y1 y2
        rcases hk2 with ⟨rfl, rfl⟩ | ⟨rfl, rfl⟩
        · go_enter Tryz.func4, Tryz.ntmps4
          go_wp2_with fail
          clear hW3
          refine (HK.out.1 _).mono ?_
          rintro e w4 ⟨rfl, hb4⟩
          have hy4 := rowV_below H3.out.2 hb4 (rowV_lt H3.out.2)
          have HB4 := Lib.hid (H3.out.1.trans (hb4.mono H3.out.1.size))
          clear z0 z1 z2 y0 y1 y2
          have y0 := rowV_cell hy4 0
          have y1 := rowV_cell hy4 1
          have y2 := rowV_cell hy4 2
          simp only [List.getElem?_cons_zero, List.getElem?_cons_succ] at y0 y1 y2
          clear hb4 hy4
          go_wp2_with fail
          refine (HK.out.2 _).mono ?_
          rintro e w5 ⟨rfl, hb5⟩
          have HB5 := Lib.hid (HB4.out.trans (hb5.mono HB4.out.size))
          clear hb5 y0 y1 y2
          go_wp2_with fail
          refine (HL.out _ HB5.out).mono ?_
          rintro e w6 ⟨rfl, hb6⟩
          have HE := Lib.hid (HB5.out.trans (hb6.mono HB5.out.size))
          clear hb6
          go_wp2_with fail
          go_ret
          exact ⟨rfl, HE.out⟩
        · go_enter Tryz.func4, Tryz.ntmps4
          go_wp2_with fail
          clear hW3
          refine (HK.out.1 _).mono ?_
          rintro e w4 ⟨rfl, hb4⟩
          have hy4 := rowV_below H3.out.2 hb4 (rowV_lt H3.out.2)
          have HB4 := Lib.hid (H3.out.1.trans (hb4.mono H3.out.1.size))
          clear z0 z1 z2 y0 y1 y2
          have y0 := rowV_cell hy4 0
          have y1 := rowV_cell hy4 1
          have y2 := rowV_cell hy4 2
          simp only [List.getElem?_cons_zero, List.getElem?_cons_succ] at y0 y1 y2
          clear hb4 hy4
          go_wp2_with fail
          refine (HK.out.2 _).mono ?_
          rintro e w5 ⟨rfl, hb5⟩
          have HB5 := Lib.hid (HB4.out.trans (hb5.mono HB4.out.size))
          clear hb5 y0 y1 y2
          go_wp2_with fail
          refine (HL.out _ HB5.out).mono ?_
          rintro e w6 ⟨rfl, hb6⟩
          have HE := Lib.hid (HB5.out.trans (hb6.mono HB5.out.size))
          clear hb6
          go_wp2_with fail
          go_ret
          exact ⟨rfl, HE.out⟩
      · rw [checkE_bad hra] at HK
        clear hok hk h12 hra
        obtain ⟨ak, an, ay⟩ := a
        obtain ⟨bk, bn, bz⟩ := b
        dsimp only at hk2 z0 z1 z2 y0 y1 y2
        rcases hk2 with ⟨rfl, rfl⟩ | ⟨rfl, rfl⟩
        · go_enter Tryz.func4, Tryz.ntmps4
          go_wp2_with fail
          clear hW3
          refine (HK.out.1 _).mono ?_
          rintro e w4 ⟨rfl, hb4⟩
          have HB4 := Lib.hid (H3.out.1.trans (hb4.mono H3.out.1.size))
          clear hb4
          go_wp2_with fail
          refine (HL.out _ HB4.out).mono ?_
          rintro e w5 ⟨rfl, hb5⟩
          have HE := Lib.hid (HB4.out.trans (hb5.mono HB4.out.size))
          clear hb5
          go_wp2_with fail
          go_ret
          exact ⟨rfl, HE.out⟩
        · go_enter Tryz.func4, Tryz.ntmps4
          go_wp2_with fail
          clear hW3
          refine (HK.out.1 _).mono ?_
          rintro e w4 ⟨rfl, hb4⟩
          have HB4 := Lib.hid (H3.out.1.trans (hb4.mono H3.out.1.size))
          clear hb4
          go_wp2_with fail
          refine (HL.out _ HB4.out).mono ?_
          rintro e w5 ⟨rfl, hb5⟩
          have HE := Lib.hid (HB4.out.trans (hb5.mono HB4.out.size))
          clear hb5
          go_wp2_with fail
          go_ret
          exact ⟨rfl, HE.out⟩
    · have t1 : ¬ a.kind = 1 := by omega
      have t2 : ¬ a.kind = 2 := by omega
      clear hok h12
      obtain ⟨ak, an, ay⟩ := a
      obtain ⟨bk, bn, bz⟩ := b
      dsimp only at hk t1 t2 z0 z1 z2 y0 y1 y2
      subst hk
      go_enter Tryz.func4, Tryz.ntmps4
      go_wp2_with fail
      clear hW3
      refine (HL.out _ H3.out.1).mono ?_
      rintro e w4 ⟨rfl, hb4⟩
      have HE := Lib.hid (H3.out.1.trans (hb4.mono H3.out.1.size))
      clear hb4
      go_wp2_with fail
      go_ret
      exact ⟨rfl, HE.out⟩
  · have t1 : ¬ a.kind = b.kind := hk
    clear hok hk
    obtain ⟨ak, an, ay⟩ := a
    obtain ⟨bk, bn, bz⟩ := b
    dsimp only at t1 z0 z1 z2 y0 y1 y2
    go_enter Tryz.func4, Tryz.ntmps4
    go_wp2_with fail
    clear hW3
    refine (HL.out _ H3.out.1).mono ?_
    rintro e w4 ⟨rfl, hb4⟩
    have HE := Lib.hid (H3.out.1.trans (hb4.mono H3.out.1.size))
    clear hb4
    go_wp2_with fail
    go_ret
    exact ⟨rfl, HE.out⟩
end Go.Proofs.YtmkllibfblacfaaGreatDoor
