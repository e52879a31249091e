/-
  Layer 16's laws: expressions that the statements make.
-/
import Derived.Test.YtmkllibfblacfaaGreatDoorZTypMake
import Derived.Test.YtmkllibfblacfaaGreatDoorZEvEval
namespace Go.Proofs.YtmkllibfblacfaaGreatDoor
open Go.RowKit Go.Shelf
open Sx (X)
open Vl (V)
attribute [local go_sem] Oper.semAt_some
set_option maxRecDepth 100000 in
theorem val16_any (v : V) (w : World) : Calls Tryz.prog 25 #[.agg #[.int .i64 v.kind, .int .i64 v.n, .string v.s]] w fun e w' => e = .returned (xV (.mk 1 v Vl.mt []) none 0) ∧ Below w.heap.size w w' := by
  have hb := (Below.refl w.heap.size w).alloc (Nat.le_refl _) (.cells #[.int .i64 v.kind, .int .i64 v.n, .string v.s] 31)
  obtain ⟨k, n, s⟩ := v
  dsimp only at hb ⊢
  go_enter Tryz.func25, Tryz.ntmps25
  go_wp2_with fail
  have hx := x_new (X.mk 1 ⟨k, n, s⟩ Vl.mt []) none 0 (w.alloc (.cells #[.int .i64 k, .int .i64 n, .string s] 31))
  rw [World.size_alloc] at hx
  exact bodyPost_ret (v := xV (.mk 1 ⟨k, n, s⟩ Vl.mt []) none 0) (results_x (p := 2) rfl _ _ (w.heap.size + 1) (.mk 1 ⟨k, n, s⟩ Vl.mt []) none 0 rfl hx.1) rfl ⟨rfl, hb.trans (hx.2.1.mono (by omega))⟩
set_option maxRecDepth 100000 in
theorem num16_any (n : Int) (w : World) : Calls Tryz.prog 24 #[.int .i64 n] w fun e w' => e = .returned (xV (.mk 1 ⟨1, n, Vl.mt⟩ Vl.mt []) none 0) ∧ Below w.heap.size w w' := by
  have hx := x_new Sx.no none 0 w
  have HV := Lib.hid fun wx => val16_any ⟨1, n, Vl.mt⟩ wx
  have HX := Lib.hid hx
  clear hx
  go_enter Tryz.func24, Tryz.ntmps24
  go_wp2_with fail
  refine (HV.out _).mono ?_
  rintro e w2 ⟨rfl, hb2⟩
  have hr2 := rowV_below HX.out.1 hb2 (rowV_lt HX.out.1)
  have z0 := rowV_cell hr2 0
  have z1 := rowV_cell hr2 1
  have z2 := rowV_cell hr2 2
  have z3 := rowV_cell hr2 3
  have z4 := rowV_cell hr2 4
  have z5 := rowV_cell hr2 5
  have f0 := rowV_frozen hr2 0
  have f1 := rowV_frozen hr2 1
  have f2 := rowV_frozen hr2 2
  have f3 := rowV_frozen hr2 3
  have f4 := rowV_frozen hr2 4
  have f5 := rowV_frozen hr2 5
  simp only [List.getElem?_cons_zero, List.getElem?_cons_succ] at z0 z1 z2 z3 z4 z5
  have hp := x_put hr2 1 1 n Vl.mt Vl.mt none 0 0
  have hB := HX.out.2.1.trans (hb2.mono HX.out.2.1.size)
  have HB := Lib.hid (And.intro hp.1 (hB.trans ((hp.2 (fun k => k = w.heap.size) rfl).below (fun k hk e => by have e : k = w.heap.size := e; omega) hB.size)))
  clear hb2 hr2 hp hB
  go_wp2_with fail
  exact bodyPost_ret (v := xV (.mk 1 ⟨1, n, Vl.mt⟩ Vl.mt []) none 0) (results_x (p := 2) rfl _ _ w.heap.size (.mk 1 ⟨1, n, Vl.mt⟩ Vl.mt []) none 0 rfl HB.out.1) rfl ⟨rfl, HB.out.2⟩
set_option maxRecDepth 100000 in
theorem two16_any (op : Int) (x y : X) (a b : Option Addr) (c d : Nat) (w : World) : Calls Tryz.prog 17 #[.int .i64 op, xV x a c, xV y b d] w (TwoP op x y a b w) := by
  go_enter Tryz.func17, Tryz.ntmps17
  go_wp2_with fail
  obtain ⟨W2, hW2⟩ : ∃ W2, (w.alloc (.cells (xC x a c) 43)).alloc (.cells (xC y b d) 43) = W2 := ⟨_, rfl⟩
  have hb2 : Below w.heap.size w W2 := by rw [← hW2]; exact ((Below.refl w.heap.size w).alloc (Nat.le_refl _) _).alloc (by simp) _
  have hs2 : W2.heap.size = w.heap.size + 2 := by rw [← hW2, World.size_alloc, World.size_alloc]
  rw [hW2]
  have hx := x_new (X.mk op Vl.no Vl.mt [x, y]) (some ⟨w.heap.size + 1 + 1 + 1, 0, none⟩) 2 W2
  obtain ⟨W3, hW3⟩ : ∃ W3, W2.alloc (.cells (xC (.mk op Vl.no Vl.mt [x, y]) (some ⟨w.heap.size + 1 + 1 + 1, 0, none⟩) 2) 43) = W3 := ⟨_, rfl⟩
  have hr := rowV_new W3 43 ((xC x a c).toList ++ (xC y b d).toList)
  have hb4 := (Below.refl W3.heap.size W3).alloc (Nat.le_refl _) (.cells ((xC x a c).toList ++ (xC y b d).toList).toArray 43)
  rw [hW3] at hx
  have hs3 : W3.heap.size = w.heap.size + 3 := by rw [hx.2.2, hs2]
  have hb3 := hb2.trans (hx.2.1.mono (by omega))
  have hb5 := hb3.trans (hb4.mono (by omega))
  have hx4 := rowV_below hx.1 hb4 (rowV_lt hx.1)
  rw [hs2] at hx4
  rw [hs3] at hr
  refine bodyPost_ret (v := xV (.mk op Vl.no Vl.mt [x, y]) (some ⟨w.heap.size + 1 + 1 + 1, 0, none⟩) 2) (results_x (p := 6) rfl _ _ (w.heap.size + 1 + 1) (.mk op Vl.no Vl.mt [x, y]) (some ⟨w.heap.size + 1 + 1 + 1, 0, none⟩) 2 rfl ?_) rfl ⟨_, rfl, ?_, fun h1 h2 => ?_⟩
  · rw [← hW3] at hx4; exact hx4
  · rw [← hW3] at hb5; exact hb5
  · have h := xu_two hr (xu_below h1 hb5) (xu_below h2 hb5) op Vl.no Vl.mt
    rw [← hW3] at h; exact h
end Go.Proofs.YtmkllibfblacfaaGreatDoor
