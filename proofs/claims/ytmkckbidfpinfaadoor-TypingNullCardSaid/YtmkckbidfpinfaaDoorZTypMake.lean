/-
  Layer 15's laws: expressions that the statements make; lives.
-/
import Derived.Test.YtmkckbidfpinfaaDoorZTypKind
import Derived.Test.YtmkckbidfpinfaaDoorZTypColR
import Derived.Test.YtmkckbidfpinfaaDoorZSynLives
import Derived.Test.YtmkckbidfpinfaaDoorPk4
namespace Go.Proofs.YtmkckbidfpinfaaDoor
open Go.RowKit Go.Shelf
open Sx (X)
attribute [local go_sem] Oper.semAt_some
theorem xu_leaf (w : World) (op : Int) (v : Vl.V) (s : ByteArray) (a : Option Addr) : XU w (.mk op v s []) a := by unfold XU; rw [XAt]; exact .inl rfl
/-- of two, in a new row -/
theorem xu_two {w : World} {g : Nat} {x y : X} {a b : Option Addr} {c d : Nat} (hr : RowV w g 36 ((xC x a c).toList ++ (xC y b d).toList)) (hx : XU w x a) (hy : XU w y b) (op : Int) (v : Vl.V) (s : ByteArray) : XU w (.mk op v s [x, y]) (some ⟨g, 0, none⟩) := by
  unfold XU
  rw [XAt]
  refine .inr ⟨g, 0, rfl, ⟨_, _, hr⟩, ?_⟩
  rw [LAt, LAt, LAt]
  exact ⟨⟨a, c, ⟨rowV_cell hr 0, rowV_cell hr 1, rowV_cell hr 2, rowV_cell hr 3, rowV_cell hr 4, rowV_cell hr 5⟩, hx⟩, ⟨b, d, ⟨rowV_cell hr 6, rowV_cell hr 7, rowV_cell hr 8, rowV_cell hr 9, rowV_cell hr 10, rowV_cell hr 11⟩, hy⟩, trivial⟩
set_option maxRecDepth 100000 in
theorem name15_any (s : ByteArray) (w : World) : Calls Tryd.prog 23 #[.string s] w fun e w' => e = .returned (xV (.mk 2 Vl.no s []) none 0) ∧ Below w.heap.size w w' := by
  go_enter Tryd.func23, Tryd.ntmps23
  go_wp2_with fail
  have hx := x_new (X.mk 2 Vl.no s []) none 0 w
  exact bodyPost_ret (v := xV (.mk 2 Vl.no s []) none 0) (results_x (p := 2) rfl _ _ w.heap.size (.mk 2 Vl.no s []) none 0 rfl hx.1) rfl ⟨rfl, hx.2.1⟩
set_option maxRecDepth 100000 in
theorem val15_any (v : Vl.V) (w : World) : Calls Tryd.prog 14 #[.agg #[.int .i64 v.kind, .int .i64 v.n, .string v.s]] w fun e w' => e = .returned (xV (.mk 1 v Vl.mt []) none 0) ∧ Below w.heap.size w w' := by
  have hb := (Below.refl w.heap.size w).alloc (Nat.le_refl _) (.cells #[.int .i64 v.kind, .int .i64 v.n, .string v.s] 33)
  obtain ⟨k, n, s⟩ := v
  dsimp only at hb ⊢
  go_enter Tryd.func14, Tryd.ntmps14
  go_wp2_with fail
  have hx := x_new (X.mk 1 ⟨k, n, s⟩ Vl.mt []) none 0 (w.alloc (.cells #[.int .i64 k, .int .i64 n, .string s] 33))
  rw [World.size_alloc] at hx
  exact bodyPost_ret (v := xV (.mk 1 ⟨k, n, s⟩ Vl.mt []) none 0) (results_x (p := 2) rfl _ _ (w.heap.size + 1) (.mk 1 ⟨k, n, s⟩ Vl.mt []) none 0 rfl hx.1) rfl ⟨rfl, hb.trans (hx.2.1.mono (by omega))⟩
/-- an expression of two, made -/
def TwoP (op : Int) (x y : X) (a b : Option Addr) (w : World) (e : Ending) (w' : World) : Prop :=
  ∃ g, e = .returned (xV (.mk op Vl.no Vl.mt [x, y]) (some ⟨g, 0, none⟩) 2) ∧ Below w.heap.size w w' ∧ (XU w x a → XU w y b → XU w' (.mk op Vl.no Vl.mt [x, y]) (some ⟨g, 0, none⟩))
set_option maxRecDepth 100000 in
theorem plus15_any (x y : X) (a b : Option Addr) (c d : Nat) (w : World) : Calls Tryd.prog 22 #[xV x a c, xV y b d] w (TwoP 4 x y a b w) := by
  go_enter Tryd.func22, Tryd.ntmps22
  go_wp2_with fail
  obtain ⟨W2, hW2⟩ : ∃ W2, (w.alloc (.cells (xC x a c) 36)).alloc (.cells (xC y b d) 36) = W2 := ⟨_, rfl⟩
  have hb2 : Below w.heap.size w W2 := by rw [← hW2]; exact ((Below.refl w.heap.size w).alloc (Nat.le_refl _) _).alloc (by simp) _
  have hs2 : W2.heap.size = w.heap.size + 2 := by rw [← hW2, World.size_alloc, World.size_alloc]
  rw [hW2]
  have hx := x_new (X.mk 4 Vl.no Vl.mt [x, y]) (some ⟨w.heap.size + 1 + 1 + 1, 0, none⟩) 2 W2
  obtain ⟨W3, hW3⟩ : ∃ W3, W2.alloc (.cells (xC (.mk 4 Vl.no Vl.mt [x, y]) (some ⟨w.heap.size + 1 + 1 + 1, 0, none⟩) 2) 36) = W3 := ⟨_, rfl⟩
  have hr := rowV_new W3 36 ((xC x a c).toList ++ (xC y b d).toList)
  have hb4 := (Below.refl W3.heap.size W3).alloc (Nat.le_refl _) (.cells ((xC x a c).toList ++ (xC y b d).toList).toArray 36)
  rw [hW3] at hx
  have hs3 : W3.heap.size = w.heap.size + 3 := by rw [hx.2.2, hs2]
  have hb3 := hb2.trans (hx.2.1.mono (by omega))
  have hb5 := hb3.trans (hb4.mono (by omega))
  have hx4 := rowV_below hx.1 hb4 (rowV_lt hx.1)
  rw [hs2] at hx4
  rw [hs3] at hr
  refine bodyPost_ret (v := xV (.mk 4 Vl.no Vl.mt [x, y]) (some ⟨w.heap.size + 1 + 1 + 1, 0, none⟩) 2) (results_x (p := 4) rfl _ _ (w.heap.size + 1 + 1) (.mk 4 Vl.no Vl.mt [x, y]) (some ⟨w.heap.size + 1 + 1 + 1, 0, none⟩) 2 rfl ?_) rfl ⟨_, rfl, ?_, fun h1 h2 => ?_⟩
  · rw [← hW3] at hx4; exact hx4
  · rw [← hW3] at hb5; exact hb5
  · have h := xu_two hr (xu_below h1 hb5) (xu_below h2 hb5) 4 Vl.no Vl.mt
    rw [← hW3] at h; exact h
end Go.Proofs.YtmkckbidfpinfaaDoor
