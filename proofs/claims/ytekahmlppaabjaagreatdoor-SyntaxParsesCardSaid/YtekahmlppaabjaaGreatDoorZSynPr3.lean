/-
  Layer 14, the program's: the value or name that a token is; the word that stands here.
-/
import Derived.Test.YtekahmlppaabjaaGreatDoorPk5
namespace Go.Proofs.YtekahmlppaabjaaGreatDoor
open Go.RowKit
open Sx (X toksOf isT)
theorem results_cell_tmp14 {fn : Func} {p u : Tmp} {ty : TypeId} (h : fn.results = #[.cell p ty, .tmp u]) (tmps : Array Value) (P : Program) (w : World) :
    (results fn tmps).run P w =
      ((asAddr (tmps.getD p undef)).run P w).andThen fun a w₁ => ((loadVar ty a).run P w₁).andThen fun v w₂ => .ok (.tuple #[v, tmps.getD u undef]) w₂ := by
  simp only [results, h]
  simp [Sem.run_bind, Result.andThen]
set_option maxRecDepth 100000 in
theorem results_x2 {fn : Func} {p u : Tmp} (h : fn.results = #[.cell p 29, .tmp u]) (tmps : Array Value) (w : World) (g : Nat) (y : X) (a : Option Addr) (c : Nat)
    (hp : tmps.getD p undef = .pointer (some ⟨g, 0, none⟩)) (hg : RowV w g 29 (xC y a c).toList) :
    (results fn tmps).run Tryz.prog w = .ok (.tuple #[xV y a c, tmps.getD u undef]) w := by
  have hl := run_loadVar_row (P := Tryz.prog) w g 29 29 (xC y a c) (0, 0) _ hg Tryz.underlying29 rfl info_expr
  rw [results_cell_tmp14 h, hp]
  simp only [asAddr, Sem.run_pure, Result.andThen]
  rw [hl]
abbrev one1 : X := .mk 1 ⟨0, 0, ⟨#[]⟩⟩ ⟨#[]⟩ []
/-- the boxes of singleOf: the token's, the result's, the expression's -/
def Sing (w wx : World) (t : Lx.T) (x : X) : Prop := RowV wx w.heap.size 45 (tokC t).toList ∧ RowV wx (w.heap.size + 1) 29 (xC Sx.no none 0).toList ∧ RowV wx (w.heap.size + 1 + 1) 29 (xC x none 0).toList ∧ Below w.heap.size w wx
theorem sing_new (t : Lx.T) (w : World) : Sing w (((w.alloc (.cells (tokC t) 45)).alloc (.cells #[.int .i64 0, .int .i64 0, .int .i64 0, .string ⟨#[]⟩, .string ⟨#[]⟩, .slice none 0 0] 29)).alloc (.cells #[.int .i64 1, .int .i64 0, .int .i64 0, .string ⟨#[]⟩, .string ⟨#[]⟩, .slice none 0 0] 29)) t one1 := by
  obtain ⟨a1, a2, a3⟩ := tok_new t w
  obtain ⟨b1, b2, b3⟩ := no_new (w.alloc (.cells (tokC t) 45))
  generalize w.alloc (.cells (tokC t) 45) = w1 at *
  obtain ⟨d1, d2, d3⟩ := x_new one1 none 0 (w1.alloc (.cells #[.int .i64 0, .int .i64 0, .int .i64 0, .string ⟨#[]⟩, .string ⟨#[]⟩, .slice none 0 0] 29))
  generalize w1.alloc (.cells #[.int .i64 0, .int .i64 0, .int .i64 0, .string ⟨#[]⟩, .string ⟨#[]⟩, .slice none 0 0] 29) = w2 at *
  rw [a3] at b1
  rw [b3, a3] at d1
  refine ⟨rowV_below (rowV_below a1 b2 (by omega)) d2 (by omega), rowV_below b1 d2 (by omega), d1, ?_⟩
  exact a2.trans ((b2.mono (by omega)).trans (d2.mono (by omega)))
theorem sing_below {w wx wy : World} {t : Lx.T} {x : X} (h : Sing w wx t x) (hb : Below wx.heap.size wx wy) : Sing w wy t x :=
  ⟨rowV_below h.1 hb (rowV_lt h.1), rowV_below h.2.1 hb (rowV_lt h.2.1), rowV_below h.2.2.1 hb (rowV_lt h.2.2.1), h.2.2.2.trans (hb.mono h.2.2.2.size)⟩
theorem sing_end {w wz wy : World} {t : Lx.T} {x : X} (h : Sing w wz t x) (ho : Only (fun k => k = w.heap.size + 1 + 1) wz wy) (op k n : Int) (vs s : ByteArray) :
    RowV ((((((wy.setCell ⟨w.heap.size + 1, 0, none⟩ (.int .i64 op)).setCell ⟨w.heap.size + 1, 1, none⟩ (.int .i64 k)).setCell ⟨w.heap.size + 1, 2, none⟩ (.int .i64 n)).setCell ⟨w.heap.size + 1, 3, none⟩ (.string vs)).setCell ⟨w.heap.size + 1, 4, none⟩ (.string s)).setCell ⟨w.heap.size + 1, 5, none⟩ (.slice none 0 0)) (w.heap.size + 1) 29 (xC (.mk op ⟨k, n, vs⟩ s []) none 0).toList ∧
    Below w.heap.size w ((((((wy.setCell ⟨w.heap.size + 1, 0, none⟩ (.int .i64 op)).setCell ⟨w.heap.size + 1, 1, none⟩ (.int .i64 k)).setCell ⟨w.heap.size + 1, 2, none⟩ (.int .i64 n)).setCell ⟨w.heap.size + 1, 3, none⟩ (.string vs)).setCell ⟨w.heap.size + 1, 4, none⟩ (.string s)).setCell ⟨w.heap.size + 1, 5, none⟩ (.slice none 0 0)) := by
  have h2 := x_put (rowV_only h.2.1 ho (by omega)) op k n vs s none 0 0
  have hb := h.2.2.2.trans (ho.below (fun k _ e => by have e2 : k = w.heap.size + 1 + 1 := e; omega) h.2.2.2.size)
  exact ⟨h2.1, hb.trans ((h2.2 (fun k => k = w.heap.size + 1) rfl).below (fun k _ e => by have e2 : k = w.heap.size + 1 := e; omega) hb.size)⟩
theorem sing_put {w wz : World} (k n : Int) (s : ByteArray) : Only (fun k => k = w.heap.size + 1 + 1) wz (((wz.setCell ⟨w.heap.size + 1 + 1, 1, none⟩ (.int .i64 k)).setCell ⟨w.heap.size + 1 + 1, 2, none⟩ (.int .i64 n)).setCell ⟨w.heap.size + 1 + 1, 3, none⟩ (.string s)) :=
  (((Only.refl _ wz).setCell (F := fun k => k = w.heap.size + 1 + 1) (fun _ => rfl) _).setCell (F := fun k => k = w.heap.size + 1 + 1) (fun _ => rfl) _).setCell (F := fun k => k = w.heap.size + 1 + 1) (fun _ => rfl) _
theorem sing_putx {w wz : World} {t : Lx.T} {x : X} (h : Sing w wz t x) (op k n : Int) (vs s : ByteArray) : Only (fun k => k = w.heap.size + 1 + 1) wz ((((((wz.setCell ⟨w.heap.size + 1 + 1, 0, none⟩ (.int .i64 op)).setCell ⟨w.heap.size + 1 + 1, 1, none⟩ (.int .i64 k)).setCell ⟨w.heap.size + 1 + 1, 2, none⟩ (.int .i64 n)).setCell ⟨w.heap.size + 1 + 1, 3, none⟩ (.string vs)).setCell ⟨w.heap.size + 1 + 1, 4, none⟩ (.string s)).setCell ⟨w.heap.size + 1 + 1, 5, none⟩ (.slice none 0 0)) :=
  (x_put h.2.2.1 op k n vs s none 0 0).2 _ rfl
set_option maxRecDepth 100000 in
set_option maxHeartbeats 6400000 in
theorem singleOf14_int (ts : ByteArray) (tn ta : Int) (w : World) (hE : ErrR w) : Calls Tryz.prog 66 #[tokV ⟨2, ts, tn, ta⟩] w fun e w' => e = .returned (.tuple #[xV (.mk 1 ⟨1, tn, ⟨#[]⟩⟩ ⟨#[]⟩ []) none 0, .bool true]) ∧ Below w.heap.size w w' := by
  have H0 := Lib.hid (sing_new ⟨2, ts, tn, ta⟩ w)
  have HE := Lib.hid hE
  clear hE
  obtain ⟨a0, a1, a2, a3, -, -, -, -⟩ := tok_cells H0.out.1
  obtain ⟨m0, m1, m2, m3, m4, m5⟩ := x_cells H0.out.2.1
  obtain ⟨i0, i1, i2, i3, i4, i5⟩ := x_ice H0.out.2.1
  obtain ⟨e0, e1, e2, e3, e4, e5⟩ := x_cells H0.out.2.2.1
  obtain ⟨j0, j1, j2, j3, j4, j5⟩ := x_ice H0.out.2.2.1
  simp only [Nat.zero_add] at m0 m1 m2 m3 m4 m5 e0 e1 e2 e3 e4 e5
  have hne : ¬ w.heap.size + 1 = w.heap.size + 1 + 1 := by omega
  go_enter Tryz.func66, Tryz.ntmps66
  go_upto_region 3 with (fail)
  generalize hws : World.alloc _ _ = ws at *
  go_wp2_with fail
  have HL := H0
  have HZ := sing_end HL.out (sing_put 1 tn ⟨#[]⟩) 1 1 tn ⟨#[]⟩ ⟨#[]⟩
  refine bodyPost_ret (v := .tuple #[xV (.mk 1 ⟨1, tn, ⟨#[]⟩⟩ ⟨#[]⟩ []) none 0, .bool true]) (results_x2 (p := 2) (u := 3) rfl _ _ (w.heap.size + 1) (.mk 1 ⟨1, tn, ⟨#[]⟩⟩ ⟨#[]⟩ []) none 0 rfl HZ.1) rfl ?_
  exact ⟨rfl, HZ.2⟩
set_option maxRecDepth 100000 in
set_option maxHeartbeats 6400000 in
theorem singleOf14_text (ts : ByteArray) (tn ta : Int) (w : World) (hE : ErrR w) : Calls Tryz.prog 66 #[tokV ⟨3, ts, tn, ta⟩] w fun e w' => e = .returned (.tuple #[xV (.mk 1 ⟨2, 0, ts⟩ ⟨#[]⟩ []) none 0, .bool true]) ∧ Below w.heap.size w w' := by
  have H0 := Lib.hid (sing_new ⟨3, ts, tn, ta⟩ w)
  have HE := Lib.hid hE
  clear hE
  obtain ⟨a0, a1, a2, a3, -, -, -, -⟩ := tok_cells H0.out.1
  obtain ⟨m0, m1, m2, m3, m4, m5⟩ := x_cells H0.out.2.1
  obtain ⟨i0, i1, i2, i3, i4, i5⟩ := x_ice H0.out.2.1
  obtain ⟨e0, e1, e2, e3, e4, e5⟩ := x_cells H0.out.2.2.1
  obtain ⟨j0, j1, j2, j3, j4, j5⟩ := x_ice H0.out.2.2.1
  simp only [Nat.zero_add] at m0 m1 m2 m3 m4 m5 e0 e1 e2 e3 e4 e5
  have hne : ¬ w.heap.size + 1 = w.heap.size + 1 + 1 := by omega
  go_enter Tryz.func66, Tryz.ntmps66
  go_upto_region 3 with (fail)
  generalize hws : World.alloc _ _ = ws at *
  go_wp2_with fail
  have HL := H0
  have HZ := sing_end HL.out (sing_put 2 0 ts) 1 2 0 ts ⟨#[]⟩
  refine bodyPost_ret (v := .tuple #[xV (.mk 1 ⟨2, 0, ts⟩ ⟨#[]⟩ []) none 0, .bool true]) (results_x2 (p := 2) (u := 3) rfl _ _ (w.heap.size + 1) (.mk 1 ⟨2, 0, ts⟩ ⟨#[]⟩ []) none 0 rfl HZ.1) rfl ?_
  exact ⟨rfl, HZ.2⟩
set_option maxRecDepth 100000 in
set_option maxHeartbeats 6400000 in
theorem singleOf14_other (tk : Int) (ts : ByteArray) (tn ta : Int) (h1 : ¬ tk = 1) (h2 : ¬ tk = 2) (h3 : ¬ tk = 3) (w : World) (hE : ErrR w) : Calls Tryz.prog 66 #[tokV ⟨tk, ts, tn, ta⟩] w fun e w' => e = .returned (.tuple #[xV Sx.no none 0, .bool false]) ∧ Below w.heap.size w w' := by
  have t1 : (tk != 1) = true := by simpa using h1
  have t2 : (tk == 2) = false := by simpa using h2
  have t3 : (tk == 3) = false := by simpa using h3
  have H0 := Lib.hid (sing_new ⟨tk, ts, tn, ta⟩ w)
  have HE := Lib.hid hE
  clear hE
  obtain ⟨a0, a1, a2, a3, -, -, -, -⟩ := tok_cells H0.out.1
  obtain ⟨m0, m1, m2, m3, m4, m5⟩ := x_cells H0.out.2.1
  obtain ⟨i0, i1, i2, i3, i4, i5⟩ := x_ice H0.out.2.1
  obtain ⟨e0, e1, e2, e3, e4, e5⟩ := x_cells H0.out.2.2.1
  obtain ⟨j0, j1, j2, j3, j4, j5⟩ := x_ice H0.out.2.2.1
  simp only [Nat.zero_add] at m0 m1 m2 m3 m4 m5 e0 e1 e2 e3 e4 e5
  have hne : ¬ w.heap.size + 1 = w.heap.size + 1 + 1 := by omega
  go_enter Tryz.func66, Tryz.ntmps66
  go_upto_region 3 with (fail)
  generalize hws : World.alloc _ _ = ws at *
  go_wp2_with fail
  have HL := H0
  have HZ := sing_end HL.out (Only.refl _ _) 0 0 0 ⟨#[]⟩ ⟨#[]⟩
  refine bodyPost_ret (v := .tuple #[xV Sx.no none 0, .bool false]) (results_x2 (p := 2) (u := 3) rfl _ _ (w.heap.size + 1) Sx.no none 0 rfl HZ.1) rfl ?_
  exact ⟨rfl, HZ.2⟩
set_option maxRecDepth 100000 in
set_option maxHeartbeats 6400000 in
theorem singleOf14_null (tn ta : Int) (w : World) (hE : ErrR w) : Calls Tryz.prog 66 #[tokV ⟨1, ⟨#[110, 117, 108, 108]⟩, tn, ta⟩] w fun e w' => e = .returned (.tuple #[xV (.mk 1 ⟨0, 0, ⟨#[]⟩⟩ ⟨#[]⟩ []) none 0, .bool true]) ∧ Below w.heap.size w w' := by
  have H0 := Lib.hid (sing_new ⟨1, ⟨#[110, 117, 108, 108]⟩, tn, ta⟩ w)
  have HE := Lib.hid hE
  clear hE
  obtain ⟨a0, a1, a2, a3, -, -, -, -⟩ := tok_cells H0.out.1
  obtain ⟨m0, m1, m2, m3, m4, m5⟩ := x_cells H0.out.2.1
  obtain ⟨i0, i1, i2, i3, i4, i5⟩ := x_ice H0.out.2.1
  obtain ⟨e0, e1, e2, e3, e4, e5⟩ := x_cells H0.out.2.2.1
  obtain ⟨j0, j1, j2, j3, j4, j5⟩ := x_ice H0.out.2.2.1
  simp only [Nat.zero_add] at m0 m1 m2 m3 m4 m5 e0 e1 e2 e3 e4 e5
  have hne : ¬ w.heap.size + 1 = w.heap.size + 1 + 1 := by omega
  go_enter Tryz.func66, Tryz.ntmps66
  go_upto_region 3 with (fail)
  generalize hws : World.alloc _ _ = ws at *
  go_wp2_with fail
  have HL := H0
  have HZ := sing_end HL.out (sing_put 0 0 ⟨#[]⟩) 1 0 0 ⟨#[]⟩ ⟨#[]⟩
  refine bodyPost_ret (v := .tuple #[xV (.mk 1 ⟨0, 0, ⟨#[]⟩⟩ ⟨#[]⟩ []) none 0, .bool true]) (results_x2 (p := 2) (u := 3) rfl _ _ (w.heap.size + 1) (.mk 1 ⟨0, 0, ⟨#[]⟩⟩ ⟨#[]⟩ []) none 0 rfl HZ.1) rfl ?_
  exact ⟨rfl, HZ.2⟩
set_option maxRecDepth 100000 in
set_option maxHeartbeats 6400000 in
theorem singleOf14_false (tn ta : Int) (w : World) (hE : ErrR w) : Calls Tryz.prog 66 #[tokV ⟨1, ⟨#[102, 97, 108, 115, 101]⟩, tn, ta⟩] w fun e w' => e = .returned (.tuple #[xV (.mk 1 ⟨3, 0, ⟨#[]⟩⟩ ⟨#[]⟩ []) none 0, .bool true]) ∧ Below w.heap.size w w' := by
  have H0 := Lib.hid (sing_new ⟨1, ⟨#[102, 97, 108, 115, 101]⟩, tn, ta⟩ w)
  have HE := Lib.hid hE
  clear hE
  obtain ⟨a0, a1, a2, a3, -, -, -, -⟩ := tok_cells H0.out.1
  obtain ⟨m0, m1, m2, m3, m4, m5⟩ := x_cells H0.out.2.1
  obtain ⟨i0, i1, i2, i3, i4, i5⟩ := x_ice H0.out.2.1
  obtain ⟨e0, e1, e2, e3, e4, e5⟩ := x_cells H0.out.2.2.1
  obtain ⟨j0, j1, j2, j3, j4, j5⟩ := x_ice H0.out.2.2.1
  simp only [Nat.zero_add] at m0 m1 m2 m3 m4 m5 e0 e1 e2 e3 e4 e5
  have hne : ¬ w.heap.size + 1 = w.heap.size + 1 + 1 := by omega
  go_enter Tryz.func66, Tryz.ntmps66
  go_upto_region 3 with (fail)
  generalize hws : World.alloc _ _ = ws at *
  go_wp2_with fail
  have HL := H0
  have HZ := sing_end HL.out (sing_put 3 0 ⟨#[]⟩) 1 3 0 ⟨#[]⟩ ⟨#[]⟩
  refine bodyPost_ret (v := .tuple #[xV (.mk 1 ⟨3, 0, ⟨#[]⟩⟩ ⟨#[]⟩ []) none 0, .bool true]) (results_x2 (p := 2) (u := 3) rfl _ _ (w.heap.size + 1) (.mk 1 ⟨3, 0, ⟨#[]⟩⟩ ⟨#[]⟩ []) none 0 rfl HZ.1) rfl ?_
  exact ⟨rfl, HZ.2⟩
set_option maxRecDepth 100000 in
set_option maxHeartbeats 6400000 in
theorem singleOf14_true (tn ta : Int) (w : World) (hE : ErrR w) : Calls Tryz.prog 66 #[tokV ⟨1, ⟨#[116, 114, 117, 101]⟩, tn, ta⟩] w fun e w' => e = .returned (.tuple #[xV (.mk 1 ⟨3, 1, ⟨#[]⟩⟩ ⟨#[]⟩ []) none 0, .bool true]) ∧ Below w.heap.size w w' := by
  have H0 := Lib.hid (sing_new ⟨1, ⟨#[116, 114, 117, 101]⟩, tn, ta⟩ w)
  have HE := Lib.hid hE
  clear hE
  obtain ⟨a0, a1, a2, a3, -, -, -, -⟩ := tok_cells H0.out.1
  obtain ⟨m0, m1, m2, m3, m4, m5⟩ := x_cells H0.out.2.1
  obtain ⟨i0, i1, i2, i3, i4, i5⟩ := x_ice H0.out.2.1
  obtain ⟨e0, e1, e2, e3, e4, e5⟩ := x_cells H0.out.2.2.1
  obtain ⟨j0, j1, j2, j3, j4, j5⟩ := x_ice H0.out.2.2.1
  simp only [Nat.zero_add] at m0 m1 m2 m3 m4 m5 e0 e1 e2 e3 e4 e5
  have hne : ¬ w.heap.size + 1 = w.heap.size + 1 + 1 := by omega
  go_enter Tryz.func66, Tryz.ntmps66
  go_upto_region 3 with (fail)
  generalize hws : World.alloc _ _ = ws at *
  go_wp2_with fail
  have HL := H0
  have HZ := sing_end HL.out (sing_put 3 1 ⟨#[]⟩) 1 3 1 ⟨#[]⟩ ⟨#[]⟩
  refine bodyPost_ret (v := .tuple #[xV (.mk 1 ⟨3, 1, ⟨#[]⟩⟩ ⟨#[]⟩ []) none 0, .bool true]) (results_x2 (p := 2) (u := 3) rfl _ _ (w.heap.size + 1) (.mk 1 ⟨3, 1, ⟨#[]⟩⟩ ⟨#[]⟩ []) none 0 rfl HZ.1) rfl ?_
  exact ⟨rfl, HZ.2⟩
set_option maxRecDepth 100000 in
set_option maxHeartbeats 6400000 in
theorem singleOf14_name (ts : ByteArray) (tn ta : Int) (n1 : ¬ ts = ⟨#[110, 117, 108, 108]⟩) (n2 : ¬ ts = ⟨#[102, 97, 108, 115, 101]⟩) (n3 : ¬ ts = ⟨#[116, 114, 117, 101]⟩) (hs : ts.size ≤ 1000000) (hB : Lx.nameB ts = true) (w : World) (hE : ErrR w) : Calls Tryz.prog 66 #[tokV ⟨1, ts, tn, ta⟩] w fun e w' => e = .returned (.tuple #[xV (.mk 2 ⟨0, 0, ⟨#[]⟩⟩ ts []) none 0, .bool true]) ∧ Below w.heap.size w w' := by
  have t1 := res_ne (m := [110, 117, 108, 108]) n1
  have t2 := res_ne (m := [102, 97, 108, 115, 101]) n2
  have t3 := res_ne (m := [116, 114, 117, 101]) n3
  have H0 := Lib.hid (sing_new ⟨1, ts, tn, ta⟩ w)
  have HE := Lib.hid hE
  clear hE
  obtain ⟨a0, a1, a2, a3, -, -, -, -⟩ := tok_cells H0.out.1
  obtain ⟨m0, m1, m2, m3, m4, m5⟩ := x_cells H0.out.2.1
  obtain ⟨i0, i1, i2, i3, i4, i5⟩ := x_ice H0.out.2.1
  obtain ⟨e0, e1, e2, e3, e4, e5⟩ := x_cells H0.out.2.2.1
  obtain ⟨j0, j1, j2, j3, j4, j5⟩ := x_ice H0.out.2.2.1
  simp only [Nat.zero_add] at m0 m1 m2 m3 m4 m5 e0 e1 e2 e3 e4 e5
  have hne : ¬ w.heap.size + 1 = w.heap.size + 1 + 1 := by omega
  go_enter Tryz.func66, Tryz.ntmps66
  go_upto_region 3 with (fail)
  generalize hws : World.alloc _ _ = ws at *
  have cN := Name13_any ts ws hs (errR_below HE.out H0.out.2.2.2)
  rw [hB] at cN
  have HN := Lib.hid cN
  clear cN n1 n2 n3 hB
  go_wp2_with fail
  refine HN.out.mono ?_
  rintro e w5 ⟨rfl, hb5⟩
  have HL := Lib.hid (sing_below H0.out hb5)
  clear hb5 a0 a1 a2 a3 m0 m1 m2 m3 m4 m5 i0 i1 i2 i3 i4 i5 e0 e1 e2 e3 e4 e5 j0 j1 j2 j3 j4 j5
  obtain ⟨a0, a1, a2, a3, -, -, -, -⟩ := tok_cells HL.out.1
  obtain ⟨m0, m1, m2, m3, m4, m5⟩ := x_cells HL.out.2.1
  obtain ⟨i0, i1, i2, i3, i4, i5⟩ := x_ice HL.out.2.1
  obtain ⟨e0, e1, e2, e3, e4, e5⟩ := x_cells HL.out.2.2.1
  obtain ⟨j0, j1, j2, j3, j4, j5⟩ := x_ice HL.out.2.2.1
  simp only [Nat.zero_add] at m0 m1 m2 m3 m4 m5 e0 e1 e2 e3 e4 e5
  go_wp2_with fail
  have HZ := sing_end HL.out (sing_putx HL.out 2 0 0 ⟨#[]⟩ ts) 2 0 0 ⟨#[]⟩ ts
  refine bodyPost_ret (v := .tuple #[xV (.mk 2 ⟨0, 0, ⟨#[]⟩⟩ ts []) none 0, .bool true]) (results_x2 (p := 2) (u := 3) rfl _ _ (w.heap.size + 1) (.mk 2 ⟨0, 0, ⟨#[]⟩⟩ ts []) none 0 rfl HZ.1) rfl ?_
  exact ⟨rfl, HZ.2⟩
set_option maxRecDepth 100000 in
set_option maxHeartbeats 6400000 in
theorem singleOf14_none (ts : ByteArray) (tn ta : Int) (n1 : ¬ ts = ⟨#[110, 117, 108, 108]⟩) (n2 : ¬ ts = ⟨#[102, 97, 108, 115, 101]⟩) (n3 : ¬ ts = ⟨#[116, 114, 117, 101]⟩) (hs : ts.size ≤ 1000000) (hB : Lx.nameB ts = false) (w : World) (hE : ErrR w) : Calls Tryz.prog 66 #[tokV ⟨1, ts, tn, ta⟩] w fun e w' => e = .returned (.tuple #[xV Sx.no none 0, .bool false]) ∧ Below w.heap.size w w' := by
  have t1 := res_ne (m := [110, 117, 108, 108]) n1
  have t2 := res_ne (m := [102, 97, 108, 115, 101]) n2
  have t3 := res_ne (m := [116, 114, 117, 101]) n3
  have H0 := Lib.hid (sing_new ⟨1, ts, tn, ta⟩ w)
  have HE := Lib.hid hE
  clear hE
  obtain ⟨a0, a1, a2, a3, -, -, -, -⟩ := tok_cells H0.out.1
  obtain ⟨m0, m1, m2, m3, m4, m5⟩ := x_cells H0.out.2.1
  obtain ⟨i0, i1, i2, i3, i4, i5⟩ := x_ice H0.out.2.1
  obtain ⟨e0, e1, e2, e3, e4, e5⟩ := x_cells H0.out.2.2.1
  obtain ⟨j0, j1, j2, j3, j4, j5⟩ := x_ice H0.out.2.2.1
  simp only [Nat.zero_add] at m0 m1 m2 m3 m4 m5 e0 e1 e2 e3 e4 e5
  have hne : ¬ w.heap.size + 1 = w.heap.size + 1 + 1 := by omega
  go_enter Tryz.func66, Tryz.ntmps66
  go_upto_region 3 with (fail)
  generalize hws : World.alloc _ _ = ws at *
  have cN := Name13_any ts ws hs (errR_below HE.out H0.out.2.2.2)
  rw [hB] at cN
  have HN := Lib.hid cN
  clear cN n1 n2 n3 hB
  go_wp2_with fail
  refine HN.out.mono ?_
  rintro e w5 ⟨rfl, hb5⟩
  have HL := Lib.hid (sing_below H0.out hb5)
  clear hb5 a0 a1 a2 a3 m0 m1 m2 m3 m4 m5 i0 i1 i2 i3 i4 i5 e0 e1 e2 e3 e4 e5 j0 j1 j2 j3 j4 j5
  obtain ⟨a0, a1, a2, a3, -, -, -, -⟩ := tok_cells HL.out.1
  obtain ⟨m0, m1, m2, m3, m4, m5⟩ := x_cells HL.out.2.1
  obtain ⟨i0, i1, i2, i3, i4, i5⟩ := x_ice HL.out.2.1
  obtain ⟨e0, e1, e2, e3, e4, e5⟩ := x_cells HL.out.2.2.1
  obtain ⟨j0, j1, j2, j3, j4, j5⟩ := x_ice HL.out.2.2.1
  simp only [Nat.zero_add] at m0 m1 m2 m3 m4 m5 e0 e1 e2 e3 e4 e5
  go_wp2_with fail
  have HZ := sing_end HL.out (Only.refl _ _) 0 0 0 ⟨#[]⟩ ⟨#[]⟩
  refine bodyPost_ret (v := .tuple #[xV Sx.no none 0, .bool false]) (results_x2 (p := 2) (u := 3) rfl _ _ (w.heap.size + 1) Sx.no none 0 rfl HZ.1) rfl ?_
  exact ⟨rfl, HZ.2⟩
/-- the value or name that a token is -/
theorem singleOf14_any (t : Lx.T) (hs : t.s.size ≤ 1000000) (w : World) (hE : ErrR w) :
    Calls Tryz.prog 66 #[tokV t] w fun e w' => e = .returned (.tuple #[xV ((Sx.leaf t).getD Sx.no) none 0, .bool (Sx.leaf t).isSome]) ∧ Below w.heap.size w w' := by
  obtain ⟨tk, ts, tn, ta⟩ := t
  unfold Sx.leaf
  simp only at hs ⊢
  by_cases h2 : tk = 2
  · subst h2
    exact singleOf14_int ts tn ta w hE
  · by_cases h3 : tk = 3
    · subst h3
      exact singleOf14_text ts tn ta w hE
    · rw [if_neg h2, if_neg h3]
      by_cases h1 : tk = 1
      · subst h1
        rw [if_pos rfl]
        by_cases n1 : ts = ⟨#[110, 117, 108, 108]⟩
        · subst n1
          exact singleOf14_null tn ta w hE
        · rw [if_neg n1]
          by_cases n3 : ts = ⟨#[116, 114, 117, 101]⟩
          · subst n3
            exact singleOf14_true tn ta w hE
          · rw [if_neg n3]
            by_cases n2 : ts = ⟨#[102, 97, 108, 115, 101]⟩
            · subst n2
              exact singleOf14_false tn ta w hE
            · rw [if_neg n2]
              cases hB : Lx.nameB ts with
              | true => exact singleOf14_name ts tn ta n1 n2 n3 hs hB w hE
              | false => exact singleOf14_none ts tn ta n1 n2 n3 hs hB w hE
      · rw [if_neg h1]
        exact singleOf14_other tk ts tn ta h1 h2 h3 w hE
set_option maxRecDepth 100000 in
set_option maxHeartbeats 6400000 in
/-- the name or mark that stands here -/
theorem word14_any {w : World} {R : Nat} {al : Option Addr} {cap : Nat} {L : List Lx.T} {p : Nat} (c0 : w.cell? ⟨R, 0, none⟩ = some (.slice al L.length cap)) (c1 : w.cell? ⟨R, 1, none⟩ = some (.int .i64 (p : Int))) (hT : ReadsT13 w al L) (hp : p ≤ L.length) :
    Calls Tryz.prog 36 #[.pointer (some ⟨R, 0, none⟩)] w fun e w' => e = .returned (.string (Sx.wd L p)) ∧ Below w.heap.size w w' := by
  have HC := Lib.hid (token14_any c0 c1 hT hp)
  have hw : Sx.wd L p = Sx.wdT (Sx.tokAt L p) := rfl
  rw [hw]
  unfold Sx.wdT
  generalize Sx.tokAt L p = t at *
  obtain ⟨tk, ts, tn, ta⟩ := t
  simp only
  clear c0 c1 hT hw
  by_cases h1 : tk = 1
  · subst h1
    rw [if_pos (.inl rfl)]
    go_enter Tryz.func36, Tryz.ntmps36
    go_wp2_with fail
    refine HC.out.mono ?_
    rintro e w1 ⟨rfl, hb1⟩
    obtain ⟨q0, q1, q2⟩ := tok_new ⟨1, ts, tn, ta⟩ w1
    obtain ⟨a0, a1, a2, a3, -, -, -, -⟩ := tok_cells (v := ⟨1, ts, tn, ta⟩) q0
    have HB := Lib.hid (hb1.trans (q1.mono hb1.size))
    clear q0 q1 q2 hb1
    go_upto_region 2 with (fail)
    generalize hws : World.alloc w1 _ = ws at *
    go_wp2_with fail
    go_ret
    exact ⟨rfl, HB.out⟩
  · by_cases h4 : tk = 4
    · subst h4
      rw [if_pos (.inr rfl)]
      go_enter Tryz.func36, Tryz.ntmps36
      go_wp2_with fail
      refine HC.out.mono ?_
      rintro e w1 ⟨rfl, hb1⟩
      obtain ⟨q0, q1, q2⟩ := tok_new ⟨4, ts, tn, ta⟩ w1
      obtain ⟨a0, a1, a2, a3, -, -, -, -⟩ := tok_cells (v := ⟨4, ts, tn, ta⟩) q0
      have HB := Lib.hid (hb1.trans (q1.mono hb1.size))
      clear q0 q1 q2 hb1
      go_upto_region 2 with (fail)
      generalize hws : World.alloc w1 _ = ws at *
      go_wp2_with fail
      go_ret
      exact ⟨rfl, HB.out⟩
    · rw [if_neg (by omega)]
      have t1 : (tk == 1) = false := by simpa using h1
      have t4 : (tk == 4) = false := by simpa using h4
      go_enter Tryz.func36, Tryz.ntmps36
      go_wp2_with fail
      refine HC.out.mono ?_
      rintro e w1 ⟨rfl, hb1⟩
      obtain ⟨q0, q1, q2⟩ := tok_new ⟨tk, ts, tn, ta⟩ w1
      obtain ⟨a0, a1, a2, a3, -, -, -, -⟩ := tok_cells (v := ⟨tk, ts, tn, ta⟩) q0
      have HB := Lib.hid (hb1.trans (q1.mono hb1.size))
      clear q0 q1 q2 hb1
      go_upto_region 2 with (fail)
      generalize hws : World.alloc w1 _ = ws at *
      go_wp2_with fail
      go_ret
      exact ⟨rfl, HB.out⟩
end Go.Proofs.YtekahmlppaabjaaGreatDoor
