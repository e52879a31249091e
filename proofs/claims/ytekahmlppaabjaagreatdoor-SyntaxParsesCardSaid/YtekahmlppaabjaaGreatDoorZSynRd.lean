/-
  Layer 14: the document's reader of tokens: read; where it goes on to the next level.
-/
import Derived.Test.YtekahmlppaabjaaGreatDoorPk5
namespace Go.Proofs.YtekahmlppaabjaaGreatDoor
open Go.RowKit
open Sx (X toksOf isT)
/-- what was read by a call from w1, told behind a box that was made ahead -/
def RdSub (w w6 : World) (R : Nat) (al : Option Addr) (cap : Nat) (L : List Lx.T) (r : Option X × Nat) (y : X) (ay : Option Addr) : Prop :=
  XAt w6 (fun j => w.heap.size < j) y ay ∧ (∀ x, r.1 = some x → y = x) ∧ Rdr w6 R al cap L r.2 r.1.isNone ∧ RowV w6 w.heap.size 29 (xC Sx.no none 0).toList ∧ Only (fun k => k = R) w w6 ∧ R < w.heap.size
theorem rd_sub {w w1 w6 : World} {R : Nat} {al : Option Addr} {cap : Nat} {L : List Lx.T} {r : Option X × Nat} {y : X} {ay : Option Addr} (hN : (RowV w1 w.heap.size 29 (xC Sx.no none 0).toList ∧ Below w.heap.size w w1) ∧ R < w.heap.size)
    (hxy : XAt w6 (fun j => w1.heap.size ≤ j) y ay) (hsm : ∀ x, r.1 = some x → y = x) (hR6 : Rdr w6 R al cap L r.2 r.1.isNone) (ho6 : Only (fun k => k = R) w1 w6) : RdSub w w6 R al cap L r y ay := by
  have hl := rowV_lt hN.1.1
  exact ⟨xat_mono (fun j hj => by have hj2 : w1.heap.size ≤ j := hj; omega) y ay hxy, hsm, hR6, rowV_only hN.1.1 ho6 (by omega), (Only.of_none hN.1.2).more ho6, hN.2⟩
theorem rd_end {w w6 wz : World} {R : Nat} {al : Option Addr} {cap : Nat} {L : List Lx.T} {r : Option X × Nat} {y : X} {ay : Option Addr} {cy : Nat} (H : RdSub w w6 R al cap L r y ay) (ho : ∀ F : Nat → Prop, F w.heap.size → Only F w6 wz) : RdPost R al cap L r w (.returned (xV y ay cy)) wz := by
  obtain ⟨h1, h2, h3, _, h5, h6⟩ := H
  have ho := ho (fun k => k = w.heap.size) rfl
  exact ⟨y, ay, cy, rfl, xat_mono (fun j hj => Nat.le_of_lt hj) y ay (xat_only ho (fun j hj e => by have hj2 : w.heap.size < j := hj; omega) y ay h1), h2, rdr_put h3 h6 ho, h5.trans ho fun i hi e => absurd hi (by omega)⟩
set_option maxRecDepth 100000 in
set_option maxHeartbeats 6400000 in
/-- level 7 -/
theorem rread14_7 {w : World} {R : Nat} {al : Option Addr} {cap : Nat} {L : List Lx.T} {p : Nat} {r : Option X × Nat} (h : Rdr w R al cap L p false) (H1 : ∀ w', Rdr w' R al cap L p false → Calls Tryz.prog 45 #[.pointer (some ⟨R, 0, none⟩)] w' (RdPost R al cap L r w')) :
    Calls Tryz.prog 21 #[.pointer (some ⟨R, 0, none⟩), .int .i64 7] w (RdPost R al cap L r w) := by
  have hA := no_new w
  have HR := Lib.hid (And.intro (rdr_below h hA.2.1) (And.intro (And.intro hA.1 hA.2.1) (rowV_lt h.1)))
  obtain ⟨c0, c1, c2, c3, c4⟩ := rdr_cells HR.out.1
  have HH := Lib.hid H1
  have hne : ¬ R = w.heap.size := by have := HR.out.2.2; omega
  clear h H1 hA
  go_enter Tryz.func21, Tryz.ntmps21
  go_wp2_with (go_at_call 45; refine (HH.out _ HR.out.1).mono ?_; rintro e w6 ⟨y, ay, cy, rfl, hxy, hsm, hR6, ho6⟩; have H6 := Lib.hid (rd_sub HR.out.2 hxy hsm hR6 ho6); clear hxy hsm hR6 ho6; obtain ⟨e0, e1, e2, e3, e4, e5⟩ := x_cells H6.out.2.2.2.1; simp only [Nat.zero_add] at e0 e1 e2 e3 e4 e5; obtain ⟨f0, f1, f2, f3, f4, f5⟩ := x_ice H6.out.2.2.2.1)
  have hE := x_put H6.out.2.2.2.1 y.op y.v.kind y.v.n y.v.s y.s ay y.l.length cy
  refine bodyPost_ret (v := xV y ay cy) (results_x (p := 4) rfl _ _ w.heap.size y ay cy rfl hE.1) rfl ?_
  exact rd_end H6.out hE.2
set_option maxRecDepth 100000 in
set_option maxHeartbeats 6400000 in
/-- where something did not go on -/
theorem rread14_b {w : World} {R : Nat} {al : Option Addr} {cap : Nat} {L : List Lx.T} {p : Nat} (h : Rdr w R al cap L p true) (lv : Int) :
    Calls Tryz.prog 21 #[.pointer (some ⟨R, 0, none⟩), .int .i64 lv] w (RdPost R al cap L (none, p) w) := by
  have hA := no_new w
  have HR := Lib.hid (And.intro (rdr_below h hA.2.1) (And.intro (And.intro hA.1 hA.2.1) (rowV_lt h.1)))
  obtain ⟨c0, c1, c2, c3, c4⟩ := rdr_cells HR.out.1
  have hne : ¬ R = w.heap.size := by have := HR.out.2.2; omega
  clear h hA
  go_enter Tryz.func21, Tryz.ntmps21
  go_wp2_with (go_at_call 45; refine (rfirst14_no HR.out.1 (.inl rfl)).mono ?_; rintro e w6 ⟨y, ay, cy, rfl, hxy, hsm, hR6, ho6⟩; have H6 := Lib.hid (rd_sub HR.out.2 hxy hsm hR6 ho6); clear hxy hsm hR6 ho6; obtain ⟨e0, e1, e2, e3, e4, e5⟩ := x_cells H6.out.2.2.2.1; simp only [Nat.zero_add] at e0 e1 e2 e3 e4 e5; obtain ⟨f0, f1, f2, f3, f4, f5⟩ := x_ice H6.out.2.2.2.1)
  have hE := x_put H6.out.2.2.2.1 y.op y.v.kind y.v.n y.v.s y.s ay y.l.length cy
  refine bodyPost_ret (v := xV y ay cy) (results_x (p := 4) rfl _ _ w.heap.size y ay cy rfl hE.1) rfl ?_
  exact rd_end H6.out hE.2
set_option maxRecDepth 100000 in
set_option maxHeartbeats 6400000 in
/-- level 0, where no 'if' stands -/
theorem rread14_0 {w : World} {R : Nat} {al : Option Addr} {cap : Nat} {L : List Lx.T} {p : Nat} {r : Option X × Nat} (h : Rdr w R al cap L p false) (hi : isT (toksOf L p) 1 [105, 102] = false) (H1 : ∀ w', Rdr w' R al cap L p false → Calls Tryz.prog 21 #[.pointer (some ⟨R, 0, none⟩), .int .i64 1] w' (RdPost R al cap L r w')) :
    Calls Tryz.prog 21 #[.pointer (some ⟨R, 0, none⟩), .int .i64 0] w (RdPost R al cap L r w) := by
  have hA := no_new w
  have HR := Lib.hid (And.intro (rdr_below h hA.2.1) (And.intro (And.intro hA.1 hA.2.1) (rowV_lt h.1)))
  obtain ⟨c0, c1, c2, c3, c4⟩ := rdr_cells HR.out.1
  have HH := Lib.hid H1
  have HC := Lib.hid ((ris14_any HR.out.1 1 [105, 102]).mono fun e w' hh => (⟨hh.1.trans (ret_bool hi), hh.2⟩ : e = .returned (.bool false) ∧ _))
  have hne : ¬ R = w.heap.size := by have := HR.out.2.2; omega
  clear h H1 hA hi
  go_enter Tryz.func21, Tryz.ntmps21
  go_wp2_with (first | (go_at_call 46; refine HC.out.mono ?_; rintro e w5 ⟨rfl, hb5⟩; have H5 := Lib.hid (And.intro (rdr_below HR.out.1 hb5) (And.intro (And.intro (rowV_below HR.out.2.1.1 hb5 (rowV_lt HR.out.2.1.1)) (HR.out.2.1.2.trans (hb5.mono HR.out.2.1.2.size))) HR.out.2.2)); clear hb5) | (go_at_call 21; refine (HH.out _ H5.out.1).mono ?_; rintro e w6 ⟨y, ay, cy, rfl, hxy, hsm, hR6, ho6⟩; have H6 := Lib.hid (rd_sub H5.out.2 hxy hsm hR6 ho6); clear hxy hsm hR6 ho6; obtain ⟨e0, e1, e2, e3, e4, e5⟩ := x_cells H6.out.2.2.2.1; simp only [Nat.zero_add] at e0 e1 e2 e3 e4 e5; obtain ⟨f0, f1, f2, f3, f4, f5⟩ := x_ice H6.out.2.2.2.1))
  have hE := x_put H6.out.2.2.2.1 y.op y.v.kind y.v.n y.v.s y.s ay y.l.length cy
  refine bodyPost_ret (v := xV y ay cy) (results_x (p := 4) rfl _ _ w.heap.size y ay cy rfl hE.1) rfl ?_
  exact rd_end H6.out hE.2
set_option maxRecDepth 100000 in
set_option maxHeartbeats 6400000 in
/-- level 6, where no '-' stands -/
theorem rread14_6 {w : World} {R : Nat} {al : Option Addr} {cap : Nat} {L : List Lx.T} {p : Nat} {r : Option X × Nat} (h : Rdr w R al cap L p false) (hi : isT (toksOf L p) 4 [45] = false) (H1 : ∀ w', Rdr w' R al cap L p false → Calls Tryz.prog 21 #[.pointer (some ⟨R, 0, none⟩), .int .i64 7] w' (RdPost R al cap L r w')) :
    Calls Tryz.prog 21 #[.pointer (some ⟨R, 0, none⟩), .int .i64 6] w (RdPost R al cap L r w) := by
  have hA := no_new w
  have HR := Lib.hid (And.intro (rdr_below h hA.2.1) (And.intro (And.intro hA.1 hA.2.1) (rowV_lt h.1)))
  obtain ⟨c0, c1, c2, c3, c4⟩ := rdr_cells HR.out.1
  have HH := Lib.hid H1
  have HC := Lib.hid ((ris14_any HR.out.1 4 [45]).mono fun e w' hh => (⟨hh.1.trans (ret_bool hi), hh.2⟩ : e = .returned (.bool false) ∧ _))
  have hne : ¬ R = w.heap.size := by have := HR.out.2.2; omega
  clear h H1 hA hi
  go_enter Tryz.func21, Tryz.ntmps21
  go_wp2_with (first | (go_at_call 46; refine HC.out.mono ?_; rintro e w5 ⟨rfl, hb5⟩; have H5 := Lib.hid (And.intro (rdr_below HR.out.1 hb5) (And.intro (And.intro (rowV_below HR.out.2.1.1 hb5 (rowV_lt HR.out.2.1.1)) (HR.out.2.1.2.trans (hb5.mono HR.out.2.1.2.size))) HR.out.2.2)); clear hb5) | (go_at_call 21; refine (HH.out _ H5.out.1).mono ?_; rintro e w6 ⟨y, ay, cy, rfl, hxy, hsm, hR6, ho6⟩; have H6 := Lib.hid (rd_sub H5.out.2 hxy hsm hR6 ho6); clear hxy hsm hR6 ho6; obtain ⟨e0, e1, e2, e3, e4, e5⟩ := x_cells H6.out.2.2.2.1; simp only [Nat.zero_add] at e0 e1 e2 e3 e4 e5; obtain ⟨f0, f1, f2, f3, f4, f5⟩ := x_ice H6.out.2.2.2.1))
  have hE := x_put H6.out.2.2.2.1 y.op y.v.kind y.v.n y.v.s y.s ay y.l.length cy
  refine bodyPost_ret (v := xV y ay cy) (results_x (p := 4) rfl _ _ w.heap.size y ay cy rfl hE.1) rfl ?_
  exact rd_end H6.out hE.2
end Go.Proofs.YtekahmlppaabjaaGreatDoor
