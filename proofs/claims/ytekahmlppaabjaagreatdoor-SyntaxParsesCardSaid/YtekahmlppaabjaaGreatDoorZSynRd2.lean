/-
  Layer 14: the document's reader of tokens: read, where '-' stands.
-/
import Derived.Test.YtekahmlppaabjaaGreatDoorZSynRd
namespace Go.Proofs.YtekahmlppaabjaaGreatDoor
open Go.RowKit
open Sx (X toksOf isT)
/-- an expression with '-' ahead -/
def Sx.negR : Option X × Nat → Option X × Nat
  | (none, q) => (none, q)
  | (some a, q) => (some (.mk 3 Vl.no Vl.mt [a]), q)
/-- as 'rd_sub', where the reader has gone on -/
theorem rd_sub2 {w w1 w6 : World} {R : Nat} {al : Option Addr} {cap : Nat} {L : List Lx.T} {r : Option X × Nat} {y : X} {ay : Option Addr} (hN : RowV w1 w.heap.size 29 (xC Sx.no none 0).toList) (ho1 : Only (fun k => k = R) w w1) (hRl : R < w.heap.size)
    (hxy : XAt w6 (fun j => w1.heap.size ≤ j) y ay) (hsm : ∀ x, r.1 = some x → y = x) (hR6 : Rdr w6 R al cap L r.2 r.1.isNone) (ho6 : Only (fun k => k = R) w1 w6) : RdSub w w6 R al cap L r y ay := by
  have hl := rowV_lt hN
  exact ⟨xat_mono (fun j hj => by have hj2 : w1.heap.size ≤ j := hj; omega) y ay hxy, hsm, hR6, rowV_only hN ho6 (by omega), ho1.more ho6, hRl⟩
theorem rd_sub3 {w w5 w6 : World} {R : Nat} {al : Option Addr} {cap : Nat} {L : List Lx.T} {r : Option X × Nat} {y : X} {ay : Option Addr} {v : Value} (H5 : (RowV w5 w.heap.size 29 (xC Sx.no none 0).toList ∧ Below w.heap.size w w5) ∧ R < w.heap.size)
    (hxy : XAt w6 (fun j => (w5.setCell ⟨R, 1, none⟩ v).heap.size ≤ j) y ay) (hsm : ∀ x, r.1 = some x → y = x) (hR6 : Rdr w6 R al cap L r.2 r.1.isNone) (ho6 : Only (fun k => k = R) (w5.setCell ⟨R, 1, none⟩ v) w6) : RdSub w w6 R al cap L r y ay :=
  rd_sub2 (rowV_far H5.1.1 (by have := H5.2; omega) v) (Only.setCell (F := fun k => k = R) (Only.of_none H5.1.2) (g := R) (i := 1) (fun _ => rfl) v) H5.2 hxy hsm hR6 ho6
theorem rd_neg_end {w w6 wp : World} {R : Nat} {al : Option Addr} {cap : Nat} {L : List Lx.T} {r : Option X × Nat} {y : X} {ay : Option Addr} (cy : Nat) (H : RdSub w w6 R al cap L r y ay) (ho : Only (fun k => k = w.heap.size) w6 wp) (hs : wp.heap.size = w6.heap.size) (hl : w.heap.size < w6.heap.size) :
    RdPost R al cap L (Sx.negR r) w (.returned (xV (.mk 3 Vl.no Vl.mt [y]) (some ⟨w6.heap.size, 0, none⟩) 1)) (wp.alloc (.cells (xC y ay cy) 29)) := by
  obtain ⟨h1, h2, h3, _, h5, h6⟩ := H
  have hA := x_new y ay cy wp
  rw [hs] at hA
  have hb : Below wp.heap.size wp (wp.alloc (.cells (xC y ay cy) 29)) := by rw [hs]; exact hA.2.1
  have hy : XAt (wp.alloc (.cells (xC y ay cy) 29)) (fun j => w.heap.size ≤ j) y ay := xat_below (xat_mono (fun j hj => Nat.le_of_lt hj) y ay (xat_only ho (fun j hj e => by have hj2 : w.heap.size < j := hj; omega) y ay h1)) hb
  have hX : XAt (wp.alloc (.cells (xC y ay cy) 29)) (fun j => w.heap.size ≤ j) (.mk 3 Vl.no Vl.mt [y]) (some ⟨w6.heap.size, 0, none⟩) := by
    rw [XAt]
    refine .inr ⟨w6.heap.size, 0, rfl, Nat.le_of_lt hl, ?_⟩
    rw [LAt, LAt]
    exact ⟨⟨ay, cy, x_cells hA.1, hy⟩, trivial⟩
  have hR := rdr_below (rdr_put h3 h6 ho) hb
  have hO := (h5.trans ho fun i hi e => absurd hi (by omega)).more (Only.of_none hb)
  obtain ⟨ro, q⟩ := r
  cases ro with
  | none => exact ⟨_, _, 1, rfl, hX, fun x h => (by cases h), hR, hO⟩
  | some x0 => exact ⟨_, _, 1, rfl, hX, fun x h => (by cases h; rw [h2 x0 rfl]), hR, hO⟩
set_option maxRecDepth 100000 in
set_option maxHeartbeats 6400000 in
/-- level 6, where '-' stands -/
theorem rread14_neg {w : World} {R : Nat} {al : Option Addr} {cap : Nat} {L : List Lx.T} {p : Nat} {r : Option X × Nat} (h : Rdr w R al cap L p false) (hp : p ≤ 1000000000) (hi : isT (toksOf L p) 4 [45] = true) (H1 : ∀ w', Rdr w' R al cap L (p + 1) false → Calls Tryz.prog 21 #[.pointer (some ⟨R, 0, none⟩), .int .i64 6] w' (RdPost R al cap L r w')) :
    Calls Tryz.prog 21 #[.pointer (some ⟨R, 0, none⟩), .int .i64 6] w (RdPost R al cap L (Sx.negR r) w) := by
  have hA := no_new w
  have HR := Lib.hid (And.intro (rdr_below h hA.2.1) (And.intro (And.intro hA.1 hA.2.1) (rowV_lt h.1)))
  obtain ⟨c0, c1, c2, c3, c4⟩ := rdr_cells HR.out.1
  have HH := Lib.hid H1
  have HC := Lib.hid ((ris14_any HR.out.1 4 [45]).mono fun e w' hh => (⟨hh.1.trans (ret_bool hi), hh.2⟩ : e = .returned (.bool true) ∧ _))
  have hne : ¬ R = w.heap.size := by have := HR.out.2.2; omega
  have hw1 : IntKind.i64.wrap ((p : Int) + 1) = (p : Int) + 1 := IntWalk.i64_in _ (by omega)
  clear h H1 hA hi
  go_enter Tryz.func21, Tryz.ntmps21
  go_wp2_with (first | (go_at_call 46; refine HC.out.mono ?_; rintro e w5 ⟨rfl, hb5⟩; have H5 := Lib.hid (And.intro (rdr_below HR.out.1 hb5) (And.intro (And.intro (rowV_below HR.out.2.1.1 hb5 (rowV_lt HR.out.2.1.1)) (HR.out.2.1.2.trans (hb5.mono HR.out.2.1.2.size))) HR.out.2.2)); clear hb5 c0 c1 c2 c3 c4; obtain ⟨c0, c1, c2, c3, c4⟩ := rdr_cells H5.out.1) | (go_at_call 21; refine (HH.out _ (rdr_at H5.out.1 (p + 1)).1).mono ?_; rintro e w6 ⟨y, ay, cy, rfl, hxy, hsm, hR6, ho6⟩; have H6 := Lib.hid (rd_sub3 H5.out.2 hxy hsm hR6 ho6); clear hxy hsm hR6 ho6 c0 c1 c2 c3 c4; obtain ⟨e0, e1, e2, e3, e4, e5⟩ := x_cells H6.out.2.2.2.1; simp only [Nat.zero_add] at e0 e1 e2 e3 e4 e5; obtain ⟨f0, f1, f2, f3, f4, f5⟩ := x_ice H6.out.2.2.2.1; have hl6 : w.heap.size < w6.heap.size := rowV_lt H6.out.2.2.2.1; have hn6 : ¬ w.heap.size = w6.heap.size := by omega))
  have hE := x_put H6.out.2.2.2.1 3 0 0 ⟨#[]⟩ ⟨#[]⟩ (some ⟨w6.heap.size, 0, none⟩) 1 1
  refine bodyPost_ret (v := xV (.mk 3 Vl.no Vl.mt [y]) (some ⟨w6.heap.size, 0, none⟩) 1) (results_x (p := 4) rfl _ _ w.heap.size (.mk 3 Vl.no Vl.mt [y]) (some ⟨w6.heap.size, 0, none⟩) 1 rfl (rowV_alloc hE.1 _)) rfl ?_
  exact rd_neg_end cy H6.out (hE.2 (fun k => k = w.heap.size) rfl) (by simp) hl6
end Go.Proofs.YtekahmlppaabjaaGreatDoor
