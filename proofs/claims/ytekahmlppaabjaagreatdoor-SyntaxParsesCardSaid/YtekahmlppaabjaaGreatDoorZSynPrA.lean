/-
  Layer 14, the program's: Read.
-/
import Derived.Test.YtekahmlppaabjaaGreatDoorZSynPr9
import Derived.Test.YtekahmlppaabjaaGreatDoorZSynRead2
namespace Go.Proofs.YtekahmlppaabjaaGreatDoor
open Go.RowKit
open Sx (X toksOf isT)
theorem glob_of {w w' : World} (hT : Twos w) (hE : ErrR w) (hb : Below w.heap.size w w') {R : Nat} (hR : w.heap.size ≤ R) : Glob w' R := by
  obtain ⟨te, pe, h⟩ := hE
  have h1 := World.block_lt_of_cell? _ _ (hT 4 (Nat.le_refl _) (by omega)).1
  have h2 := World.block_lt_of_cell? _ _ h
  exact ⟨twos_below hT hb, errR_below ⟨te, pe, h⟩ hb, Nat.lt_of_lt_of_le h1 hR, Nat.lt_of_lt_of_le h2 hR⟩
theorem rdr_new (al : Option Addr) (ll cap p lev : Nat) (w : World) : RowV (w.alloc (.cells #[.slice al ll cap, .int .i64 (p : Int), .int .i64 (lev : Int), .slice none 0 0, .int .i64 0, .int .i64 0, .int .i64 0, .string ⟨#[]⟩, .string ⟨#[]⟩, .slice none 0 0, .int .i64 0] 56)) w.heap.size 56 (rdC al ll cap p lev none 0 0 Sx.no none 0 0) ∧ Below w.heap.size w (w.alloc (.cells #[.slice al ll cap, .int .i64 (p : Int), .int .i64 (lev : Int), .slice none 0 0, .int .i64 0, .int .i64 0, .int .i64 0, .string ⟨#[]⟩, .string ⟨#[]⟩, .slice none 0 0, .int .i64 0] 56)) ∧ (w.alloc (.cells #[.slice al ll cap, .int .i64 (p : Int), .int .i64 (lev : Int), .slice none 0 0, .int .i64 0, .int .i64 0, .int .i64 0, .string ⟨#[]⟩, .string ⟨#[]⟩, .slice none 0 0, .int .i64 0] 56)).heap.size = w.heap.size + 1 :=
  ⟨rowV_new w _ (rdC al ll cap p lev none 0 0 Sx.no none 0 0), (Below.refl w.heap.size w).alloc (Nat.le_refl _) _, World.size_alloc _ _⟩
/-- unmarked rows, behind a store into a box and a draw -/
theorem xat_um {w w' : World} {N : Nat} {x : X} {a : Option Addr} (h : XAt w (fun j => N < j ∧ ∃ cs T, w.heap[j]? = some (.cells cs T (0, 0))) x a) (ho : Only (fun k => k = N) w w') : XAt w'.drew (fun j => N ≤ j ∧ ∃ cs T, w'.drew.heap[j]? = some (.cells cs T (0, 0))) x a := by
  have h1 := xat_only ho (fun j hj e => by have hj2 : N < j := hj.1; have e2 : j = N := e; omega) x a h
  have h2 : XAt w' (fun j => N ≤ j ∧ ∃ cs T, w'.heap[j]? = some (.cells cs T (0, 0))) x a := xat_mono (fun j hj => ⟨Nat.le_of_lt hj.1, um_only ho hj.2 fun e => by have hj2 : N < j := hj.1; have e2 : j = N := e; omega⟩) x a h1
  exact xat_mono (fun j hj => hj) x a (xat_below h2 (Below.refl _ _).drew)
/-- what Read answers -/
def ReadPost (r : Sx.Res) (w : World) (e : Ending) (w' : World) : Prop :=
  ∃ a c, e = .returned (.tuple #[xV (r.1.getD Sx.no) a c, .int .i64 (r.2 : Nat), .int .i64 (if r.1.isNone then 11 else 0)]) ∧ XAt w' (fun j => w.heap.size ≤ j ∧ ∃ cs T, w'.heap[j]? = some (.cells cs T (0, 0))) (r.1.getD Sx.no) a ∧ Below w.heap.size w w'
set_option maxRecDepth 100000 in
set_option maxHeartbeats 12800000 in
theorem Read14_any {w : World} {al : Option Addr} {cap : Nat} {L : List Lx.T} (p lev : Nat) (hT : ReadsT13 w al L) (hp : p ≤ L.length) (hl : lev ≤ 7) (hL : L.length ≤ 1000000) (hr : ∀ t ∈ L, Lx.right t ∧ t.n ≤ Lx.maxI) (hs : ∀ t ∈ L, t.s.size ≤ 1000000) (hTw : Twos w) (hE : ErrR w) :
    Calls Tryz.prog 10 #[.slice al L.length cap, .int .i64 (p : Int), .int .i64 (lev : Int)] w (ReadPost (Sx.readE L lev p) w) := by
  have hA := no_new w
  obtain ⟨a1, a2, a3⟩ := hA
  have HA := Lib.hid (And.intro a1 (And.intro a2 a3))
  have HI := Lib.hid (And.intro hT (And.intro hTw (And.intro hE (And.intro hr hs))))
  have t1 : ¬ ((p : Nat) : Int) < 0 := by omega
  have t2 : ¬ ((p : Nat) : Int) > (L.length : Int) := by omega
  have t3 : ¬ ((lev : Nat) : Int) < 0 := by omega
  have t4 : ¬ ((lev : Nat) : Int) > 7 := by omega
  have d1 : decide (((p : Nat) : Int) < 0) = false := decide_eq_false t1
  have d2 : decide ((L.length : Int) < ((p : Nat) : Int)) = false := decide_eq_false t2
  have d3 : decide (((lev : Nat) : Int) < 0) = false := decide_eq_false t3
  have d4 : decide ((7 : Int) < ((lev : Nat) : Int)) = false := decide_eq_false t4
  have d5 : decide (L.length < p) = false := decide_eq_false (by omega)
  have d6 : decide (7 < lev) = false := decide_eq_false (by omega)
  clear a1 a2 a3 hT hTw hE hr hs
  go_enter Tryz.func10, Tryz.ntmps10
  go_upto_region 1 with (fail)
  generalize hw0 : World.alloc w _ = w0 at *
  go_wp2_with fail
  have hsz : w0.heap.size = w.heap.size + 1 := HA.out.2.2
  have hN := rdr_new al L.length cap p lev w0
  have hB2 := HA.out.2.1.trans (hN.2.1.mono (by omega))
  have hRd : RdP _ w0.heap.size (w0.heap.size + 1) (fun _ => False) al cap L p lev none 0 [] Sx.no none 0 0 := ⟨hN.1, readsT13_below HI.out.1 hB2, owL_nil _, fun b hb => (by cases hb), List.Pairwise.nil, xat_no _ _ _, Nat.lt_succ_self _, by rw [hN.2.2]; exact Nat.le_refl _, by
    cases L with
    | nil => exact .inl rfl
    | cons t r =>
      refine .inr fun b hb => ?_
      obtain ⟨b', off, e, hc, _⟩ := HI.out.1 0 (by simp)
      rw [hb] at e
      cases e
      have h2 : b' < w.heap.size := World.block_lt_of_cell? w _ hc
      show b' < w0.heap.size
      omega, fun j hj => hj.elim, fun j e hj => hj, fun j hj => hj.elim⟩
  have hGl := glob_of HI.out.2.1 HI.out.2.2.1 hB2 (show w.heap.size ≤ w0.heap.size by omega)
  have cR := read14_any hRd hGl hp hl hL HI.out.2.2.2.1 HI.out.2.2.2.2
  have hN0 := rowV_below HA.out.1 hN.2.1 (by omega)
  have HR := Lib.hid (And.intro cR (And.intro hN0 hB2))
  clear hN hRd hGl cR hN0 hB2
  generalize Sx.readE L lev p = rr at *
  refine HR.out.1.mono ?_
  rintro e w6 ⟨rfl, lev6, ws6, y, ay, cy, h6, M6, hx⟩
  obtain ⟨S6, wa6, wc6, R6, -, O6, -, -, -, -⟩ := M6
  have hN6 := rowV_only HR.out.2.1 O6 (fun e => by rcases e with e | e <;> omega)
  have hB6 := HR.out.2.2.trans (O6.below (fun k _ e => by rcases e with e | e <;> omega) HR.out.2.2.size)
  have hX6 : XAt w6 (fun j => w.heap.size < j ∧ ∃ cs T, w6.heap[j]? = some (.cells cs T (0, 0))) y ay := xat_mono (fun j hj => ⟨by have := (R6.hS j hj).1; omega, R6.um j hj⟩) y ay R6.part
  obtain ⟨-, c1, -, -, -⟩ := rdP_cells R6
  obtain ⟨z4, z5, z6, z7, z8, z9⟩ := rdP_xcells R6
  obtain ⟨e0, e1, e2, e3, e4, e5⟩ := x_cells hN6
  simp only [Nat.zero_add] at e0 e1 e2 e3 e4 e5
  obtain ⟨f0, f1, f2, f3, f4, f5⟩ := x_ice hN6
  have hne : ¬ w.heap.size = w0.heap.size := by omega
  have hne2 : ¬ w0.heap.size = w.heap.size := by omega
  have HF := Lib.hid (And.intro hN6 (And.intro hB6 (And.intro hX6 hx)))
  clear hN6 hB6 hX6 hx R6 O6 HR
  obtain ⟨ro, q⟩ := rr
  rw [hsz] at c1 z4 z5 z6 z7 z8 z9
  cases ro with
  | none =>
    go_wp2_with fail
    go_region
    go_wp2_with fail
    have hE := x_put HF.out.1 0 0 0 ⟨#[]⟩ ⟨#[]⟩ none 0 0
    have ho := hE.2 (fun k => k = w.heap.size) rfl
    have hb := HF.out.2.1.trans (ho.below (fun k _ e => by have e2 : k = w.heap.size := e; omega) HF.out.2.1.size)
    refine bodyPost_ret (v := .tuple #[xV Sx.no none 0, .int .i64 (q : Nat), .int .i64 11]) (results_x3 (p := 6) (u := 7) (x := 8) rfl _ _ w.heap.size Sx.no none 0 rfl (rowV_below hE.1 (Below.refl _ _).drew (rowV_lt hE.1))) rfl ?_
    exact ⟨none, 0, rfl, xat_no _ _ _, hb.drew⟩
  | some x0 =>
    obtain rfl := HF.out.2.2.2 x0 rfl
    go_wp2_with fail
    go_region
    go_wp2_with fail
    have hE := x_put HF.out.1 y.op y.v.kind y.v.n y.v.s y.s ay y.l.length cy
    have ho := hE.2 (fun k => k = w.heap.size) rfl
    have hb := HF.out.2.1.trans (ho.below (fun k _ e => by have e2 : k = w.heap.size := e; omega) HF.out.2.1.size)
    have hxx := xat_um HF.out.2.2.1 ho
    refine bodyPost_ret (v := .tuple #[xV y ay cy, .int .i64 (q : Nat), .int .i64 0]) (results_x3 (p := 6) (u := 7) (x := 8) rfl _ _ w.heap.size y ay cy rfl (rowV_below hE.1 (Below.refl _ _).drew (rowV_lt hE.1))) rfl ?_
    exact ⟨ay, cy, rfl, hxx, hb.drew⟩
end Go.Proofs.YtekahmlppaabjaaGreatDoor
