/-
  Layer 14: the document's Read, from the first token on, at level 0.
-/
import Derived.Test.YtekahmlppaabjaaGreatDoorZSynRd5
namespace Go.Proofs.YtekahmlppaabjaaGreatDoor
open Go.RowKit
open Sx (X toksOf isT)
theorem results_cell_two14 {fn : Func} {p u x : Tmp} {ty : TypeId} (h : fn.results = #[.cell p ty, .tmp u, .tmp x]) (tmps : Array Value) (P : Program) (w : World) :
    (results fn tmps).run P w =
      ((asAddr (tmps.getD p undef)).run P w).andThen fun a w₁ => ((loadVar ty a).run P w₁).andThen fun v w₂ => .ok (.tuple #[v, tmps.getD u undef, tmps.getD x undef]) w₂ := by
  simp only [results, h]
  simp [Sem.run_bind, Result.andThen]
theorem results_x3 {fn : Func} {p u x : Tmp} (h : fn.results = #[.cell p 29, .tmp u, .tmp x]) (tmps : Array Value) (w : World) (g : Nat) (y : X) (a : Option Addr) (c : Nat)
    (hp : tmps.getD p undef = .pointer (some ⟨g, 0, none⟩)) (hg : RowV w g 29 (xC y a c).toList) :
    (results fn tmps).run Tryz.prog w = .ok (.tuple #[xV y a c, tmps.getD u undef, tmps.getD x undef]) w := by
  have hl := run_loadVar_row (P := Tryz.prog) w g 29 29 (xC y a c) (0, 0) _ hg Tryz.underlying29 rfl info_expr
  rw [results_cell_two14 h, hp]
  simp only [asAddr, Sem.run_pure, Result.andThen]
  rw [hl]
theorem rd_put_below {w w6 wb wz : World} (h1 : Below w.heap.size w w6) (h2 : Below w6.heap.size w6 wb) (ho : Only (fun k => k = w.heap.size) wb wz) : Below w.heap.size w wz := by
  have h3 := h1.trans (h2.mono h1.size)
  exact h3.trans (ho.below (fun k _ e => by have e2 : k = w.heap.size := e; omega) h3.size)
set_option maxRecDepth 100000 in
set_option maxHeartbeats 12800000 in
theorem rRead14_00 {al : Option Addr} {cap : Nat} {L : List Lx.T} {w : World} (hT : ReadsT13 w al L) (hL : L.length ≤ 1000000000) (hLS : ∀ t ∈ L, t.s.size ≤ maxLen) (hLr : ∀ t ∈ L, Lx.right t ∧ t.n ≤ Lx.maxI) :
    Calls Tryz.prog 13 #[.slice al L.length cap, .int .i64 0, .int .i64 0] w fun e w' => ∃ a c, e = .returned (.tuple #[xV ((Sx.readE L 0 0).1.getD Sx.no) a c, .int .i64 ((Sx.readE L 0 0).2 : Nat), .int .i64 (if (Sx.readE L 0 0).1.isNone then 11 else 0)]) ∧ XAt w' (fun j => w.heap.size ≤ j) ((Sx.readE L 0 0).1.getD Sx.no) a ∧ Below w.heap.size w w' := by
  have hA := no_new w
  have HA := Lib.hid hA
  have hrd : ∀ (R : Nat) (wx : World), Rdr wx R al cap L 0 false → Calls Tryz.prog 21 #[.pointer (some ⟨R, 0, none⟩), .int .i64 0] wx (RdPost R al cap L (Sx.readE L 0 0) wx) := fun R wx hR => rread14_any hL hLS hLr (10 * L.length + 8) 0 0 wx (by omega) (by omega) (by omega) hR
  generalize Sx.readE L 0 0 = rr at *
  obtain ⟨ro, q⟩ := rr
  have HRD := Lib.hid hrd
  clear hrd
  have HT := Lib.hid hT
  have t1 : decide ((L.length : Int) < 0) = false := decide_eq_false (by omega)
  clear hA hT
  go_enter Tryz.func13, Tryz.ntmps13
  go_wp2_with fail
  generalize hw0 : World.alloc _ _ = w0 at *
  have hsz : w0.heap.size = w.heap.size + 1 := HA.out.2.2
  have hbR : Below w0.heap.size w0 (w0.alloc (.cells #[.slice al L.length cap, .int .i64 0, .bool false] 64)) := (Below.refl _ _).alloc (Nat.le_refl _) _
  have hrR : RowV (w0.alloc (.cells #[.slice al L.length cap, .int .i64 0, .bool false] 64)) (w.heap.size + 1) 64 [.slice al L.length cap, .int .i64 ((0 : Nat) : Int), .bool false] := by
    have := rowV_new w0 64 [.slice al L.length cap, .int .i64 0, .bool false]
    rw [hsz] at this; exact this
  have hBR : Below w.heap.size w (w0.alloc (.cells #[.slice al L.length cap, .int .i64 0, .bool false] 64)) := HA.out.2.1.trans (hbR.mono (by omega))
  have hR0 : Rdr (w0.alloc (.cells #[.slice al L.length cap, .int .i64 0, .bool false] 64)) (w.heap.size + 1) al cap L 0 false := by
    refine ⟨hrR, readsT13_below HT.out hBR, ?_⟩
    cases L with
    | nil => exact .inl rfl
    | cons t r =>
      refine .inr fun b hb => ?_
      obtain ⟨b', off, e, hc, _⟩ := HT.out 0 (by simp)
      rw [hb] at e
      cases e
      have h2 : b' < w.heap.size := World.block_lt_of_cell? w _ hc
      exact Nat.lt_succ_of_lt h2
  have hN0 := rowV_below HA.out.1 hbR (by omega)
  refine (HRD.out (w.heap.size + 1) _ hR0).mono ?_
  rintro e w6 ⟨y, ay, cy, rfl, hx, hm, hR6, ho6⟩
  have hs1 : (w0.alloc (.cells #[.slice al L.length cap, .int .i64 0, .bool false] 64)).heap.size = w.heap.size + 2 := by rw [World.size_alloc, hsz]
  rw [hs1] at hx
  have hB6 : Below w.heap.size w w6 := hBR.trans (ho6.below (fun k _ e => by have e2 : k = w.heap.size + 1 := e; omega) (by rw [hs1]; omega))
  have hN6 := rowV_only hN0 ho6 (show ¬ w.heap.size = w.heap.size + 1 by omega)
  have hl6 := rowV_lt hR6.1
  clear hN0 hR0 hrR hbR hBR ho6 hs1
  have hbA : Below w6.heap.size w6 (w6.alloc (.cells (xC y ay cy) 29)) := (x_new y ay cy w6).2.1
  have hRA := rdr_below hR6 hbA
  have hNA := rowV_below hN6 hbA (rowV_lt hN6)
  have hYA := (x_new y ay cy w6).1
  have HW := Lib.hid (And.intro hx (And.intro hm (And.intro hB6 (And.intro hbA (And.intro hRA (And.intro hNA hYA))))))
  clear hx hm hB6 hbA hRA hNA hYA hN6
  obtain ⟨c0, c1, c2, c3, c4⟩ := rdr_cells hR6
  clear hR6
  have hlR : w.heap.size + 1 < w6.heap.size := hl6
  have hlN : w.heap.size < w6.heap.size := by omega
  clear hl6
  cases ro with
  | none =>
    simp only [Option.isNone_none] at c2
    go_wp2_with fail
    obtain ⟨wb, hwb⟩ : ∃ wb, wb = w6.alloc (.cells (xC y ay cy) 29) := ⟨_, rfl⟩
    rw [← hwb] at HW
    have hwb2 : w6.alloc (.cells #[.int .i64 y.op, .int .i64 y.v.kind, .int .i64 y.v.n, .string y.v.s, .string y.s, .slice ay y.l.length cy] 29) = wb := hwb.symm
    rw [hwb2]
    clear hwb hwb2
    have hne1 : ¬ w.heap.size = w6.heap.size := by omega
    have hne2 : ¬ w.heap.size + 1 = w6.heap.size := by omega
    obtain ⟨c0, c1, c2, c3, c4⟩ := rdr_cells HW.out.2.2.2.2.1
    obtain ⟨e0, e1, e2, e3, e4, e5⟩ := x_cells HW.out.2.2.2.2.2.1
    simp only [Nat.zero_add] at e0 e1 e2 e3 e4 e5
    obtain ⟨f0, f1, f2, f3, f4, f5⟩ := x_ice HW.out.2.2.2.2.2.1
    obtain ⟨m0, m1, m2, m3, m4, m5⟩ := x_cells HW.out.2.2.2.2.2.2
    simp only [Nat.zero_add] at m0 m1 m2 m3 m4 m5
    go_region
    have hE := x_put HW.out.2.2.2.2.2.1 0 0 0 ⟨#[]⟩ ⟨#[]⟩ none 0 0
    have hbe := rd_put_below HW.out.2.2.1 HW.out.2.2.2.1 (hE.2 (fun k => k = w.heap.size) rfl)
    have HE := Lib.hid (And.intro (rowV_below hE.1 (Below.refl _ _).drew (rowV_lt hE.1)) hbe)
    clear hE hbe
    go_wp2_with fail
    refine bodyPost_ret (v := .tuple #[xV Sx.no none 0, .int .i64 (q : Nat), .int .i64 11]) (results_x3 (p := 6) (u := 7) (x := 8) rfl _ _ w.heap.size Sx.no none 0 rfl HE.out.1) rfl ?_
    exact ⟨none, ⟨0, rfl⟩, xat_no _ _ _, HE.out.2.drew⟩
  | some x0 =>
    simp only [Option.isNone_some] at c2
    go_wp2_with fail
    obtain ⟨wb, hwb⟩ : ∃ wb, wb = w6.alloc (.cells (xC y ay cy) 29) := ⟨_, rfl⟩
    rw [← hwb] at HW
    have hwb2 : w6.alloc (.cells #[.int .i64 y.op, .int .i64 y.v.kind, .int .i64 y.v.n, .string y.v.s, .string y.s, .slice ay y.l.length cy] 29) = wb := hwb.symm
    rw [hwb2]
    clear hwb hwb2
    have hne1 : ¬ w.heap.size = w6.heap.size := by omega
    have hne2 : ¬ w.heap.size + 1 = w6.heap.size := by omega
    obtain ⟨c0, c1, c2, c3, c4⟩ := rdr_cells HW.out.2.2.2.2.1
    obtain ⟨e0, e1, e2, e3, e4, e5⟩ := x_cells HW.out.2.2.2.2.2.1
    simp only [Nat.zero_add] at e0 e1 e2 e3 e4 e5
    obtain ⟨f0, f1, f2, f3, f4, f5⟩ := x_ice HW.out.2.2.2.2.2.1
    obtain ⟨m0, m1, m2, m3, m4, m5⟩ := x_cells HW.out.2.2.2.2.2.2
    simp only [Nat.zero_add] at m0 m1 m2 m3 m4 m5
    go_region
    have hE := x_put HW.out.2.2.2.2.2.1 y.op y.v.kind y.v.n y.v.s y.s ay y.l.length cy
    have ho := hE.2 (fun k => k = w.heap.size) rfl
    have hbe := rd_put_below HW.out.2.2.1 HW.out.2.2.2.1 ho
    have hxx := xat_only ho (fun j hj e => by have hj2 : w.heap.size + 2 ≤ j := hj; omega) y ay (xat_below HW.out.1 HW.out.2.2.2.1)
    have HE := Lib.hid (And.intro (rowV_below hE.1 (Below.refl _ _).drew (rowV_lt hE.1)) (And.intro hbe (xat_mono (fun j hj => (by have hj2 : w.heap.size + 2 ≤ j := hj; omega : w.heap.size ≤ j)) y ay hxx)))
    clear hE hbe ho hxx
    go_wp2_with fail
    refine bodyPost_ret (v := .tuple #[xV y ay cy, .int .i64 (q : Nat), .int .i64 0]) (results_x3 (p := 6) (u := 7) (x := 8) rfl _ _ w.heap.size y ay cy rfl HE.out.1) rfl ?_
    have hyx := HW.out.2.1 x0 rfl
    subst hyx
    exact ⟨ay, ⟨cy, rfl⟩, xat_below HE.out.2.2 (Below.refl _ _).drew, HE.out.2.1.drew⟩
end Go.Proofs.YtekahmlppaabjaaGreatDoor
