/-
  Layer 16, the program's: what an op makes of its parts' values.
-/
import Derived.Test.YtmkllibfblacfaaGreatDoorZEvHas
import Derived.Test.YtmkllibfblacfaaGreatDoorPk2
namespace Go.Proofs.YtmkllibfblacfaaGreatDoor
open Go.RowKit
open Vl (V)
theorem neq_val (a b : V) (w : World) : (binOp BinOp.neq 31 (valV a) (valV b)).run Tryz.prog w = .ok (.bool (!decide (a = b))) w := by
  have h := eql_val a b w
  rw [run_eql_struct] at h
  rw [run_neq_struct]
  generalize (Op.equalIn 10000 31 (.agg (valC a)) (.agg (valC b))).run Tryz.prog w = r at *
  cases r with
  | ok x w' =>
    simp only [Result.andThen, Result.ok.injEq, Value.bool.injEq] at h ⊢
    obtain ⟨h1, h2⟩ := h
    rw [h1, h2]; simp
  | halt x w' => simp [Result.andThen] at h
/-- behind the kind that the parts have together -/
def Ev.doneK (k op : Int) (l : List V) : V × Int :=
  if op = 8 then (Ev.truth (decide (l.getD 0 Vl.no = l.getD 1 Vl.no)), 0)
  else if op = 9 then (Ev.truth (!decide (l.getD 0 Vl.no = l.getD 1 Vl.no)), 0)
  else if op = 14 then (Ev.decided false l, 0)
  else if op = 15 then (Ev.decided true l, 0)
  else if Ev.has l Vl.no = true then (Vl.no, 0)
  else if op = 3 then Ev.num (Ev.reck 5 0 (l.getD 0 Vl.no).n)
  else if op = 10 ∨ op = 11 ∨ op = 12 ∨ op = 13 then (Ev.compared op (Vl.cmp (l.getD 0 Vl.no) (l.getD 1 Vl.no)), 0)
  else if k = 2 then Ev.joined (l.getD 0 Vl.no).s (l.getD 1 Vl.no).s
  else Ev.num (Ev.reck op (l.getD 0 Vl.no).n (l.getD 1 Vl.no).n)
theorem Ev.done_none {op : Int} {l : List V} (h : Ev.shared op l = none) : Ev.done op l = (Vl.no, 14) := by unfold Ev.done; rw [h]
theorem Ev.done_some {op k : Int} {l : List V} (h : Ev.shared op l = some k) : Ev.done op l = Ev.doneK k op l := by unfold Ev.done; rw [h]; rfl
theorem getD_at16 {l : List V} {k : Nat} (h : k < l.length) : l.getD k Vl.no = l[k] := by rw [List.getD_eq_getElem?_getD, List.getElem?_eq_getElem h]; rfl
/-- a value's number, and its text, as they may be -/
def Fit16 (v : V) : Prop := Ev.in64 v.n ∧ v.s.size ≤ 1000000
/-- the first two of a list, in memory -/
theorem two_cells16 {w : World} {al : Option Addr} {L : List V} (h : ReadsV w al L) (h1 : 1 < L.length) : ∃ b off, al = some ⟨b, off, none⟩ ∧ (w.cell? ⟨b, off, none⟩ = some (.int .i64 (L.getD 0 Vl.no).kind) ∧ w.cell? ⟨b, off + 1, none⟩ = some (.int .i64 (L.getD 0 Vl.no).n) ∧ w.cell? ⟨b, off + 2, none⟩ = some (.string (L.getD 0 Vl.no).s)) ∧
    (w.cell? ⟨b, off + 3, none⟩ = some (.int .i64 (L.getD 1 Vl.no).kind) ∧ w.cell? ⟨b, off + 4, none⟩ = some (.int .i64 (L.getD 1 Vl.no).n) ∧ w.cell? ⟨b, off + 5, none⟩ = some (.string (L.getD 1 Vl.no).s)) := by
  rw [getD_at16 (show 0 < L.length by omega), getD_at16 h1]
  obtain ⟨b, off, e, c0, c1, c2⟩ := h 0 (by omega)
  obtain ⟨b', off', e', d0, d1, d2⟩ := h 1 h1
  rw [e] at e'
  injection e' with e'
  injection e' with e1 e2
  subst e1; subst e2
  simp only [Nat.zero_mul, Nat.add_zero, Nat.one_mul] at c0 c1 c2 d0 d1 d2
  exact ⟨b, off, e, ⟨c0, c1, c2⟩, ⟨d0, d1, d2⟩⟩
theorem one_cell16 {w : World} {al : Option Addr} {L : List V} (h : ReadsV w al L) (h1 : 0 < L.length) : ∃ b off, al = some ⟨b, off, none⟩ ∧ w.cell? ⟨b, off + 1, none⟩ = some (.int .i64 (L.getD 0 Vl.no).n) := by
  rw [getD_at16 h1]
  obtain ⟨b, off, e, c0, c1, c2⟩ := h 0 h1
  simp only [Nat.zero_mul, Nat.add_zero] at c1
  exact ⟨b, off, e, c1⟩
theorem fit_at16 {L : List V} (hf : ∀ v ∈ L, Fit16 v) {k : Nat} (h : k < L.length) : Fit16 (L.getD k Vl.no) := by rw [getD_at16 h]; exact hf _ (List.getElem_mem h)
set_option maxRecDepth 100000 in
set_option maxHeartbeats 25600000 in
theorem doneK16_any (k op : Int) (L : List V) (al : Option Addr) (n cap : Nat) (hn : L.length = n) (hl : n ≤ 1000000) (hf : ∀ v ∈ L, Fit16 v) (hn0 : op = 3 → 0 < n) (hn1' : op ≠ 3 → op ≠ 14 → op ≠ 15 → 1 < n) (w : World) (hR : ReadsV w al L) (hk : Hid (Ev.shared op L = some k)) :
    Calls Tryz.prog 102 #[.int .i64 op, .slice al n cap] w (EvE (Ev.doneK k op L) w) := by
  have HZ := Lib.hid (zero_box w)
  have HSh := Lib.hid (shared16_any op L al n cap hn hl _ (readsV_below16 hR HZ.out.2))
  have HC := Lib.hid fun (v : V) (wx : World) (hb : Below w.heap.size w wx) => containsV16_any v L al n cap hn hl wx (readsV_below16 hR hb)
  have HD := Lib.hid fun (b : Bool) (wx : World) (hb : Below w.heap.size w wx) => decided16_any b L al n cap hn hl wx (readsV_below16 hR hb)
  by_cases c8 : op = 8
  · have hn1 : 1 < L.length := by rw [hn]; exact hn1' (by omega) (by omega) (by omega)
    have hm : 1 < n := by omega
    have e : Ev.doneK k op L = (Ev.truth (decide (L.getD 0 Vl.no = L.getD 1 Vl.no)), 0) := by
      unfold Ev.doneK
      rw [if_pos c8]
    rw [e]
    have hrd := fun (wx : World) (hb : Below w.heap.size w wx) => two_cells16 (readsV_below16 hR hb) hn1
    have HRd := Lib.hid hrd
    clear hrd
    generalize L.getD 0 Vl.no = y at *
    generalize L.getD 1 Vl.no = z at *
    have eV : ∀ wx, (binOp BinOp.eql 31 (.agg #[.int .i64 y.kind, .int .i64 y.n, .string y.s]) (.agg #[.int .i64 z.kind, .int .i64 z.n, .string z.s])).run Tryz.prog wx = .ok (.bool (decide (y = z))) wx := fun wx => eql_val y z wx
    have HT := Lib.hid fun wx => truth16_any (decide (y = z)) wx
    clear e hR hf HC HD hn1' hn0 hn1 hn
    generalize (decide (y = z)) = B at *
    generalize Ev.truth B = T at *
    subst c8
    go_enter Tryz.func102, Tryz.ntmps102
    go_wp2_with fail
    refine HSh.out.mono ?_
    rintro e w1 ⟨hb1, hh⟩
    rcases hh with ⟨k', hk', rfl⟩ | ⟨hk', -⟩
    · obtain rfl : k = k' := Option.some.inj (hk.out.symm.trans hk')
      have hr1 := rowV_below HZ.out.1 hb1 (rowV_lt HZ.out.1)
      have H1 := Lib.hid (And.intro (HZ.out.2.trans (hb1.mono HZ.out.2.size)) hr1)
      clear hb1 hr1 hk'
      obtain ⟨b, off, rfl, ⟨c0, c1, c2⟩, ⟨d0, d1, d2⟩⟩ := HRd.out _ H1.out.1
      go_wp2_with fail
      refine wp_region_plan (S := fun wx => wx.cell? ⟨b, off, none⟩ = some (.int .i64 y.kind) ∧ wx.cell? ⟨b, off + 1, none⟩ = some (.int .i64 y.n) ∧ wx.cell? ⟨b, off + 2, none⟩ = some (.string y.s) ∧ wx.cell? ⟨b, off + 3, none⟩ = some (.int .i64 z.kind) ∧ wx.cell? ⟨b, off + 4, none⟩ = some (.int .i64 z.n) ∧ wx.cell? ⟨b, off + 5, none⟩ = some (.string z.s) ∧ Hid (Below w1.heap.size w1 wx)) 8 [(true, 0), (true, 1), (true, 2), (true, 3), (true, 4), (true, 5), (true, 6), (false, 7)] (by kernel_rfl) (fun _ d _ _ _ h => by cases d <;> exact h) (by kernel_rfl) ⟨c0, c1, c2, d0, d1, d2, Lib.hid (Below.refl w1.heap.size w1).drew⟩ ?_
      refine wpPlan_step (i := 0) rfl ⟨(.slice (some ⟨b, off, none⟩) n cap), ⟨by rfl, fun wx hSx => ?_⟩, ?_⟩
      · obtain ⟨c0, c1, c2, d0, d1, d2, -⟩ := hSx
        go_simp
      simp only [Act.put, List.setIfInBounds_toArray, List.set_cons_zero, List.set_cons_succ]
      refine wpPlan_step (i := 1) rfl ⟨(.pointer (some ⟨b, off, none⟩)), ⟨by rfl, fun wx hSx => ?_⟩, ?_⟩
      · obtain ⟨c0, c1, c2, d0, d1, d2, -⟩ := hSx
        go_simp; intro hh; omega
      simp only [Act.put, List.setIfInBounds_toArray, List.set_cons_zero, List.set_cons_succ]
      refine wpPlan_step (i := 2) rfl ⟨(valV y), ⟨by rfl, fun wx hSx => ?_⟩, ?_⟩
      · obtain ⟨c0, c1, c2, d0, d1, d2, -⟩ := hSx
        go_simp
      simp only [Act.put, List.setIfInBounds_toArray, List.set_cons_zero, List.set_cons_succ]
      refine wpPlan_step (i := 3) rfl ⟨(.slice (some ⟨b, off, none⟩) n cap), ⟨by rfl, fun wx hSx => ?_⟩, ?_⟩
      · obtain ⟨c0, c1, c2, d0, d1, d2, -⟩ := hSx
        go_simp
      simp only [Act.put, List.setIfInBounds_toArray, List.set_cons_zero, List.set_cons_succ]
      refine wpPlan_step (i := 4) rfl ⟨(.pointer (some ⟨b, off + 3, none⟩)), ⟨by rfl, fun wx hSx => ?_⟩, ?_⟩
      · obtain ⟨c0, c1, c2, d0, d1, d2, -⟩ := hSx
        go_simp; intro hh; omega
      simp only [Act.put, List.setIfInBounds_toArray, List.set_cons_zero, List.set_cons_succ]
      refine wpPlan_step (i := 5) rfl ⟨(valV z), ⟨by rfl, fun wx hSx => ?_⟩, ?_⟩
      · obtain ⟨c0, c1, c2, d0, d1, d2, -⟩ := hSx
        go_simp
      simp only [Act.put, List.setIfInBounds_toArray, List.set_cons_zero, List.set_cons_succ]
      refine wpPlan_step (i := 6) rfl ⟨(.bool B), ⟨by rfl, fun wx hSx => ?_⟩, ?_⟩
      · obtain ⟨c0, c1, c2, d0, d1, d2, -⟩ := hSx
        have q := eV wx; go_simp
      simp only [Act.put, List.setIfInBounds_toArray, List.set_cons_zero, List.set_cons_succ]
      have HS0 : Hid (w1.drew.cell? ⟨b, off, none⟩ = some (.int .i64 y.kind) ∧ w1.drew.cell? ⟨b, off + 1, none⟩ = some (.int .i64 y.n) ∧ w1.drew.cell? ⟨b, off + 2, none⟩ = some (.string y.s) ∧ w1.drew.cell? ⟨b, off + 3, none⟩ = some (.int .i64 z.kind) ∧ w1.drew.cell? ⟨b, off + 4, none⟩ = some (.int .i64 z.n) ∧ w1.drew.cell? ⟨b, off + 5, none⟩ = some (.string z.s) ∧ Hid (Below w1.heap.size w1 w1.drew)) := Lib.hid ⟨c0, c1, c2, d0, d1, d2, Lib.hid (Below.refl w1.heap.size w1).drew⟩
      clear c0 c1 c2 d0 d1 d2
      refine wpPlan_call (i := 7) rfl (by rfl) 100 #[.bool B] (by go_simp) (HT.out _) ?_
      rintro e w5 ⟨rfl, hb⟩
      have hS : w5.cell? ⟨b, off, none⟩ = some (.int .i64 y.kind) ∧ w5.cell? ⟨b, off + 1, none⟩ = some (.int .i64 y.n) ∧ w5.cell? ⟨b, off + 2, none⟩ = some (.string y.s) ∧ w5.cell? ⟨b, off + 3, none⟩ = some (.int .i64 z.kind) ∧ w5.cell? ⟨b, off + 4, none⟩ = some (.int .i64 z.n) ∧ w5.cell? ⟨b, off + 5, none⟩ = some (.string z.s) ∧ Hid (Below w1.heap.size w1 w5) := ⟨(hb.cell (World.block_lt_of_cell? _ _ HS0.out.1)).trans HS0.out.1, (hb.cell (World.block_lt_of_cell? _ _ HS0.out.2.1)).trans HS0.out.2.1, (hb.cell (World.block_lt_of_cell? _ _ HS0.out.2.2.1)).trans HS0.out.2.2.1, (hb.cell (World.block_lt_of_cell? _ _ HS0.out.2.2.2.1)).trans HS0.out.2.2.2.1, (hb.cell (World.block_lt_of_cell? _ _ HS0.out.2.2.2.2.1)).trans HS0.out.2.2.2.2.1, (hb.cell (World.block_lt_of_cell? _ _ HS0.out.2.2.2.2.2.1)).trans HS0.out.2.2.2.2.2.1, Lib.hid (HS0.out.2.2.2.2.2.2.out.trans (hb.mono HS0.out.2.2.2.2.2.2.out.size))⟩
      have Hw5 := Lib.hid hS
      clear hS hb
      refine .inl ⟨_, rfl, Hw5.out, ?_⟩
      simp only [Act.put, List.setIfInBounds_toArray, List.set_cons_zero, List.set_cons_succ]
      show wpList _ _ _ _ _ w5
      simp only [List.drop_succ_cons, List.drop_zero]
      have hrz := rowV_below H1.out.2 (Hw5.out.2.2.2.2.2.2.out) (rowV_lt H1.out.2)
      have H5 := Lib.hid (And.intro (H1.out.1.trans ((Hw5.out.2.2.2.2.2.2.out).mono H1.out.1.size)) hrz)
      clear hrz
      obtain ⟨q0, q1, q2, f0, f1, f2⟩ := val_cells H5.out.2
      obtain ⟨tk, tn, ts⟩ := T
      go_wp2_with fail
      have hp := val_put H5.out.2 tk tn ts
      refine bodyPost_ret (v := valV ⟨tk, tn, ts⟩) (results_v16 (p := 4) rfl _ _ w.heap.size ⟨tk, tn, ts⟩ rfl hp.1) rfl ⟨H5.out.1.trans (hp.2 w.heap.size (Nat.le_refl _)), .inl ⟨rfl, rfl⟩⟩
    · rw [hk.out] at hk'; cases hk' 
  by_cases c9 : op = 9
  · have hn1 : 1 < L.length := by rw [hn]; exact hn1' (by omega) (by omega) (by omega)
    have hm : 1 < n := by omega
    have e : Ev.doneK k op L = (Ev.truth (!decide (L.getD 0 Vl.no = L.getD 1 Vl.no)), 0) := by
      unfold Ev.doneK
      rw [if_neg c8, if_pos c9]
    rw [e]
    have hrd := fun (wx : World) (hb : Below w.heap.size w wx) => two_cells16 (readsV_below16 hR hb) hn1
    have HRd := Lib.hid hrd
    clear hrd
    generalize L.getD 0 Vl.no = y at *
    generalize L.getD 1 Vl.no = z at *
    have eV : ∀ wx, (binOp BinOp.neq 31 (.agg #[.int .i64 y.kind, .int .i64 y.n, .string y.s]) (.agg #[.int .i64 z.kind, .int .i64 z.n, .string z.s])).run Tryz.prog wx = .ok (.bool (!decide (y = z))) wx := fun wx => neq_val y z wx
    have HT := Lib.hid fun wx => truth16_any (!decide (y = z)) wx
    clear e hR hf HC HD hn1' hn0 hn1 hn c8
    generalize (!decide (y = z)) = B at *
    generalize Ev.truth B = T at *
    subst c9
    go_enter Tryz.func102, Tryz.ntmps102
    go_wp2_with fail
    refine HSh.out.mono ?_
    rintro e w1 ⟨hb1, hh⟩
    rcases hh with ⟨k', hk', rfl⟩ | ⟨hk', -⟩
    · obtain rfl : k = k' := Option.some.inj (hk.out.symm.trans hk')
      have hr1 := rowV_below HZ.out.1 hb1 (rowV_lt HZ.out.1)
      have H1 := Lib.hid (And.intro (HZ.out.2.trans (hb1.mono HZ.out.2.size)) hr1)
      clear hb1 hr1 hk'
      obtain ⟨b, off, rfl, ⟨c0, c1, c2⟩, ⟨d0, d1, d2⟩⟩ := HRd.out _ H1.out.1
      go_wp2_with fail
      refine wp_region_plan (S := fun wx => wx.cell? ⟨b, off, none⟩ = some (.int .i64 y.kind) ∧ wx.cell? ⟨b, off + 1, none⟩ = some (.int .i64 y.n) ∧ wx.cell? ⟨b, off + 2, none⟩ = some (.string y.s) ∧ wx.cell? ⟨b, off + 3, none⟩ = some (.int .i64 z.kind) ∧ wx.cell? ⟨b, off + 4, none⟩ = some (.int .i64 z.n) ∧ wx.cell? ⟨b, off + 5, none⟩ = some (.string z.s) ∧ Hid (Below w1.heap.size w1 wx)) 8 [(true, 0), (true, 1), (true, 2), (true, 3), (true, 4), (true, 5), (true, 6), (false, 7)] (by kernel_rfl) (fun _ d _ _ _ h => by cases d <;> exact h) (by kernel_rfl) ⟨c0, c1, c2, d0, d1, d2, Lib.hid (Below.refl w1.heap.size w1).drew⟩ ?_
      refine wpPlan_step (i := 0) rfl ⟨(.slice (some ⟨b, off, none⟩) n cap), ⟨by rfl, fun wx hSx => ?_⟩, ?_⟩
      · obtain ⟨c0, c1, c2, d0, d1, d2, -⟩ := hSx
        go_simp
      simp only [Act.put, List.setIfInBounds_toArray, List.set_cons_zero, List.set_cons_succ]
      refine wpPlan_step (i := 1) rfl ⟨(.pointer (some ⟨b, off, none⟩)), ⟨by rfl, fun wx hSx => ?_⟩, ?_⟩
      · obtain ⟨c0, c1, c2, d0, d1, d2, -⟩ := hSx
        go_simp; intro hh; omega
      simp only [Act.put, List.setIfInBounds_toArray, List.set_cons_zero, List.set_cons_succ]
      refine wpPlan_step (i := 2) rfl ⟨(valV y), ⟨by rfl, fun wx hSx => ?_⟩, ?_⟩
      · obtain ⟨c0, c1, c2, d0, d1, d2, -⟩ := hSx
        go_simp
      simp only [Act.put, List.setIfInBounds_toArray, List.set_cons_zero, List.set_cons_succ]
      refine wpPlan_step (i := 3) rfl ⟨(.slice (some ⟨b, off, none⟩) n cap), ⟨by rfl, fun wx hSx => ?_⟩, ?_⟩
      · obtain ⟨c0, c1, c2, d0, d1, d2, -⟩ := hSx
        go_simp
      simp only [Act.put, List.setIfInBounds_toArray, List.set_cons_zero, List.set_cons_succ]
      refine wpPlan_step (i := 4) rfl ⟨(.pointer (some ⟨b, off + 3, none⟩)), ⟨by rfl, fun wx hSx => ?_⟩, ?_⟩
      · obtain ⟨c0, c1, c2, d0, d1, d2, -⟩ := hSx
        go_simp; intro hh; omega
      simp only [Act.put, List.setIfInBounds_toArray, List.set_cons_zero, List.set_cons_succ]
      refine wpPlan_step (i := 5) rfl ⟨(valV z), ⟨by rfl, fun wx hSx => ?_⟩, ?_⟩
      · obtain ⟨c0, c1, c2, d0, d1, d2, -⟩ := hSx
        go_simp
      simp only [Act.put, List.setIfInBounds_toArray, List.set_cons_zero, List.set_cons_succ]
      refine wpPlan_step (i := 6) rfl ⟨(.bool B), ⟨by rfl, fun wx hSx => ?_⟩, ?_⟩
      · obtain ⟨c0, c1, c2, d0, d1, d2, -⟩ := hSx
        have q := eV wx; go_simp
      simp only [Act.put, List.setIfInBounds_toArray, List.set_cons_zero, List.set_cons_succ]
      have HS0 : Hid (w1.drew.cell? ⟨b, off, none⟩ = some (.int .i64 y.kind) ∧ w1.drew.cell? ⟨b, off + 1, none⟩ = some (.int .i64 y.n) ∧ w1.drew.cell? ⟨b, off + 2, none⟩ = some (.string y.s) ∧ w1.drew.cell? ⟨b, off + 3, none⟩ = some (.int .i64 z.kind) ∧ w1.drew.cell? ⟨b, off + 4, none⟩ = some (.int .i64 z.n) ∧ w1.drew.cell? ⟨b, off + 5, none⟩ = some (.string z.s) ∧ Hid (Below w1.heap.size w1 w1.drew)) := Lib.hid ⟨c0, c1, c2, d0, d1, d2, Lib.hid (Below.refl w1.heap.size w1).drew⟩
      clear c0 c1 c2 d0 d1 d2
      refine wpPlan_call (i := 7) rfl (by rfl) 100 #[.bool B] (by go_simp) (HT.out _) ?_
      rintro e w5 ⟨rfl, hb⟩
      have hS : w5.cell? ⟨b, off, none⟩ = some (.int .i64 y.kind) ∧ w5.cell? ⟨b, off + 1, none⟩ = some (.int .i64 y.n) ∧ w5.cell? ⟨b, off + 2, none⟩ = some (.string y.s) ∧ w5.cell? ⟨b, off + 3, none⟩ = some (.int .i64 z.kind) ∧ w5.cell? ⟨b, off + 4, none⟩ = some (.int .i64 z.n) ∧ w5.cell? ⟨b, off + 5, none⟩ = some (.string z.s) ∧ Hid (Below w1.heap.size w1 w5) := ⟨(hb.cell (World.block_lt_of_cell? _ _ HS0.out.1)).trans HS0.out.1, (hb.cell (World.block_lt_of_cell? _ _ HS0.out.2.1)).trans HS0.out.2.1, (hb.cell (World.block_lt_of_cell? _ _ HS0.out.2.2.1)).trans HS0.out.2.2.1, (hb.cell (World.block_lt_of_cell? _ _ HS0.out.2.2.2.1)).trans HS0.out.2.2.2.1, (hb.cell (World.block_lt_of_cell? _ _ HS0.out.2.2.2.2.1)).trans HS0.out.2.2.2.2.1, (hb.cell (World.block_lt_of_cell? _ _ HS0.out.2.2.2.2.2.1)).trans HS0.out.2.2.2.2.2.1, Lib.hid (HS0.out.2.2.2.2.2.2.out.trans (hb.mono HS0.out.2.2.2.2.2.2.out.size))⟩
      have Hw5 := Lib.hid hS
      clear hS hb
      refine .inl ⟨_, rfl, Hw5.out, ?_⟩
      simp only [Act.put, List.setIfInBounds_toArray, List.set_cons_zero, List.set_cons_succ]
      show wpList _ _ _ _ _ w5
      simp only [List.drop_succ_cons, List.drop_zero]
      have hrz := rowV_below H1.out.2 (Hw5.out.2.2.2.2.2.2.out) (rowV_lt H1.out.2)
      have H5 := Lib.hid (And.intro (H1.out.1.trans ((Hw5.out.2.2.2.2.2.2.out).mono H1.out.1.size)) hrz)
      clear hrz
      obtain ⟨q0, q1, q2, f0, f1, f2⟩ := val_cells H5.out.2
      obtain ⟨tk, tn, ts⟩ := T
      go_wp2_with fail
      have hp := val_put H5.out.2 tk tn ts
      refine bodyPost_ret (v := valV ⟨tk, tn, ts⟩) (results_v16 (p := 4) rfl _ _ w.heap.size ⟨tk, tn, ts⟩ rfl hp.1) rfl ⟨H5.out.1.trans (hp.2 w.heap.size (Nat.le_refl _)), .inl ⟨rfl, rfl⟩⟩
    · rw [hk.out] at hk'; cases hk' 
  by_cases c14 : op = 14
  · have e : Ev.doneK k op L = (Ev.decided false L, 0) := by
      unfold Ev.doneK
      rw [if_neg c8, if_neg c9, if_pos c14]
    rw [e]
    have HT := Lib.hid (HD.out false)
    clear e hR hf HC HD hn1' hn0 hn c8 c9
    generalize Ev.decided false L = T at *
    subst c14
    go_enter Tryz.func102, Tryz.ntmps102
    go_wp2_with fail
    refine HSh.out.mono ?_
    rintro e w1 ⟨hb1, hh⟩
    rcases hh with ⟨k', hk', rfl⟩ | ⟨hk', -⟩
    · obtain rfl : k = k' := Option.some.inj (hk.out.symm.trans hk')
      have hr1 := rowV_below HZ.out.1 hb1 (rowV_lt HZ.out.1)
      have H1 := Lib.hid (And.intro (HZ.out.2.trans (hb1.mono HZ.out.2.size)) hr1)
      clear hb1 hr1 hk'
      go_wp2_with fail
      refine (HT.out _ H1.out.1).mono ?_
      rintro e w5 ⟨rfl, hb5⟩
      have hr5 := rowV_below H1.out.2 hb5 (rowV_lt H1.out.2)
      have H5 := Lib.hid (And.intro (H1.out.1.trans (hb5.mono H1.out.1.size)) hr5)
      clear hb5 hr5
      obtain ⟨q0, q1, q2, f0, f1, f2⟩ := val_cells H5.out.2
      obtain ⟨tk, tn, ts⟩ := T
      go_wp2_with fail
      have hp := val_put H5.out.2 tk tn ts
      refine bodyPost_ret (v := valV ⟨tk, tn, ts⟩) (results_v16 (p := 4) rfl _ _ w.heap.size ⟨tk, tn, ts⟩ rfl hp.1) rfl ⟨H5.out.1.trans (hp.2 w.heap.size (Nat.le_refl _)), .inl ⟨rfl, rfl⟩⟩
    · rw [hk.out] at hk'; cases hk' 
  by_cases c15 : op = 15
  · have e : Ev.doneK k op L = (Ev.decided true L, 0) := by
      unfold Ev.doneK
      rw [if_neg c8, if_neg c9, if_neg c14, if_pos c15]
    rw [e]
    have HT := Lib.hid (HD.out true)
    clear e hR hf HC HD hn1' hn0 hn c8 c9 c14
    generalize Ev.decided true L = T at *
    subst c15
    go_enter Tryz.func102, Tryz.ntmps102
    go_wp2_with fail
    refine HSh.out.mono ?_
    rintro e w1 ⟨hb1, hh⟩
    rcases hh with ⟨k', hk', rfl⟩ | ⟨hk', -⟩
    · obtain rfl : k = k' := Option.some.inj (hk.out.symm.trans hk')
      have hr1 := rowV_below HZ.out.1 hb1 (rowV_lt HZ.out.1)
      have H1 := Lib.hid (And.intro (HZ.out.2.trans (hb1.mono HZ.out.2.size)) hr1)
      clear hb1 hr1 hk'
      go_wp2_with fail
      refine (HT.out _ H1.out.1).mono ?_
      rintro e w5 ⟨rfl, hb5⟩
      have hr5 := rowV_below H1.out.2 hb5 (rowV_lt H1.out.2)
      have H5 := Lib.hid (And.intro (H1.out.1.trans (hb5.mono H1.out.1.size)) hr5)
      clear hb5 hr5
      obtain ⟨q0, q1, q2, f0, f1, f2⟩ := val_cells H5.out.2
      obtain ⟨tk, tn, ts⟩ := T
      go_wp2_with fail
      have hp := val_put H5.out.2 tk tn ts
      refine bodyPost_ret (v := valV ⟨tk, tn, ts⟩) (results_v16 (p := 4) rfl _ _ w.heap.size ⟨tk, tn, ts⟩ rfl hp.1) rfl ⟨H5.out.1.trans (hp.2 w.heap.size (Nat.le_refl _)), .inl ⟨rfl, rfl⟩⟩
    · rw [hk.out] at hk'; cases hk' 
  have t8 : (op == 8) = false := by simpa using c8
  have t9 : (op == 9) = false := by simpa using c9
  have t14 : (op == 14) = false := by simpa using c14
  have t15 : (op == 15) = false := by simpa using c15
  have HC1 := Lib.hid (HC.out Vl.no)
  have e0 : Ev.doneK k op L = if Ev.has L Vl.no = true then (Vl.no, 0) else if op = 3 then Ev.num (Ev.reck 5 0 (L.getD 0 Vl.no).n) else if op = 10 ∨ op = 11 ∨ op = 12 ∨ op = 13 then (Ev.compared op (Vl.cmp (L.getD 0 Vl.no) (L.getD 1 Vl.no)), 0) else if k = 2 then Ev.joined (L.getD 0 Vl.no).s (L.getD 1 Vl.no).s else Ev.num (Ev.reck op (L.getD 0 Vl.no).n (L.getD 1 Vl.no).n) := by
    unfold Ev.doneK
    rw [if_neg c8, if_neg c9, if_neg c14, if_neg c15]
  clear HC HD c8 c9
  cases hB : Ev.has L Vl.no with
  | true =>
    rw [e0, hB, if_pos rfl]
    rw [hB] at HC1
    clear hB e0 hR hf hn1' hn0 hn c14 c15
    go_enter Tryz.func102, Tryz.ntmps102
    go_wp2_with fail
    refine HSh.out.mono ?_
    rintro e w1 ⟨hb1, hh⟩
    rcases hh with ⟨k', hk', rfl⟩ | ⟨hk', -⟩
    · obtain rfl : k = k' := Option.some.inj (hk.out.symm.trans hk')
      have hr1 := rowV_below HZ.out.1 hb1 (rowV_lt HZ.out.1)
      have H1 := Lib.hid (And.intro (HZ.out.2.trans (hb1.mono HZ.out.2.size)) hr1)
      clear hb1 hr1 hk'
      go_wp2_with fail
      refine (HC1.out _ H1.out.1).mono ?_
      rintro e w5 ⟨rfl, hb5⟩
      have hr5 := rowV_below H1.out.2 hb5 (rowV_lt H1.out.2)
      have H5 := Lib.hid (And.intro (H1.out.1.trans (hb5.mono H1.out.1.size)) hr5)
      clear hb5 hr5
      obtain ⟨q0, q1, q2, f0, f1, f2⟩ := val_cells H5.out.2
      go_wp2_with fail
      have hp := val_put H5.out.2 0 0 ⟨#[]⟩
      refine bodyPost_ret (v := valV Vl.no) (results_v16 (p := 4) rfl _ _ w.heap.size Vl.no rfl hp.1) rfl ⟨H5.out.1.trans (hp.2 w.heap.size (Nat.le_refl _)), .inl ⟨rfl, rfl⟩⟩
    · rw [hk.out] at hk'; cases hk' 
  | false =>
    rw [e0, hB, if_neg (by decide)]
    rw [hB] at HC1
    clear hB e0
    by_cases c3 : op = 3
    · rw [if_pos c3]
      have hn1 : 0 < L.length := by rw [hn]; exact hn0 c3
      have hm : 0 < n := hn0 c3
      have hm2 : ¬ n = 0 := by omega
      have HRd := Lib.hid fun (wx : World) (hb : Below w.heap.size w wx) => one_cell16 (readsV_below16 hR hb) hn1
      have hfy := (fit_at16 hf hn1).1
      generalize L.getD 0 Vl.no = y at *
      have HT := Lib.hid fun wx => reckoned16_any 5 0 y.n (by unfold Ev.in64; omega) hfy wx
      generalize Ev.num (Ev.reck 5 0 y.n) = T at *
      clear hR hf hn1' hn0 hn hn1 hfy c14 c15
      subst c3
      go_enter Tryz.func102, Tryz.ntmps102
      go_wp2_with fail
      refine HSh.out.mono ?_
      rintro e w1 ⟨hb1, hh⟩
      rcases hh with ⟨k', hk', rfl⟩ | ⟨hk', -⟩
      · obtain rfl : k = k' := Option.some.inj (hk.out.symm.trans hk')
        have hr1 := rowV_below HZ.out.1 hb1 (rowV_lt HZ.out.1)
        have H1 := Lib.hid (And.intro (HZ.out.2.trans (hb1.mono HZ.out.2.size)) hr1)
        clear hb1 hr1 hk'
        go_wp2_with fail
        refine (HC1.out _ H1.out.1).mono ?_
        rintro e w2 ⟨rfl, hb2⟩
        have hr2 := rowV_below H1.out.2 hb2 (rowV_lt H1.out.2)
        have H2 := Lib.hid (And.intro (H1.out.1.trans (hb2.mono H1.out.1.size)) hr2)
        clear hb2 hr2
        obtain ⟨b, off, rfl, c1⟩ := HRd.out _ H2.out.1
        go_wp2_with fail
        refine (HT.out _).mono ?_
        rintro e w5 ⟨hb5, hh⟩
        rcases hh with ⟨hz, rfl⟩ | ⟨hz, rfl⟩
        · have HZ5 := Lib.hid hz
          have hr5 := rowV_below H2.out.2 hb5 (rowV_lt H2.out.2)
          have H5 := Lib.hid (And.intro (H2.out.1.trans (hb5.mono H2.out.1.size)) hr5)
          clear hb5 hr5 hz
          obtain ⟨TT, te⟩ := T
          dsimp only at HZ5 ⊢
          obtain ⟨q0, q1, q2, f0, f1, f2⟩ := val_cells H5.out.2
          obtain ⟨tk, tn, ts⟩ := TT
          go_wp2_with fail
          have hp := val_put H5.out.2 tk tn ts
          refine bodyPost_ret (v := valV ⟨tk, tn, ts⟩) (results_v16 (p := 4) rfl _ _ w.heap.size ⟨tk, tn, ts⟩ rfl hp.1) rfl ⟨H5.out.1.trans (hp.2 w.heap.size (Nat.le_refl _)), .inl ⟨HZ5.out, rfl⟩⟩
        · have HB5 := Lib.hid (H2.out.1.trans (hb5.mono H2.out.1.size))
          have HZ5 := Lib.hid hz
          clear hb5 hz
          go_wp2_with fail
          exact ⟨rfl, HB5.out, .inr ⟨HZ5.out, rfl⟩⟩
      · rw [hk.out] at hk'; cases hk' 
    have t3 : (op == 3) = false := by simpa using c3
    rw [if_neg c3]
    have hn1 : 1 < L.length := by rw [hn]; exact hn1' c3 c14 c15
    have hm : 1 < n := by omega
    have hfy := fit_at16 hf (show 0 < L.length by omega)
    have hfz := fit_at16 hf hn1
    have hrd := fun (wx : World) (hb : Below w.heap.size w wx) => two_cells16 (readsV_below16 hR hb) hn1
    have HRd := Lib.hid hrd
    clear hrd
    generalize L.getD 0 Vl.no = y at *
    generalize L.getD 1 Vl.no = z at *
    clear hR hf hn1' hn0 hn hn1 c3 c14 c15
    by_cases c10 : op = 10 ∨ op = 11 ∨ op = 12 ∨ op = 13
    · rw [if_pos c10]
      have HCm := Lib.hid fun wx => compare12_any y z wx
      have HT := Lib.hid fun wx => compared16_any op (Vl.cmp y z) wx
      generalize Ev.compared op (Vl.cmp y z) = T at *
      clear hfy hfz
      rcases c10 with rfl | rfl | rfl | rfl
      · go_enter Tryz.func102, Tryz.ntmps102
        go_wp2_with fail
        refine HSh.out.mono ?_
        rintro e w1 ⟨hb1, hh⟩
        rcases hh with ⟨k', hk', rfl⟩ | ⟨hk', -⟩
        · obtain rfl : k = k' := Option.some.inj (hk.out.symm.trans hk')
          have hr1 := rowV_below HZ.out.1 hb1 (rowV_lt HZ.out.1)
          have H1 := Lib.hid (And.intro (HZ.out.2.trans (hb1.mono HZ.out.2.size)) hr1)
          clear hb1 hr1 hk'
          go_wp2_with fail
          refine (HC1.out _ H1.out.1).mono ?_
          rintro e w2 ⟨rfl, hb2⟩
          have hr2 := rowV_below H1.out.2 hb2 (rowV_lt H1.out.2)
          have H2 := Lib.hid (And.intro (H1.out.1.trans (hb2.mono H1.out.1.size)) hr2)
          clear hb2 hr2
          obtain ⟨b, off, rfl, ⟨c0, c1, c2⟩, ⟨d0, d1, d2⟩⟩ := HRd.out _ H2.out.1
          go_wp2_with fail
          refine wp_region_plan (S := fun wx => wx.cell? ⟨b, off, none⟩ = some (.int .i64 y.kind) ∧ wx.cell? ⟨b, off + 1, none⟩ = some (.int .i64 y.n) ∧ wx.cell? ⟨b, off + 2, none⟩ = some (.string y.s) ∧ wx.cell? ⟨b, off + 3, none⟩ = some (.int .i64 z.kind) ∧ wx.cell? ⟨b, off + 4, none⟩ = some (.int .i64 z.n) ∧ wx.cell? ⟨b, off + 5, none⟩ = some (.string z.s) ∧ Hid (Below w2.heap.size w2 wx)) 9 [(true, 0), (true, 1), (true, 2), (true, 3), (true, 4), (true, 5), (true, 6), (false, 7), (false, 8)] (by kernel_rfl) (fun _ d _ _ _ h => by cases d <;> exact h) (by kernel_rfl) ⟨c0, c1, c2, d0, d1, d2, Lib.hid (Below.refl w2.heap.size w2).drew⟩ ?_
          refine wpPlan_step (i := 0) rfl ⟨(.int .i64 10), ⟨by rfl, fun wx hSx => ?_⟩, ?_⟩
          · obtain ⟨c0, c1, c2, d0, d1, d2, -⟩ := hSx
            go_simp
          simp only [Act.put, List.setIfInBounds_toArray, List.set_cons_zero, List.set_cons_succ]
          refine wpPlan_step (i := 1) rfl ⟨(.slice (some ⟨b, off, none⟩) n cap), ⟨by rfl, fun wx hSx => ?_⟩, ?_⟩
          · obtain ⟨c0, c1, c2, d0, d1, d2, -⟩ := hSx
            go_simp
          simp only [Act.put, List.setIfInBounds_toArray, List.set_cons_zero, List.set_cons_succ]
          refine wpPlan_step (i := 2) rfl ⟨(.pointer (some ⟨b, off, none⟩)), ⟨by rfl, fun wx hSx => ?_⟩, ?_⟩
          · obtain ⟨c0, c1, c2, d0, d1, d2, -⟩ := hSx
            go_simp; intro hh; omega
          simp only [Act.put, List.setIfInBounds_toArray, List.set_cons_zero, List.set_cons_succ]
          refine wpPlan_step (i := 3) rfl ⟨(valV y), ⟨by rfl, fun wx hSx => ?_⟩, ?_⟩
          · obtain ⟨c0, c1, c2, d0, d1, d2, -⟩ := hSx
            go_simp
          simp only [Act.put, List.setIfInBounds_toArray, List.set_cons_zero, List.set_cons_succ]
          refine wpPlan_step (i := 4) rfl ⟨(.slice (some ⟨b, off, none⟩) n cap), ⟨by rfl, fun wx hSx => ?_⟩, ?_⟩
          · obtain ⟨c0, c1, c2, d0, d1, d2, -⟩ := hSx
            go_simp
          simp only [Act.put, List.setIfInBounds_toArray, List.set_cons_zero, List.set_cons_succ]
          refine wpPlan_step (i := 5) rfl ⟨(.pointer (some ⟨b, off + 3, none⟩)), ⟨by rfl, fun wx hSx => ?_⟩, ?_⟩
          · obtain ⟨c0, c1, c2, d0, d1, d2, -⟩ := hSx
            go_simp; intro hh; omega
          simp only [Act.put, List.setIfInBounds_toArray, List.set_cons_zero, List.set_cons_succ]
          refine wpPlan_step (i := 6) rfl ⟨(valV z), ⟨by rfl, fun wx hSx => ?_⟩, ?_⟩
          · obtain ⟨c0, c1, c2, d0, d1, d2, -⟩ := hSx
            go_simp
          simp only [Act.put, List.setIfInBounds_toArray, List.set_cons_zero, List.set_cons_succ]
          have HS0 : Hid (w2.drew.cell? ⟨b, off, none⟩ = some (.int .i64 y.kind) ∧ w2.drew.cell? ⟨b, off + 1, none⟩ = some (.int .i64 y.n) ∧ w2.drew.cell? ⟨b, off + 2, none⟩ = some (.string y.s) ∧ w2.drew.cell? ⟨b, off + 3, none⟩ = some (.int .i64 z.kind) ∧ w2.drew.cell? ⟨b, off + 4, none⟩ = some (.int .i64 z.n) ∧ w2.drew.cell? ⟨b, off + 5, none⟩ = some (.string z.s) ∧ Hid (Below w2.heap.size w2 w2.drew)) := Lib.hid ⟨c0, c1, c2, d0, d1, d2, Lib.hid (Below.refl w2.heap.size w2).drew⟩
          clear c0 c1 c2 d0 d1 d2
          refine wpPlan_call (i := 7) rfl (by rfl) 113 #[valV y, valV z] (by go_simp) (HCm.out _) ?_
          rintro e w4 ⟨rfl, hb⟩
          have hS : w4.cell? ⟨b, off, none⟩ = some (.int .i64 y.kind) ∧ w4.cell? ⟨b, off + 1, none⟩ = some (.int .i64 y.n) ∧ w4.cell? ⟨b, off + 2, none⟩ = some (.string y.s) ∧ w4.cell? ⟨b, off + 3, none⟩ = some (.int .i64 z.kind) ∧ w4.cell? ⟨b, off + 4, none⟩ = some (.int .i64 z.n) ∧ w4.cell? ⟨b, off + 5, none⟩ = some (.string z.s) ∧ Hid (Below w2.heap.size w2 w4) := ⟨(hb.cell (World.block_lt_of_cell? _ _ HS0.out.1)).trans HS0.out.1, (hb.cell (World.block_lt_of_cell? _ _ HS0.out.2.1)).trans HS0.out.2.1, (hb.cell (World.block_lt_of_cell? _ _ HS0.out.2.2.1)).trans HS0.out.2.2.1, (hb.cell (World.block_lt_of_cell? _ _ HS0.out.2.2.2.1)).trans HS0.out.2.2.2.1, (hb.cell (World.block_lt_of_cell? _ _ HS0.out.2.2.2.2.1)).trans HS0.out.2.2.2.2.1, (hb.cell (World.block_lt_of_cell? _ _ HS0.out.2.2.2.2.2.1)).trans HS0.out.2.2.2.2.2.1, Lib.hid (HS0.out.2.2.2.2.2.2.out.trans (hb.mono HS0.out.2.2.2.2.2.2.out.size))⟩
          have Hw4 := Lib.hid hS
          clear hS hb
          refine .inl ⟨_, rfl, Hw4.out, ?_⟩
          simp only [Act.put, List.setIfInBounds_toArray, List.set_cons_zero, List.set_cons_succ]
          refine wpPlan_call (i := 8) rfl (by rfl) 136 #[.int .i64 10, .int .i64 (Vl.cmp y z)] (by go_simp) (HT.out _) ?_
          rintro e w5 ⟨rfl, hb⟩
          have hS : w5.cell? ⟨b, off, none⟩ = some (.int .i64 y.kind) ∧ w5.cell? ⟨b, off + 1, none⟩ = some (.int .i64 y.n) ∧ w5.cell? ⟨b, off + 2, none⟩ = some (.string y.s) ∧ w5.cell? ⟨b, off + 3, none⟩ = some (.int .i64 z.kind) ∧ w5.cell? ⟨b, off + 4, none⟩ = some (.int .i64 z.n) ∧ w5.cell? ⟨b, off + 5, none⟩ = some (.string z.s) ∧ Hid (Below w2.heap.size w2 w5) := ⟨(hb.cell (World.block_lt_of_cell? _ _ Hw4.out.1)).trans Hw4.out.1, (hb.cell (World.block_lt_of_cell? _ _ Hw4.out.2.1)).trans Hw4.out.2.1, (hb.cell (World.block_lt_of_cell? _ _ Hw4.out.2.2.1)).trans Hw4.out.2.2.1, (hb.cell (World.block_lt_of_cell? _ _ Hw4.out.2.2.2.1)).trans Hw4.out.2.2.2.1, (hb.cell (World.block_lt_of_cell? _ _ Hw4.out.2.2.2.2.1)).trans Hw4.out.2.2.2.2.1, (hb.cell (World.block_lt_of_cell? _ _ Hw4.out.2.2.2.2.2.1)).trans Hw4.out.2.2.2.2.2.1, Lib.hid (Hw4.out.2.2.2.2.2.2.out.trans (hb.mono Hw4.out.2.2.2.2.2.2.out.size))⟩
          have Hw5 := Lib.hid hS
          clear hS hb
          refine .inl ⟨_, rfl, Hw5.out, ?_⟩
          simp only [Act.put, List.setIfInBounds_toArray, List.set_cons_zero, List.set_cons_succ]
          show wpList _ _ _ _ _ w5
          simp only [List.drop_succ_cons, List.drop_zero]
          have hrz := rowV_below H2.out.2 (Hw5.out.2.2.2.2.2.2.out) (rowV_lt H2.out.2)
          have H5 := Lib.hid (And.intro (H2.out.1.trans ((Hw5.out.2.2.2.2.2.2.out).mono H2.out.1.size)) hrz)
          clear hrz
          obtain ⟨q0, q1, q2, f0, f1, f2⟩ := val_cells H5.out.2
          obtain ⟨tk, tn, ts⟩ := T
          go_wp2_with fail
          have hp := val_put H5.out.2 tk tn ts
          refine bodyPost_ret (v := valV ⟨tk, tn, ts⟩) (results_v16 (p := 4) rfl _ _ w.heap.size ⟨tk, tn, ts⟩ rfl hp.1) rfl ⟨H5.out.1.trans (hp.2 w.heap.size (Nat.le_refl _)), .inl ⟨rfl, rfl⟩⟩
        · rw [hk.out] at hk'; cases hk' 
      · go_enter Tryz.func102, Tryz.ntmps102
        go_wp2_with fail
        refine HSh.out.mono ?_
        rintro e w1 ⟨hb1, hh⟩
        rcases hh with ⟨k', hk', rfl⟩ | ⟨hk', -⟩
        · obtain rfl : k = k' := Option.some.inj (hk.out.symm.trans hk')
          have hr1 := rowV_below HZ.out.1 hb1 (rowV_lt HZ.out.1)
          have H1 := Lib.hid (And.intro (HZ.out.2.trans (hb1.mono HZ.out.2.size)) hr1)
          clear hb1 hr1 hk'
          go_wp2_with fail
          refine (HC1.out _ H1.out.1).mono ?_
          rintro e w2 ⟨rfl, hb2⟩
          have hr2 := rowV_below H1.out.2 hb2 (rowV_lt H1.out.2)
          have H2 := Lib.hid (And.intro (H1.out.1.trans (hb2.mono H1.out.1.size)) hr2)
          clear hb2 hr2
          obtain ⟨b, off, rfl, ⟨c0, c1, c2⟩, ⟨d0, d1, d2⟩⟩ := HRd.out _ H2.out.1
          go_wp2_with fail
          refine wp_region_plan (S := fun wx => wx.cell? ⟨b, off, none⟩ = some (.int .i64 y.kind) ∧ wx.cell? ⟨b, off + 1, none⟩ = some (.int .i64 y.n) ∧ wx.cell? ⟨b, off + 2, none⟩ = some (.string y.s) ∧ wx.cell? ⟨b, off + 3, none⟩ = some (.int .i64 z.kind) ∧ wx.cell? ⟨b, off + 4, none⟩ = some (.int .i64 z.n) ∧ wx.cell? ⟨b, off + 5, none⟩ = some (.string z.s) ∧ Hid (Below w2.heap.size w2 wx)) 9 [(true, 0), (true, 1), (true, 2), (true, 3), (true, 4), (true, 5), (true, 6), (false, 7), (false, 8)] (by kernel_rfl) (fun _ d _ _ _ h => by cases d <;> exact h) (by kernel_rfl) ⟨c0, c1, c2, d0, d1, d2, Lib.hid (Below.refl w2.heap.size w2).drew⟩ ?_
          refine wpPlan_step (i := 0) rfl ⟨(.int .i64 11), ⟨by rfl, fun wx hSx => ?_⟩, ?_⟩
          · obtain ⟨c0, c1, c2, d0, d1, d2, -⟩ := hSx
            go_simp
          simp only [Act.put, List.setIfInBounds_toArray, List.set_cons_zero, List.set_cons_succ]
          refine wpPlan_step (i := 1) rfl ⟨(.slice (some ⟨b, off, none⟩) n cap), ⟨by rfl, fun wx hSx => ?_⟩, ?_⟩
          · obtain ⟨c0, c1, c2, d0, d1, d2, -⟩ := hSx
            go_simp
          simp only [Act.put, List.setIfInBounds_toArray, List.set_cons_zero, List.set_cons_succ]
          refine wpPlan_step (i := 2) rfl ⟨(.pointer (some ⟨b, off, none⟩)), ⟨by rfl, fun wx hSx => ?_⟩, ?_⟩
          · obtain ⟨c0, c1, c2, d0, d1, d2, -⟩ := hSx
            go_simp; intro hh; omega
          simp only [Act.put, List.setIfInBounds_toArray, List.set_cons_zero, List.set_cons_succ]
          refine wpPlan_step (i := 3) rfl ⟨(valV y), ⟨by rfl, fun wx hSx => ?_⟩, ?_⟩
          · obtain ⟨c0, c1, c2, d0, d1, d2, -⟩ := hSx
            go_simp
          simp only [Act.put, List.setIfInBounds_toArray, List.set_cons_zero, List.set_cons_succ]
          refine wpPlan_step (i := 4) rfl ⟨(.slice (some ⟨b, off, none⟩) n cap), ⟨by rfl, fun wx hSx => ?_⟩, ?_⟩
          · obtain ⟨c0, c1, c2, d0, d1, d2, -⟩ := hSx
            go_simp
          simp only [Act.put, List.setIfInBounds_toArray, List.set_cons_zero, List.set_cons_succ]
          refine wpPlan_step (i := 5) rfl ⟨(.pointer (some ⟨b, off + 3, none⟩)), ⟨by rfl, fun wx hSx => ?_⟩, ?_⟩
          · obtain ⟨c0, c1, c2, d0, d1, d2, -⟩ := hSx
            go_simp; intro hh; omega
          simp only [Act.put, List.setIfInBounds_toArray, List.set_cons_zero, List.set_cons_succ]
          refine wpPlan_step (i := 6) rfl ⟨(valV z), ⟨by rfl, fun wx hSx => ?_⟩, ?_⟩
          · obtain ⟨c0, c1, c2, d0, d1, d2, -⟩ := hSx
            go_simp
          simp only [Act.put, List.setIfInBounds_toArray, List.set_cons_zero, List.set_cons_succ]
          have HS0 : Hid (w2.drew.cell? ⟨b, off, none⟩ = some (.int .i64 y.kind) ∧ w2.drew.cell? ⟨b, off + 1, none⟩ = some (.int .i64 y.n) ∧ w2.drew.cell? ⟨b, off + 2, none⟩ = some (.string y.s) ∧ w2.drew.cell? ⟨b, off + 3, none⟩ = some (.int .i64 z.kind) ∧ w2.drew.cell? ⟨b, off + 4, none⟩ = some (.int .i64 z.n) ∧ w2.drew.cell? ⟨b, off + 5, none⟩ = some (.string z.s) ∧ Hid (Below w2.heap.size w2 w2.drew)) := Lib.hid ⟨c0, c1, c2, d0, d1, d2, Lib.hid (Below.refl w2.heap.size w2).drew⟩
          clear c0 c1 c2 d0 d1 d2
          refine wpPlan_call (i := 7) rfl (by rfl) 113 #[valV y, valV z] (by go_simp) (HCm.out _) ?_
          rintro e w4 ⟨rfl, hb⟩
          have hS : w4.cell? ⟨b, off, none⟩ = some (.int .i64 y.kind) ∧ w4.cell? ⟨b, off + 1, none⟩ = some (.int .i64 y.n) ∧ w4.cell? ⟨b, off + 2, none⟩ = some (.string y.s) ∧ w4.cell? ⟨b, off + 3, none⟩ = some (.int .i64 z.kind) ∧ w4.cell? ⟨b, off + 4, none⟩ = some (.int .i64 z.n) ∧ w4.cell? ⟨b, off + 5, none⟩ = some (.string z.s) ∧ Hid (Below w2.heap.size w2 w4) := ⟨(hb.cell (World.block_lt_of_cell? _ _ HS0.out.1)).trans HS0.out.1, (hb.cell (World.block_lt_of_cell? _ _ HS0.out.2.1)).trans HS0.out.2.1, (hb.cell (World.block_lt_of_cell? _ _ HS0.out.2.2.1)).trans HS0.out.2.2.1, (hb.cell (World.block_lt_of_cell? _ _ HS0.out.2.2.2.1)).trans HS0.out.2.2.2.1, (hb.cell (World.block_lt_of_cell? _ _ HS0.out.2.2.2.2.1)).trans HS0.out.2.2.2.2.1, (hb.cell (World.block_lt_of_cell? _ _ HS0.out.2.2.2.2.2.1)).trans HS0.out.2.2.2.2.2.1, Lib.hid (HS0.out.2.2.2.2.2.2.out.trans (hb.mono HS0.out.2.2.2.2.2.2.out.size))⟩
          have Hw4 := Lib.hid hS
          clear hS hb
          refine .inl ⟨_, rfl, Hw4.out, ?_⟩
          simp only [Act.put, List.setIfInBounds_toArray, List.set_cons_zero, List.set_cons_succ]
          refine wpPlan_call (i := 8) rfl (by rfl) 136 #[.int .i64 11, .int .i64 (Vl.cmp y z)] (by go_simp) (HT.out _) ?_
          rintro e w5 ⟨rfl, hb⟩
          have hS : w5.cell? ⟨b, off, none⟩ = some (.int .i64 y.kind) ∧ w5.cell? ⟨b, off + 1, none⟩ = some (.int .i64 y.n) ∧ w5.cell? ⟨b, off + 2, none⟩ = some (.string y.s) ∧ w5.cell? ⟨b, off + 3, none⟩ = some (.int .i64 z.kind) ∧ w5.cell? ⟨b, off + 4, none⟩ = some (.int .i64 z.n) ∧ w5.cell? ⟨b, off + 5, none⟩ = some (.string z.s) ∧ Hid (Below w2.heap.size w2 w5) := ⟨(hb.cell (World.block_lt_of_cell? _ _ Hw4.out.1)).trans Hw4.out.1, (hb.cell (World.block_lt_of_cell? _ _ Hw4.out.2.1)).trans Hw4.out.2.1, (hb.cell (World.block_lt_of_cell? _ _ Hw4.out.2.2.1)).trans Hw4.out.2.2.1, (hb.cell (World.block_lt_of_cell? _ _ Hw4.out.2.2.2.1)).trans Hw4.out.2.2.2.1, (hb.cell (World.block_lt_of_cell? _ _ Hw4.out.2.2.2.2.1)).trans Hw4.out.2.2.2.2.1, (hb.cell (World.block_lt_of_cell? _ _ Hw4.out.2.2.2.2.2.1)).trans Hw4.out.2.2.2.2.2.1, Lib.hid (Hw4.out.2.2.2.2.2.2.out.trans (hb.mono Hw4.out.2.2.2.2.2.2.out.size))⟩
          have Hw5 := Lib.hid hS
          clear hS hb
          refine .inl ⟨_, rfl, Hw5.out, ?_⟩
          simp only [Act.put, List.setIfInBounds_toArray, List.set_cons_zero, List.set_cons_succ]
          show wpList _ _ _ _ _ w5
          simp only [List.drop_succ_cons, List.drop_zero]
          have hrz := rowV_below H2.out.2 (Hw5.out.2.2.2.2.2.2.out) (rowV_lt H2.out.2)
          have H5 := Lib.hid (And.intro (H2.out.1.trans ((Hw5.out.2.2.2.2.2.2.out).mono H2.out.1.size)) hrz)
          clear hrz
          obtain ⟨q0, q1, q2, f0, f1, f2⟩ := val_cells H5.out.2
          obtain ⟨tk, tn, ts⟩ := T
          go_wp2_with fail
          have hp := val_put H5.out.2 tk tn ts
          refine bodyPost_ret (v := valV ⟨tk, tn, ts⟩) (results_v16 (p := 4) rfl _ _ w.heap.size ⟨tk, tn, ts⟩ rfl hp.1) rfl ⟨H5.out.1.trans (hp.2 w.heap.size (Nat.le_refl _)), .inl ⟨rfl, rfl⟩⟩
        · rw [hk.out] at hk'; cases hk' 
      · go_enter Tryz.func102, Tryz.ntmps102
        go_wp2_with fail
        refine HSh.out.mono ?_
        rintro e w1 ⟨hb1, hh⟩
        rcases hh with ⟨k', hk', rfl⟩ | ⟨hk', -⟩
        · obtain rfl : k = k' := Option.some.inj (hk.out.symm.trans hk')
          have hr1 := rowV_below HZ.out.1 hb1 (rowV_lt HZ.out.1)
          have H1 := Lib.hid (And.intro (HZ.out.2.trans (hb1.mono HZ.out.2.size)) hr1)
          clear hb1 hr1 hk'
          go_wp2_with fail
          refine (HC1.out _ H1.out.1).mono ?_
          rintro e w2 ⟨rfl, hb2⟩
          have hr2 := rowV_below H1.out.2 hb2 (rowV_lt H1.out.2)
          have H2 := Lib.hid (And.intro (H1.out.1.trans (hb2.mono H1.out.1.size)) hr2)
          clear hb2 hr2
          obtain ⟨b, off, rfl, ⟨c0, c1, c2⟩, ⟨d0, d1, d2⟩⟩ := HRd.out _ H2.out.1
          go_wp2_with fail
          refine wp_region_plan (S := fun wx => wx.cell? ⟨b, off, none⟩ = some (.int .i64 y.kind) ∧ wx.cell? ⟨b, off + 1, none⟩ = some (.int .i64 y.n) ∧ wx.cell? ⟨b, off + 2, none⟩ = some (.string y.s) ∧ wx.cell? ⟨b, off + 3, none⟩ = some (.int .i64 z.kind) ∧ wx.cell? ⟨b, off + 4, none⟩ = some (.int .i64 z.n) ∧ wx.cell? ⟨b, off + 5, none⟩ = some (.string z.s) ∧ Hid (Below w2.heap.size w2 wx)) 9 [(true, 0), (true, 1), (true, 2), (true, 3), (true, 4), (true, 5), (true, 6), (false, 7), (false, 8)] (by kernel_rfl) (fun _ d _ _ _ h => by cases d <;> exact h) (by kernel_rfl) ⟨c0, c1, c2, d0, d1, d2, Lib.hid (Below.refl w2.heap.size w2).drew⟩ ?_
          refine wpPlan_step (i := 0) rfl ⟨(.int .i64 12), ⟨by rfl, fun wx hSx => ?_⟩, ?_⟩
          · obtain ⟨c0, c1, c2, d0, d1, d2, -⟩ := hSx
            go_simp
          simp only [Act.put, List.setIfInBounds_toArray, List.set_cons_zero, List.set_cons_succ]
          refine wpPlan_step (i := 1) rfl ⟨(.slice (some ⟨b, off, none⟩) n cap), ⟨by rfl, fun wx hSx => ?_⟩, ?_⟩
          · obtain ⟨c0, c1, c2, d0, d1, d2, -⟩ := hSx
            go_simp
          simp only [Act.put, List.setIfInBounds_toArray, List.set_cons_zero, List.set_cons_succ]
          refine wpPlan_step (i := 2) rfl ⟨(.pointer (some ⟨b, off, none⟩)), ⟨by rfl, fun wx hSx => ?_⟩, ?_⟩
          · obtain ⟨c0, c1, c2, d0, d1, d2, -⟩ := hSx
            go_simp; intro hh; omega
          simp only [Act.put, List.setIfInBounds_toArray, List.set_cons_zero, List.set_cons_succ]
          refine wpPlan_step (i := 3) rfl ⟨(valV y), ⟨by rfl, fun wx hSx => ?_⟩, ?_⟩
          · obtain ⟨c0, c1, c2, d0, d1, d2, -⟩ := hSx
            go_simp
          simp only [Act.put, List.setIfInBounds_toArray, List.set_cons_zero, List.set_cons_succ]
          refine wpPlan_step (i := 4) rfl ⟨(.slice (some ⟨b, off, none⟩) n cap), ⟨by rfl, fun wx hSx => ?_⟩, ?_⟩
          · obtain ⟨c0, c1, c2, d0, d1, d2, -⟩ := hSx
            go_simp
          simp only [Act.put, List.setIfInBounds_toArray, List.set_cons_zero, List.set_cons_succ]
          refine wpPlan_step (i := 5) rfl ⟨(.pointer (some ⟨b, off + 3, none⟩)), ⟨by rfl, fun wx hSx => ?_⟩, ?_⟩
          · obtain ⟨c0, c1, c2, d0, d1, d2, -⟩ := hSx
            go_simp; intro hh; omega
          simp only [Act.put, List.setIfInBounds_toArray, List.set_cons_zero, List.set_cons_succ]
          refine wpPlan_step (i := 6) rfl ⟨(valV z), ⟨by rfl, fun wx hSx => ?_⟩, ?_⟩
          · obtain ⟨c0, c1, c2, d0, d1, d2, -⟩ := hSx
            go_simp
          simp only [Act.put, List.setIfInBounds_toArray, List.set_cons_zero, List.set_cons_succ]
          have HS0 : Hid (w2.drew.cell? ⟨b, off, none⟩ = some (.int .i64 y.kind) ∧ w2.drew.cell? ⟨b, off + 1, none⟩ = some (.int .i64 y.n) ∧ w2.drew.cell? ⟨b, off + 2, none⟩ = some (.string y.s) ∧ w2.drew.cell? ⟨b, off + 3, none⟩ = some (.int .i64 z.kind) ∧ w2.drew.cell? ⟨b, off + 4, none⟩ = some (.int .i64 z.n) ∧ w2.drew.cell? ⟨b, off + 5, none⟩ = some (.string z.s) ∧ Hid (Below w2.heap.size w2 w2.drew)) := Lib.hid ⟨c0, c1, c2, d0, d1, d2, Lib.hid (Below.refl w2.heap.size w2).drew⟩
          clear c0 c1 c2 d0 d1 d2
          refine wpPlan_call (i := 7) rfl (by rfl) 113 #[valV y, valV z] (by go_simp) (HCm.out _) ?_
          rintro e w4 ⟨rfl, hb⟩
          have hS : w4.cell? ⟨b, off, none⟩ = some (.int .i64 y.kind) ∧ w4.cell? ⟨b, off + 1, none⟩ = some (.int .i64 y.n) ∧ w4.cell? ⟨b, off + 2, none⟩ = some (.string y.s) ∧ w4.cell? ⟨b, off + 3, none⟩ = some (.int .i64 z.kind) ∧ w4.cell? ⟨b, off + 4, none⟩ = some (.int .i64 z.n) ∧ w4.cell? ⟨b, off + 5, none⟩ = some (.string z.s) ∧ Hid (Below w2.heap.size w2 w4) := ⟨(hb.cell (World.block_lt_of_cell? _ _ HS0.out.1)).trans HS0.out.1, (hb.cell (World.block_lt_of_cell? _ _ HS0.out.2.1)).trans HS0.out.2.1, (hb.cell (World.block_lt_of_cell? _ _ HS0.out.2.2.1)).trans HS0.out.2.2.1, (hb.cell (World.block_lt_of_cell? _ _ HS0.out.2.2.2.1)).trans HS0.out.2.2.2.1, (hb.cell (World.block_lt_of_cell? _ _ HS0.out.2.2.2.2.1)).trans HS0.out.2.2.2.2.1, (hb.cell (World.block_lt_of_cell? _ _ HS0.out.2.2.2.2.2.1)).trans HS0.out.2.2.2.2.2.1, Lib.hid (HS0.out.2.2.2.2.2.2.out.trans (hb.mono HS0.out.2.2.2.2.2.2.out.size))⟩
          have Hw4 := Lib.hid hS
          clear hS hb
          refine .inl ⟨_, rfl, Hw4.out, ?_⟩
          simp only [Act.put, List.setIfInBounds_toArray, List.set_cons_zero, List.set_cons_succ]
          refine wpPlan_call (i := 8) rfl (by rfl) 136 #[.int .i64 12, .int .i64 (Vl.cmp y z)] (by go_simp) (HT.out _) ?_
          rintro e w5 ⟨rfl, hb⟩
          have hS : w5.cell? ⟨b, off, none⟩ = some (.int .i64 y.kind) ∧ w5.cell? ⟨b, off + 1, none⟩ = some (.int .i64 y.n) ∧ w5.cell? ⟨b, off + 2, none⟩ = some (.string y.s) ∧ w5.cell? ⟨b, off + 3, none⟩ = some (.int .i64 z.kind) ∧ w5.cell? ⟨b, off + 4, none⟩ = some (.int .i64 z.n) ∧ w5.cell? ⟨b, off + 5, none⟩ = some (.string z.s) ∧ Hid (Below w2.heap.size w2 w5) := ⟨(hb.cell (World.block_lt_of_cell? _ _ Hw4.out.1)).trans Hw4.out.1, (hb.cell (World.block_lt_of_cell? _ _ Hw4.out.2.1)).trans Hw4.out.2.1, (hb.cell (World.block_lt_of_cell? _ _ Hw4.out.2.2.1)).trans Hw4.out.2.2.1, (hb.cell (World.block_lt_of_cell? _ _ Hw4.out.2.2.2.1)).trans Hw4.out.2.2.2.1, (hb.cell (World.block_lt_of_cell? _ _ Hw4.out.2.2.2.2.1)).trans Hw4.out.2.2.2.2.1, (hb.cell (World.block_lt_of_cell? _ _ Hw4.out.2.2.2.2.2.1)).trans Hw4.out.2.2.2.2.2.1, Lib.hid (Hw4.out.2.2.2.2.2.2.out.trans (hb.mono Hw4.out.2.2.2.2.2.2.out.size))⟩
          have Hw5 := Lib.hid hS
          clear hS hb
          refine .inl ⟨_, rfl, Hw5.out, ?_⟩
          simp only [Act.put, List.setIfInBounds_toArray, List.set_cons_zero, List.set_cons_succ]
          show wpList _ _ _ _ _ w5
          simp only [List.drop_succ_cons, List.drop_zero]
          have hrz := rowV_below H2.out.2 (Hw5.out.2.2.2.2.2.2.out) (rowV_lt H2.out.2)
          have H5 := Lib.hid (And.intro (H2.out.1.trans ((Hw5.out.2.2.2.2.2.2.out).mono H2.out.1.size)) hrz)
          clear hrz
          obtain ⟨q0, q1, q2, f0, f1, f2⟩ := val_cells H5.out.2
          obtain ⟨tk, tn, ts⟩ := T
          go_wp2_with fail
          have hp := val_put H5.out.2 tk tn ts
          refine bodyPost_ret (v := valV ⟨tk, tn, ts⟩) (results_v16 (p := 4) rfl _ _ w.heap.size ⟨tk, tn, ts⟩ rfl hp.1) rfl ⟨H5.out.1.trans (hp.2 w.heap.size (Nat.le_refl _)), .inl ⟨rfl, rfl⟩⟩
        · rw [hk.out] at hk'; cases hk' 
      · go_enter Tryz.func102, Tryz.ntmps102
        go_wp2_with fail
        refine HSh.out.mono ?_
        rintro e w1 ⟨hb1, hh⟩
        rcases hh with ⟨k', hk', rfl⟩ | ⟨hk', -⟩
        · obtain rfl : k = k' := Option.some.inj (hk.out.symm.trans hk')
          have hr1 := rowV_below HZ.out.1 hb1 (rowV_lt HZ.out.1)
          have H1 := Lib.hid (And.intro (HZ.out.2.trans (hb1.mono HZ.out.2.size)) hr1)
          clear hb1 hr1 hk'
          go_wp2_with fail
          refine (HC1.out _ H1.out.1).mono ?_
          rintro e w2 ⟨rfl, hb2⟩
          have hr2 := rowV_below H1.out.2 hb2 (rowV_lt H1.out.2)
          have H2 := Lib.hid (And.intro (H1.out.1.trans (hb2.mono H1.out.1.size)) hr2)
          clear hb2 hr2
          obtain ⟨b, off, rfl, ⟨c0, c1, c2⟩, ⟨d0, d1, d2⟩⟩ := HRd.out _ H2.out.1
          go_wp2_with fail
          refine wp_region_plan (S := fun wx => wx.cell? ⟨b, off, none⟩ = some (.int .i64 y.kind) ∧ wx.cell? ⟨b, off + 1, none⟩ = some (.int .i64 y.n) ∧ wx.cell? ⟨b, off + 2, none⟩ = some (.string y.s) ∧ wx.cell? ⟨b, off + 3, none⟩ = some (.int .i64 z.kind) ∧ wx.cell? ⟨b, off + 4, none⟩ = some (.int .i64 z.n) ∧ wx.cell? ⟨b, off + 5, none⟩ = some (.string z.s) ∧ Hid (Below w2.heap.size w2 wx)) 9 [(true, 0), (true, 1), (true, 2), (true, 3), (true, 4), (true, 5), (true, 6), (false, 7), (false, 8)] (by kernel_rfl) (fun _ d _ _ _ h => by cases d <;> exact h) (by kernel_rfl) ⟨c0, c1, c2, d0, d1, d2, Lib.hid (Below.refl w2.heap.size w2).drew⟩ ?_
          refine wpPlan_step (i := 0) rfl ⟨(.int .i64 13), ⟨by rfl, fun wx hSx => ?_⟩, ?_⟩
          · obtain ⟨c0, c1, c2, d0, d1, d2, -⟩ := hSx
            go_simp
          simp only [Act.put, List.setIfInBounds_toArray, List.set_cons_zero, List.set_cons_succ]
          refine wpPlan_step (i := 1) rfl ⟨(.slice (some ⟨b, off, none⟩) n cap), ⟨by rfl, fun wx hSx => ?_⟩, ?_⟩
          · obtain ⟨c0, c1, c2, d0, d1, d2, -⟩ := hSx
            go_simp
          simp only [Act.put, List.setIfInBounds_toArray, List.set_cons_zero, List.set_cons_succ]
          refine wpPlan_step (i := 2) rfl ⟨(.pointer (some ⟨b, off, none⟩)), ⟨by rfl, fun wx hSx => ?_⟩, ?_⟩
          · obtain ⟨c0, c1, c2, d0, d1, d2, -⟩ := hSx
            go_simp; intro hh; omega
          simp only [Act.put, List.setIfInBounds_toArray, List.set_cons_zero, List.set_cons_succ]
          refine wpPlan_step (i := 3) rfl ⟨(valV y), ⟨by rfl, fun wx hSx => ?_⟩, ?_⟩
          · obtain ⟨c0, c1, c2, d0, d1, d2, -⟩ := hSx
            go_simp
          simp only [Act.put, List.setIfInBounds_toArray, List.set_cons_zero, List.set_cons_succ]
          refine wpPlan_step (i := 4) rfl ⟨(.slice (some ⟨b, off, none⟩) n cap), ⟨by rfl, fun wx hSx => ?_⟩, ?_⟩
          · obtain ⟨c0, c1, c2, d0, d1, d2, -⟩ := hSx
            go_simp
          simp only [Act.put, List.setIfInBounds_toArray, List.set_cons_zero, List.set_cons_succ]
          refine wpPlan_step (i := 5) rfl ⟨(.pointer (some ⟨b, off + 3, none⟩)), ⟨by rfl, fun wx hSx => ?_⟩, ?_⟩
          · obtain ⟨c0, c1, c2, d0, d1, d2, -⟩ := hSx
            go_simp; intro hh; omega
          simp only [Act.put, List.setIfInBounds_toArray, List.set_cons_zero, List.set_cons_succ]
          refine wpPlan_step (i := 6) rfl ⟨(valV z), ⟨by rfl, fun wx hSx => ?_⟩, ?_⟩
          · obtain ⟨c0, c1, c2, d0, d1, d2, -⟩ := hSx
            go_simp
          simp only [Act.put, List.setIfInBounds_toArray, List.set_cons_zero, List.set_cons_succ]
          have HS0 : Hid (w2.drew.cell? ⟨b, off, none⟩ = some (.int .i64 y.kind) ∧ w2.drew.cell? ⟨b, off + 1, none⟩ = some (.int .i64 y.n) ∧ w2.drew.cell? ⟨b, off + 2, none⟩ = some (.string y.s) ∧ w2.drew.cell? ⟨b, off + 3, none⟩ = some (.int .i64 z.kind) ∧ w2.drew.cell? ⟨b, off + 4, none⟩ = some (.int .i64 z.n) ∧ w2.drew.cell? ⟨b, off + 5, none⟩ = some (.string z.s) ∧ Hid (Below w2.heap.size w2 w2.drew)) := Lib.hid ⟨c0, c1, c2, d0, d1, d2, Lib.hid (Below.refl w2.heap.size w2).drew⟩
          clear c0 c1 c2 d0 d1 d2
          refine wpPlan_call (i := 7) rfl (by rfl) 113 #[valV y, valV z] (by go_simp) (HCm.out _) ?_
          rintro e w4 ⟨rfl, hb⟩
          have hS : w4.cell? ⟨b, off, none⟩ = some (.int .i64 y.kind) ∧ w4.cell? ⟨b, off + 1, none⟩ = some (.int .i64 y.n) ∧ w4.cell? ⟨b, off + 2, none⟩ = some (.string y.s) ∧ w4.cell? ⟨b, off + 3, none⟩ = some (.int .i64 z.kind) ∧ w4.cell? ⟨b, off + 4, none⟩ = some (.int .i64 z.n) ∧ w4.cell? ⟨b, off + 5, none⟩ = some (.string z.s) ∧ Hid (Below w2.heap.size w2 w4) := ⟨(hb.cell (World.block_lt_of_cell? _ _ HS0.out.1)).trans HS0.out.1, (hb.cell (World.block_lt_of_cell? _ _ HS0.out.2.1)).trans HS0.out.2.1, (hb.cell (World.block_lt_of_cell? _ _ HS0.out.2.2.1)).trans HS0.out.2.2.1, (hb.cell (World.block_lt_of_cell? _ _ HS0.out.2.2.2.1)).trans HS0.out.2.2.2.1, (hb.cell (World.block_lt_of_cell? _ _ HS0.out.2.2.2.2.1)).trans HS0.out.2.2.2.2.1, (hb.cell (World.block_lt_of_cell? _ _ HS0.out.2.2.2.2.2.1)).trans HS0.out.2.2.2.2.2.1, Lib.hid (HS0.out.2.2.2.2.2.2.out.trans (hb.mono HS0.out.2.2.2.2.2.2.out.size))⟩
          have Hw4 := Lib.hid hS
          clear hS hb
          refine .inl ⟨_, rfl, Hw4.out, ?_⟩
          simp only [Act.put, List.setIfInBounds_toArray, List.set_cons_zero, List.set_cons_succ]
          refine wpPlan_call (i := 8) rfl (by rfl) 136 #[.int .i64 13, .int .i64 (Vl.cmp y z)] (by go_simp) (HT.out _) ?_
          rintro e w5 ⟨rfl, hb⟩
          have hS : w5.cell? ⟨b, off, none⟩ = some (.int .i64 y.kind) ∧ w5.cell? ⟨b, off + 1, none⟩ = some (.int .i64 y.n) ∧ w5.cell? ⟨b, off + 2, none⟩ = some (.string y.s) ∧ w5.cell? ⟨b, off + 3, none⟩ = some (.int .i64 z.kind) ∧ w5.cell? ⟨b, off + 4, none⟩ = some (.int .i64 z.n) ∧ w5.cell? ⟨b, off + 5, none⟩ = some (.string z.s) ∧ Hid (Below w2.heap.size w2 w5) := ⟨(hb.cell (World.block_lt_of_cell? _ _ Hw4.out.1)).trans Hw4.out.1, (hb.cell (World.block_lt_of_cell? _ _ Hw4.out.2.1)).trans Hw4.out.2.1, (hb.cell (World.block_lt_of_cell? _ _ Hw4.out.2.2.1)).trans Hw4.out.2.2.1, (hb.cell (World.block_lt_of_cell? _ _ Hw4.out.2.2.2.1)).trans Hw4.out.2.2.2.1, (hb.cell (World.block_lt_of_cell? _ _ Hw4.out.2.2.2.2.1)).trans Hw4.out.2.2.2.2.1, (hb.cell (World.block_lt_of_cell? _ _ Hw4.out.2.2.2.2.2.1)).trans Hw4.out.2.2.2.2.2.1, Lib.hid (Hw4.out.2.2.2.2.2.2.out.trans (hb.mono Hw4.out.2.2.2.2.2.2.out.size))⟩
          have Hw5 := Lib.hid hS
          clear hS hb
          refine .inl ⟨_, rfl, Hw5.out, ?_⟩
          simp only [Act.put, List.setIfInBounds_toArray, List.set_cons_zero, List.set_cons_succ]
          show wpList _ _ _ _ _ w5
          simp only [List.drop_succ_cons, List.drop_zero]
          have hrz := rowV_below H2.out.2 (Hw5.out.2.2.2.2.2.2.out) (rowV_lt H2.out.2)
          have H5 := Lib.hid (And.intro (H2.out.1.trans ((Hw5.out.2.2.2.2.2.2.out).mono H2.out.1.size)) hrz)
          clear hrz
          obtain ⟨q0, q1, q2, f0, f1, f2⟩ := val_cells H5.out.2
          obtain ⟨tk, tn, ts⟩ := T
          go_wp2_with fail
          have hp := val_put H5.out.2 tk tn ts
          refine bodyPost_ret (v := valV ⟨tk, tn, ts⟩) (results_v16 (p := 4) rfl _ _ w.heap.size ⟨tk, tn, ts⟩ rfl hp.1) rfl ⟨H5.out.1.trans (hp.2 w.heap.size (Nat.le_refl _)), .inl ⟨rfl, rfl⟩⟩
        · rw [hk.out] at hk'; cases hk' 
    rw [if_neg c10]
    have t10 : (op == 10) = false := by simp; omega
    have t11 : (op == 11) = false := by simp; omega
    have t12 : (op == 12) = false := by simp; omega
    have t13 : (op == 13) = false := by simp; omega
    clear c10
    by_cases ck : k = 2
    · rw [if_pos ck]
      have HT := Lib.hid fun wx => joined16_any y.s z.s hfy.2 hfz.2 wx
      generalize Ev.joined y.s z.s = T at *
      clear hfy hfz
      subst ck
      go_enter Tryz.func102, Tryz.ntmps102
      go_wp2_with fail
      refine HSh.out.mono ?_
      rintro e w1 ⟨hb1, hh⟩
      rcases hh with ⟨k', hk', rfl⟩ | ⟨hk', -⟩
      · obtain rfl : 2 = k' := Option.some.inj (hk.out.symm.trans hk')
        have hr1 := rowV_below HZ.out.1 hb1 (rowV_lt HZ.out.1)
        have H1 := Lib.hid (And.intro (HZ.out.2.trans (hb1.mono HZ.out.2.size)) hr1)
        clear hb1 hr1 hk'
        go_wp2_with fail
        refine (HC1.out _ H1.out.1).mono ?_
        rintro e w2 ⟨rfl, hb2⟩
        have hr2 := rowV_below H1.out.2 hb2 (rowV_lt H1.out.2)
        have H2 := Lib.hid (And.intro (H1.out.1.trans (hb2.mono H1.out.1.size)) hr2)
        clear hb2 hr2
        obtain ⟨b, off, rfl, ⟨c0, c1, c2⟩, ⟨d0, d1, d2⟩⟩ := HRd.out _ H2.out.1
        go_wp2_with fail
        refine wp_region_plan (S := fun wx => wx.cell? ⟨b, off, none⟩ = some (.int .i64 y.kind) ∧ wx.cell? ⟨b, off + 1, none⟩ = some (.int .i64 y.n) ∧ wx.cell? ⟨b, off + 2, none⟩ = some (.string y.s) ∧ wx.cell? ⟨b, off + 3, none⟩ = some (.int .i64 z.kind) ∧ wx.cell? ⟨b, off + 4, none⟩ = some (.int .i64 z.n) ∧ wx.cell? ⟨b, off + 5, none⟩ = some (.string z.s) ∧ Hid (Below w2.heap.size w2 wx)) 9 [(true, 0), (true, 1), (true, 2), (true, 3), (true, 4), (true, 5), (true, 6), (true, 7), (false, 8)] (by kernel_rfl) (fun _ d _ _ _ h => by cases d <;> exact h) (by kernel_rfl) ⟨c0, c1, c2, d0, d1, d2, Lib.hid (Below.refl w2.heap.size w2).drew⟩ ?_
        refine wpPlan_step (i := 0) rfl ⟨(.slice (some ⟨b, off, none⟩) n cap), ⟨by rfl, fun wx hSx => ?_⟩, ?_⟩
        · obtain ⟨c0, c1, c2, d0, d1, d2, -⟩ := hSx
          go_simp
        simp only [Act.put, List.setIfInBounds_toArray, List.set_cons_zero, List.set_cons_succ]
        refine wpPlan_step (i := 1) rfl ⟨(.pointer (some ⟨b, off, none⟩)), ⟨by rfl, fun wx hSx => ?_⟩, ?_⟩
        · obtain ⟨c0, c1, c2, d0, d1, d2, -⟩ := hSx
          go_simp; intro hh; omega
        simp only [Act.put, List.setIfInBounds_toArray, List.set_cons_zero, List.set_cons_succ]
        refine wpPlan_step (i := 2) rfl ⟨(.pointer (some ⟨b, off + 2, none⟩)), ⟨by rfl, fun wx hSx => ?_⟩, ?_⟩
        · obtain ⟨c0, c1, c2, d0, d1, d2, -⟩ := hSx
          go_simp
        simp only [Act.put, List.setIfInBounds_toArray, List.set_cons_zero, List.set_cons_succ]
        refine wpPlan_step (i := 3) rfl ⟨(.string y.s), ⟨by rfl, fun wx hSx => ?_⟩, ?_⟩
        · obtain ⟨c0, c1, c2, d0, d1, d2, -⟩ := hSx
          go_simp
        simp only [Act.put, List.setIfInBounds_toArray, List.set_cons_zero, List.set_cons_succ]
        refine wpPlan_step (i := 4) rfl ⟨(.slice (some ⟨b, off, none⟩) n cap), ⟨by rfl, fun wx hSx => ?_⟩, ?_⟩
        · obtain ⟨c0, c1, c2, d0, d1, d2, -⟩ := hSx
          go_simp
        simp only [Act.put, List.setIfInBounds_toArray, List.set_cons_zero, List.set_cons_succ]
        refine wpPlan_step (i := 5) rfl ⟨(.pointer (some ⟨b, off + 3, none⟩)), ⟨by rfl, fun wx hSx => ?_⟩, ?_⟩
        · obtain ⟨c0, c1, c2, d0, d1, d2, -⟩ := hSx
          go_simp; intro hh; omega
        simp only [Act.put, List.setIfInBounds_toArray, List.set_cons_zero, List.set_cons_succ]
        refine wpPlan_step (i := 6) rfl ⟨(.pointer (some ⟨b, off + 5, none⟩)), ⟨by rfl, fun wx hSx => ?_⟩, ?_⟩
        · obtain ⟨c0, c1, c2, d0, d1, d2, -⟩ := hSx
          go_simp
        simp only [Act.put, List.setIfInBounds_toArray, List.set_cons_zero, List.set_cons_succ]
        refine wpPlan_step (i := 7) rfl ⟨(.string z.s), ⟨by rfl, fun wx hSx => ?_⟩, ?_⟩
        · obtain ⟨c0, c1, c2, d0, d1, d2, -⟩ := hSx
          go_simp
        simp only [Act.put, List.setIfInBounds_toArray, List.set_cons_zero, List.set_cons_succ]
        have HS0 : Hid (w2.drew.cell? ⟨b, off, none⟩ = some (.int .i64 y.kind) ∧ w2.drew.cell? ⟨b, off + 1, none⟩ = some (.int .i64 y.n) ∧ w2.drew.cell? ⟨b, off + 2, none⟩ = some (.string y.s) ∧ w2.drew.cell? ⟨b, off + 3, none⟩ = some (.int .i64 z.kind) ∧ w2.drew.cell? ⟨b, off + 4, none⟩ = some (.int .i64 z.n) ∧ w2.drew.cell? ⟨b, off + 5, none⟩ = some (.string z.s) ∧ Hid (Below w2.heap.size w2 w2.drew)) := Lib.hid ⟨c0, c1, c2, d0, d1, d2, Lib.hid (Below.refl w2.heap.size w2).drew⟩
        clear c0 c1 c2 d0 d1 d2
        refine wpPlan_call (i := 8) rfl (by rfl) 137 #[.string y.s, .string z.s] (by go_simp) (HT.out _) ?_
        rintro e w5 ⟨hb, hh⟩
        rcases hh with ⟨hz, rfl⟩ | ⟨hz, rfl⟩
        · have hS : w5.cell? ⟨b, off, none⟩ = some (.int .i64 y.kind) ∧ w5.cell? ⟨b, off + 1, none⟩ = some (.int .i64 y.n) ∧ w5.cell? ⟨b, off + 2, none⟩ = some (.string y.s) ∧ w5.cell? ⟨b, off + 3, none⟩ = some (.int .i64 z.kind) ∧ w5.cell? ⟨b, off + 4, none⟩ = some (.int .i64 z.n) ∧ w5.cell? ⟨b, off + 5, none⟩ = some (.string z.s) ∧ Hid (Below w2.heap.size w2 w5) := ⟨(hb.cell (World.block_lt_of_cell? _ _ HS0.out.1)).trans HS0.out.1, (hb.cell (World.block_lt_of_cell? _ _ HS0.out.2.1)).trans HS0.out.2.1, (hb.cell (World.block_lt_of_cell? _ _ HS0.out.2.2.1)).trans HS0.out.2.2.1, (hb.cell (World.block_lt_of_cell? _ _ HS0.out.2.2.2.1)).trans HS0.out.2.2.2.1, (hb.cell (World.block_lt_of_cell? _ _ HS0.out.2.2.2.2.1)).trans HS0.out.2.2.2.2.1, (hb.cell (World.block_lt_of_cell? _ _ HS0.out.2.2.2.2.2.1)).trans HS0.out.2.2.2.2.2.1, Lib.hid (HS0.out.2.2.2.2.2.2.out.trans (hb.mono HS0.out.2.2.2.2.2.2.out.size))⟩
          have Hw5 := Lib.hid hS
          have HZ5 := Lib.hid hz
          clear hS hb hz
          refine .inl ⟨_, rfl, Hw5.out, ?_⟩
          simp only [Act.put, List.setIfInBounds_toArray, List.set_cons_zero, List.set_cons_succ]
          show wpList _ _ _ _ _ w5
          simp only [List.drop_succ_cons, List.drop_zero]
          have hrz := rowV_below H2.out.2 (Hw5.out.2.2.2.2.2.2.out) (rowV_lt H2.out.2)
          have H5 := Lib.hid (And.intro (H2.out.1.trans ((Hw5.out.2.2.2.2.2.2.out).mono H2.out.1.size)) hrz)
          clear hrz
          obtain ⟨TT, te⟩ := T
          dsimp only at HZ5 ⊢
          obtain ⟨q0, q1, q2, f0, f1, f2⟩ := val_cells H5.out.2
          obtain ⟨tk, tn, ts⟩ := TT
          go_wp2_with fail
          have hp := val_put H5.out.2 tk tn ts
          refine bodyPost_ret (v := valV ⟨tk, tn, ts⟩) (results_v16 (p := 4) rfl _ _ w.heap.size ⟨tk, tn, ts⟩ rfl hp.1) rfl ⟨H5.out.1.trans (hp.2 w.heap.size (Nat.le_refl _)), .inl ⟨HZ5.out, rfl⟩⟩
        · have HB5 := Lib.hid (H2.out.1.trans ((HS0.out.2.2.2.2.2.2.out.trans (hb.mono HS0.out.2.2.2.2.2.2.out.size)).mono H2.out.1.size))
          have HZ5 := Lib.hid hz
          clear hb hz
          refine .inr ⟨_, rfl, ?_⟩
          go_simp
          exact ⟨rfl, HB5.out, .inr ⟨HZ5.out, rfl⟩⟩
      · rw [hk.out] at hk'; cases hk' 
    · rw [if_neg ck]
      have tk2 : (k == 2) = false := by simpa using ck
      have HT := Lib.hid fun wx => reckoned16_any op y.n z.n hfy.1 hfz.1 wx
      generalize Ev.num (Ev.reck op y.n z.n) = T at *
      clear hfy hfz ck
      go_enter Tryz.func102, Tryz.ntmps102
      go_wp2_with fail
      refine HSh.out.mono ?_
      rintro e w1 ⟨hb1, hh⟩
      rcases hh with ⟨k', hk', rfl⟩ | ⟨hk', -⟩
      · obtain rfl : k = k' := Option.some.inj (hk.out.symm.trans hk')
        have hr1 := rowV_below HZ.out.1 hb1 (rowV_lt HZ.out.1)
        have H1 := Lib.hid (And.intro (HZ.out.2.trans (hb1.mono HZ.out.2.size)) hr1)
        clear hb1 hr1 hk'
        go_wp2_with fail
        refine (HC1.out _ H1.out.1).mono ?_
        rintro e w2 ⟨rfl, hb2⟩
        have hr2 := rowV_below H1.out.2 hb2 (rowV_lt H1.out.2)
        have H2 := Lib.hid (And.intro (H1.out.1.trans (hb2.mono H1.out.1.size)) hr2)
        clear hb2 hr2
        obtain ⟨b, off, rfl, ⟨c0, c1, c2⟩, ⟨d0, d1, d2⟩⟩ := HRd.out _ H2.out.1
        go_wp2_with fail
        refine wp_region_plan (S := fun wx => wx.cell? ⟨b, off, none⟩ = some (.int .i64 y.kind) ∧ wx.cell? ⟨b, off + 1, none⟩ = some (.int .i64 y.n) ∧ wx.cell? ⟨b, off + 2, none⟩ = some (.string y.s) ∧ wx.cell? ⟨b, off + 3, none⟩ = some (.int .i64 z.kind) ∧ wx.cell? ⟨b, off + 4, none⟩ = some (.int .i64 z.n) ∧ wx.cell? ⟨b, off + 5, none⟩ = some (.string z.s) ∧ Hid (Below w2.heap.size w2 wx)) 10 [(true, 0), (true, 1), (true, 2), (true, 3), (true, 4), (true, 5), (true, 6), (true, 7), (true, 8), (false, 9)] (by kernel_rfl) (fun _ d _ _ _ h => by cases d <;> exact h) (by kernel_rfl) ⟨c0, c1, c2, d0, d1, d2, Lib.hid (Below.refl w2.heap.size w2).drew⟩ ?_
        refine wpPlan_step (i := 0) rfl ⟨(.int .i64 op), ⟨by rfl, fun wx hSx => ?_⟩, ?_⟩
        · obtain ⟨c0, c1, c2, d0, d1, d2, -⟩ := hSx
          go_simp
        simp only [Act.put, List.setIfInBounds_toArray, List.set_cons_zero, List.set_cons_succ]
        refine wpPlan_step (i := 1) rfl ⟨(.slice (some ⟨b, off, none⟩) n cap), ⟨by rfl, fun wx hSx => ?_⟩, ?_⟩
        · obtain ⟨c0, c1, c2, d0, d1, d2, -⟩ := hSx
          go_simp
        simp only [Act.put, List.setIfInBounds_toArray, List.set_cons_zero, List.set_cons_succ]
        refine wpPlan_step (i := 2) rfl ⟨(.pointer (some ⟨b, off, none⟩)), ⟨by rfl, fun wx hSx => ?_⟩, ?_⟩
        · obtain ⟨c0, c1, c2, d0, d1, d2, -⟩ := hSx
          go_simp; intro hh; omega
        simp only [Act.put, List.setIfInBounds_toArray, List.set_cons_zero, List.set_cons_succ]
        refine wpPlan_step (i := 3) rfl ⟨(.pointer (some ⟨b, off + 1, none⟩)), ⟨by rfl, fun wx hSx => ?_⟩, ?_⟩
        · obtain ⟨c0, c1, c2, d0, d1, d2, -⟩ := hSx
          go_simp
        simp only [Act.put, List.setIfInBounds_toArray, List.set_cons_zero, List.set_cons_succ]
        refine wpPlan_step (i := 4) rfl ⟨(.int .i64 y.n), ⟨by rfl, fun wx hSx => ?_⟩, ?_⟩
        · obtain ⟨c0, c1, c2, d0, d1, d2, -⟩ := hSx
          go_simp
        simp only [Act.put, List.setIfInBounds_toArray, List.set_cons_zero, List.set_cons_succ]
        refine wpPlan_step (i := 5) rfl ⟨(.slice (some ⟨b, off, none⟩) n cap), ⟨by rfl, fun wx hSx => ?_⟩, ?_⟩
        · obtain ⟨c0, c1, c2, d0, d1, d2, -⟩ := hSx
          go_simp
        simp only [Act.put, List.setIfInBounds_toArray, List.set_cons_zero, List.set_cons_succ]
        refine wpPlan_step (i := 6) rfl ⟨(.pointer (some ⟨b, off + 3, none⟩)), ⟨by rfl, fun wx hSx => ?_⟩, ?_⟩
        · obtain ⟨c0, c1, c2, d0, d1, d2, -⟩ := hSx
          go_simp; intro hh; omega
        simp only [Act.put, List.setIfInBounds_toArray, List.set_cons_zero, List.set_cons_succ]
        refine wpPlan_step (i := 7) rfl ⟨(.pointer (some ⟨b, off + 4, none⟩)), ⟨by rfl, fun wx hSx => ?_⟩, ?_⟩
        · obtain ⟨c0, c1, c2, d0, d1, d2, -⟩ := hSx
          go_simp
        simp only [Act.put, List.setIfInBounds_toArray, List.set_cons_zero, List.set_cons_succ]
        refine wpPlan_step (i := 8) rfl ⟨(.int .i64 z.n), ⟨by rfl, fun wx hSx => ?_⟩, ?_⟩
        · obtain ⟨c0, c1, c2, d0, d1, d2, -⟩ := hSx
          go_simp
        simp only [Act.put, List.setIfInBounds_toArray, List.set_cons_zero, List.set_cons_succ]
        have HS0 : Hid (w2.drew.cell? ⟨b, off, none⟩ = some (.int .i64 y.kind) ∧ w2.drew.cell? ⟨b, off + 1, none⟩ = some (.int .i64 y.n) ∧ w2.drew.cell? ⟨b, off + 2, none⟩ = some (.string y.s) ∧ w2.drew.cell? ⟨b, off + 3, none⟩ = some (.int .i64 z.kind) ∧ w2.drew.cell? ⟨b, off + 4, none⟩ = some (.int .i64 z.n) ∧ w2.drew.cell? ⟨b, off + 5, none⟩ = some (.string z.s) ∧ Hid (Below w2.heap.size w2 w2.drew)) := Lib.hid ⟨c0, c1, c2, d0, d1, d2, Lib.hid (Below.refl w2.heap.size w2).drew⟩
        clear c0 c1 c2 d0 d1 d2
        refine wpPlan_call (i := 9) rfl (by rfl) 135 #[.int .i64 op, .int .i64 y.n, .int .i64 z.n] (by go_simp) (HT.out _) ?_
        rintro e w5 ⟨hb, hh⟩
        rcases hh with ⟨hz, rfl⟩ | ⟨hz, rfl⟩
        · have hS : w5.cell? ⟨b, off, none⟩ = some (.int .i64 y.kind) ∧ w5.cell? ⟨b, off + 1, none⟩ = some (.int .i64 y.n) ∧ w5.cell? ⟨b, off + 2, none⟩ = some (.string y.s) ∧ w5.cell? ⟨b, off + 3, none⟩ = some (.int .i64 z.kind) ∧ w5.cell? ⟨b, off + 4, none⟩ = some (.int .i64 z.n) ∧ w5.cell? ⟨b, off + 5, none⟩ = some (.string z.s) ∧ Hid (Below w2.heap.size w2 w5) := ⟨(hb.cell (World.block_lt_of_cell? _ _ HS0.out.1)).trans HS0.out.1, (hb.cell (World.block_lt_of_cell? _ _ HS0.out.2.1)).trans HS0.out.2.1, (hb.cell (World.block_lt_of_cell? _ _ HS0.out.2.2.1)).trans HS0.out.2.2.1, (hb.cell (World.block_lt_of_cell? _ _ HS0.out.2.2.2.1)).trans HS0.out.2.2.2.1, (hb.cell (World.block_lt_of_cell? _ _ HS0.out.2.2.2.2.1)).trans HS0.out.2.2.2.2.1, (hb.cell (World.block_lt_of_cell? _ _ HS0.out.2.2.2.2.2.1)).trans HS0.out.2.2.2.2.2.1, Lib.hid (HS0.out.2.2.2.2.2.2.out.trans (hb.mono HS0.out.2.2.2.2.2.2.out.size))⟩
          have Hw5 := Lib.hid hS
          have HZ5 := Lib.hid hz
          clear hS hb hz
          refine .inl ⟨_, rfl, Hw5.out, ?_⟩
          simp only [Act.put, List.setIfInBounds_toArray, List.set_cons_zero, List.set_cons_succ]
          show wpList _ _ _ _ _ w5
          simp only [List.drop_succ_cons, List.drop_zero]
          have hrz := rowV_below H2.out.2 (Hw5.out.2.2.2.2.2.2.out) (rowV_lt H2.out.2)
          have H5 := Lib.hid (And.intro (H2.out.1.trans ((Hw5.out.2.2.2.2.2.2.out).mono H2.out.1.size)) hrz)
          clear hrz
          obtain ⟨TT, te⟩ := T
          dsimp only at HZ5 ⊢
          obtain ⟨q0, q1, q2, f0, f1, f2⟩ := val_cells H5.out.2
          obtain ⟨tk, tn, ts⟩ := TT
          go_wp2_with fail
          have hp := val_put H5.out.2 tk tn ts
          refine bodyPost_ret (v := valV ⟨tk, tn, ts⟩) (results_v16 (p := 4) rfl _ _ w.heap.size ⟨tk, tn, ts⟩ rfl hp.1) rfl ⟨H5.out.1.trans (hp.2 w.heap.size (Nat.le_refl _)), .inl ⟨HZ5.out, rfl⟩⟩
        · have HB5 := Lib.hid (H2.out.1.trans ((HS0.out.2.2.2.2.2.2.out.trans (hb.mono HS0.out.2.2.2.2.2.2.out.size)).mono H2.out.1.size))
          have HZ5 := Lib.hid hz
          clear hb hz
          refine .inr ⟨_, rfl, ?_⟩
          go_simp
          exact ⟨rfl, HB5.out, .inr ⟨HZ5.out, rfl⟩⟩
      · rw [hk.out] at hk'; cases hk' 
set_option maxRecDepth 100000 in
set_option maxHeartbeats 6400000 in
theorem done16_any (op : Int) (L : List V) (al : Option Addr) (n cap : Nat) (hn : L.length = n) (hl : n ≤ 1000000) (hf : ∀ v ∈ L, Fit16 v) (hn0 : op = 3 → 0 < n) (hn1 : op ≠ 3 → op ≠ 14 → op ≠ 15 → 1 < n) (w : World) (hR : ReadsV w al L) :
    Calls Tryz.prog 102 #[.int .i64 op, .slice al n cap] w (EvE (Ev.done op L) w) := by
  cases hs : Ev.shared op L with
  | some k => rw [Ev.done_some hs]; exact doneK16_any k op L al n cap hn hl hf hn0 hn1 w hR (Lib.hid hs)
  | none =>
    rw [Ev.done_none hs]
    have HZ := Lib.hid (zero_box w)
    have HSh := Lib.hid (shared16_any op L al n cap hn hl _ (readsV_below16 hR HZ.out.2))
    have HS := Lib.hid hs
    clear hs hR hf hn0 hn1 hn
    go_enter Tryz.func102, Tryz.ntmps102
    go_wp2_with fail
    refine HSh.out.mono ?_
    rintro e w1 ⟨hb1, hh⟩
    rcases hh with ⟨k', hk', -⟩ | ⟨-, rfl⟩
    · rw [HS.out] at hk'; cases hk'
    · have H1 := Lib.hid (HZ.out.2.trans (hb1.mono HZ.out.2.size))
      clear hb1
      go_wp2_with fail
      exact ⟨rfl, H1.out, .inr ⟨by decide, rfl⟩⟩
end Go.Proofs.YtmkllibfblacfaaGreatDoor
