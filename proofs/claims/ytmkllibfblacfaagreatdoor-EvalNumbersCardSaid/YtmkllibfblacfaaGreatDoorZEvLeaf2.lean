/-
  Layer 16, the program's: what an op makes of two numbers, two texts; comparisons; which truths decide.
-/
import Derived.Test.YtmkllibfblacfaaGreatDoorZEvLeaf
import Derived.Test.YtmkllibfblacfaaGreatDoorPk3
namespace Go.Proofs.YtmkllibfblacfaaGreatDoor
open Go.RowKit
open Vl (V)
theorem numV_ok (r : Int × Int) (h : r.2 = 0) : Ev.num r = (⟨1, r.1, Vl.mt⟩, 0) := if_pos h
theorem numV_bad (r : Int × Int) (h : ¬ r.2 = 0) : Ev.num r = (Vl.no, r.2) := if_neg h
/-- a zero value's new box, stored into -/
theorem zero_box (w : World) : RowV (w.alloc (.cells #[.int .i64 0, .int .i64 0, .string ⟨#[]⟩] 31)) w.heap.size 31 (valC Vl.no).toList ∧ Below w.heap.size w (w.alloc (.cells #[.int .i64 0, .int .i64 0, .string ⟨#[]⟩] 31)) := ⟨(val_new Vl.no w).1, (val_new Vl.no w).2.1⟩
set_option maxRecDepth 100000 in
set_option maxHeartbeats 6400000 in
theorem reckoned16_any (op a b : Int) (ha : Ev.in64 a) (hb : Ev.in64 b) (w : World) : Calls Tryz.prog 135 #[.int .i64 op, .int .i64 a, .int .i64 b] w (EvE (Ev.num (Ev.reck op a b)) w) := by
  by_cases c4 : op = 4
  · subst c4
    have e : Ev.reck 4 a b = Ev.add a b := rfl
    rw [e]
    have HC := Lib.hid fun wx => add16_any a b ha hb wx
    clear e ha hb
    generalize Ev.add a b = R at *
    obtain ⟨rn, re⟩ := R
    by_cases h0 : re = 0
    · subst h0
      rw [numV_ok _ rfl]
      go_enter Tryz.func135, Tryz.ntmps135
      go_wp2_with fail
      refine (HC.out _).mono ?_
      rintro e w1 ⟨rfl, rfl⟩
      go_wp2_with fail
      refine (must16_ok _).mono ?_
      rintro e w1 ⟨rfl, rfl⟩
      go_wp2_with fail
      have hx := val_new ⟨1, rn, Vl.mt⟩ w
      exact bodyPost_ret (v := valV ⟨1, rn, Vl.mt⟩) (results_v16 (p := 6) rfl _ _ w.heap.size ⟨1, rn, Vl.mt⟩ rfl hx.1) rfl ⟨hx.2.1, .inl ⟨rfl, rfl⟩⟩
    · rw [numV_bad _ h0]
      go_enter Tryz.func135, Tryz.ntmps135
      go_wp2_with fail
      refine (HC.out _).mono ?_
      rintro e w1 ⟨rfl, rfl⟩
      go_wp2_with fail
      refine (must16_pan _ h0 _).mono ?_
      rintro e w1 ⟨rfl, rfl⟩
      go_wp2_with fail
      exact ⟨rfl, (zero_box w).2, .inr ⟨h0, rfl⟩⟩
  have t4 : (op == 4) = false := by simpa using c4
  by_cases c5 : op = 5
  · subst c5
    have e : Ev.reck 5 a b = Ev.sub a b := rfl
    rw [e]
    have HC := Lib.hid fun wx => sub16_any a b ha hb wx
    clear e ha hb
    generalize Ev.sub a b = R at *
    obtain ⟨rn, re⟩ := R
    by_cases h0 : re = 0
    · subst h0
      rw [numV_ok _ rfl]
      go_enter Tryz.func135, Tryz.ntmps135
      go_wp2_with fail
      refine (HC.out _).mono ?_
      rintro e w1 ⟨rfl, rfl⟩
      go_wp2_with fail
      refine (must16_ok _).mono ?_
      rintro e w1 ⟨rfl, rfl⟩
      go_wp2_with fail
      have hx := val_new ⟨1, rn, Vl.mt⟩ w
      exact bodyPost_ret (v := valV ⟨1, rn, Vl.mt⟩) (results_v16 (p := 6) rfl _ _ w.heap.size ⟨1, rn, Vl.mt⟩ rfl hx.1) rfl ⟨hx.2.1, .inl ⟨rfl, rfl⟩⟩
    · rw [numV_bad _ h0]
      go_enter Tryz.func135, Tryz.ntmps135
      go_wp2_with fail
      refine (HC.out _).mono ?_
      rintro e w1 ⟨rfl, rfl⟩
      go_wp2_with fail
      refine (must16_pan _ h0 _).mono ?_
      rintro e w1 ⟨rfl, rfl⟩
      go_wp2_with fail
      exact ⟨rfl, (zero_box w).2, .inr ⟨h0, rfl⟩⟩
  have t5 : (op == 5) = false := by simpa using c5
  by_cases c6 : op = 6
  · subst c6
    have e : Ev.reck 6 a b = Ev.mul a b := rfl
    rw [e]
    have HC := Lib.hid fun wx => mul16_any a b ha hb wx
    clear e ha hb
    generalize Ev.mul a b = R at *
    obtain ⟨rn, re⟩ := R
    by_cases h0 : re = 0
    · subst h0
      rw [numV_ok _ rfl]
      go_enter Tryz.func135, Tryz.ntmps135
      go_wp2_with fail
      refine (HC.out _).mono ?_
      rintro e w1 ⟨rfl, rfl⟩
      go_wp2_with fail
      refine (must16_ok _).mono ?_
      rintro e w1 ⟨rfl, rfl⟩
      go_wp2_with fail
      have hx := val_new ⟨1, rn, Vl.mt⟩ w
      exact bodyPost_ret (v := valV ⟨1, rn, Vl.mt⟩) (results_v16 (p := 6) rfl _ _ w.heap.size ⟨1, rn, Vl.mt⟩ rfl hx.1) rfl ⟨hx.2.1, .inl ⟨rfl, rfl⟩⟩
    · rw [numV_bad _ h0]
      go_enter Tryz.func135, Tryz.ntmps135
      go_wp2_with fail
      refine (HC.out _).mono ?_
      rintro e w1 ⟨rfl, rfl⟩
      go_wp2_with fail
      refine (must16_pan _ h0 _).mono ?_
      rintro e w1 ⟨rfl, rfl⟩
      go_wp2_with fail
      exact ⟨rfl, (zero_box w).2, .inr ⟨h0, rfl⟩⟩
  have t6 : (op == 6) = false := by simpa using c6
  by_cases c7 : op = 7
  · subst c7
    have e : Ev.reck 7 a b = Ev.div a b := rfl
    rw [e]
    have HC := Lib.hid fun wx => div16_any a b ha hb wx
    clear e ha hb
    generalize Ev.div a b = R at *
    obtain ⟨rn, re⟩ := R
    by_cases h0 : re = 0
    · subst h0
      rw [numV_ok _ rfl]
      go_enter Tryz.func135, Tryz.ntmps135
      go_wp2_with fail
      refine (HC.out _).mono ?_
      rintro e w1 ⟨rfl, rfl⟩
      go_wp2_with fail
      refine (must16_ok _).mono ?_
      rintro e w1 ⟨rfl, rfl⟩
      go_wp2_with fail
      have hx := val_new ⟨1, rn, Vl.mt⟩ w
      exact bodyPost_ret (v := valV ⟨1, rn, Vl.mt⟩) (results_v16 (p := 6) rfl _ _ w.heap.size ⟨1, rn, Vl.mt⟩ rfl hx.1) rfl ⟨hx.2.1, .inl ⟨rfl, rfl⟩⟩
    · rw [numV_bad _ h0]
      go_enter Tryz.func135, Tryz.ntmps135
      go_wp2_with fail
      refine (HC.out _).mono ?_
      rintro e w1 ⟨rfl, rfl⟩
      go_wp2_with fail
      refine (must16_pan _ h0 _).mono ?_
      rintro e w1 ⟨rfl, rfl⟩
      go_wp2_with fail
      exact ⟨rfl, (zero_box w).2, .inr ⟨h0, rfl⟩⟩
  have t7 : (op == 7) = false := by simpa using c7
  have e : Ev.reck op a b = (0, 0) := by unfold Ev.reck; rw [if_neg c4, if_neg c5, if_neg c6, if_neg c7]
  rw [e, numV_ok _ rfl]
  clear e ha hb c4 c5 c6 c7
  go_enter Tryz.func135, Tryz.ntmps135
  go_wp2_with fail
  refine (must16_ok _).mono ?_
  rintro e w1 ⟨rfl, rfl⟩
  go_wp2_with fail
  have hx := val_new ⟨1, 0, Vl.mt⟩ w
  exact bodyPost_ret (v := valV ⟨1, 0, Vl.mt⟩) (results_v16 (p := 6) rfl _ _ w.heap.size ⟨1, 0, Vl.mt⟩ rfl hx.1) rfl ⟨hx.2.1, .inl ⟨rfl, rfl⟩⟩
set_option maxRecDepth 100000 in
set_option maxHeartbeats 3200000 in
theorem joined16_any (a b : ByteArray) (ha : a.size ≤ 1000000) (hb : b.size ≤ 1000000) (w : World) : Calls Tryz.prog 137 #[.string a, .string b] w (EvE (Ev.joined a b) w) := by
  by_cases h : 40 < a.size + b.size
  · have e : Ev.joined a b = (Vl.no, 5) := if_pos h
    rw [e]
    have t1 : decide ((a.size : Int) + (b.size : Int) > 40) = true := decide_eq_true (by omega)
    go_enter Tryz.func137, Tryz.ntmps137
    go_wp2_with fail
    exact ⟨rfl, (zero_box w).2, .inr ⟨by decide, rfl⟩⟩
  · have e : Ev.joined a b = (⟨2, 0, a ++ b⟩, 0) := if_neg h
    rw [e]
    have t1 : decide ((a.size : Int) + (b.size : Int) > 40) = false := decide_eq_false (by omega)
    go_enter Tryz.func137, Tryz.ntmps137
    go_wp2_with fail
    have hx := val_new ⟨2, 0, a ++ b⟩ w
    exact bodyPost_ret (v := valV ⟨2, 0, a ++ b⟩) (results_v16 (p := 4) rfl _ _ w.heap.size ⟨2, 0, a ++ b⟩ rfl hx.1) rfl ⟨hx.2.1, .inl ⟨rfl, rfl⟩⟩
set_option maxRecDepth 100000 in
set_option maxHeartbeats 6400000 in
theorem compared16_any (op n : Int) (w : World) : Calls Tryz.prog 136 #[.int .i64 op, .int .i64 n] w fun e w' => e = .returned (valV (Ev.compared op n)) ∧ Below w.heap.size w w' := by
  by_cases c10 : op = 10
  · subst c10
    have e : Ev.compared 10 n = Ev.truth (decide (n < 0)) := rfl
    rw [e]
    have HC := Lib.hid fun wx => (show Calls Tryz.prog 100 #[.bool (decide (n < 0))] wx _ from truth16_any (decide (n < 0)) wx)
    have HZ := Lib.hid (zero_box w)
    clear e
    generalize Ev.truth (decide (n < 0)) = T at *
    go_enter Tryz.func136, Tryz.ntmps136
    go_wp2_with fail
    refine (HC.out _).mono ?_
    rintro e w1 ⟨rfl, hb1⟩
    have hr1 := rowV_below HZ.out.1 hb1 (rowV_lt HZ.out.1)
    have H1 := Lib.hid (And.intro (HZ.out.2.trans (hb1.mono HZ.out.2.size)) hr1)
    obtain ⟨q0, q1, q2, f0, f1, f2⟩ := val_cells hr1
    clear hb1 hr1
    obtain ⟨tk, tn, ts⟩ := T
    go_wp2_with fail
    have hp := val_put H1.out.2 tk tn ts
    exact bodyPost_ret (v := valV ⟨tk, tn, ts⟩) (results_v16 (p := 4) rfl _ _ w.heap.size ⟨tk, tn, ts⟩ rfl hp.1) rfl ⟨rfl, H1.out.1.trans (hp.2 w.heap.size (Nat.le_refl _))⟩
  have t10 : (op == 10) = false := by simpa using c10
  by_cases c11 : op = 11
  · subst c11
    have e : Ev.compared 11 n = Ev.truth (decide (n ≤ 0)) := rfl
    rw [e]
    have HC := Lib.hid fun wx => (show Calls Tryz.prog 100 #[.bool (decide (n ≤ 0))] wx _ from truth16_any (decide (n ≤ 0)) wx)
    have HZ := Lib.hid (zero_box w)
    clear e
    generalize Ev.truth (decide (n ≤ 0)) = T at *
    go_enter Tryz.func136, Tryz.ntmps136
    go_wp2_with fail
    refine (HC.out _).mono ?_
    rintro e w1 ⟨rfl, hb1⟩
    have hr1 := rowV_below HZ.out.1 hb1 (rowV_lt HZ.out.1)
    have H1 := Lib.hid (And.intro (HZ.out.2.trans (hb1.mono HZ.out.2.size)) hr1)
    obtain ⟨q0, q1, q2, f0, f1, f2⟩ := val_cells hr1
    clear hb1 hr1
    obtain ⟨tk, tn, ts⟩ := T
    go_wp2_with fail
    have hp := val_put H1.out.2 tk tn ts
    exact bodyPost_ret (v := valV ⟨tk, tn, ts⟩) (results_v16 (p := 4) rfl _ _ w.heap.size ⟨tk, tn, ts⟩ rfl hp.1) rfl ⟨rfl, H1.out.1.trans (hp.2 w.heap.size (Nat.le_refl _))⟩
  have t11 : (op == 11) = false := by simpa using c11
  by_cases c12 : op = 12
  · subst c12
    have e : Ev.compared 12 n = Ev.truth (decide (n > 0)) := rfl
    rw [e]
    have HC := Lib.hid fun wx => (show Calls Tryz.prog 100 #[.bool (decide (0 < n))] wx _ from truth16_any (decide (n > 0)) wx)
    have HZ := Lib.hid (zero_box w)
    clear e
    generalize Ev.truth (decide (n > 0)) = T at *
    go_enter Tryz.func136, Tryz.ntmps136
    go_wp2_with fail
    refine (HC.out _).mono ?_
    rintro e w1 ⟨rfl, hb1⟩
    have hr1 := rowV_below HZ.out.1 hb1 (rowV_lt HZ.out.1)
    have H1 := Lib.hid (And.intro (HZ.out.2.trans (hb1.mono HZ.out.2.size)) hr1)
    obtain ⟨q0, q1, q2, f0, f1, f2⟩ := val_cells hr1
    clear hb1 hr1
    obtain ⟨tk, tn, ts⟩ := T
    go_wp2_with fail
    have hp := val_put H1.out.2 tk tn ts
    exact bodyPost_ret (v := valV ⟨tk, tn, ts⟩) (results_v16 (p := 4) rfl _ _ w.heap.size ⟨tk, tn, ts⟩ rfl hp.1) rfl ⟨rfl, H1.out.1.trans (hp.2 w.heap.size (Nat.le_refl _))⟩
  have t12 : (op == 12) = false := by simpa using c12
  have e : Ev.compared op n = Ev.truth (decide (n ≥ 0)) := by unfold Ev.compared; rw [if_neg c10, if_neg c11, if_neg c12]
  rw [e]
  have HC := Lib.hid fun wx => (show Calls Tryz.prog 100 #[.bool (decide (0 ≤ n))] wx _ from truth16_any (decide (n ≥ 0)) wx)
  have HZ := Lib.hid (zero_box w)
  clear e c10 c11 c12
  generalize Ev.truth (decide (n ≥ 0)) = T at *
  go_enter Tryz.func136, Tryz.ntmps136
  go_wp2_with fail
  refine (HC.out _).mono ?_
  rintro e w1 ⟨rfl, hb1⟩
  have hr1 := rowV_below HZ.out.1 hb1 (rowV_lt HZ.out.1)
  have H1 := Lib.hid (And.intro (HZ.out.2.trans (hb1.mono HZ.out.2.size)) hr1)
  obtain ⟨q0, q1, q2, f0, f1, f2⟩ := val_cells hr1
  clear hb1 hr1
  obtain ⟨tk, tn, ts⟩ := T
  go_wp2_with fail
  have hp := val_put H1.out.2 tk tn ts
  exact bodyPost_ret (v := valV ⟨tk, tn, ts⟩) (results_v16 (p := 4) rfl _ _ w.heap.size ⟨tk, tn, ts⟩ rfl hp.1) rfl ⟨rfl, H1.out.1.trans (hp.2 w.heap.size (Nat.le_refl _))⟩
end Go.Proofs.YtmkllibfblacfaaGreatDoor
