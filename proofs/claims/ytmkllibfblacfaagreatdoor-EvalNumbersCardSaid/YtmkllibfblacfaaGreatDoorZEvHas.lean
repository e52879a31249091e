/-
  Layer 16, the program's: is a value among others? Which truths decide.
-/
import Derived.Test.YtmkllibfblacfaaGreatDoorZEvLeaf2
namespace Go.Proofs.YtmkllibfblacfaaGreatDoor
open Go.RowKit
open Vl (V)
/-- is a value among them? -/
def IxV (L : List V) (v : V) (w : World) (e : Ending) (w' : World) : Prop :=
  ∃ r : Int, e = .returned (.int .i64 r) ∧ decide (r ≥ 0) = Ev.has L v ∧ Below w.heap.size w w'
theorem ixV_yes {L : List V} {v : V} {k : Nat} (hk : k < L.length) (h : L[k] = v) : decide ((k : Int) ≥ 0) = Ev.has L v := by
  unfold Ev.has
  rw [decide_eq_true (by omega), eq_comm, List.any_eq_true]
  exact ⟨L[k], List.getElem_mem hk, decide_eq_true h⟩
theorem ixV_no {L : List V} {v : V} (h : ∀ j (hj : j < L.length), L[j] ≠ v) : decide ((-1 : Int) ≥ 0) = Ev.has L v := by
  unfold Ev.has
  rw [decide_eq_false (by omega), eq_comm, List.any_eq_false]
  intro c hc
  obtain ⟨j, hj, e⟩ := List.mem_iff_getElem.1 hc
  rw [decide_eq_true_eq, ← e]
  exact h j hj
set_option maxRecDepth 100000 in
set_option maxHeartbeats 6400000 in
theorem indexV16_any (v : V) (L : List V) (al : Option Addr) (n cap : Nat) (hn : L.length = n) (hl : n ≤ 1000000) (w : World) (hR : ReadsV w al L) :
    Calls Tryz.prog 142 #[.slice al n cap, valV v] w (IxV L v w) := by
  have hx := val_new v w
  have HR := Lib.hid (And.intro (readsV_below16 hR hx.2.1) (And.intro hx.1 (And.intro hx.2.1 hn)))
  clear hR hn hx
  go_enter Tryz.func142, Tryz.ntmps142
  go_wp2_with fail
  generalize hW1 : w.alloc (.cells #[.int .i64 v.kind, .int .i64 v.n, .string v.s] 31) = W1
  have HW : Hid (w.alloc (.cells (valC v) 31) = W1) := Lib.hid hW1
  clear hW1
  rw [HW.out] at HR
  generalize hN : w.heap.size = N at *
  have HN := Lib.hid hN
  clear hN
  go_loopw [8] (fun i wr => ∃ k : Nat, i = .int .i64 (k : Int) ∧ k ≤ n ∧ Hid (∀ j (hj : j < L.length), j < k → L[j] ≠ v) ∧ Hid (Below W1.heap.size W1 wr)) (fun i _ => n - (intOf i).toNat)
  case atStart => exact ⟨0, rfl, Nat.zero_le _, Lib.hid (fun j _ h => by omega), Lib.hid (Below.refl _ _)⟩
  case round =>
    obtain ⟨k, rfl, hk, HK, HB⟩ := hrel
    by_cases hlt : k < n
    · have hlt2 : k < L.length := by rw [HR.out.2.2.2]; exact hlt
      obtain ⟨b, off, rfl, c0, c1, c2⟩ := readsV_below16 HR.out.1 HB.out k hlt2
      have hrv := rowV_below HR.out.2.1 HB.out (rowV_lt HR.out.2.1)
      obtain ⟨v0, v1, v2, -⟩ := val_cells hrv
      have eV : ∀ wx, (binOp BinOp.eql 31 (.agg #[.int .i64 v.kind, .int .i64 v.n, .string v.s]) (.agg #[.int .i64 L[k].kind, .int .i64 L[k].n, .string L[k].s])).run Tryz.prog wx = .ok (.bool (decide (v = L[k]))) wx := fun wx => eql_val v L[k] wx
      clear hrv
      by_cases he : L[k] = v
      · have HX := Lib.hid (ixV_yes hlt2 he)
        rw [decide_eq_true he.symm] at eV
        clear he
        generalize L[k] = y at *
        obtain ⟨yk, yn, ys⟩ := y
        dsimp only at c0 c1 c2 eV
        go_wp2_with fail
        go_quiet (fail)
        have hbq := below_drewN (Below.refl wr.heap.size wr) nq
        have H1 := Lib.hid (HB.out.trans (hbq.mono HB.out.size))
        clear hbq
        generalize wr.drewN nq = wq at *
        go_wp2_with fail
        go_ret
        exact ⟨_, rfl, HX.out, by rw [HN.out]; exact below_more16 HN.out HR.out.2.2.1 H1.out⟩
      · have HX : Hid (∀ j (hj : j < L.length), j < k + 1 → L[j] ≠ v) := Lib.hid (fun j hj h => by
          by_cases e : j = k
          · subst e; exact he
          · exact HK.out j hj (by omega))
        rw [decide_eq_false (fun e => he e.symm)] at eV
        clear he
        generalize L[k] = y at *
        obtain ⟨yk, yn, ys⟩ := y
        dsimp only at c0 c1 c2 eV
        go_wp2_with fail
        go_quiet (fail)
        have hbq := below_drewN (Below.refl wr.heap.size wr) nq
        have H1 := Lib.hid (HB.out.trans (hbq.mono HB.out.size))
        clear hbq
        generalize wr.drewN nq = wq at *
        go_wp2_with fail
        go_roundw
        case rel => exact ⟨k + 1, by go_num, by omega, HX, H1⟩
        case measure => simp only [intOf]; omega
    · obtain rfl : k = n := by omega
      have HX := Lib.hid (ixV_no (L := L) (v := v) (fun j hj => HK.out j hj (by have := HR.out.2.2.2; omega)))
      go_wp2_with fail
      go_ret
      exact ⟨_, rfl, HX.out, by rw [HN.out]; exact below_more16 HN.out HR.out.2.2.1 HB.out⟩
set_option maxRecDepth 100000 in
theorem containsV16_any (v : V) (L : List V) (al : Option Addr) (n cap : Nat) (hn : L.length = n) (hl : n ≤ 1000000) (w : World) (hR : ReadsV w al L) :
    Calls Tryz.prog 112 #[.slice al n cap, valV v] w fun e w' => e = .returned (.bool (Ev.has L v)) ∧ Below w.heap.size w w' := by
  have hx := val_new v w
  have HI := Lib.hid (And.intro hx.2.1 (indexV16_any v L al n cap hn hl _ (readsV_below16 hR hx.2.1)))
  clear hn hR hx
  go_enter Tryz.func112, Tryz.ntmps112
  go_wp2_with fail
  refine HI.out.2.mono ?_
  rintro e w1 ⟨r, rfl, hr, hb1⟩
  have H1 := Lib.hid (HI.out.1.trans (hb1.mono HI.out.1.size))
  clear hb1
  cases hB : Ev.has L v with
  | true =>
    have HB := Lib.hid hB
    rw [hB] at hr
    clear hB
    go_wp2_with fail
    go_ret
    exact ⟨ret_bool HB.out.symm, H1.out⟩
  | false =>
    have HB := Lib.hid hB
    rw [hB] at hr
    clear hB
    go_wp2_with fail
    go_ret
    exact ⟨ret_bool HB.out.symm, H1.out⟩
set_option maxRecDepth 100000 in
set_option maxHeartbeats 6400000 in
theorem decided16_any (b : Bool) (L : List V) (al : Option Addr) (n cap : Nat) (hn : L.length = n) (hl : n ≤ 1000000) (w : World) (hR : ReadsV w al L) :
    Calls Tryz.prog 134 #[.bool b, .slice al n cap] w fun e w' => e = .returned (valV (Ev.decided b L)) ∧ Below w.heap.size w w' := by
  have hZ := zero_box w
  have HT := Lib.hid fun wx => truth16_any b wx
  have HT2 := Lib.hid fun wx => truth16_any (!b) wx
  have HC := Lib.hid fun (v : V) (wx : World) (hb : Below w.heap.size w wx) => containsV16_any v L al n cap hn hl wx (readsV_below16 hR hb)
  have HZ := Lib.hid hZ
  clear hZ hR hn
  have hD : Ev.decided b L = if Ev.has L (Ev.truth b) = true then Ev.truth b else if Ev.has L Vl.no = true then Vl.no else Ev.truth (!b) := rfl
  generalize Ev.truth b = T at *
  generalize Ev.truth (!b) = U at *
  obtain ⟨tk, tn, ts⟩ := T
  obtain ⟨uk, un, us⟩ := U
  have HC1 := Lib.hid (HC.out ⟨tk, tn, ts⟩)
  have HC2 := Lib.hid (HC.out Vl.no)
  clear HC
  generalize Ev.has L ⟨tk, tn, ts⟩ = B1 at *
  generalize Ev.has L Vl.no = B2 at *
  go_enter Tryz.func134, Tryz.ntmps134
  go_wp2_with fail
  refine (HT.out _).mono ?_
  rintro e w1 ⟨rfl, hb1⟩
  have hr1 := rowV_below HZ.out.1 hb1 (rowV_lt HZ.out.1)
  have hB1 := HZ.out.2.trans (hb1.mono HZ.out.2.size)
  have hx := val_new ⟨tk, tn, ts⟩ w1
  have hB2 := hB1.trans (hx.2.1.mono hB1.size)
  have hr2 := rowV_below hr1 hx.2.1 (rowV_lt hr1)
  have H2 := Lib.hid (And.intro hB2 (And.intro hr2 hx.1))
  have hs1 := hb1.size
  clear hb1 hr1 hB1 hx hB2 hr2
  go_wp2_with fail
  refine (HC1.out _ H2.out.1).mono ?_
  rintro e w3 ⟨rfl, hb3⟩
  have hr3 := rowV_below H2.out.2.1 hb3 (rowV_lt H2.out.2.1)
  have hv3 := rowV_below H2.out.2.2 hb3 (rowV_lt H2.out.2.2)
  have H3 := Lib.hid (And.intro (H2.out.1.trans (hb3.mono H2.out.1.size)) hr3)
  cases B1 with
  | true =>
    have HD := Lib.hid (hD.trans (if_pos rfl))
    obtain ⟨q0, q1, q2, f0, f1, f2⟩ := val_cells hr3
    obtain ⟨v0, v1, v2, -⟩ := val_cells (v := ⟨tk, tn, ts⟩) hv3
    clear hb3 hr3 hv3 hD
    dsimp only at v0 v1 v2
    go_wp2_with fail
    have hp := val_put H3.out.2 tk tn ts
    refine bodyPost_ret (v := valV ⟨tk, tn, ts⟩) (results_v16 (p := 4) rfl _ _ w.heap.size ⟨tk, tn, ts⟩ rfl hp.1) rfl ⟨by rw [HD.out], H3.out.1.trans (hp.2 w.heap.size (Nat.le_refl _))⟩
  | false =>
    rw [if_neg (by decide)] at hD
    clear hb3 hr3 hv3
    go_wp2_with fail
    refine (HC2.out _ H3.out.1).mono ?_
    rintro e w4 ⟨rfl, hb4⟩
    have hr4 := rowV_below H3.out.2 hb4 (rowV_lt H3.out.2)
    have H4 := Lib.hid (And.intro (H3.out.1.trans (hb4.mono H3.out.1.size)) hr4)
    clear hb4
    cases B2 with
    | true =>
      have HD := Lib.hid (hD.trans (if_pos rfl))
      obtain ⟨q0, q1, q2, f0, f1, f2⟩ := val_cells hr4
      clear hr4 hD
      go_wp2_with fail
      have hp := val_put H4.out.2 0 0 ⟨#[]⟩
      refine bodyPost_ret (v := valV Vl.no) (results_v16 (p := 4) rfl _ _ w.heap.size Vl.no rfl hp.1) rfl ⟨by rw [HD.out], H4.out.1.trans (hp.2 w.heap.size (Nat.le_refl _))⟩
    | false =>
      have HD := Lib.hid (hD.trans (if_neg (by decide)))
      clear hr4 hD
      go_wp2_with fail
      refine (HT2.out _).mono ?_
      rintro e w5 ⟨rfl, hb5⟩
      have hr5 := rowV_below H4.out.2 hb5 (rowV_lt H4.out.2)
      have H5 := Lib.hid (And.intro (H4.out.1.trans (hb5.mono H4.out.1.size)) hr5)
      obtain ⟨q0, q1, q2, f0, f1, f2⟩ := val_cells hr5
      clear hb5 hr5
      go_wp2_with fail
      have hp := val_put H5.out.2 uk un us
      refine bodyPost_ret (v := valV ⟨uk, un, us⟩) (results_v16 (p := 4) rfl _ _ w.heap.size ⟨uk, un, us⟩ rfl hp.1) rfl ⟨by rw [HD.out], H5.out.1.trans (hp.2 w.heap.size (Nat.le_refl _))⟩
end Go.Proofs.YtmkllibfblacfaaGreatDoor
