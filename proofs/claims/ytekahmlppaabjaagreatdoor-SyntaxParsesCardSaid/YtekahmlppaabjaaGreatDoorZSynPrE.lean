/-
  Layer 14, the program's: whether an expression may be, whatever its parts are.
-/
import Derived.Test.YtekahmlppaabjaaGreatDoorZSynPrD
import Derived.Test.YtekahmlppaabjaaGreatDoorPk4
namespace Go.Proofs.YtekahmlppaabjaaGreatDoor
open Go.RowKit
open Sx (X)
namespace Sx
/-- may it be, whatever its parts are? -/
def rightN (x : X) : Bool :=
  if x.op = 1 then decide (Vl.right x.v) && (decide (0 ≤ x.v.n) && (decide (x.s = Vl.mt) && decide (x.l.length = 0)))
  else if x.op = 2 then decide (x.v = Vl.no) && (Lx.nameB x.s && decide (x.l.length = 0))
  else decide (0 < cntP x.op) && (decide ((x.l.length : Int) = cntP x.op) && (decide (x.v = Vl.no) && decide (x.s = Vl.mt)))
end Sx
theorem v_no (v : Vl.V) (h : v = Vl.no) : v.kind = 0 ∧ v.n = 0 ∧ v.s = Vl.mt := by subst h; exact ⟨rfl, rfl, rfl⟩
set_option maxRecDepth 100000 in
set_option maxHeartbeats 25600000 in
theorem right14_any (x : X) (hok : Sx.okX x) (hs : x.s.size ≤ 1000000) (a : Option Addr) (c : Nat) (w : World) (hE : ErrR w) : Calls Tryz.prog 22 #[xV x a c] w fun e w' => e = .returned (.bool (Sx.rightN x)) ∧ Below w.heap.size w w' := by
  have hB0 := Lib.hid (x_new x a c w).2.1
  obtain ⟨hnn, hvs, hss, hlen⟩ := Sx.okX_is hok
  have HL := Lib.hid fun (wr : World) (hb : Below (w.alloc (.cells (xC x a c) 29)).heap.size (w.alloc (.cells (xC x a c) 29)) wr) => x_look hb
  obtain ⟨⟨c0, c1, c2, c3, c4, c5⟩, _⟩ := HL.out _ (Below.refl _ _)
  simp only [Nat.zero_add] at c0 c1 c2 c3 c4 c5
  have e1 := mt_beq x.s
  have e2 := fun wx => eql_val x.v Vl.no wx
  unfold maxLen at hlen
  by_cases h1 : x.op = 1
  · have hR : Sx.rightN x = (decide (Vl.right x.v) && (decide (0 ≤ x.v.n) && (decide (x.s = Vl.mt) && decide (x.l.length = 0)))) := if_pos h1
    have q1 : (x.op == 1) = true := by simp [h1]
    have cV := fun wx => check12_any x.v wx
    have l1 : (((x.l.length : Nat) : Int) == 0) = decide (x.l.length = 0) := by by_cases h : x.l.length = 0 <;> simp [h]
    by_cases hv : Vl.right x.v
    · rw [decide_eq_true hv, Bool.true_and] at hR
      rw [checkE_ok hv] at cV
      have HC := Lib.hid cV
      clear cV
      generalize decide (x.l.length = 0) = b4 at *
      generalize decide (x.s = Vl.mt) = b3 at *
      cases b3 <;> cases b4 <;> (by_cases h0 : 0 ≤ x.v.n) <;> (first | rw [decide_eq_true h0] at hR | rw [decide_eq_false h0] at hR) <;>
      · have HR := Lib.hid hR
        clear hR
        go_enter Tryz.func22, Tryz.ntmps22
        go_wp2_with ((go_at_call 49; refine (HC.out _).mono ?_; rintro e w1 ⟨rfl, hb⟩; obtain ⟨⟨k0, k1, k2, k3, k4, k5⟩, hBw⟩ := HL.out w1 hb; simp only [Nat.zero_add] at k0 k1 k2 k3 k4 k5; have HBw := Lib.hid hBw; clear hBw hb))
        go_ret
        exact ⟨ret_bool (by rw [HR.out]; rfl), HBw.out⟩
    · rw [decide_eq_false hv, Bool.false_and] at hR
      rw [checkE_bad hv] at cV
      have HC := Lib.hid cV
      have HR := Lib.hid hR
      clear cV hR
      go_enter Tryz.func22, Tryz.ntmps22
      go_wp2_with ((go_at_call 49; refine (HC.out _).mono ?_; rintro e w1 ⟨rfl, hb⟩; obtain ⟨⟨k0, k1, k2, k3, k4, k5⟩, hBw⟩ := HL.out w1 hb; simp only [Nat.zero_add] at k0 k1 k2 k3 k4 k5; have HBw := Lib.hid hBw; clear hBw hb))
      go_ret
      exact ⟨ret_bool (by rw [HR.out]), HBw.out⟩
  · by_cases h2 : x.op = 2
    · have hR : Sx.rightN x = (decide (x.v = Vl.no) && (Lx.nameB x.s && decide (x.l.length = 0))) := by unfold Sx.rightN; rw [if_neg h1, if_pos h2]
      have q1 : (x.op == 1) = false := by simp [h1]
      have q2 : (x.op == 2) = true := by simp [h2]
      have l1 : (((x.l.length : Nat) : Int) == 0) = decide (x.l.length = 0) := by by_cases h : x.l.length = 0 <;> simp [h]
      have cN := fun wx (hx : ErrR wx) => Name13_any x.s wx hs hx
      have HE := Lib.hid fun (wr : World) (hb : Below (w.alloc (.cells (xC x a c) 29)).heap.size (w.alloc (.cells (xC x a c) 29)) wr) => errR_below hE (x_look hb).2
      generalize decide (x.l.length = 0) = b4 at *
      generalize Lx.nameB x.s = b3 at *
      have HC := Lib.hid cN
      clear cN
      dsimp only [valV, Vl.no] at e2
      cases hvn : decide (x.v = Vl.no)
      all_goals
        dsimp only [Vl.no] at hvn
        rw [hvn] at e2
        rw [show decide (x.v = Vl.no) = _ from hvn] at hR
      · have HR := Lib.hid hR
        clear hR
        go_enter Tryz.func22, Tryz.ntmps22
        go_wp2_with fail
        go_ret
        exact ⟨ret_bool (by rw [HR.out]; rfl), hB0.out⟩
      · cases b3 <;> cases b4 <;>
        · have HR := Lib.hid hR
          clear hR
          go_enter Tryz.func22, Tryz.ntmps22
          go_wp2_with ((go_at_call 50; refine (HC.out _ (HE.out _ (Below.refl _ _))).mono ?_; rintro e w1 ⟨rfl, hb⟩; obtain ⟨⟨k0, k1, k2, k3, k4, k5⟩, hBw⟩ := HL.out w1 hb; simp only [Nat.zero_add] at k0 k1 k2 k3 k4 k5; have HBw := Lib.hid hBw; clear hBw hb))
          go_ret
          exact ⟨ret_bool (by rw [HR.out]; rfl), HBw.out⟩
    · have hR : Sx.rightN x = (decide (0 < cntP x.op) && (decide ((x.l.length : Int) = cntP x.op) && (decide (x.v = Vl.no) && decide (x.s = Vl.mt)))) := by unfold Sx.rightN; rw [if_neg h1, if_neg h2]
      have q1 : (x.op == 1) = false := by simp [h1]
      have q2 : (x.op == 2) = false := by simp [h2]
      have HC := Lib.hid fun wx => count14_any x.op wx
      generalize cntP x.op = CN at *
      have l1 : (((x.l.length : Nat) : Int) == CN) = decide ((x.l.length : Int) = CN) := by by_cases h : (x.l.length : Int) = CN <;> simp [h]
      generalize decide ((x.l.length : Int) = CN) = b2 at *
      generalize decide (x.s = Vl.mt) = b4 at *
      dsimp only [valV, Vl.no] at e2
      by_cases h0 : 0 < CN
      · rw [decide_eq_true h0, Bool.true_and] at hR
        cases hvn : decide (x.v = Vl.no)
        all_goals
          dsimp only [Vl.no] at hvn
          rw [hvn] at e2
          rw [show decide (x.v = Vl.no) = _ from hvn] at hR
        all_goals
          cases b2 <;> cases b4 <;>
          · have HR := Lib.hid hR
            clear hR
            go_enter Tryz.func22, Tryz.ntmps22
            go_wp2_with ((go_at_call 51; refine (HC.out _).mono ?_; rintro e w1 ⟨rfl, rfl⟩))
            go_ret
            exact ⟨ret_bool (by rw [HR.out]; rfl), hB0.out⟩
      · rw [decide_eq_false h0, Bool.false_and] at hR
        have HR := Lib.hid hR
        clear hR
        go_enter Tryz.func22, Tryz.ntmps22
        go_wp2_with ((go_at_call 51; refine (HC.out _).mono ?_; rintro e w1 ⟨rfl, rfl⟩))
        go_ret
        exact ⟨ret_bool (by rw [HR.out]), hB0.out⟩
end Go.Proofs.YtekahmlppaabjaaGreatDoor
