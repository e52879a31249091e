/-
  Layer 13: which tokens are right, the document's answer.
-/
import Derived.Test.YtmpfnokddpbgcaaDoorZLexName
import Derived.Test.YtmpfnokddpbgcaaDoorZLexOne
import Derived.Test.YtmpfnokddpbgcaaDoorPk2
namespace Go.Proofs.YtmpfnokddpbgcaaDoor
open Go.RowKit
theorem right13_1 {s : ByteArray} {n a : Int} : Lx.right ⟨1, s, n, a⟩ ↔ n = 0 ∧ s ≠ Vl.mt ∧ Lx.word false s.data.toList = s.size ∧ s.size ≤ 16 := by simp [Lx.right]
theorem right13_2 {s : ByteArray} {n a : Int} : Lx.right ⟨2, s, n, a⟩ ↔ 0 ≤ n ∧ s = Vl.mt := by simp [Lx.right]
theorem right13_3 {s : ByteArray} {n a : Int} : Lx.right ⟨3, s, n, a⟩ ↔ n = 0 ∧ Vl.plain s := by simp [Lx.right]
theorem right13_4 {s : ByteArray} {n a : Int} : Lx.right ⟨4, s, n, a⟩ ↔ s.data.toList ∈ Lx.marks ∧ n = 0 := by simp [Lx.right]
theorem right13_0 {s : ByteArray} {k n a : Int} (h1 : k ≠ 1) (h2 : k ≠ 2) (h3 : k ≠ 3) (h4 : k ≠ 4) : ¬ Lx.right ⟨k, s, n, a⟩ := by simp [Lx.right, h1, h2, h3, h4]
set_option maxRecDepth 100000 in
set_option maxHeartbeats 3200000 in
theorem rright13_1 (s : ByteArray) (n a : Int) (w : World) (hs : s.size ≤ maxLen) :
    Calls Tryd.prog 24 #[tokV ⟨1, s, n, a⟩] w fun e w' => e = .returned (.bool (decide (Lx.right ⟨1, s, n, a⟩))) ∧ Below w.heap.size w w' := by
  have hb0 : Hid (Below w.heap.size w (w.alloc (.cells #[.int .i64 1, .string s, .int .i64 n, .int .i64 a] 33))) := Lib.hid ((Below.refl w.heap.size w).alloc (Nat.le_refl _) _)
  have cW := fun w => rword13_any s w hs
  have hR := right13_1 (s := s) (n := n) (a := a)
  by_cases hn : n = 0
  · subst hn
    by_cases hm : s = Vl.mt
    · have e0 : s.toList = [] := (mt_iff13 s).2 hm
      have HN : Hid (¬ Lx.right ⟨1, s, 0, a⟩) := Lib.hid (fun h => (hR.1 h).2.1 hm)
      have e1 : (s.toList == []) = true := by rw [e0]; rfl
      clear hm cW hs hR
      go_enter Tryd.func24, Tryd.ntmps24
      go_wp2_with fail
      go_quiet (fail)
      have HB : Hid (Below w.heap.size w (World.drewN _ nq)) := Lib.hid (below_drewN hb0.out nq)
      generalize World.drewN _ nq = wq at *
      go_wp2_with fail
      go_ret
      exact ⟨ret_bool (decide_eq_false HN.out).symm, HB.out⟩
    · have e0 : ¬ s.toList = [] := fun e => hm ((mt_iff13 s).1 e)
      have e1 : s.toList.isEmpty = false := by simpa using e0
      by_cases hw : Lx.word false s.data.toList = s.size
      · rw [hw] at cW
        have t2 : ((s.size : Int) == (s.size : Int)) = true := by simp
        have HN : Hid (Lx.right ⟨1, s, 0, a⟩ ↔ s.size ≤ 16) := Lib.hid ⟨fun h => (hR.1 h).2.2.2, fun h => hR.2 ⟨rfl, hm, hw, h⟩⟩
        have HC := Lib.hid cW
        clear hm cW hs hw hR
        go_enter Tryd.func24, Tryd.ntmps24
        go_wp2_with fail
        go_quiet ((go_at_call 20; exact Calls.quiet_of_same (HC.out _)))
        have HB : Hid (Below w.heap.size w (World.drewN _ nq)) := Lib.hid (below_drewN hb0.out nq)
        generalize World.drewN _ nq = wq at *
        go_wp2_with fail
        go_ret
        exact ⟨ret_bool (decide_eq_decide.2 (by rw [HN.out]; omega)), HB.out⟩
      · have t2 : (((Lx.word false s.data.toList : Nat) : Int) == (s.size : Int)) = false := by simp; omega
        have HN : Hid (¬ Lx.right ⟨1, s, 0, a⟩) := Lib.hid (fun h => hw (hR.1 h).2.2.1)
        have HC := Lib.hid cW
        clear hm cW hs hw hR
        generalize Lx.word false s.data.toList = WL at *
        go_enter Tryd.func24, Tryd.ntmps24
        go_wp2_with fail
        go_quiet ((go_at_call 20; exact Calls.quiet_of_same (HC.out _)))
        have HB : Hid (Below w.heap.size w (World.drewN _ nq)) := Lib.hid (below_drewN hb0.out nq)
        generalize World.drewN _ nq = wq at *
        go_wp2_with fail
        go_ret
        exact ⟨ret_bool (decide_eq_false HN.out).symm, HB.out⟩
  · have HN : Hid (¬ Lx.right ⟨1, s, n, a⟩) := Lib.hid (fun h => hn (hR.1 h).1)
    clear cW hs hR
    go_enter Tryd.func24, Tryd.ntmps24
    go_wp2_with fail
    go_quiet (fail)
    have HB : Hid (Below w.heap.size w (World.drewN _ nq)) := Lib.hid (below_drewN hb0.out nq)
    generalize World.drewN _ nq = wq at *
    go_wp2_with fail
    go_ret
    exact ⟨ret_bool (decide_eq_false HN.out).symm, HB.out⟩
set_option maxRecDepth 100000 in
set_option maxHeartbeats 3200000 in
theorem rright13_2 (s : ByteArray) (n a : Int) (w : World) :
    Calls Tryd.prog 24 #[tokV ⟨2, s, n, a⟩] w fun e w' => e = .returned (.bool (decide (Lx.right ⟨2, s, n, a⟩))) ∧ Below w.heap.size w w' := by
  have hb0 : Hid (Below w.heap.size w (w.alloc (.cells #[.int .i64 2, .string s, .int .i64 n, .int .i64 a] 33))) := Lib.hid ((Below.refl w.heap.size w).alloc (Nat.le_refl _) _)
  have hR := right13_2 (s := s) (n := n) (a := a)
  rw [← mt_iff13] at hR
  by_cases hn : 0 ≤ n
  · have HN : Hid (Lx.right ⟨2, s, n, a⟩ ↔ s.toList = []) := Lib.hid ⟨fun h => (hR.1 h).2, fun h => hR.2 ⟨hn, h⟩⟩
    clear hR
    go_enter Tryd.func24, Tryd.ntmps24
    go_wp2_with fail
    go_ret
    exact ⟨ret_bool (isEmp HN.out), hb0.out⟩
  · have HN : Hid (¬ Lx.right ⟨2, s, n, a⟩) := Lib.hid (fun h => hn (hR.1 h).1)
    clear hR
    go_enter Tryd.func24, Tryd.ntmps24
    go_wp2_with fail
    go_ret
    exact ⟨ret_bool (decide_eq_false HN.out).symm, hb0.out⟩
set_option maxRecDepth 100000 in
set_option maxHeartbeats 3200000 in
theorem rright13_3 (s : ByteArray) (n a : Int) (w : World) (hs : s.size ≤ maxLen) :
    Calls Tryd.prog 24 #[tokV ⟨3, s, n, a⟩] w fun e w' => e = .returned (.bool (decide (Lx.right ⟨3, s, n, a⟩))) ∧ Below w.heap.size w w' := by
  have hb0 : Hid (Below w.heap.size w (w.alloc (.cells #[.int .i64 3, .string s, .int .i64 n, .int .i64 a] 33))) := Lib.hid ((Below.refl w.heap.size w).alloc (Nat.le_refl _) _)
  have hR := right13_3 (s := s) (n := n) (a := a)
  have HC := Lib.hid fun w => plain_any s w hs
  by_cases hn : n = 0
  · subst hn
    have HN : Hid (Lx.right ⟨3, s, 0, a⟩ ↔ Vl.plain s) := Lib.hid ⟨fun h => (hR.1 h).2, fun h => hR.2 ⟨rfl, h⟩⟩
    clear hR hs
    go_enter Tryd.func24, Tryd.ntmps24
    go_wp2_with (go_at_call 43; refine (HC.out _).mono ?_; rintro e w1 ⟨rfl, rfl⟩)
    go_ret
    exact ⟨ret_bool (by rw [decide_eq_decide.2 HN.out]), hb0.out⟩
  · have HN : Hid (¬ Lx.right ⟨3, s, n, a⟩) := Lib.hid (fun h => hn (hR.1 h).1)
    clear hR hs
    go_enter Tryd.func24, Tryd.ntmps24
    go_wp2_with fail
    go_ret
    exact ⟨ret_bool (decide_eq_false HN.out).symm, hb0.out⟩
set_option maxRecDepth 100000 in
set_option maxHeartbeats 3200000 in
theorem rright13_0 (k : Int) (s : ByteArray) (n a : Int) (w : World) (h1 : k ≠ 1) (h2 : k ≠ 2) (h3 : k ≠ 3) (h4 : k ≠ 4) :
    Calls Tryd.prog 24 #[tokV ⟨k, s, n, a⟩] w fun e w' => e = .returned (.bool (decide (Lx.right ⟨k, s, n, a⟩))) ∧ Below w.heap.size w w' := by
  have hb0 : Hid (Below w.heap.size w (w.alloc (.cells #[.int .i64 k, .string s, .int .i64 n, .int .i64 a] 33))) := Lib.hid ((Below.refl w.heap.size w).alloc (Nat.le_refl _) _)
  have HN := Lib.hid (right13_0 (s := s) (n := n) (a := a) h1 h2 h3 h4)
  go_enter Tryd.func24, Tryd.ntmps24
  go_wp2_with fail
  go_ret
  exact ⟨ret_bool (decide_eq_false HN.out).symm, hb0.out⟩
end Go.Proofs.YtmpfnokddpbgcaaDoor
