/-
  Layer 13: which tokens are right, the document's answer: marks.
-/
import Derived.Test.YtmpfnokddpbgcaaDoorZLexRight
namespace Go.Proofs.YtmpfnokddpbgcaaDoor
open Go.RowKit
/-- it is none of the first k marks -/
def NotMark (l : List UInt8) (k : Nat) : Prop := l ∉ Lx.marks.take k
theorem notMark_next {l : List UInt8} {k : Nat} (h : NotMark l k) (hk : k < Lx.marks.length) (hp : Lx.marks[k] ≠ l) : NotMark l (k + 1) := by
  intro hm
  rw [List.take_succ_eq_append_getElem hk] at hm
  rcases List.mem_append.1 hm with hm | hm
  · exact h hm
  · simp only [List.mem_singleton] at hm; exact hp hm.symm
theorem notMark_end {l : List UInt8} (h : NotMark l 16) : l ∉ Lx.marks := by unfold NotMark at h; rwa [List.take_of_length_le] at h; rw [marks_len]; omega
set_option maxRecDepth 100000 in
set_option maxHeartbeats 6400000 in
theorem rright13_4 (s : ByteArray) (n a : Int) (w : World) :
    Calls Tryd.prog 24 #[tokV ⟨4, s, n, a⟩] w fun e w' => e = .returned (.bool (decide (Lx.right ⟨4, s, n, a⟩))) ∧ Below w.heap.size w w' := by
  obtain ⟨r0, b0, s0⟩ := tok_new ⟨4, s, n, a⟩ w
  have hR := right13_4 (s := s) (n := n) (a := a)
  have rm := rowV_new (w.alloc (.cells (tokC ⟨4, s, n, a⟩) 33)) 9 marksV
  rw [s0] at rm
  have rb := rowV_alloc r0 (.cells marksV.toArray 9)
  have hb := b0.alloc (by rw [s0]; omega) (.cells marksV.toArray 9)
  have cM := rmarks13_any (w.alloc (.cells (tokC ⟨4, s, n, a⟩) 33))
  rw [s0] at cM
  have H := Lib.hid (And.intro cM (And.intro rm (And.intro rb hb)))
  clear cM r0 b0 s0 rm rb hb
  go_enter Tryd.func24, Tryd.ntmps24
  go_wp2_with fail
  refine H.out.1.mono ?_
  rintro e w1 ⟨rfl, hw1⟩
  rw [← hw1] at H
  have hsz : w.heap.size + 1 < w1.heap.size := rowV_lt H.out.2.1
  clear hw1
  go_wp2_with fail
  go_loopw [4] (fun i wr => ∃ k : Nat, k ≤ 16 ∧ i = .int .i64 (k : Int) ∧ Hid (NotMark s.data.toList k) ∧ Hid (Below w1.heap.size w1 wr)) (fun i _ => 16 - (intOf i).toNat)
  case atStart => exact ⟨0, Nat.zero_le _, rfl, Lib.hid (by intro h; simp at h), Lib.hid (Below.refl _ _)⟩
  case round =>
    obtain ⟨k, hk, rfl, HM, HI⟩ := hrel
    have HB : Hid (Below w.heap.size w wr) := Lib.hid (H.out.2.2.2.trans (HI.out.mono (Nat.le_of_lt (Nat.lt_of_succ_lt hsz))))
    by_cases hlt : k < 16
    · have hkl : k < Lx.marks.length := hlt
      have hrow := rowV_below H.out.2.1 HI.out hsz
      obtain ⟨c0, c1, c2, c3, _⟩ := tok_cells (v := ⟨4, s, n, a⟩) (rowV_below H.out.2.2.1 HI.out (Nat.lt_of_succ_lt hsz))
      have hc : wr.cell? ⟨w.heap.size + 1, k, none⟩ = some (.string (Lx.mk Lx.marks[k])) := by
        rw [rowV_cell hrow k]
        show (Lx.marks.map fun m => Value.string (Lx.mk m))[k]? = _
        rw [List.getElem?_map, List.getElem?_eq_getElem hkl]; rfl
      by_cases he : Lx.marks[k] = s.data.toList
      · have HY : Hid (Lx.right ⟨4, s, n, a⟩ ↔ n = 0) := Lib.hid ⟨fun h => (hR.1 h).2, fun h => hR.2 ⟨by rw [← he]; exact List.getElem_mem hkl, h⟩⟩
        have e1 : Lx.mk Lx.marks[k] = s := by rw [he]
        rw [e1] at hc
        have t1 : (s.toList == s.toList) = true := by simp
        clear he e1 hrow hR
        go_wp2_with fail
        go_quiet (fail)
        have HQ : Hid (Below w.heap.size w (World.drewN _ nq)) := Lib.hid (below_drewN HB.out nq)
        have c5 : (wr.drewN nq).cell? ⟨w.heap.size, 2, none⟩ = some (.int .i64 n) := c2
        generalize wr.drewN nq = wq at *
        go_wp2_with fail
        go_ret
        exact ⟨ret_bool (Bool.eq_iff_iff.2 (by rw [decide_eq_true_iff, HY.out]; simp)), HQ.out⟩
      · have HN := Lib.hid (notMark_next HM.out hkl he)
        have t0 := ba_list_ne he
        have t1 : ((Lx.mk Lx.marks[k]).toList == s.toList) = false := by simpa using t0
        generalize Lx.mk Lx.marks[k] = W at *
        clear he hrow hR
        go_wp2_with fail
        go_quiet (fail)
        go_wp2_with fail
        go_roundw
        case rel => exact ⟨k + 1, by omega, by go_num, HN, Lib.hid (below_drewN HI.out _)⟩
        case measure => simp [intOf]; omega
    · obtain rfl : k = 16 := by omega
      have HE : Hid (¬ Lx.right ⟨4, s, n, a⟩) := Lib.hid (fun h => notMark_end HM.out (hR.1 h).1)
      clear hR
      go_wp2_with fail
      go_ret
      exact ⟨ret_bool (decide_eq_false HE.out).symm, HB.out⟩
theorem rright13_any (t : Lx.T) (w : World) (hs : t.s.size ≤ maxLen) :
    Calls Tryd.prog 24 #[tokV t] w fun e w' => e = .returned (.bool (decide (Lx.right t))) ∧ Below w.heap.size w w' := by
  obtain ⟨k, s, n, a⟩ := t
  by_cases h1 : k = 1
  · subst h1; exact rright13_1 s n a w hs
  by_cases h2 : k = 2
  · subst h2; exact rright13_2 s n a w
  by_cases h3 : k = 3
  · subst h3; exact rright13_3 s n a w hs
  by_cases h4 : k = 4
  · subst h4; exact rright13_4 s n a w
  exact rright13_0 k s n a w h1 h2 h3 h4
end Go.Proofs.YtmpfnokddpbgcaaDoor
