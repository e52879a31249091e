/-
  Layer 12: how two values stand, the program's answer and the document's.
-/
import Derived.Test.YtpniegglbglbcaaDoorValText
namespace Go.Proofs.YtpniegglbglbcaaDoor
open Go.RowKit
/-- what two boxes leave -/
theorem below_box2v (a b : Vl.V) (w : World) : Below w.heap.size w ((w.alloc (.cells (valC a) 24)).alloc (.cells (valC b) 24)) :=
  ((Below.refl w.heap.size w).alloc (Nat.le_refl _) _).alloc (by rw [World.size_alloc]; omega) _
theorem bless_iff : ∀ a b : List UInt8, Op.bytesLess a b = true ↔ Lib.compareBytes a b = -1
  | [], [] => by simp [Lib.compareBytes, Op.bytesLess]
  | [], _ :: _ => by simp [Lib.compareBytes, Op.bytesLess]
  | _ :: _, [] => by simp [Lib.compareBytes, Op.bytesLess]
  | x :: a, y :: b => by
    have ih := bless_iff a b
    have e1 : Op.bytesLess (x :: a) (y :: b) = (x < y || (x == y && Op.bytesLess a b)) := rfl
    have e2 : Lib.compareBytes (x :: a) (y :: b) = (if x < y then (-1 : Int) else if y < x then 1 else Lib.compareBytes a b) := rfl
    rw [e1, e2]
    by_cases h1 : x < y
    · simp [h1]
    · by_cases h2 : y < x
      · have h3 : (x == y) = false := by
          simp only [beq_eq_false_iff_ne, ne_eq]; rintro rfl; exact h1 h2
        simp [h1, h2, h3]
      · have h3 : x = y := UInt8.toNat_inj.1 (by rw [UInt8.lt_iff_toNat_lt] at h1 h2; omega)
        subst h3
        simp [h1, ih]
set_option maxRecDepth 100000 in
set_option maxHeartbeats 3200000 in
theorem compare12_any (a b : Vl.V) (w : World) :
    Calls Tryd.prog 22 #[valV a, valV b] w fun e w' => e = .returned (.int .i64 (Vl.cmp a b)) ∧ Below w.heap.size w w' := by
  have HB := Lib.hid (below_box2v a b w)
  obtain ⟨k, n, s⟩ := a
  obtain ⟨k', n', s'⟩ := b
  by_cases hk : k = k'
  · subst hk
    by_cases hn : n = n'
    · subst hn
      have E := Lib.hid (Vl.cmp_s (a := ⟨k, n, s⟩) (b := ⟨k, n, s'⟩) rfl rfl)
      rw [E.out]
      clear E
      go_enter Tryd.func22, Tryd.ntmps22
      go_wp2_with (go_at_call 44; refine (scompare_any _ _ _).mono ?_; rintro e w1 ⟨rfl, rfl⟩)
      go_ret
      exact ⟨rfl, HB.out⟩
    · have E := Lib.hid (Vl.cmp_n (a := ⟨k, n, s⟩) (b := ⟨k, n', s'⟩) rfl hn)
      rw [E.out]
      have t : (n == n') = false := by simp; exact hn
      clear E
      go_enter Tryd.func22, Tryd.ntmps22
      go_wp2_with (go_at_call 43; refine (icompare_any _ _ _).mono ?_; rintro e w1 ⟨rfl, rfl⟩)
      go_ret
      exact ⟨rfl, HB.out⟩
  · have E := Lib.hid (Vl.cmp_k (a := ⟨k, n, s⟩) (b := ⟨k', n', s'⟩) hk)
    rw [E.out]
    have t : (k == k') = false := by simp; exact hk
    clear E
    go_enter Tryd.func22, Tryd.ntmps22
    go_wp2_with (go_at_call 42; refine (kcompare_any _ _ _).mono ?_; rintro e w1 ⟨rfl, rfl⟩)
    go_ret
    exact ⟨rfl, HB.out⟩
set_option maxRecDepth 100000 in
set_option maxHeartbeats 3200000 in
theorem rcompare12_any (a b : Vl.V) (w : World) :
    Calls Tryd.prog 23 #[valV a, valV b] w fun e w' => e = .returned (.int .i64 (Vl.cmp a b)) ∧ Below w.heap.size w w' := by
  have HB := Lib.hid (below_box2v a b w)
  obtain ⟨k, n, s⟩ := a
  obtain ⟨k', n', s'⟩ := b
  by_cases hk : k = k'
  · subst hk
    by_cases hn : n = n'
    · subst hn
      have E := Vl.cmp_s (a := ⟨k, n, s⟩) (b := ⟨k, n, s'⟩) rfl rfl
      simp only at E
      rw [E]
      clear E
      by_cases hl : Op.bytesLess s.data.toList s'.data.toList = true
      · have C := Lib.hid ((bless_iff _ _).1 hl)
        rw [← ByteArray.toList_eq, ← ByteArray.toList_eq] at hl
        go_enter Tryd.func23, Tryd.ntmps23
        go_wp2_with fail
        go_ret
        exact ⟨ret_int C.out.symm, HB.out⟩
      · have hl : Op.bytesLess s.data.toList s'.data.toList = false := by simpa using hl
        have hc : Lib.compareBytes s.data.toList s'.data.toList ≠ -1 := fun e => by rw [(bless_iff _ _).2 e] at hl; cases hl
        by_cases hs : s = s'
        · subst hs
          have C := Lib.hid (Vl.cb_self s.data.toList)
          clear hc
          rw [← ByteArray.toList_eq] at hl
          go_enter Tryd.func23, Tryd.ntmps23
          go_wp2_with fail
          go_ret
          exact ⟨ret_int C.out.symm, HB.out⟩
        · have C : Hid (Lib.compareBytes s.data.toList s'.data.toList = 1) := Lib.hid (by
            rcases Vl.cb_range s.data.toList s'.data.toList with h | h | h
            · exact absurd h hc
            · exact absurd (Sl.ba_ext (Vl.cb_zero _ _ h)) hs
            · exact h)
          clear hc
          rw [← ByteArray.toList_eq, ← ByteArray.toList_eq] at hl
          have hs1 : ¬ s.toList = s'.toList := fun e => hs (Sl.ba_ext (by rw [← ByteArray.toList_eq, ← ByteArray.toList_eq]; exact e))
          have hs2 : (s.toList == s'.toList) = false := by simpa using hs1
          clear hs
          go_enter Tryd.func23, Tryd.ntmps23
          go_wp2_with fail
          go_ret
          exact ⟨ret_int C.out.symm, HB.out⟩
    · have E := Vl.cmp_n (a := ⟨k, n, s⟩) (b := ⟨k, n', s'⟩) rfl hn
      simp only at E
      rw [E]
      have t : (n == n') = false := by simp; exact hn
      rcases Vl.cmpI_cases n n' with ⟨h, e⟩ | ⟨h, e⟩ | ⟨h, e⟩
      · have C := Lib.hid e
        clear e E
        go_enter Tryd.func23, Tryd.ntmps23
        go_wp2_with fail
        go_ret
        exact ⟨ret_int C.out.symm, HB.out⟩
      · exact absurd h hn
      · have C := Lib.hid e
        have h' : ¬ n < n' := by omega
        clear e E
        go_enter Tryd.func23, Tryd.ntmps23
        go_wp2_with fail
        go_ret
        exact ⟨ret_int C.out.symm, HB.out⟩
  · have E := Vl.cmp_k (a := ⟨k, n, s⟩) (b := ⟨k', n', s'⟩) hk
    simp only at E
    rw [E]
    have t : (k == k') = false := by simp; exact hk
    rcases Vl.cmpI_cases k k' with ⟨h, e⟩ | ⟨h, e⟩ | ⟨h, e⟩
    · have C := Lib.hid e
      clear e E
      go_enter Tryd.func23, Tryd.ntmps23
      go_wp2_with fail
      go_ret
      exact ⟨ret_int C.out.symm, HB.out⟩
    · exact absurd h hk
    · have C := Lib.hid e
      have h' : ¬ k < k' := by omega
      clear e E
      go_enter Tryd.func23, Tryd.ntmps23
      go_wp2_with fail
      go_ret
      exact ⟨ret_int C.out.symm, HB.out⟩
end Go.Proofs.YtpniegglbglbcaaDoor
