/-
  Layer 2: what Seal and Right answer, and the document's.
-/
import Derived.Test.YtohlgghfdibdcaaCrcSum
import Derived.Deep.RegionHeld3
namespace Go.Proofs.Ytohlgghfdibdcaa
open Go.RowKit

/-- a sealed text -/
def Crc.sealB (s : ByteArray) : ByteArray := s ++ ⟨(Crc.wr (Crc.sum s.data.toList)).toArray⟩
theorem sealB_list (s : ByteArray) : (Crc.sealB s).data.toList = Crc.seal4 s.data.toList := by
  unfold Crc.sealB Crc.seal4; rw [ByteArray.data_append, Array.toList_append]
theorem sealB_size (s : ByteArray) : (Crc.sealB s).size = s.size + 4 := by
  unfold Crc.sealB; rw [ByteArray.size_append]; rfl

theorem right_less (s : ByteArray) (h : s.size < 4) : Crc.right s.data.toList = false := by
  unfold Crc.right
  have : ¬ 4 ≤ s.data.toList.length := by simp; omega
  simp only [this, decide_false, Bool.false_and]
theorem ext_front (s : ByteArray) (n : Nat) : (s.extract 0 n).data.toList = s.data.toList.take n := by
  rw [ByteArray.data_extract, Array.toList_extract]; simp [List.extract]
theorem ext_back (s : ByteArray) (n : Nat) : (s.extract n s.size).data.toList = s.data.toList.drop n := by
  rw [ByteArray.data_extract, Array.toList_extract, List.extract, List.take_of_length_le (by simp)]
theorem right_cut (s : ByteArray) (h : 4 ≤ s.size) : ((s.extract (s.size - 4) s.size).toList == (⟨(Crc.wr (Crc.sum (s.extract 0 (s.size - 4)).data.toList)).toArray⟩ : ByteArray).toList) = Crc.right s.data.toList := by
  rw [ByteArray.toList_eq, ByteArray.toList_eq, ext_front, ext_back]
  unfold Crc.right
  have e : s.data.toList.length = s.size := by simp
  simp only [e, h, decide_true, Bool.true_and]
theorem rright_cut (s : ByteArray) (h : 4 ≤ s.size) : ((Crc.sealB (s.extract 0 (s.size - 4))).toList == s.toList) = Crc.right s.data.toList := by
  rw [ByteArray.toList_eq, ByteArray.toList_eq, sealB_list, ext_front]
  unfold Crc.right Crc.seal4
  have e : s.data.toList.length = s.size := by simp
  simp only [e, h, decide_true, Bool.true_and]
  generalize Crc.wr (Crc.sum (s.data.toList.take (s.size - 4))) = r
  rw [Bool.eq_iff_iff, beq_iff_eq, beq_iff_eq]
  constructor
  · intro h2
    have h3 := congrArg (List.drop (s.size - 4)) h2
    rw [List.drop_left' (by simp)] at h3
    exact h3.symm
  · intro h2
    rw [← h2, List.take_append_drop]

set_option maxRecDepth 100000 in
set_option maxHeartbeats 800000 in
theorem seal_any (s : ByteArray) (w : World) (hs : s.size ≤ 140737488355323) :
    Calls Try.prog 13 #[.string s] w fun e w' => e = .returned (.string (Crc.sealB s)) ∧ Below w.heap.size w w' := by
  have hm : s.size ≤ maxLen := by unfold maxLen; omega
  have hz : s.size + 4 ≤ 9223372036854775807 := by omega
  have hl := Crc.sum_lt s.data.toList
  have hw : (⟨(Crc.wr (Crc.sum s.data.toList)).toArray⟩ : ByteArray).size = 4 := rfl
  have HW := Lib.hid (And.intro hm hw); clear hm hw
  go_enter Try.func13, Try.ntmps13
  go_wp2_with fail
  refine (sum_one s _ HW.out.1).mono ?_
  rintro e w1 ⟨rfl, hb⟩
  have HB := Lib.hid hb; clear hb
  go_wp2_with fail
  refine (written_any _ _ hl).mono ?_
  rintro e w2 ⟨rfl, hb⟩
  have HB2 := Lib.hid hb; clear hb
  have hw := HW.out.2
  generalize hG : (⟨(Crc.wr (Crc.sum s.data.toList)).toArray⟩ : ByteArray) = G at *
  have HG := Lib.hid hG; clear hG
  have hg : s.size + G.size ≤ 9223372036854775807 := by omega
  clear hw
  go_wp2_with fail
  go_ret
  exact ⟨ret_str (by rw [← HG.out]; rfl), HB.out.trans (HB2.out.mono HB.out.size)⟩

set_option maxRecDepth 100000 in
set_option maxHeartbeats 800000 in
theorem rseal_any (s : ByteArray) (w : World) (hs : s.size ≤ 140737488355323) :
    Calls Try.prog 14 #[.string s] w fun e w' => e = .returned (.string (Crc.sealB s)) ∧ Below w.heap.size w w' := by
  have hm : s.size ≤ maxLen := by unfold maxLen; omega
  have HM := Lib.hid hm; clear hm
  have hl := Crc.sum_lt s.data.toList
  go_enter Try.func14, Try.ntmps14
  go_wp2_with fail
  refine (rsum_any s _ HM.out).mono ?_
  rintro e w1 ⟨rfl, rfl⟩
  have hconv := conv_wr (P := Try.prog) (src := 31) (dst := 9) w _ hl Try.underlying31 Try.underlying5 Try.underlying9
  have hw : (⟨(Crc.wr (Crc.sum s.data.toList)).toArray⟩ : ByteArray).size = 4 := rfl
  generalize hG : (⟨(Crc.wr (Crc.sum s.data.toList)).toArray⟩ : ByteArray) = G at *
  have HG := Lib.hid hG; clear hG
  have hg : s.size + G.size ≤ 9223372036854775807 := by omega
  clear hw
  generalize Crc.sum s.data.toList = S at hl hconv ⊢
  go_wp2_with fail
  go_ret
  exact ⟨ret_str (by rw [← HG.out]; rfl), (Below.refl _ _).alloc (Nat.le_refl _) _⟩

set_option maxRecDepth 100000 in
set_option maxHeartbeats 800000 in
theorem right_small (s : ByteArray) (w : World) (hs : s.size < 4) :
    Calls Try.prog 15 #[.string s] w fun e w' => e = .returned (.bool false) ∧ Below w.heap.size w w' := by
  have hd : decide (4 ≤ (s.size : Int)) = false := by simp; omega
  go_enter Try.func15, Try.ntmps15
  go_wp2_with fail
  go_quiet (fail)
  go_wp2_with fail
  go_ret
  exact ⟨rfl, below_drewN (Below.refl _ _) _⟩

theorem sum_one_drew (s : ByteArray) (w : World) (hs : s.size ≤ maxLen) :
    Calls Try.prog 9 #[.slice (some ⟨w.heap.size, 0, none⟩) 1 1] (w.alloc (.cells #[.string s] 9)).drew fun e w' => e = .returned (.int .i64 (Crc.sum s.data.toList : Int)) ∧ Below w.heap.size w w' :=
  (sum_one s w.drew hs).mono fun _ _ h => ⟨h.1, (below_drewN (Below.refl _ w) 1).trans h.2⟩

set_option maxRecDepth 100000 in
set_option maxHeartbeats 800000 in
theorem right_any (s : ByteArray) (w : World) (h4 : 4 ≤ s.size) (hs : s.size ≤ maxLen) :
    Calls Try.prog 15 #[.string s] w fun e w' => e = .returned (.bool (Crc.right s.data.toList)) ∧ Below w.heap.size w w' := by
  have hm := hs
  unfold maxLen at hm
  have hd : (4 : Int) ≤ (s.size : Int) := by omega
  have h1 : (s.size : Int) - 4 ≤ (s.size : Int) := by omega
  obtain ⟨n, hn⟩ : ∃ n, n = s.size - 4 := ⟨_, rfl⟩
  have e0 : ((s.size : Int) - 4).toNat = n := by omega
  have HN := Lib.hid hn
  have hz : (s.extract 0 n).size ≤ maxLen := by rw [ByteArray.size_extract]; unfold maxLen; omega
  have hl := Crc.sum_lt (s.extract 0 n).data.toList
  have hc1 := sum_one_drew (s.extract 0 n) w hz
  have hw := fun w1 => written_any (Crc.sum (s.extract 0 n).data.toList) w1 hl
  generalize hS : Crc.sum (s.extract 0 n).data.toList = S at hl hc1 hw
  generalize hG : (⟨(Crc.wr S).toArray⟩ : ByteArray) = G at hw
  have HC := Lib.hid (And.intro hc1 hw)
  have HSG := Lib.hid (And.intro hS hG)
  clear hs hz hn hc1 hw hS hG
  go_enter Try.func15, Try.ntmps15
  go_wp2_with fail
  go_region_held3 (fun w' => Below w.heap.size w w')
    (first
      | exact below_drewN (Below.refl _ w) 1
      | exact below_drewN ((Below.refl _ w).alloc (Nat.le_refl _) _) 1
      | exact hb
      | exact hb2)
    (first
      | (go_at_call 9; refine HC.out.1.mono ?_; rintro e w1 ⟨rfl, hb⟩)
      | (go_at_call 19; refine (HC.out.2 w1).mono ?_; rintro e w2 ⟨rfl, hb2⟩; have hb2 := hb.trans (hb2.mono hb.size)))
  go_wp2_with fail
  go_ret
  refine ⟨?_, hb2⟩
  rw [← HSG.out.2, ← HSG.out.1, HN.out, right_cut s h4]
  rfl

/-- what Right answers -/
theorem right_every (s : ByteArray) (w : World) (hs : s.size ≤ maxLen) :
    Calls Try.prog 15 #[.string s] w fun e w' => e = .returned (.bool (Crc.right s.data.toList)) ∧ Below w.heap.size w w' := by
  by_cases h4 : 4 ≤ s.size
  · exact right_any s w h4 hs
  · exact (right_small s w (by omega)).mono fun e w' h => ⟨by rw [h.1, right_less s (by omega)], h.2⟩

set_option maxRecDepth 100000 in
set_option maxHeartbeats 800000 in
theorem rright_any (s : ByteArray) (w : World) (h4 : 4 ≤ s.size) (hs : s.size ≤ 140737488355327) :
    Calls Try.prog 16 #[.string s] w fun e w' => e = .returned (.bool (Crc.right s.data.toList)) ∧ Below w.heap.size w w' := by
  have hd : (4 : Int) ≤ (s.size : Int) := by omega
  have h1 : (s.size : Int) - 4 ≤ (s.size : Int) := by omega
  obtain ⟨n, hn⟩ : ∃ n, n = s.size - 4 := ⟨_, rfl⟩
  have e0 : ((s.size : Int) - 4).toNat = n := by omega
  have HN := Lib.hid hn
  have hz : (s.extract 0 n).size ≤ 140737488355323 := by rw [ByteArray.size_extract]; omega
  have hz := rseal_any (s.extract 0 n) w hz
  generalize hG : Crc.sealB (s.extract 0 n) = G at hz
  have HZ := Lib.hid hz
  have HG := Lib.hid hG
  clear hz hn hG
  go_enter Try.func16, Try.ntmps16
  go_wp2_with fail
  refine HZ.out.mono ?_
  rintro e w1 ⟨rfl, hb⟩
  have HB := Lib.hid hb; clear hb
  go_wp2_with fail
  go_ret
  refine ⟨?_, HB.out⟩
  rw [← HG.out, HN.out, rright_cut s h4]
  rfl

set_option maxRecDepth 100000 in
set_option maxHeartbeats 800000 in
theorem rright_small (s : ByteArray) (w : World) (hs : s.size < 4) :
    Calls Try.prog 16 #[.string s] w fun e w' => e = .returned (.bool (Crc.right s.data.toList)) ∧ Below w.heap.size w w' := by
  have HF := Lib.hid (right_less s hs)
  have hd : decide (4 ≤ (s.size : Int)) = false := by simp; omega
  go_enter Try.func16, Try.ntmps16
  go_wp2_with fail
  go_ret
  exact ⟨by rw [HF.out]; rfl, Below.refl _ _⟩
theorem rright_every (s : ByteArray) (w : World) (hs : s.size ≤ 140737488355327) :
    Calls Try.prog 16 #[.string s] w fun e w' => e = .returned (.bool (Crc.right s.data.toList)) ∧ Below w.heap.size w w' := by
  by_cases h4 : 4 ≤ s.size
  · exact rright_any s w h4 hs
  · exact rright_small s w (by omega)
end Go.Proofs.Ytohlgghfdibdcaa
