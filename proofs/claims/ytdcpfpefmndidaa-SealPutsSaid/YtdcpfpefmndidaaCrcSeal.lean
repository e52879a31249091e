/-
  Layer 2: what Seal and Right answer, and the document's.
-/
import Derived.Test.YtdcpfpefmndidaaCrcSum
import Derived.Deep.RegionHeld3
namespace Go.Proofs.Ytdcpfpefmndidaa
open Go.RowKit

/-- a sealed text -/
def Crc.sealB (s : ByteArray) : ByteArray := s ++ ⟨(Crc.wr (Crc.sum s.data.toList)).toArray⟩
theorem sealB_list (s : ByteArray) : (Crc.sealB s).data.toList = Crc.seal4 s.data.toList := by
  unfold Crc.sealB Crc.seal4; rw [ByteArray.data_append, Array.toList_append]
theorem sealB_size (s : ByteArray) : (Crc.sealB s).size = s.size + 4 := by
  unfold Crc.sealB; rw [ByteArray.size_append]; rfl

theorem right_less (s : ByteArray) (h : s.size < 4) : Crc.right s.data.toList = false := by
  unfold Crc.right
  have : ¬ 4 ≤ s.data.toList.length := by simp; omega
  simp only [this, decide_false, Bool.false_and]
theorem ext_front (s : ByteArray) (n : Nat) : (s.extract 0 n).data.toList = s.data.toList.take n := by
  rw [ByteArray.data_extract, Array.toList_extract]; simp [List.extract]
theorem ext_back (s : ByteArray) (n : Nat) : (s.extract n s.size).data.toList = s.data.toList.drop n := by
  rw [ByteArray.data_extract, Array.toList_extract, List.extract, List.take_of_length_le (by simp)]
theorem right_cut (s : ByteArray) (h : 4 ≤ s.size) : ((s.extract (s.size - 4) s.size).toList == (⟨(Crc.wr (Crc.sum (s.extract 0 (s.size - 4)).data.toList)).toArray⟩ : ByteArray).toList) = Crc.right s.data.toList := by
  rw [ByteArray.toList_eq, ByteArray.toList_eq, ext_front, ext_back]
  unfold Crc.right
  have e : s.data.toList.length = s.size := by simp
  simp only [e, h, decide_true, Bool.true_and]
theorem rright_cut (s : ByteArray) (h : 4 ≤ s.size) : ((Crc.sealB (s.extract 0 (s.size - 4))).toList == s.toList) = Crc.right s.data.toList := by
  rw [ByteArray.toList_eq, ByteArray.toList_eq, sealB_list, ext_front]
  unfold Crc.right Crc.seal4
  have e : s.data.toList.length = s.size := by simp
  simp only [e, h, decide_true, Bool.true_and]
  generalize Crc.wr (Crc.sum (s.data.toList.take (s.size - 4))) = r
  rw [Bool.eq_iff_iff, beq_iff_eq, beq_iff_eq]
  constructor
  · intro h2
    have h3 := congrArg (List.drop (s.size - 4)) h2
    rw [List.drop_left' (by simp)] at h3
    exact h3.symm
  · intro h2
    rw [← h2, List.take_append_drop]

set_option maxRecDepth 100000 in
set_option maxHeartbeats 800000 in
theorem seal_any (s : ByteArray) (w : World) (hs : s.size ≤ 140737488355323) :
    Calls Try.prog 24 #[.string s] w fun e w' => e = .returned (.string (Crc.sealB s)) ∧ Below w.heap.size w w' := by
  have hm : s.size ≤ maxLen := by unfold maxLen; omega
  have hz : s.size + 4 ≤ 9223372036854775807 := by omega
  have hl := Crc.sum_lt s.data.toList
  have hw : (⟨(Crc.wr (Crc.sum s.data.toList)).toArray⟩ : ByteArray).size = 4 := rfl
  have HW := Lib.hid (And.intro hm hw); clear hm hw
  go_enter Try.func24, Try.ntmps24
  go_wp2_with fail
  refine (sum_one s _ HW.out.1).mono ?_
  rintro e w1 ⟨rfl, hb⟩
  have HB := Lib.hid hb; clear hb
  go_wp2_with fail
  refine (written_any _ _ hl).mono ?_
  rintro e w2 ⟨rfl, hb⟩
  have HB2 := Lib.hid hb; clear hb
  have hw := HW.out.2
  generalize hG : (⟨(Crc.wr (Crc.sum s.data.toList)).toArray⟩ : ByteArray) = G at *
  have HG := Lib.hid hG; clear hG
  have hg : s.size + G.size ≤ 9223372036854775807 := by omega
  clear hw
  go_wp2_with fail
  go_ret
  exact ⟨ret_str (by rw [← HG.out]; rfl), HB.out.trans (HB2.out.mono HB.out.size)⟩

set_option maxRecDepth 100000 in
set_option maxHeartbeats 800000 in
theorem rseal_any (s : ByteArray) (w : World) (hs : s.size ≤ 140737488355323) :
    Calls Try.prog 26 #[.string s] w fun e w' => e = .returned (.string (Crc.sealB s)) ∧ Below w.heap.size w w' := by
  have hm : s.size ≤ maxLen := by unfold maxLen; omega
  have HM := Lib.hid hm; clear hm
  have hl := Crc.sum_lt s.data.toList
  go_enter Try.func26, Try.ntmps26
  go_wp2_with fail
  refine (rsum_any s _ HM.out).mono ?_
  rintro e w1 ⟨rfl, rfl⟩
  have hconv := conv_wr (P := Try.prog) (src := 37) (dst := 9) w _ hl Try.underlying37 Try.underlying5 Try.underlying9
  have hw : (⟨(Crc.wr (Crc.sum s.data.toList)).toArray⟩ : ByteArray).size = 4 := rfl
  generalize hG : (⟨(Crc.wr (Crc.sum s.data.toList)).toArray⟩ : ByteArray) = G at *
  have HG := Lib.hid hG; clear hG
  have hg : s.size + G.size ≤ 9223372036854775807 := by omega
  clear hw
  generalize Crc.sum s.data.toList = S at hl hconv ⊢
  go_wp2_with fail
  go_ret
  exact ⟨ret_str (by rw [← HG.out]; rfl), (Below.refl _ _).alloc (Nat.le_refl _) _⟩

theorem sum_one_drew (s : ByteArray) (w : World) (hs : s.size ≤ maxLen) :
    Calls Try.prog 30 #[.slice (some ⟨w.heap.size, 0, none⟩) 1 1] (w.alloc (.cells #[.string s] 9)).drew fun e w' => e = .returned (.int .i64 (Crc.sum s.data.toList : Int)) ∧ Below w.heap.size w w' :=
  (sum_one s w.drew hs).mono fun _ _ h => ⟨h.1, (below_drewN (Below.refl _ w) 1).trans h.2⟩

end Go.Proofs.Ytdcpfpefmndidaa
