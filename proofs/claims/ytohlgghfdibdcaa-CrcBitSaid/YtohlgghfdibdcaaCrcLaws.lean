/-
  Layer 2: the document's example; the laws CrcSums, CrcSeals, CrcParts, walked.
-/
import Derived.Test.YtohlgghfdibdcaaCrcSeal
namespace Go.Proofs.Ytohlgghfdibdcaa
open Go.RowKit

def Crc.ex : ByteArray := ⟨#[49, 50, 51, 52, 53, 54, 55, 56, 57]⟩
theorem ex_sum : Crc.sum Crc.ex.data.toList = 3808858755 := Crc.sum_check
theorem ex_seal : Crc.sealB Crc.ex = ⟨#[49, 50, 51, 52, 53, 54, 55, 56, 57, 227, 6, 146, 131]⟩ := by
  unfold Crc.sealB
  rw [ex_sum]; rfl
theorem ex_tail : (((⟨#[49, 50, 51, 52, 53, 54, 55, 56, 57, 227, 6, 146, 131]⟩ : ByteArray).extract 9 13).toList == [227, 6, 146, 131]) = true := by
  rw [ByteArray.toList_eq]; rfl
theorem ret_bool {a b : Bool} (h : a = b) : Ending.returned (.bool a) = .returned (.bool b) := by rw [h]
theorem ex_sum_any (w : World) :
    Calls Try.prog 9 #[.slice (some ⟨w.heap.size, 0, none⟩) 1 1] (w.alloc (.cells #[.string ⟨#[49, 50, 51, 52, 53, 54, 55, 56, 57]⟩] 9)) fun e w' => e = .returned (.int .i64 3808858755) ∧ Below w.heap.size w w' :=
  (sum_one Crc.ex w (by unfold maxLen; decide)).mono fun e w' h => by rw [ex_sum] at h; exact h
theorem ex_seal_any (w : World) :
    Calls Try.prog 13 #[.string ⟨#[49, 50, 51, 52, 53, 54, 55, 56, 57]⟩] w fun e w' => e = .returned (.string ⟨#[49, 50, 51, 52, 53, 54, 55, 56, 57, 227, 6, 146, 131]⟩) ∧ Below w.heap.size w w' :=
  (seal_any Crc.ex w (by decide)).mono fun e w' h => by rw [ex_seal] at h; exact h

set_option maxRecDepth 100000 in
set_option maxHeartbeats 800000 in
theorem lives2_any (w : World) : Calls Try.prog 8 #[] w fun e w' => e = .returned (.bool true) ∧ Below w.heap.size w w' := by
  go_enter Try.func8, Try.ntmps8
  go_wp2_with fail
  refine (ex_sum_any _).mono ?_
  rintro e w1 ⟨rfl, hb1⟩
  have B1 := Lib.hid hb1; clear hb1
  go_wp2_with fail
  refine (ex_seal_any _).mono ?_
  rintro e w2 ⟨rfl, hb2⟩
  have B2 := Lib.hid hb2; clear hb2
  go_wp2_with fail
  refine (sum_none _).mono ?_
  rintro e w3 ⟨rfl, hb3⟩
  have B3 := Lib.hid hb3; clear hb3
  go_wp2_with fail
  go_ret
  exact ⟨ret_bool ex_tail, below_two (below_two B1.out B2.out) B3.out⟩

set_option maxRecDepth 100000 in
set_option maxHeartbeats 800000 in
theorem CrcSums_walk (s : ByteArray) (sum : Int) (m : ByteArray) (_hs : s.size ≤ maxLen) (_w1 : (Lit.int .i64 sum).wf = true) (_hm : m.size ≤ maxLen) (w : World) :
    Calls Try.prog 3 #[.string s, .int .i64 sum, .string m] w fun e w' => e = .returned (.bool true) ∧ Below w.heap.size w w' := by
  have H := Lib.hid (And.intro _hs _hm)
  by_cases h1 : 5000 < s.size
  · go_enter Try.func3, Try.ntmps3
    go_wp2_with fail
    refine (lives2_any _).mono ?_
    rintro e w1 ⟨rfl, hb⟩
    have B1 := Lib.hid hb; clear hb
    go_wp2_with fail
    go_ret
    exact ⟨rfl, B1.out⟩
  · by_cases h2 : 5000 < m.size
    · go_enter Try.func3, Try.ntmps3
      go_wp2_with fail
      refine (lives2_any _).mono ?_
      rintro e w1 ⟨rfl, hb⟩
      have B1 := Lib.hid hb; clear hb
      go_wp2_with fail
      go_ret
      exact ⟨rfl, B1.out⟩
    · go_enter Try.func3, Try.ntmps3
      go_wp2_with fail
      refine (sum_one s _ H.out.1).mono ?_
      rintro e w1 ⟨rfl, hb⟩
      have B1 := Lib.hid hb; clear hb
      go_wp2_with fail
      refine (rsum_any s _ H.out.1).mono ?_
      rintro e w2 ⟨rfl, rfl⟩
      generalize Crc.sum s.data.toList = S
      go_wp2_with fail
      refine (more_any sum m _ H.out.2).mono ?_
      rintro e w2 ⟨rfl, hb⟩
      have B2 := Lib.hid hb; clear hb
      go_wp2_with fail
      refine (rmore_any sum m _ H.out.2).mono ?_
      rintro e w3 ⟨rfl, rfl⟩
      generalize Crc.more sum m.data.toList = M
      go_wp2_with fail
      refine (lives2_any _).mono ?_
      rintro e w4 ⟨rfl, hb⟩
      have B4 := Lib.hid hb; clear hb
      go_wp2_with fail
      go_ret
      exact ⟨rfl, below_two (below_two B1.out B2.out) B4.out⟩

set_option maxRecDepth 100000 in
set_option maxHeartbeats 800000 in
theorem CrcSeals_walk (s t : ByteArray) (_hs : s.size ≤ maxLen) (_ht : t.size ≤ maxLen) (w : World) :
    Calls Try.prog 4 #[.string s, .string t] w fun e w' => e = .returned (.bool true) ∧ Below w.heap.size w w' := by
  have H := Lib.hid (And.intro _hs _ht)
  by_cases h1 : 3000 < s.size
  · go_enter Try.func4, Try.ntmps4
    go_wp2_with fail
    refine (lives2_any _).mono ?_
    rintro e w1 ⟨rfl, hb⟩
    have B1 := Lib.hid hb; clear hb
    go_wp2_with fail
    go_ret
    exact ⟨rfl, B1.out⟩
  · by_cases h2 : 3000 < t.size
    · go_enter Try.func4, Try.ntmps4
      go_wp2_with fail
      refine (lives2_any _).mono ?_
      rintro e w1 ⟨rfl, hb⟩
      have B1 := Lib.hid hb; clear hb
      go_wp2_with fail
      go_ret
      exact ⟨rfl, B1.out⟩
    · have hr : Crc.right (Crc.sealB t).data.toList = true := by rw [sealB_list]; exact Crc.right_seal _
      have HR := Lib.hid hr; clear hr
      have hz : (Crc.sealB t).size ≤ maxLen := by rw [sealB_size]; unfold maxLen; omega
      have HZ := Lib.hid hz; clear hz
      go_enter Try.func4, Try.ntmps4
      go_wp2_with fail
      refine (seal_any s _ (by omega)).mono ?_
      rintro e w1 ⟨rfl, hb⟩
      have B1 := Lib.hid hb; clear hb
      go_wp2_with fail
      refine (rseal_any s _ (by omega)).mono ?_
      rintro e w2 ⟨rfl, hb⟩
      have B2 := Lib.hid hb; clear hb
      generalize Crc.sealB s = S
      go_wp2_with fail
      refine (right_every s _ H.out.1).mono ?_
      rintro e w3 ⟨rfl, hb⟩
      have B3 := Lib.hid hb; clear hb
      go_wp2_with fail
      refine (rright_every s _ (by omega)).mono ?_
      rintro e w4 ⟨rfl, hb⟩
      have B4 := Lib.hid hb; clear hb
      generalize Crc.right s.data.toList = R
      go_wp2_with fail
      refine (rseal_any t _ (by omega)).mono ?_
      rintro e w5 ⟨rfl, hb⟩
      have B5 := Lib.hid hb; clear hb
      go_wp2_with fail
      refine (right_every _ _ HZ.out).mono ?_
      rw [HR.out]
      rintro e w6 ⟨rfl, hb⟩
      have B6 := Lib.hid hb; clear hb
      go_wp2_with fail
      refine (lives2_any _).mono ?_
      rintro e w7 ⟨rfl, hb⟩
      have B7 := Lib.hid hb; clear hb
      go_wp2_with fail
      go_ret
      exact ⟨rfl, below_two (below_two (below_two (below_two (below_two (below_two B1.out B2.out) B3.out) B4.out) B5.out) B6.out) B7.out⟩

theorem more_sum (l m : List UInt8) : Crc.more (Crc.sum l : Int) m = Crc.sum (l ++ m) := by
  have h := Crc.sum_lt l
  unfold Crc.more
  have e : ((Crc.sum l : Int) % 4294967296).toNat = Crc.sum l := by omega
  rw [e]
  have e2 : Crc.sum l ^^^ 4294967295 = Crc.run 4294967295 l := by
    show (Crc.run 4294967295 l ^^^ 4294967295) ^^^ 4294967295 = _
    rw [Nat.xor_assoc, Nat.xor_self, Nat.xor_zero]
  rw [e2, ← Crc.run_append]; rfl
theorem parts_sum (a b c : ByteArray) : Crc.sum (Crc.cat [a, b, c]) = Crc.sum (a ++ b ++ c).data.toList ∧ Crc.more (Crc.sum a.data.toList : Int) (b ++ c).data.toList = Crc.sum (a ++ b ++ c).data.toList ∧
    Crc.more (Crc.more (Crc.sum a.data.toList : Int) b.data.toList : Int) c.data.toList = Crc.sum (a ++ b ++ c).data.toList := by
  have e1 : (a ++ b ++ c).data.toList = a.data.toList ++ b.data.toList ++ c.data.toList := by
    rw [ByteArray.data_append, ByteArray.data_append, Array.toList_append, Array.toList_append]
  have e2 : (b ++ c).data.toList = b.data.toList ++ c.data.toList := by rw [ByteArray.data_append, Array.toList_append]
  have e3 : Crc.cat [a, b, c] = a.data.toList ++ (b.data.toList ++ c.data.toList) := by simp [Crc.cat]
  refine ⟨?_, ?_, ?_⟩
  · rw [e1, e3, List.append_assoc]
  · rw [more_sum, e1, e2, List.append_assoc]
  · rw [more_sum, more_sum, e1]

set_option maxRecDepth 100000 in
set_option maxHeartbeats 800000 in
theorem CrcParts_walk (a b c : ByteArray) (_ha : a.size ≤ maxLen) (_hb : b.size ≤ maxLen) (_hc : c.size ≤ maxLen) (w : World) :
    Calls Try.prog 5 #[.string a, .string b, .string c] w fun e w' => e = .returned (.bool true) ∧ Below w.heap.size w w' := by
  have H := Lib.hid (And.intro _ha (And.intro _hb _hc))
  by_cases h0 : 3000 < a.size ∨ 3000 < b.size ∨ 3000 < c.size
  · by_cases h1 : 3000 < a.size
    · go_enter Try.func5, Try.ntmps5
      clear h0
      go_wp2_with fail
      refine (lives2_any _).mono ?_
      rintro e w1 ⟨rfl, hb⟩
      have B1 := Lib.hid hb; clear hb
      go_wp2_with fail
      go_ret
      exact ⟨rfl, B1.out⟩
    · by_cases h2 : 3000 < b.size
      · go_enter Try.func5, Try.ntmps5
        clear h0
        go_wp2_with fail
        refine (lives2_any _).mono ?_
        rintro e w1 ⟨rfl, hb⟩
        have B1 := Lib.hid hb; clear hb
        go_wp2_with fail
        go_ret
        exact ⟨rfl, B1.out⟩
      · have h3 : 3000 < c.size := by omega
        clear h0
        go_enter Try.func5, Try.ntmps5
        go_wp2_with fail
        refine (lives2_any _).mono ?_
        rintro e w1 ⟨rfl, hb⟩
        have B1 := Lib.hid hb; clear hb
        go_wp2_with fail
        go_ret
        exact ⟨rfl, B1.out⟩
  · have h1 : a.size ≤ 3000 := by omega
    have h2 : b.size ≤ 3000 := by omega
    have h3 : c.size ≤ 3000 := by omega
    clear h0
    have hp := parts_sum a b c
    have hl := Crc.sum_lt (a ++ b ++ c).data.toList
    have z1 : (a ++ b ++ c).size ≤ maxLen := by rw [ByteArray.size_append, ByteArray.size_append]; unfold maxLen; omega
    have z2 : (b ++ c).size ≤ maxLen := by rw [ByteArray.size_append]; unfold maxLen; omega
    have s1 := fun w => sum_one (a ++ b ++ c) w z1
    have s2 := fun w => sum_three a b c w _ha _hb _hc
    have s3 := fun w => sum_one a w _ha
    have s4 := fun w => more_any (Crc.sum a.data.toList) (b ++ c) w z2
    have s5 := fun w => more_any (Crc.sum a.data.toList) b w _hb
    have s6 := fun w => more_any (Crc.more (Crc.sum a.data.toList) b.data.toList) c w _hc
    rw [hp.1] at s2
    rw [hp.2.1] at s4
    rw [hp.2.2] at s6
    have hl : (Crc.sum (a ++ b ++ c).data.toList : Int) < 4294967296 := by omega
    have hl0 : 0 ≤ (Crc.sum (a ++ b ++ c).data.toList : Int) := by omega
    generalize (Crc.sum (a ++ b ++ c).data.toList : Int) = N at hl hl0 s1 s2 s4 s6
    generalize Crc.sum a.data.toList = A at s3 s4 s5 s6
    generalize Crc.more A b.data.toList = B at s5 s6
    have S := Lib.hid (And.intro s1 (And.intro s2 (And.intro s3 (And.intro s4 (And.intro s5 s6)))))
    clear s1 s2 s3 s4 s5 s6 hp z1 z2
    have p1 : a.size + b.size ≤ 9223372036854775807 := by omega
    have p2 : b.size + c.size ≤ 9223372036854775807 := by omega
    have p3 : a.size + b.size + c.size ≤ 9223372036854775807 := by omega
    go_enter Try.func5, Try.ntmps5
    go_wp2_with fail
    refine (S.out.1 _).mono ?_
    rintro e w1 ⟨rfl, hb⟩
    have B1 := Lib.hid hb; clear hb
    go_wp2_with fail
    refine (S.out.2.1 _).mono ?_
    rintro e w2 ⟨rfl, hb⟩
    have B2 := Lib.hid (below_two B1.out hb); clear hb
    go_wp2_with fail
    refine (S.out.2.2.1 _).mono ?_
    rintro e w3 ⟨rfl, hb⟩
    have B3 := Lib.hid (below_two B2.out hb); clear hb
    go_wp2_with fail
    refine (S.out.2.2.2.1 _).mono ?_
    rintro e w4 ⟨rfl, hb⟩
    have B4 := Lib.hid (below_two B3.out hb); clear hb
    go_wp2_with fail
    refine (S.out.2.2.1 _).mono ?_
    rintro e w5 ⟨rfl, hb⟩
    have B5 := Lib.hid (below_two B4.out hb); clear hb
    go_wp2_with fail
    refine (S.out.2.2.2.2.1 _).mono ?_
    rintro e w6 ⟨rfl, hb⟩
    have B6 := Lib.hid (below_two B5.out hb); clear hb
    go_wp2_with fail
    refine (S.out.2.2.2.2.2 _).mono ?_
    rintro e w7 ⟨rfl, hb⟩
    have B7 := Lib.hid (below_two B6.out hb); clear hb
    go_wp2_with fail
    refine (lives2_any _).mono ?_
    rintro e w8 ⟨rfl, hb⟩
    have B8 := Lib.hid hb; clear hb
    go_wp2_with fail
    go_ret
    exact ⟨rfl, below_two B7.out B8.out⟩
end Go.Proofs.Ytohlgghfdibdcaa
