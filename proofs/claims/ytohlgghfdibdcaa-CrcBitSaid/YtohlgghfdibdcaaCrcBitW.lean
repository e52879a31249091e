/-
  Layer 2: the law CrcBit, walked.
-/
import Derived.Test.YtohlgghfdibdcaaCrcLaws
import Derived.Test.YtohlgghfdibdcaaMark
import Derived.IntWalk
namespace Go.Proofs.Ytohlgghfdibdcaa
open Go.RowKit

theorem u64_rem (x : Int) (n : Nat) (h : 0 < n) : ∃ j : Nat, j < n ∧ (IntKind.u64.wrap x).tmod (n : Int) = (j : Int) := by
  refine ⟨((IntKind.u64.wrap x).tmod (n : Int)).toNat, ?_, ?_⟩
  all_goals
    rw [IntKind.wrap_u64, Int.tmod_eq_emod_of_nonneg (by omega)]
    have h1 := Int.emod_nonneg (x % 18446744073709551616) (show (n : Int) ≠ 0 by omega)
    have h2 := Int.emod_lt_of_pos (x % 18446744073709551616) (show (0 : Int) < (n : Int) by omega)
    omega

theorem ofNat8 (c : Nat) (h : c < 256) : (UInt8.ofNat c).toNat = c := by simp; omega
theorem bit_turned (x : UInt8) (q : Nat) (hq : q < 8) : ∃ y : UInt8, bits .xor .u8 (x.toNat : Int) (2 ^ q % 256) = (y.toNat : Int) ∧ y ≠ x := by
  have hx := x.toNat_lt
  have hp : 2 ^ q < 256 := Nat.pow_lt_pow_right (a := 2) (n := 8) (by omega) hq
  have hp0 : 0 < 2 ^ q := Nat.pow_pos (by omega)
  have hl : x.toNat ^^^ 2 ^ q < 256 := Nat.xor_lt_two_pow (n := 8) (by omega) (by omega)
  have e : ((2 : Int) ^ q % 256) = ((2 ^ q : Nat) : Int) := by
    have : ((2 : Int) ^ q) = ((2 ^ q : Nat) : Int) := by push_cast; rfl
    rw [this]; omega
  refine ⟨UInt8.ofNat (x.toNat ^^^ 2 ^ q), ?_, ?_⟩
  · rw [e, u8_xor_nat _ _ (by omega) hp, ofNat8 _ hl]
  · intro h
    have h2 := congrArg UInt8.toNat h
    have h3 := ofNat8 _ hl
    rw [h3] at h2
    have h4 := congrArg (x.toNat ^^^ ·) h2
    simp only [← Nat.xor_assoc, Nat.xor_self, Nat.zero_xor] at h4
    omega
theorem right_turned (s S : ByteArray) (hS : Crc.sealB s = S) (j : Nat) (hj : j < S.data.toList.length) (y : UInt8) (hy : y ≠ S.data.toList[j]) : Crc.right (⟨(S.data.toList.set j y).toArray⟩ : ByteArray).data.toList = false := by
  subst hS
  have e := sealB_list s
  show Crc.right ((Crc.sealB s).data.toList.set j y) = false
  generalize (Crc.sealB s).data.toList = L at hj hy e
  subst e
  exact Crc.right_set _ j hj y hy

set_option maxRecDepth 100000 in
set_option maxHeartbeats 800000 in
theorem bit_small (s : ByteArray) (at_ bit : Int) (hs : s.size ≤ 2000) (w : World) :
    Calls Try.prog 7 #[.string s, .int .i64 at_, .int .i64 bit] w fun e w' => e = .returned (.bool true) ∧ Below w.heap.size w w' := by
  have c1 := fun w => seal_any s w (by omega)
  have hz := sealB_size s
  have hr : Crc.right (Crc.sealB s).data.toList = true := by rw [sealB_list]; exact Crc.right_seal _
  have hm : (Crc.sealB s).size ≤ maxLen := by rw [hz]; unfold maxLen; omega
  have c2 := fun w => right_every (Crc.sealB s) w hm
  rw [hr] at c2
  generalize hS : Crc.sealB s = S at c1 c2 hz
  have HC := Lib.hid (And.intro c1 c2)
  have HS := Lib.hid (And.intro hS hz)
  clear c1 c2 hr hm hS hz
  go_enter Try.func7, Try.ntmps7
  go_wp2_with fail
  refine (HC.out.1 _).mono ?_
  rintro e w1 ⟨rfl, hb⟩
  have B1 := Lib.hid hb; clear hb
  have hcv := run_bytes_of_string (P := Try.prog) w1 9 31 5 S Try.underlying9 Try.underlying31 Try.underlying5
  generalize grownCap w1 S.size 0 5 = cap at hcv
  have M1 := markB_made w1 5 S cap
  have hb2 : Below w.heap.size w (w1.drew.alloc (.cells (bytesRow S cap) 5 ((bytesRow S cap).size, (bytesRow S cap).size + 1))) :=
    (below_drewN B1.out 1).alloc B1.out.size _
  generalize w1.drew.alloc (.cells (bytesRow S cap) 5 ((bytesRow S cap).size, (bytesRow S cap).size + 1)) = w2 at hcv M1 hb2
  have hk := markB_conv (P := Try.prog) (src := 31) (dst := 9) M1 cap Try.underlying31 Try.underlying5 Try.underlying9
  have el : S.data.toList.length = S.size := by simp
  have es : (⟨S.data.toList.toArray⟩ : ByteArray) = S := by cases S; simp
  rw [el, es] at hk
  have HM := Lib.hid (And.intro M1 (And.intro hb2 (And.intro el B1.out.size)))
  obtain ⟨n, hn⟩ : ∃ n, S.size = n := ⟨_, rfl⟩
  rw [hn] at hcv hk
  have t1 : ((n : Int) != (s.size : Int) + 4) = false := by have := HS.out.2; simp; omega
  have t2 : n = s.size + 4 := by rw [← hn]; exact HS.out.2
  have hnl : 4 ≤ n := by omega
  have hnu : n ≤ 2004 := by omega
  have HN := Lib.hid (And.intro hn t2)
  generalize w1.heap.size = g at *
  clear M1 hb2 el es hn t2
  go_wp2_with fail
  refine (HC.out.2 _).mono ?_
  rintro e w3 ⟨rfl, hb⟩
  have M3 := markB_below HM.out.1 hb
  have hb3 := HM.out.2.1.trans (hb.mono HM.out.2.1.size)
  obtain ⟨j, hj, ei⟩ := u64_rem at_ n (by omega)
  obtain ⟨q, hq, eq0⟩ := u64_rem bit 8 (by omega)
  have eq1 : (IntKind.u64.wrap bit).tmod 8 = (q : Int) := eq0
  clear eq0
  have hjl : j < S.data.toList.length := by rw [HM.out.2.2.1, HN.out.1]; exact hj
  have hcell := markB_cell M3 j hjl
  have hfro := markB_frozen M3 j hjl
  have hx := (S.data.toList[j]).toNat_lt
  generalize hX : (S.data.toList[j]) = x at hcell hx
  obtain ⟨y, hxy, hne⟩ := bit_turned x q hq
  have M4 := markB_stored M3 j y
  have hk2 := markB_conv (P := Try.prog) (src := 31) (dst := 9) M4 cap Try.underlying31 Try.underlying5 Try.underlying9
  rw [List.length_set, HM.out.2.2.1, HN.out.1] at hk2
  have hr := right_turned s S HS.out.1 j hjl y (by rw [hX]; exact hne)
  have hz : (⟨(S.data.toList.set j y).toArray⟩ : ByteArray).size ≤ maxLen := by
    show (S.data.toList.set j y).toArray.size ≤ maxLen
    have h5 := HM.out.2.2.1
    have h6 := HN.out.1
    rw [List.size_toArray, List.length_set]; unfold maxLen; omega
  have c3 := fun w => right_every (⟨(S.data.toList.set j y).toArray⟩ : ByteArray) w hz
  rw [hr] at c3
  generalize (⟨(S.data.toList.set j y).toArray⟩ : ByteArray) = T at hk2 c3
  have hb4 := hb3.setCell (p := ⟨g, j, none⟩) HM.out.2.2.2 (.int .u8 (y.toNat : Int))
  have H3 := Lib.hid (And.intro c3 hb4)
  clear hb hcv hk t1 M3 hb3 hX M4 hr hz c3 hb4 hjl hx hne
  go_wp2_with fail
  refine (H3.out.1 _).mono ?_
  rintro e w5 ⟨rfl, hb⟩
  have B5 := Lib.hid (H3.out.2.trans (hb.mono H3.out.2.size)); clear hb
  clear hk2
  go_wp2_with fail
  refine (lives2_any _).mono ?_
  rintro e w6 ⟨rfl, hb⟩
  have B6 := Lib.hid (B5.out.trans (hb.mono B5.out.size)); clear hb
  go_wp2_with fail
  go_ret
  exact ⟨rfl, B6.out⟩

set_option maxRecDepth 100000 in
set_option maxHeartbeats 800000 in
theorem CrcBit_walk (s : ByteArray) (at_ bit : Int) (_hs : s.size ≤ maxLen) (_w1 : (Lit.int .i64 at_).wf = true) (_w2 : (Lit.int .i64 bit).wf = true) (w : World) :
    Calls Try.prog 7 #[.string s, .int .i64 at_, .int .i64 bit] w fun e w' => e = .returned (.bool true) ∧ Below w.heap.size w w' := by
  clear _hs _w1 _w2
  by_cases h1 : 2000 < s.size
  · go_enter Try.func7, Try.ntmps7
    go_wp2_with fail
    refine (lives2_any _).mono ?_
    rintro e w1 ⟨rfl, hb⟩
    have B1 := Lib.hid hb; clear hb
    go_wp2_with fail
    go_ret
    exact ⟨rfl, B1.out⟩
  · exact bit_small s at_ bit (by omega) w
end Go.Proofs.Ytohlgghfdibdcaa
