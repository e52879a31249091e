/-
  Layer 3: the document's example; the laws ShaSums, ShaChains, walked.
-/
import Derived.Test.YtjdjajjogpmdaaaDoorShaLinks
import Derived.Test.YtjdjajjogpmdaaaDoorShaRhex
namespace Go.Proofs.YtjdjajjogpmdaaaDoor
open Go.RowKit

theorem ret_bool {a b : Bool} (h : a = b) : Ending.returned (.bool a) = .returned (.bool b) := by rw [h]
def exHex : ByteArray := ⟨#[98, 97, 55, 56, 49, 54, 98, 102, 56, 102, 48, 49, 99, 102, 101, 97, 52, 49, 52, 49, 52, 48, 100, 101, 53, 100, 97, 101, 50, 50, 50, 51, 98, 48, 48, 51, 54, 49, 97, 51, 57, 54, 49, 55, 55, 97, 57, 99, 98, 52, 49, 48, 102, 102, 54, 49, 102, 50, 48, 48, 49, 53, 97, 100]⟩
theorem ex_hex : (⟨(Sha.hex (digB [97, 98, 99]).data.toList).toArray⟩ : ByteArray) = exHex := by
  show (⟨(Sha.hex (Sha.dig [97, 98, 99])).toArray⟩ : ByteArray) = exHex
  rw [Sha.check]; rfl
theorem ex_front : ((exHex.extract 0 8).toList == [98, 97, 55, 56, 49, 54, 98, 102]) = true := by rw [ByteArray.toList_eq]; rfl
theorem ex_back : ((exHex.extract 56 64).toList == [102, 50, 48, 48, 49, 53, 97, 100]) = true := by rw [ByteArray.toList_eq]; rfl
theorem ex_size : exHex.size = 64 := rfl
theorem hexB_size (m : List UInt8) : (⟨(Sha.hex m).toArray⟩ : ByteArray).size = 2 * m.length := by
  show (Sha.hex m).toArray.size = _
  rw [List.size_toArray, hex_len]

set_option maxRecDepth 100000 in
set_option maxHeartbeats 800000 in
theorem lives3_any (w : World) (ht : Tab w) : Calls Tryd.prog 7 #[] w fun e w' => e = .returned (.bool true) ∧ Below w.heap.size w w' := by
  have h1 := sum_one ⟨#[97, 98, 99]⟩ w (by decide) ht
  have h2 := fun w => hex_any (digB [97, 98, 99]) w (by rw [digB_size]; omega)
  rw [ex_hex] at h2
  have e0 : (⟨#[97, 98, 99]⟩ : ByteArray).data.toList = [97, 98, 99] := rfl
  rw [e0] at h1
  generalize digB [97, 98, 99] = D at h1 h2
  have x1 := ex_front
  have x2 := ex_back
  have x3 := ex_size
  generalize exHex = E at h2 x1 x2 x3
  have HH := Lib.hid (And.intro h1 h2)
  clear h1 h2 e0 ht
  go_enter Tryd.func7, Tryd.ntmps7
  go_wp2_with fail
  refine HH.out.1.mono ?_
  rintro e w1 ⟨rfl, hb1⟩
  have B1 := Lib.hid hb1; clear hb1
  go_wp2_with fail
  refine (HH.out.2 _).mono ?_
  rintro e w2 ⟨rfl, hb2⟩
  have B2 := Lib.hid hb2; clear hb2
  go_wp2_with fail
  go_ret
  exact ⟨rfl, below_two B1.out B2.out⟩

set_option maxRecDepth 100000 in
set_option maxHeartbeats 800000 in
theorem ShaSums_walk (s : ByteArray) (_hs : s.size ≤ maxLen) (w : World) (ht : Tab w) :
    Calls Tryd.prog 3 #[.string s] w fun e w' => e = .returned (.bool true) ∧ Below w.heap.size w w' := by
  have HT := Lib.hid ht; clear ht
  by_cases h1 : 3000 < s.size
  · go_enter Tryd.func3, Tryd.ntmps3
    go_wp2_with fail
    refine (lives3_any _ HT.out).mono ?_
    rintro e w1 ⟨rfl, hb⟩
    have B1 := Lib.hid hb; clear hb
    go_wp2_with fail
    go_ret
    exact ⟨rfl, B1.out⟩
  · go_enter Tryd.func3, Tryd.ntmps3
    go_wp2_with fail
    refine (sum_one s _ (by omega) HT.out).mono ?_
    rintro e w1 ⟨rfl, hb⟩
    have B1 := Lib.hid hb; clear hb
    go_wp2_with fail
    refine (rsum_any s _ (by omega)).mono ?_
    rintro e w2 ⟨rfl, hb⟩
    have B2 := Lib.hid (B1.out.trans (hb.mono B1.out.size)); clear hb
    have hd : (⟨(Sha.dig s.data.toList).toArray⟩ : ByteArray) = digB s.data.toList := rfl
    rw [hd]
    clear hd
    generalize digB s.data.toList = D
    go_wp2_with fail
    refine (hex_any s _ (by omega)).mono ?_
    rintro e w3 ⟨rfl, hb⟩
    have B3 := Lib.hid (B2.out.trans (hb.mono B2.out.size)); clear hb
    go_wp2_with fail
    refine (rhex_any s _ (by omega)).mono ?_
    rintro e w4 ⟨rfl, hb⟩
    have B4 := Lib.hid (B3.out.trans (hb.mono B3.out.size)); clear hb
    generalize (⟨(Sha.hex s.data.toList).toArray⟩ : ByteArray) = X
    go_wp2_with fail
    refine (lives3_any _ (tab_below HT.out B4.out (tab_pos HT.out))).mono ?_
    rintro e w5 ⟨rfl, hb⟩
    have B5 := Lib.hid (B4.out.trans (hb.mono B4.out.size)); clear hb
    go_wp2_with fail
    go_ret
    exact ⟨rfl, B5.out⟩
end Go.Proofs.YtjdjajjogpmdaaaDoor
