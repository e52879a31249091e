/-
  Layer 3: what Link and Chain answer, and the document's.
-/
import Derived.Test.YtjdjajjogpmdaaaDoorShaSum
import Derived.Test.YtjdjajjogpmdaaaDoorShaRsum
namespace Go.Proofs.YtjdjajjogpmdaaaDoor
open Go.RowKit

/-- a digest as a string -/
def digB (m : List UInt8) : ByteArray := ⟨(Sha.dig m).toArray⟩
theorem digB_size (m : List UInt8) : (digB m).size = 32 := by
  show (Sha.dig m).toArray.size = 32
  rw [List.size_toArray]
  exact out_len _ (Sha.hs_len _ _)
/-- texts linked to sum one by one -/
def chainB (sum : ByteArray) (l : List ByteArray) : ByteArray := l.foldl (fun a s => digB (a.data.toList ++ s.data.toList)) sum
theorem chainB_take (sum : ByteArray) (l : List ByteArray) (k : Nat) (h : k < l.length) : chainB sum (l.take (k + 1)) = digB ((chainB sum (l.take k)).data.toList ++ (l[k]).data.toList) := by
  unfold chainB; rw [List.take_succ_eq_append_getElem h, List.foldl_append]; rfl
theorem chainB_size (sum : ByteArray) (l : List ByteArray) : (chainB sum l).size = sum.size ∨ (chainB sum l).size = 32 := by
  induction l generalizing sum with
  | nil => exact Or.inl rfl
  | cons s l ih =>
    have e : chainB sum (s :: l) = chainB (digB (sum.data.toList ++ s.data.toList)) l := rfl
    rw [e]
    rcases ih (digB (sum.data.toList ++ s.data.toList)) with h | h
    · exact Or.inr (h.trans (digB_size _))
    · exact Or.inr h

theorem sum_two (x y : ByteArray) (w : World) (hx : x.size ≤ 1048576) (hy : y.size ≤ 1048576) (ht : Tab w) :
    Calls Tryd.prog 8 #[.slice (some ⟨w.heap.size, 0, none⟩) 2 2] (w.alloc (.cells #[.string x, .string y] 9)) fun e w' => e = .returned (.string (digB (x.data.toList ++ y.data.toList))) ∧ Below w.heap.size w w' :=
  (sum_any [x, y] _ 2 _ (reads_two w x y _) (by unfold maxLen; simp) (by intro s hs; unfold maxLen; simp at hs; rcases hs with rfl | rfl <;> omega)
    (by rw [catB_two, List.length_append]; simp; omega) (tab_below ht ((Below.refl _ w).alloc (Nat.le_refl _) _) (tab_pos ht))).mono fun e w' h => by
    rw [catB_two] at h; exact ⟨h.1, below_made h.2⟩
theorem sum_one (x : ByteArray) (w : World) (hx : x.size ≤ 1099511627776) (ht : Tab w) :
    Calls Tryd.prog 8 #[.slice (some ⟨w.heap.size, 0, none⟩) 1 1] (w.alloc (.cells #[.string x] 9)) fun e w' => e = .returned (.string (digB x.data.toList)) ∧ Below w.heap.size w w' :=
  (sum_any [x] _ 1 _ (reads_one w x _) (by unfold maxLen; simp) (by intro s hs; unfold maxLen; simp at hs; subst hs; omega)
    (by rw [catB_one]; simp; omega) (tab_below ht ((Below.refl _ w).alloc (Nat.le_refl _) _) (tab_pos ht))).mono fun e w' h => by
    rw [catB_one] at h; exact ⟨h.1, below_made h.2⟩

set_option maxRecDepth 100000 in
set_option maxHeartbeats 800000 in
theorem link_any (x y : ByteArray) (w : World) (hx : x.size ≤ 1048576) (hy : y.size ≤ 1048576) (ht : Tab w) :
    Calls Tryd.prog 13 #[.string x, .string y] w fun e w' => e = .returned (.string (digB (x.data.toList ++ y.data.toList))) ∧ Below w.heap.size w w' := by
  have HC := Lib.hid (sum_two x y w hx hy ht)
  clear ht
  go_enter Tryd.func13, Tryd.ntmps13
  go_wp2_with fail
  refine HC.out.mono ?_
  rintro e w1 ⟨rfl, hb⟩
  have HB := Lib.hid hb; clear hb
  go_wp2_with fail
  go_ret
  exact ⟨rfl, HB.out⟩

set_option maxRecDepth 100000 in
set_option maxHeartbeats 800000 in
theorem rlink_any (x y : ByteArray) (w : World) (hx : x.size ≤ 1048576) (hy : y.size ≤ 1048576) :
    Calls Tryd.prog 14 #[.string x, .string y] w fun e w' => e = .returned (.string (digB (x.data.toList ++ y.data.toList))) ∧ Below w.heap.size w w' := by
  have hz : (x ++ y).size ≤ 1099511627776 := by rw [ByteArray.size_append]; omega
  have e1 : (x ++ y).data.toList = x.data.toList ++ y.data.toList := by rw [ByteArray.data_append, Array.toList_append]
  have hc := rsum_any (x ++ y) w hz
  rw [e1] at hc
  have HC := Lib.hid hc
  have hp : x.size + y.size ≤ 9223372036854775807 := by omega
  clear hc e1 hz
  go_enter Tryd.func14, Tryd.ntmps14
  go_wp2_with fail
  refine HC.out.mono ?_
  rintro e w1 ⟨rfl, hb⟩
  have HB := Lib.hid hb; clear hb
  go_wp2_with fail
  go_ret
  exact ⟨rfl, HB.out⟩

set_option maxRecDepth 100000 in
set_option maxHeartbeats 800000 in
theorem chain_any (sum : ByteArray) (l : List ByteArray) (a : Option Addr) (cap : Nat) (w : World) (hs : sum.size ≤ 1048576) (hr : ReadsS w a l) (hl : l.length ≤ maxLen) (hz : ∀ s ∈ l, s.size ≤ 1048576) (ht : Tab w) :
    Calls Tryd.prog 15 #[.string sum, .slice a l.length cap] w fun e w' => e = .returned (.string (chainB sum l)) ∧ Below w.heap.size w w' := by
  have HR := Lib.hid (And.intro hr (And.intro hz (And.intro ht hs))); clear hr hz ht
  unfold maxLen at hl
  go_enter Tryd.func15, Tryd.ntmps15
  go_wp2_with fail
  go_loopw [0, 9] (fun v i wr => ∃ k : Nat, k ≤ l.length ∧ i = .int .i64 (k : Int) ∧ ∃ S : ByteArray, v = .string S ∧ Hid (S = chainB sum (l.take k)) ∧ Hid (Below w.heap.size w wr))
    (fun _ i _ => l.length - (intOf i).toNat)
  case atStart => exact ⟨0, by omega, rfl, sum, rfl, Lib.hid rfl, Lib.hid (Below.refl _ _)⟩
  case round =>
    obtain ⟨k, hk, rfl, S, rfl, HS, HB⟩ := hrel
    by_cases hlt : k < l.length
    · obtain ⟨g, o, rfl, hc⟩ := readsS_below HR.out.1 HB.out k hlt
      have hm := HR.out.2.1 (l[k]) (List.getElem_mem _)
      have hSz : S.size ≤ 1048576 := by
        rw [HS.out]
        have := HR.out.2.2.2
        rcases chainB_size sum (l.take k) with h | h <;> omega
      have hn := chainB_take sum l k hlt
      rw [← HS.out] at hn
      have HN := Lib.hid hn
      clear hn
      generalize l[k] = s at *
      have hlk := fun wx hb => link_any S s wx hSz hm (tab_below HR.out.2.2.1 hb (tab_pos HR.out.2.2.1))
      have HL := Lib.hid hlk
      clear hlk
      go_wp2_with fail
      refine (HL.out _ HB.out).mono ?_
      rintro e w1 ⟨rfl, hb⟩
      have HB2 := Lib.hid (HB.out.trans (hb.mono HB.out.size)); clear hb
      rw [← HN.out]
      generalize hT : chainB sum (l.take (k + 1)) = T
      have HT := Lib.hid hT
      clear hT
      go_wp2_with fail
      go_roundw
      case rel => exact ⟨k + 1, by omega, by go_num, T, rfl, Lib.hid HT.out.symm, HB2⟩
      case measure => simp [intOf]; omega
    · have e : l.take k = l := List.take_of_length_le (by omega)
      have HF : Hid (S = chainB sum l) := Lib.hid (by rw [HS.out, e])
      clear e HS
      go_wp2_with fail
      go_ret
      exact ⟨ret_str HF.out, HB.out⟩

set_option maxRecDepth 100000 in
set_option maxHeartbeats 800000 in
theorem rchain_any (sum : ByteArray) (l : List ByteArray) (a : Option Addr) (cap : Nat) (w : World) (hs : sum.size ≤ 1048576) (hr : ReadsS w a l) (hl : l.length ≤ maxLen) (hz : ∀ s ∈ l, s.size ≤ 1048576) :
    Calls Tryd.prog 16 #[.string sum, .slice a l.length cap] w fun e w' => e = .returned (.string (chainB sum l)) ∧ Below w.heap.size w w' := by
  have HR := Lib.hid (And.intro hr (And.intro hz hs)); clear hr hz
  unfold maxLen at hl
  go_enter Tryd.func16, Tryd.ntmps16
  go_wp2_with fail
  go_loopw [0, 5] (fun v i wr => ∃ k : Nat, k ≤ l.length ∧ i = .int .i64 (k : Int) ∧ ∃ S : ByteArray, v = .string S ∧ Hid (S = chainB sum (l.take k)) ∧ Hid (Below w.heap.size w wr))
    (fun _ i _ => l.length - (intOf i).toNat)
  case atStart => exact ⟨0, by omega, rfl, sum, rfl, Lib.hid rfl, Lib.hid (Below.refl _ _)⟩
  case round =>
    obtain ⟨k, hk, rfl, S, rfl, HS, HB⟩ := hrel
    by_cases hlt : k < l.length
    · obtain ⟨g, o, rfl, hc⟩ := readsS_below HR.out.1 HB.out k hlt
      have hm := HR.out.2.1 (l[k]) (List.getElem_mem _)
      have hSz : S.size ≤ 1048576 := by
        rw [HS.out]
        have := HR.out.2.2
        rcases chainB_size sum (l.take k) with h | h <;> omega
      have hn := chainB_take sum l k hlt
      rw [← HS.out] at hn
      have HN := Lib.hid hn
      clear hn
      generalize l[k] = s at *
      have hlk := fun wx => rlink_any S s wx hSz hm
      have HL := Lib.hid hlk
      clear hlk
      go_wp2_with fail
      refine (HL.out _).mono ?_
      rintro e w1 ⟨rfl, hb⟩
      have HB2 := Lib.hid (HB.out.trans (hb.mono HB.out.size)); clear hb
      rw [← HN.out]
      generalize hT : chainB sum (l.take (k + 1)) = T
      have HT := Lib.hid hT
      clear hT
      go_wp2_with fail
      go_roundw
      case rel => exact ⟨k + 1, by omega, by go_num, T, rfl, Lib.hid HT.out.symm, HB2⟩
      case measure => simp [intOf]; omega
    · have e : l.take k = l := List.take_of_length_le (by omega)
      have HF : Hid (S = chainB sum l) := Lib.hid (by rw [HS.out, e])
      clear e HS
      go_wp2_with fail
      go_ret
      exact ⟨ret_str HF.out, HB.out⟩
end Go.Proofs.YtjdjajjogpmdaaaDoor
