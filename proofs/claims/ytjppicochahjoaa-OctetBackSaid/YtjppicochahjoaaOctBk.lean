/-
  Layer 1: what Texts answers, what 'long' tells; the law OctetBack, walked.
-/
import Derived.Test.YtjppicochahjoaaOctSame
import Derived.Test.YtjppicochahjoaaBld
namespace Go.Proofs.Ytjppicochahjoaa
open Go.RowKit

set_option maxRecDepth 100000 in
set_option maxHeartbeats 800000 in
theorem texts_any (l : List ByteArray) (a : Option Addr) (cap : Nat) (w : World) (hr : ReadsS w a l) (hl : l.length ≤ 1152921504606846976) (ht : 10 + 10 * l.length + Oct.total l ≤ 140737488355328) :
    Calls Try.prog 25 #[.slice a l.length cap] w fun e w' => e = .returned (.string (Oct.txtsB l)) ∧ Below w.heap.size w w' := by
  have hn := Oct.numB_len (l.length : Int) (by omega) (by omega)
  have HR := Lib.hid hr; clear hr
  go_enter Try.func25, Try.ntmps25
  go_wp2_with fail
  refine (num_any _ _ (by omega) (by omega)).mono ?_
  rintro e w1 ⟨rfl, hb1⟩
  have B1 := Lib.hid (bld_below (bld_fresh w) hb1)
  have L1 : Hid (Below w.heap.size w w1) := Lib.hid (((Below.refl _ w).alloc (Nat.le_refl _) _).trans (hb1.mono (by simp)))
  have hs1 := L1.out.size
  clear hb1
  go_wp2_with fail
  refine (bld_write _ _ _ _ _ B1.out (by simp; omega) hs1).mono ?_
  rintro e w2 ⟨rfl, hbl, hb2⟩
  have B2 := Lib.hid hbl
  have L2 := Lib.hid (L1.out.trans hb2)
  clear hbl hb2 hs1
  go_wp2_with fail
  go_loopw [12] (fun i wr => ∃ k : Nat, k ≤ l.length ∧ i = .int .i64 k ∧ Bld wr w.heap.size w.heap.size ((Oct.numB l.length).data.toList ++ Oct.all (l.take k)) ∧ Below w.heap.size w wr)
    (fun i _ => l.length - (intOf i).toNat)
  case atStart => exact ⟨0, by omega, rfl, by simpa [Oct.all] using B2.out, L2.out⟩
  case round =>
    obtain ⟨k, hk, rfl, hbl, hb⟩ := hrel
    have BB := Lib.hid hbl
    have LL := Lib.hid hb
    clear hbl hb
    by_cases hlt : k < l.length
    · obtain ⟨g, o, rfl, hc⟩ := readsS_below HR.out LL.out k hlt
      have htot := Oct.total_at l k hlt
      have hal := Oct.all_len (l.take k) (by have := Oct.total_take_le l k; omega)
      have hlk : (l.take k).length ≤ k := List.length_take_le _ _
      have hnl : (Oct.numB l.length).data.toList.length ≤ 10 := by rw [Oct.list_len]; exact hn
      have hn2 := Oct.numB_len ((l[k]).size : Int) (by omega) (by omega)
      have hrm : ((Oct.numB l.length).data.toList ++ Oct.all (l.take k)).length + 10 + (l[k]).size ≤ 140737488355328 := by
        rw [List.length_append]; omega
      clear hal hlk hnl htot
      go_wp2_with fail
      refine (num_any _ _ (by omega) (by omega)).mono ?_
      rintro e w3 ⟨rfl, hb3⟩
      have B3 := Lib.hid (bld_below BB.out hb3)
      have L3 := Lib.hid (below_two LL.out hb3)
      have hs3 := L3.out.size
      clear hb3 hc
      go_wp2_with fail
      refine (bld_write _ _ _ _ _ B3.out (by omega) hs3).mono ?_
      rintro e w4 ⟨rfl, hbl4, hb4⟩
      have B4 := Lib.hid hbl4
      have L4 := Lib.hid (L3.out.trans hb4)
      have hs4 := L4.out.size
      clear hbl4 hb4 hs3
      go_wp2_with fail
      refine (bld_write _ _ _ _ _ B4.out (by rw [List.length_append, Oct.list_len (Oct.numB _)]; omega) hs4).mono ?_
      rintro e w5 ⟨rfl, hbl5, hb5⟩
      have B5 : Hid (Bld w5 w.heap.size w.heap.size ((Oct.numB l.length).data.toList ++ Oct.all (l.take (k + 1)))) := Lib.hid (by
        rw [Oct.all_take l k hlt, Oct.one]
        simpa only [List.append_assoc] using hbl5)
      have L5 := Lib.hid (L4.out.trans hb5)
      clear hbl5 hb5 hs4
      go_wp2_with fail
      go_roundw
      case rel => exact ⟨k + 1, by omega, by go_num, B5.out, L5.out⟩
      case measure => simp [intOf]; omega
    · have hs := LL.out.size
      have e : l.take k = l := List.take_of_length_le (by omega)
      rw [e] at BB
      clear e
      go_wp2_with fail
      refine (bld_string _ _ _ _ BB.out hs).mono ?_
      rintro e w3 ⟨rfl, hb3⟩
      have L3 := Lib.hid (LL.out.trans hb3); clear hb3
      go_wp2_with fail
      go_ret
      exact ⟨rfl, L3.out⟩

/-- what 'long' tells -/
def LongPost (l : List ByteArray) (w : World) (e : Ending) (w' : World) : Prop := Below w.heap.size w w' ∧ (e = .returned (.bool true) ∨ (e = .returned (.bool false) ∧ l.length ≤ 101 ∧ Oct.total l ≤ 10000))
theorem long_true {l : List ByteArray} {w w' : World} (h : Below w.heap.size w w') : LongPost l w (.returned (.bool true)) w' := ⟨h, .inl rfl⟩
theorem long_false {l : List ByteArray} {w w' : World} (h : Below w.heap.size w w') (h1 : l.length ≤ 101) (h2 : Oct.total l ≤ 10000) : LongPost l w (.returned (.bool false)) w' := ⟨h, .inr ⟨rfl, h1, h2⟩⟩

set_option maxRecDepth 100000 in
set_option maxHeartbeats 800000 in
theorem long_any (l : List ByteArray) (a : Option Addr) (cap : Nat) (w : World) (hr : ReadsS w a l) (hl : l.length ≤ maxLen) (hz : ∀ s ∈ l, s.size ≤ maxLen) :
    Calls Try.prog 23 #[.slice a l.length cap] w (LongPost l w) := by
  have HR := Lib.hid (And.intro hr hz); clear hr hz
  unfold maxLen at hl
  go_enter Try.func23, Try.ntmps23
  go_wp2_with fail
  go_loopw [3, 4] (fun n i wr => ∃ k N : Nat, k ≤ l.length ∧ k ≤ 101 ∧ i = .int .i64 k ∧ n = .int .i64 N ∧ N ≤ 10000 ∧ Hid (N = Oct.total (l.take k)) ∧ Below w.heap.size w wr)
    (fun _ i _ => l.length - (intOf i).toNat)
  case atStart => exact ⟨0, 0, by omega, by omega, rfl, rfl, by omega, Lib.hid rfl, Below.refl _ _⟩
  case round =>
    obtain ⟨k, N, hk, hk1, rfl, rfl, hN, HN, hb⟩ := hrel
    have LL := Lib.hid hb
    by_cases hlt : k < l.length
    · obtain ⟨g, o, rfl, hc⟩ := readsS_below HR.out.1 hb k hlt
      have hm := HR.out.2 (l[k]) (List.getElem_mem _)
      unfold maxLen at hm
      have HT : Hid (N + (l[k]).size = Oct.total (l.take (k + 1))) := Lib.hid (by rw [Oct.total_take l k hlt, ← HN.out])
      clear hb
      by_cases h100 : 100 < k
      · go_wp2_with fail
        go_ret
        exact long_true LL.out
      · by_cases hbig : 10000 - (N : Int) < ((l[k]).size : Int)
        · go_wp2_with fail
          go_ret
          exact long_true LL.out
        · go_wp2_with fail
          go_roundw
          case rel => exact ⟨k + 1, N + (l[k]).size, by omega, by omega, by go_num, by go_num, by omega, HT, LL.out⟩
          case measure => simp [intOf]; omega
    · have e : l.take k = l := List.take_of_length_le (by omega)
      have HF : Hid (Oct.total l ≤ 10000 ∧ l.length ≤ 101) := Lib.hid ⟨by have := HN.out; rw [e] at this; omega, by omega⟩
      clear e hb
      go_wp2_with fail
      go_ret
      exact long_false LL.out HF.out.2 HF.out.1

set_option maxRecDepth 100000 in
set_option maxHeartbeats 1600000 in
theorem OctetBack_walk (n : Int) (s : ByteArray) (l : List ByteArray) (a : Option Addr) (cap : Nat) (b : ByteArray) (w0 : (Lit.int .i64 n).wf = true) (_hs : s.size ≤ maxLen) (hl : l.length ≤ maxLen) (hz : ∀ x ∈ l, x.size ≤ maxLen) (_hbm : b.size ≤ maxLen)
    (w : World) (hr : ReadsS w a l) :
    Calls Try.prog 6 #[.int .i64 n, .string s, .slice a l.length cap, .string b] w fun e w' => e = .returned (.bool true) ∧ Below w.heap.size w w' := by
  obtain ⟨n0, n1⟩ := bounds_i64 w0
  have HR := Lib.hid hr; clear hr
  have HZ := Lib.hid (And.intro hl hz); clear hl hz
  by_cases hs1 : 10000 < s.size
  · go_enter Try.func6, Try.ntmps6
    go_wp2_with fail
    refine (lives_any _).mono ?_
    rintro e w5 ⟨rfl, hb⟩
    have H5 := Lib.hid hb; clear hb
    go_wp2_with fail
    go_ret
    exact ⟨rfl, H5.out⟩
  · have hsl : s.size ≤ 10000 := by omega
    clear hs1
    go_enter Try.func6, Try.ntmps6
    go_wp2_with fail
    refine (long_any l a cap _ HR.out HZ.out.1 HZ.out.2).mono ?_
    rintro e w1 ⟨hb1, rfl | ⟨rfl, hl101, htot⟩⟩
    · have H1 := Lib.hid hb1; clear hb1
      go_wp2_with fail
      refine (lives_any _).mono ?_
      rintro e w5 ⟨rfl, hb⟩
      have H5 := Lib.hid hb; clear hb
      go_wp2_with fail
      go_ret
      exact ⟨rfl, below_two H1.out H5.out⟩
    · have H1 := Lib.hid hb1; clear hb1
      by_cases hb2 : 10000 < b.size
      · go_wp2_with fail
        refine (lives_any _).mono ?_
        rintro e w5 ⟨rfl, hb⟩
        have H5 := Lib.hid hb; clear hb
        go_wp2_with fail
        go_ret
        exact ⟨rfl, below_two H1.out H5.out⟩
      · have hbl : b.size ≤ 10000 := by omega
        clear hb2
        have hnl := Oct.numB_len n n0 n1
        have hsn := Oct.numB_len (s.size : Int) (by omega) (by omega)
        have hall := Oct.all_len l (by omega)
        have hln := Oct.numB_len (l.length : Int) (by omega) (by omega)
        have htx : (Oct.txtsB l).size ≤ 11020 := by
          have e : (Oct.txtsB l).size = (Oct.numB l.length).data.toList.length + (Oct.all l).length := by
            show ((Oct.numB l.length).data.toList ++ Oct.all l).toArray.size = _
            simp
          rw [e, Oct.list_len]; omega
        have hsum : (Oct.numB s.size ++ s).size ≤ 10010 := by rw [ByteArray.size_append]; omega
        have E1 := Lib.hid (Oct.tE_back n b n0 n1)
        have E2 := Lib.hid (Oct.txt_back s b (s.size : Int) (by omega) (by omega))
        have E3 := Lib.hid (Oct.txts_back l b (l.length : Int) 10000 (by omega) (by omega) (by omega) (fun x hx => by have := Oct.mem_le l x hx; omega))
        have Z1 : Hid ((Oct.numB n ++ b).size ≤ maxLen) := Lib.hid (by unfold maxLen; rw [ByteArray.size_append]; omega)
        have Z2 : Hid ((Oct.numB s.size ++ s ++ b).size ≤ maxLen) := Lib.hid (by unfold maxLen; rw [ByteArray.size_append]; omega)
        have Z3 : Hid ((Oct.txtsB l ++ b).size ≤ 1048576) := Lib.hid (by rw [ByteArray.size_append]; omega)
        have HT : Hid (10 + 10 * l.length + Oct.total l ≤ 140737488355328 ∧ l.length ≤ 1152921504606846976 ∧ s.size ≤ 140737488355328) := Lib.hid ⟨by omega, by omega, by omega⟩
        clear hall hln htot
        go_wp2_with fail
        refine (num_any n _ n0 n1).mono ?_
        rintro e w2 ⟨rfl, hb⟩
        have H2 := Lib.hid (below_two H1.out hb); clear hb
        go_wp2_with fail
        refine (takeNum_any _ _ Z1.out).mono ?_
        rintro e w3 ⟨he, nd, hw⟩
        subst hw
        rw [E1.out.1, E1.out.2.1, E1.out.2.2] at he
        subst he
        go_wp2_with fail
        refine (text_any s _ HT.out.2.2).mono ?_
        rintro e w3 ⟨rfl, hb⟩
        have H3 := Lib.hid (below_two (below_drewN H2.out nd) hb); clear hb
        go_wp2_with fail
        refine (takeText_any _ _ _ Z2.out).mono ?_
        rintro e w4 ⟨he, nd2, hw⟩
        subst hw
        rw [E2.out] at he
        subst he
        go_wp2_with fail
        refine (texts_any l a cap _ (readsS_below HR.out (below_drewN H3.out nd2)) HT.out.2.1 HT.out.1).mono ?_
        rintro e w4 ⟨rfl, hb⟩
        have H4 := Lib.hid (below_two (below_drewN H3.out nd2) hb); clear hb
        go_wp2_with fail
        refine (takeTexts_any _ _ _ _ Z3.out).mono ?_
        rintro e w6 ⟨v, he, ho, hb⟩
        rw [E3.out] at he ho
        subst he
        have H6 := Lib.hid (And.intro ho (below_two H4.out hb)); clear ho hb
        obtain ⟨a1, c1, h1⟩ := ownsS_form H6.out.1
        subst h1
        go_wp2_with fail
        refine (same_any l _ _ _ _ _ HZ.out.1 (ownsS_reads H6.out.1) (readsS_below HR.out H6.out.2)).mono ?_
        rintro e w7 ⟨rfl, hb⟩
        have H7 := Lib.hid (below_two H6.out.2 hb); clear hb
        go_wp2_with fail
        refine (lives_any _).mono ?_
        rintro e w5 ⟨rfl, hb⟩
        have H5 := Lib.hid hb; clear hb
        go_wp2_with fail
        go_ret
        exact ⟨rfl, below_two H7.out H5.out⟩
end Go.Proofs.Ytjppicochahjoaa
