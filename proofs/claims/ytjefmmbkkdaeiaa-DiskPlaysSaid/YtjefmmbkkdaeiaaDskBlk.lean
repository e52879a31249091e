/-
  Layer 4's laws: a block of two letters, and one with bytes less.
-/
import Derived.Test.YtjefmmbkkdaeiaaDskObj
import Derived.Test.YtjefmmbkkdaeiaaOctOwn
import Derived.OwnWalk
namespace Go.Proofs.Ytjefmmbkkdaeiaa
open Go.RowKit

/-- the bytes of a block of two letters -/
def blkL (a b : UInt8) : List UInt8 := List.replicate 256 a ++ List.replicate 256 b
def blkB (a b : UInt8) : ByteArray := ⟨(blkL a b).toArray⟩
theorem blkL_len (a b : UInt8) : (blkL a b).length = 512 := by unfold blkL; rw [List.length_append, List.length_replicate, List.length_replicate]
theorem blkB_size (a b : UInt8) : (blkB a b).size = 512 := by show (blkL a b).toArray.size = 512; rw [List.size_toArray, blkL_len]
theorem blkL_low (a b : UInt8) (k : Nat) (h : k < 256) : (blkL a b).take (k + 1) = (blkL a b).take k ++ [a] := by
  rw [List.take_succ_eq_append_getElem (by rw [blkL_len]; omega)]
  congr 2
  unfold blkL
  rw [List.getElem_append_left (by rw [List.length_replicate]; exact h), List.getElem_replicate]
theorem blkL_high (a b : UInt8) (k : Nat) (h : 256 ≤ k) (h2 : k < 512) : (blkL a b).take (k + 1) = (blkL a b).take k ++ [b] := by
  rw [List.take_succ_eq_append_getElem (by rw [blkL_len]; omega)]
  congr 2
  unfold blkL
  rw [List.getElem_append_right (by rw [List.length_replicate]; exact h), List.getElem_replicate]
theorem take_len (l : List UInt8) (k : Nat) (h : k ≤ l.length) : (l.take k).length = k := by rw [List.length_take]; omega

set_option maxRecDepth 100000 in
set_option maxHeartbeats 800000 in
theorem block_any (a b : UInt8) (w : World) : Calls Try.prog 14 #[.int .u8 (a.toNat : Int), .int .u8 (b.toNat : Int)] w fun e w' => e = .returned (.string (blkB a b)) ∧ Below w.heap.size w w' := by
  obtain ⟨i0, hi, hi2⟩ := Option.map_eq_some_iff.1 info_byte
  simp only [Prod.mk.injEq] at hi2
  obtain ⟨hz0, hz1, hz2⟩ := hi2
  have HI := Lib.hid (And.intro hi (And.intro hz0 (And.intro hz1 hz2)))
  clear hi hz0 hz1 hz2
  go_enter Try.func14, Try.ntmps14
  go_wp2
  go_loopw [5, 6] (fun v i wr => ∃ (k : Nat) (p : List UInt8), k ≤ 512 ∧ i = .int .i64 (k : Int) ∧ OwnsB wr w.heap.size 5 v p ∧ Below w.heap.size w wr ∧ Hid (p = (blkL a b).take k) ∧ p.length = k)
    (fun _ i _ => 512 - (intOf i).toNat)
  case atStart => exact ⟨0, [], by omega, rfl, ownsB_nil _ _ _, Below.refl _ _, Lib.hid (by simp), rfl⟩
  case round =>
    obtain ⟨k, p, hk, rfl, hown, hb, HP, hlen⟩ := hrel
    have hsz := hb.size
    by_cases hlt : k < 512
    · by_cases h2 : k < 256
      · have HL := Lib.hid (blkL_low a b k h2)
        go_wp2_with (at_builtin; go_loud (refine wpList_append_own _ rfl _ _ 58 rfl w.heap.size 5 i0 (.int .u8 0) 1 1 Try.underlying58 HI.out.1 HI.out.2.1 HI.out.2.2.1 HI.out.2.2.2 rfl (by decide) _ _ _ rfl (ownsB_row0 hown _) ⟨wr.heap.size, 0, none⟩ 1 1 [.int .u8 (a.toNat : Int)] rfl rfl cell_one one_cell (by unfold maxLen; omega) (by omega) (by simp; omega) ?_))
        intro v' w1 hown' hgrow _
        have ho := ownsB_snoc (l := p) a (by rw [hlen]; exact hown') rfl
        have hb1 : Below w.heap.size w w1 := below_grown hb hsz hown hgrow
        have HF := Lib.hid hb1
        clear hown' hgrow hb1 hown hb
        go_wp2
        go_roundw
        case rel => exact ⟨k + 1, _, by omega, by go_num, ho, HF.out, Lib.hid (by rw [HL.out, HP.out]), by rw [List.length_append, hlen]; rfl⟩
        case measure => simp [intOf]; omega
      · have HL := Lib.hid (blkL_high a b k (by omega) hlt)
        go_wp2_with (at_builtin; go_loud (refine wpList_append_own _ rfl _ _ 58 rfl w.heap.size 5 i0 (.int .u8 0) 1 1 Try.underlying58 HI.out.1 HI.out.2.1 HI.out.2.2.1 HI.out.2.2.2 rfl (by decide) _ _ _ rfl (ownsB_row0 hown _) ⟨wr.heap.size, 0, none⟩ 1 1 [.int .u8 (b.toNat : Int)] rfl rfl cell_one one_cell (by unfold maxLen; omega) (by omega) (by simp; omega) ?_))
        intro v' w1 hown' hgrow _
        have ho := ownsB_snoc (l := p) b (by rw [hlen]; exact hown') rfl
        have hb1 : Below w.heap.size w w1 := below_grown hb hsz hown hgrow
        have HF := Lib.hid hb1
        clear hown' hgrow hb1 hown hb
        go_wp2
        go_roundw
        case rel => exact ⟨k + 1, _, by omega, by go_num, ho, HF.out, Lib.hid (by rw [HL.out, HP.out]), by rw [List.length_append, hlen]; rfl⟩
        case measure => simp [intOf]; omega
    · have hconv := ownsB_conv (P := Try.prog) (src := 58) (dst := 9) hown Try.underlying58 Try.underlying5 Try.underlying9
      have HB := Lib.hid hb
      have HE : Hid ((⟨p.toArray⟩ : ByteArray) = blkB a b) := Lib.hid (by rw [HP.out, List.take_of_length_le (by rw [blkL_len]; omega)]; rfl)
      clear hown hb HP
      go_wp2
      go_ret
      exact ⟨ret_str HE.out, HB.out⟩

/-- a block with bytes less -/
def shortB (n : Int) : ByteArray := if n < 0 ∨ 512 < n then ByteArray.empty else (blkB 120 121).extract n.toNat 512
set_option maxRecDepth 100000 in
theorem short_any (n : Int) (w : World) : Calls Try.prog 27 #[.int .i64 n] w fun e w' => e = .returned (.string (shortB n)) ∧ Below w.heap.size w w' := by
  have hB := fun w0 => block_any 120 121 w0
  have hs := blkB_size 120 121
  by_cases h1 : n < 0
  · have e1 : shortB n = ByteArray.empty := by unfold shortB; rw [if_pos (.inl h1)]
    rw [e1]
    have HB := Lib.hid hB
    clear hB hs e1
    go_enter Try.func27, Try.ntmps27
    go_wp2_with fail
    refine (HB.out _).mono ?_
    rintro e w1 ⟨rfl, hb⟩
    have H1 := Lib.hid hb; clear hb
    go_wp2_with fail
    go_ret
    exact ⟨rfl, H1.out⟩
  · by_cases h2 : 512 < n
    · have e1 : shortB n = ByteArray.empty := by unfold shortB; rw [if_pos (.inr h2)]
      rw [e1]
      have HB := Lib.hid hB
      clear hB hs e1
      go_enter Try.func27, Try.ntmps27
      go_wp2_with fail
      refine (HB.out _).mono ?_
      rintro e w1 ⟨rfl, hb⟩
      have H1 := Lib.hid hb; clear hb
      go_wp2_with fail
      go_ret
      exact ⟨rfl, H1.out⟩
    · have e1 : shortB n = (blkB 120 121).extract n.toNat 512 := by unfold shortB; rw [if_neg (by omega)]
      rw [e1]
      have HB := Lib.hid hB
      clear hB e1
      have n0 : 0 ≤ n := by omega
      have n1 : n ≤ 512 := by omega
      generalize blkB 120 121 = X at *
      go_enter Try.func27, Try.ntmps27
      go_wp2_with fail
      refine (HB.out _).mono ?_
      rintro e w1 ⟨rfl, hb⟩
      have H1 := Lib.hid hb; clear hb
      go_wp2_with fail
      go_ret
      exact ⟨by rw [← hs]; rfl, H1.out⟩
end Go.Proofs.Ytjefmmbkkdaeiaa
