/-
  Layer 1: what Num answers (the program's and the document's).
-/
import Derived.Test.YtpniegglbglbcaaDoorDump
import Derived.Test.YtpniegglbglbcaaDoorOctLeaf
import Derived.Test.YtpniegglbglbcaaDoorOctOwn
import Derived.WalkSmall
namespace Go.Proofs.YtpniegglbglbcaaDoor
open Go.RowKit


theorem or128 (d : Nat) (h : d < 128) : bits .or .u8 (d : Int) 128 = ((128 + d : Nat) : Int) := by
  rw [u8_or _ _ (by omega) (by omega) (by decide) (by decide)]
  simp only [Int.toNat_natCast, Int.reduceToNat]
  have := Nat.two_pow_add_eq_or_of_lt (i := 7) (b := d) (by omega) 1
  rw [Nat.or_comm]
  have h2 : (2 ^ 7 * 1 : Nat) = 128 := rfl
  rw [h2] at this; rw [this]

set_option maxRecDepth 100000 in
set_option maxHeartbeats 800000 in
theorem num_any (n : Int) (w : World) (h0 : -9223372036854775808 ≤ n) (h1 : n ≤ 9223372036854775807) :
    Calls Tryd.prog 40 #[.int .i64 n] w fun e w' => e = .returned (.string (Oct.numB n)) ∧ Below w.heap.size w w' := by
  obtain ⟨i0, hi, hz0, hz1, hz2⟩ := info_parts Tryd.info5
  go_enter Tryd.func40, Tryd.ntmps40
  go_wp2_with (go_at_call 57; refine (code_any n _ h0 h1).mono ?_; rintro e w' ⟨rfl, rfl⟩)
  have hcl := Oct.code_lt n h0 h1
  obtain ⟨c, hc⟩ : ∃ c, c = Oct.codeN n := ⟨_, rfl⟩
  rw [← hc] at hcl ⊢
  have HC := Lib.hid hc; clear hc
  go_loopw [4, 9] (fun v i wr => ∃ (k : Nat) (p : List UInt8), k ≤ 10 ∧ i = .int .i64 k ∧ OwnsB wr w.heap.size 5 v p ∧ Below w.heap.size w wr ∧ Oct.Wrote c k p)
    (fun _ i _ => 10 - (intOf i).toNat)
  case atStart => exact ⟨0, [], by omega, rfl, ownsB_nil _ _ _, Below.refl _ _, Oct.wrote_start c⟩
  case round =>
    obtain ⟨k, p, hk, rfl, hown, hb, hw⟩ := hrel
    have hk9 := Oct.wrote_lt hw hcl hk
    have hsz := hb.size
    have hlen : p.length ≤ 9 := by rw [hw.1]; exact hk9
    have hd : 0 ≤ (c : Int) / 2 ^ (k * 7) := Int.ediv_nonneg (by omega) (Int.le_of_lt (Int.pow_pos (by decide)))
    have hcast : ((c / 2 ^ (k * 7) : Nat) : Int) = (c : Int) / 2 ^ (k * 7) := by push_cast; rfl
    by_cases hlt : c / 2 ^ (k * 7) < 128
    · have hI : (c : Int) / 2 ^ (k * 7) < 128 := by omega
      have HL := Lib.hid (Oct.wrote_last hw hlt)
      have HB : Hid ((c : Int) / 2 ^ (k * 7) % 128 = ((UInt8.ofNat (c / 2 ^ (k * 7))).toNat : Int)) := Lib.hid (by rw [Oct.toNat_ofNat _ (by omega)]; omega)
      clear hcast hw
      go_wp2_with (first
        | (go_at_call 58; refine (digit7_any _ _ _ (by omega) (by omega) (by omega) (by omega)).mono ?_; rintro e w' ⟨rfl, nd, rfl⟩)
        | (at_builtin; refine wpList_append_own _ rfl _ _ 60 rfl w.heap.size 5 i0 (.int .u8 0) 1 1 Tryd.underlying60 hi hz0 hz1 hz2 rfl (by decide) _ _ _ rfl (ownsB_row hown _ _) ⟨wr.heap.size, 0, none⟩ 1 1 [.int .u8 ((c : Int) / 2 ^ (k * 7) % 128)] rfl rfl cell_one one_cell (by unfold maxLen; omega) (by omega) (by simp; omega) ?_))
      intro v' w1 hown' hgrow _
      have ho := ownsB_snoc _ hown' HB.out
      rw [HL.out] at ho
      have hconv := ownsB_conv (P := Tryd.prog) (src := 60) (dst := 9) ho Tryd.underlying60 Tryd.underlying5 Tryd.underlying9
      have hb1 : Below w.heap.size w w1 := below_grown (wr := wr.drewN nd) (hb.trans (below_drewN (Below.refl _ _) nd)) (by simpa using hsz) hown hgrow
      have HF := Lib.hid hb1
      clear hown' hgrow ho hb1 hown hb
      go_wp2
      go_ret
      exact ⟨ret_str (by unfold Oct.numB; rw [HC.out]), HF.out⟩
    · have hI : ¬ (c : Int) / 2 ^ (k * 7) < 128 := by omega
      have HW := Lib.hid (Oct.wrote_more hw (by omega))
      have HB : Hid (bits .or .u8 ((c : Int) / 2 ^ (k * 7) % 128) 128 = ((UInt8.ofNat (128 + c / 2 ^ (k * 7) % 128)).toNat : Int)) := Lib.hid (by
        rw [Oct.toNat_ofNat _ (by omega), ← hcast]
        have := or128 (c / 2 ^ (k * 7) % 128) (by omega)
        push_cast at this ⊢; exact this)
      clear hcast hw
      go_wp2_with (first
        | (go_at_call 58; refine (digit7_any _ _ _ (by omega) (by omega) (by omega) (by omega)).mono ?_; rintro e w' ⟨rfl, nd, rfl⟩)
        | (at_builtin; refine wpList_append_own _ rfl _ _ 60 rfl w.heap.size 5 i0 (.int .u8 0) 1 1 Tryd.underlying60 hi hz0 hz1 hz2 rfl (by decide) _ _ _ rfl (ownsB_row hown _ _) ⟨wr.heap.size, 0, none⟩ 1 1 [.int .u8 (bits .or .u8 ((c : Int) / 2 ^ (k * 7) % 128) 128)] rfl rfl cell_one one_cell (by unfold maxLen; omega) (by omega) (by simp; omega) ?_))
      intro v' w1 hown' hgrow _
      have ho := ownsB_snoc _ hown' HB.out
      have hb1 : Below w.heap.size w w1 := below_grown (wr := wr.drewN nd) (hb.trans (below_drewN (Below.refl _ _) nd)) (by simpa using hsz) hown hgrow
      have HF := Lib.hid hb1
      clear hown' hgrow hb1 hown hb
      go_wp2
      go_roundw
      case rel => exact ⟨k + 1, _, by omega, by go_num, ho, HF.out, HW.out⟩
      case measure => simp [intOf]; omega

set_option maxRecDepth 100000 in
set_option maxHeartbeats 800000 in
theorem rnum_any (n : Int) (w : World) (h0 : -9223372036854775808 ≤ n) (h1 : n ≤ 9223372036854775807) :
    Calls Tryd.prog 33 #[.int .i64 n] w fun e w' => e = .returned (.string (Oct.numB n)) ∧ Below w.heap.size w w' := by
  obtain ⟨i0, hi, hz0, hz1, hz2⟩ := info_parts Tryd.info5
  go_enter Tryd.func33, Tryd.ntmps33
  go_wp2_with (go_at_call 51; refine (rcode_any n _ h0 h1).mono ?_; rintro e w' ⟨rfl, rfl⟩)
  have hcl := Oct.code_lt n h0 h1
  obtain ⟨c, hc⟩ : ∃ c, c = Oct.codeN n := ⟨_, rfl⟩
  rw [← hc] at hcl ⊢
  have HC := Lib.hid hc; clear hc
  go_loopw [3, 4] (fun c' v wr => ∃ (k C : Nat) (p : List UInt8), c' = .int .u64 (C : Int) ∧ OwnsB wr w.heap.size 5 v p ∧ Below w.heap.size w wr ∧ Oct.Wrote c k p ∧ Hid (C = c / 2 ^ (k * 7)))
    (fun c' _ _ => (intOf c').toNat)
  case atStart => exact ⟨0, c, [], rfl, ownsB_nil _ _ _, Below.refl _ _, Oct.wrote_start c, Lib.hid (by simp)⟩
  case round =>
    obtain ⟨k, C, p, rfl, hown, hb, hw, HK⟩ := hrel
    have hk9 := Oct.wrote_lt' hw hcl
    have hsz := hb.size
    have hlen : p.length ≤ 9 := by rw [hw.1]; exact hk9
    have hCl : C < 18446744073709551616 := by
      have : c / 2 ^ (k * 7) ≤ c := Nat.div_le_self _ _
      have := HK.out; omega
    by_cases hlt : C < 128
    · have hI : (C : Int) < 128 := by omega
      have HL := Lib.hid (Oct.wrote_last hw (by rw [← HK.out]; exact hlt))
      have HB : Hid ((C : Int) = ((UInt8.ofNat (c / 2 ^ (k * 7))).toNat : Int)) := Lib.hid (by rw [← HK.out, Oct.toNat_ofNat _ (by omega)])
      clear hw
      go_wp2_with (at_builtin; go_loud (refine wpList_append_own _ rfl _ _ 60 rfl w.heap.size 5 i0 (.int .u8 0) 1 1 Tryd.underlying60 hi hz0 hz1 hz2 rfl (by decide) _ _ _ rfl (ownsB_row0 hown _) ⟨wr.heap.size, 0, none⟩ 1 1 [.int .u8 (C : Int)] rfl rfl cell_one one_cell (by unfold maxLen; omega) (by omega) (by simp; omega) ?_))
      intro v' w1 hown' hgrow _
      have ho := ownsB_snoc _ hown' HB.out
      rw [HL.out] at ho
      have hconv := ownsB_conv (P := Tryd.prog) (src := 60) (dst := 9) ho Tryd.underlying60 Tryd.underlying5 Tryd.underlying9
      have hb1 : Below w.heap.size w w1 := below_grown hb hsz hown hgrow
      have HF := Lib.hid hb1
      clear hown' hgrow ho hb1 hown hb
      go_wp2
      go_ret
      exact ⟨ret_str (by unfold Oct.numB; rw [HC.out]), HF.out⟩
    · have hI : ¬ (C : Int) < 128 := by omega
      have HW := Lib.hid (Oct.wrote_more hw (by rw [← HK.out]; omega))
      have HB : Hid (128 + (C : Int) % 128 = ((UInt8.ofNat (128 + c / 2 ^ (k * 7) % 128)).toNat : Int)) := Lib.hid (by
        rw [Oct.toNat_ofNat _ (by omega), ← HK.out]; push_cast; rfl)
      have HS : Hid (C / 128 = c / 2 ^ ((k + 1) * 7)) := Lib.hid (by rw [Oct.div_step, ← HK.out])
      clear hw
      go_wp2_with (at_builtin; go_loud (refine wpList_append_own _ rfl _ _ 60 rfl w.heap.size 5 i0 (.int .u8 0) 1 1 Tryd.underlying60 hi hz0 hz1 hz2 rfl (by decide) _ _ _ rfl (ownsB_row0 hown _) ⟨wr.heap.size, 0, none⟩ 1 1 [.int .u8 (128 + (C : Int) % 128)] rfl rfl cell_one one_cell (by unfold maxLen; omega) (by omega) (by simp; omega) ?_))
      intro v' w1 hown' hgrow _
      have ho := ownsB_snoc _ hown' HB.out
      have hb1 : Below w.heap.size w w1 := below_grown hb hsz hown hgrow
      have HF := Lib.hid hb1
      clear hown' hgrow hb1 hown hb
      go_wp2
      go_roundw
      case rel => exact ⟨k + 1, C / 128, _, by go_num, ho, HF.out, HW.out, HS⟩
      case measure => simp [intOf]; omega
end Go.Proofs.YtpniegglbglbcaaDoor
