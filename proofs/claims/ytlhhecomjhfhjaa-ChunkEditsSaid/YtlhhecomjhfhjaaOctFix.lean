/-
  Layer 1: what Fixed and Text answer (the program's and the document's).
-/
import Derived.Test.YtlhhecomjhfhjaaOctNum
namespace Go.Proofs.Ytlhhecomjhfhjaa
open Go.RowKit

set_option maxHeartbeats 400000 in
theorem digit8_any (n i : Int) (w : World) (h2 : 0 ≤ i) (h3 : i ≤ 7) :
    Calls Try.prog 31 #[.int .i64 n, .int .i64 i, .int .i64 8] w fun e w' => e = .returned (.int .u8 (Oct.digit n i.toNat).toNat) ∧ ∃ n, w' = w.drewN n := by
  have H : bits .and .u64 (IntKind.u64.wrap n / 2 ^ (i * 8).toNat) 255 % 256 = ((Oct.digit n i.toNat).toNat : Int) := by
    rw [IntKind.wrap_u64]
    obtain ⟨c, hc⟩ : ∃ c : Nat, n % 18446744073709551616 = (c : Int) := ⟨_, (Int.toNat_of_nonneg (by omega)).symm⟩
    have hcl : c < 18446744073709551616 := by omega
    have e1 : (i * 8).toNat = i.toNat * 8 := by omega
    have e2 : (c : Int) / 2 ^ (i.toNat * 8) = ((c / 2 ^ (i.toNat * 8) : Nat) : Int) := by push_cast; rfl
    have e3 : c / 2 ^ (i.toNat * 8) ≤ c := Nat.div_le_self _ _
    obtain ⟨d, hd⟩ : ∃ d, d = c / 2 ^ (i.toNat * 8) := ⟨_, rfl⟩
    rw [← hd] at e2 e3
    rw [Oct.digit, hc, e1, e2, Int.toNat_natCast, ← hd, u64_and _ _ (by omega) (by omega) (by decide) (by decide), Oct.toNat_ofNat _ (by omega)]
    have := nat_mask8 d
    simp only [Int.reduceToNat, Int.toNat_natCast]
    omega
  have HH := Lib.hid H; clear H
  go_enter Try.func31, Try.ntmps31
  go_wp2
  go_quiet (fail)
  go_wp2
  go_ret
  exact ⟨ret_int HH.out, _, rfl⟩

set_option maxRecDepth 100000 in
set_option maxHeartbeats 800000 in
theorem fixed_any (n : Int) (bytes : Int) (w : World) :
    Calls Try.prog 27 #[.int .i64 n, .int .i64 bytes] w fun e w' => e = .returned (.string ⟨(Oct.fix n (Oct.cnt bytes)).toArray⟩) ∧ Below w.heap.size w w' := by
  obtain ⟨i0, hi, hz0, hz1, hz2⟩ := info_parts Try.info5
  obtain ⟨m, hm8, HM, hcase⟩ := Oct.cnt_cases bytes
  have hmb : i0.bytes * m ≤ 281474976710656 := by rw [hz2]; omega
  have hml : m ≤ maxLen := by unfold maxLen; omega
  have HI := Lib.hid (And.intro hi (And.intro hz0 (And.intro hz1 hz2)))
  clear hi hz0 hz1 hz2
  have HMB := Lib.hid (And.intro hmb hml); clear hmb hml
  rcases hcase with ⟨h1, h2⟩ | ⟨h1, h2⟩ | rfl
  · obtain rfl : m = 0 := by omega
    go_enter Try.func27, Try.ntmps27
    go_wp2_with (at_make; go_loud (refine wpList_make_full _ rfl _ _ 61 rfl w.heap.size 5 i0 (.int .u8 0) 1 Try.underlying61 HI.out.1 HI.out.2.1 HI.out.2.2.1 .i64 .i64 _ _ 0 rfl rfl (by omega) (by omega) HMB.out.1 HMB.out.2 (Nat.le_refl _) ?_))
    intro w1 hown hgrow
    have ho : OwnsB w1 w.heap.size 5 _ (List.replicate 0 0) := ownsB_made hown
    have hb : Below w.heap.size w w1 := (Below.refl _ w).grown hgrow (Nat.le_refl _) (by simp)
    rw [← Oct.laid_none n 0] at ho
    have HO := Lib.hid ho
    have HBL := Lib.hid hb
    clear hown hgrow ho hb
    go_wp2
    go_loopw [14] (fun i wr => ∃ k : Nat, k ≤ 0 ∧ i = .int .i64 k ∧ OwnsB wr w.heap.size 5 (.slice (some ⟨w.heap.size, 0, none⟩) 0 0) (Oct.laid n 0 k) ∧ Below w.heap.size w wr)
      (fun i _ => 0 - (intOf i).toNat)
    case atStart => exact ⟨0, by omega, rfl, HO.out, HBL.out⟩
    case round =>
      obtain ⟨k, hk, rfl, ho, hb⟩ := hrel
      clear HO HBL
      by_cases hlt : k < 0
      · omega
      · have hkm : k = 0 := by omega
        subst hkm
        rw [Oct.laid_all] at ho
        have hconv := ownsB_conv (P := Try.prog) (src := 61) (dst := 9) ho Try.underlying61 Try.underlying5 Try.underlying9
        have HF := Lib.hid hb
        clear ho hb
        go_wp2
        go_ret
        exact ⟨ret_str (by rw [HM.out]), HF.out⟩
  · obtain rfl : m = 8 := by omega
    go_enter Try.func27, Try.ntmps27
    go_wp2_with (at_make; go_loud (refine wpList_make_full _ rfl _ _ 61 rfl w.heap.size 5 i0 (.int .u8 0) 1 Try.underlying61 HI.out.1 HI.out.2.1 HI.out.2.2.1 .i64 .i64 _ _ 8 rfl rfl (by omega) (by omega) HMB.out.1 HMB.out.2 (Nat.le_refl _) ?_))
    intro w1 hown hgrow
    have ho : OwnsB w1 w.heap.size 5 _ (List.replicate 8 0) := ownsB_made hown
    have hb : Below w.heap.size w w1 := (Below.refl _ w).grown hgrow (Nat.le_refl _) (by simp)
    rw [← Oct.laid_none n 8] at ho
    have HO := Lib.hid ho
    have HBL := Lib.hid hb
    clear hown hgrow ho hb
    go_wp2
    go_loopw [14] (fun i wr => ∃ k : Nat, k ≤ 8 ∧ i = .int .i64 k ∧ OwnsB wr w.heap.size 5 (.slice (some ⟨w.heap.size, 0, none⟩) 8 8) (Oct.laid n 8 k) ∧ Below w.heap.size w wr)
      (fun i _ => 8 - (intOf i).toNat)
    case atStart => exact ⟨0, by omega, rfl, HO.out, HBL.out⟩
    case round =>
      obtain ⟨k, hk, rfl, ho, hb⟩ := hrel
      clear HO HBL
      by_cases hlt : k < 8
      · have HS := ownsB_stored ho (Oct.laid_len n 8 k hk) (8 - 1 - k) (Oct.digit n k) (Oct.laid_step n 8 k hlt)
        have hbs := hb.setCell (p := ⟨w.heap.size, 8 - 1 - k, none⟩) (Nat.le_refl _) (.int .u8 ((Oct.digit n k).toNat : Int))
        obtain ⟨x, hc, hf⟩ := ownsB_cell ho (Oct.laid_len n 8 k hk) (8 - 1 - k) (by omega)
        have e : 8 - 1 - k = 7 - k := by omega
        rw [e] at HS hbs hc hf
        clear ho hb e
        have HS := Lib.hid HS
        have hbs := Lib.hid hbs
        go_wp2_with (go_at_call 31; refine (digit8_any n _ _ (by omega) (by omega)).mono ?_; rintro e w' ⟨rfl, nd, rfl⟩)
        go_roundw
        case rel => exact ⟨k + 1, by omega, by go_num, HS.out, ⟨hbs.out.os, hbs.out.tape, hbs.out.output, hbs.out.size, hbs.out.block⟩⟩
        case measure => simp [intOf]; omega
      · have hkm : k = 8 := by omega
        subst hkm
        rw [Oct.laid_all] at ho
        have hconv := ownsB_conv (P := Try.prog) (src := 61) (dst := 9) ho Try.underlying61 Try.underlying5 Try.underlying9
        have HF := Lib.hid hb
        clear ho hb
        go_wp2
        go_ret
        exact ⟨ret_str (by rw [HM.out]), HF.out⟩
  · go_enter Try.func27, Try.ntmps27
    go_wp2_with (at_make; go_loud (refine wpList_make_full _ rfl _ _ 61 rfl w.heap.size 5 i0 (.int .u8 0) 1 Try.underlying61 HI.out.1 HI.out.2.1 HI.out.2.2.1 .i64 .i64 _ _ m rfl rfl (by omega) (by omega) HMB.out.1 HMB.out.2 (Nat.le_refl _) ?_))
    intro w1 hown hgrow
    have ho : OwnsB w1 w.heap.size 5 _ (List.replicate m 0) := ownsB_made hown
    have hb : Below w.heap.size w w1 := (Below.refl _ w).grown hgrow (Nat.le_refl _) (by simp)
    rw [← Oct.laid_none n m] at ho
    have HO := Lib.hid ho
    have HBL := Lib.hid hb
    clear hown hgrow ho hb
    go_wp2
    go_loopw [14] (fun i wr => ∃ k : Nat, k ≤ m ∧ i = .int .i64 k ∧ OwnsB wr w.heap.size 5 (.slice (some ⟨w.heap.size, 0, none⟩) m m) (Oct.laid n m k) ∧ Below w.heap.size w wr)
      (fun i _ => m - (intOf i).toNat)
    case atStart => exact ⟨0, by omega, rfl, HO.out, HBL.out⟩
    case round =>
      obtain ⟨k, hk, rfl, ho, hb⟩ := hrel
      clear HO HBL
      by_cases hlt : k < m
      · have HS := ownsB_stored ho (Oct.laid_len n m k hk) (m - 1 - k) (Oct.digit n k) (Oct.laid_step n m k hlt)
        have hbs := hb.setCell (p := ⟨w.heap.size, m - 1 - k, none⟩) (Nat.le_refl _) (.int .u8 ((Oct.digit n k).toNat : Int))
        obtain ⟨x, hc, hf⟩ := ownsB_cell ho (Oct.laid_len n m k hk) (m - 1 - k) (by omega)
        have e : m - 1 - k = m - 1 - k := by omega
        rw [e] at HS hbs hc hf
        clear ho hb e
        have HS := Lib.hid HS
        have hbs := Lib.hid hbs
        go_wp2_with (go_at_call 31; refine (digit8_any n _ _ (by omega) (by omega)).mono ?_; rintro e w' ⟨rfl, nd, rfl⟩)
        go_roundw
        case rel => exact ⟨k + 1, by omega, by go_num, HS.out, ⟨hbs.out.os, hbs.out.tape, hbs.out.output, hbs.out.size, hbs.out.block⟩⟩
        case measure => simp [intOf]; omega
      · have hkm : k = m := by omega
        subst hkm
        rw [Oct.laid_all] at ho
        have hconv := ownsB_conv (P := Try.prog) (src := 61) (dst := 9) ho Try.underlying61 Try.underlying5 Try.underlying9
        have HF := Lib.hid hb
        clear ho hb
        go_wp2
        go_ret
        exact ⟨ret_str (by rw [HM.out]), HF.out⟩
end Go.Proofs.Ytlhhecomjhfhjaa
