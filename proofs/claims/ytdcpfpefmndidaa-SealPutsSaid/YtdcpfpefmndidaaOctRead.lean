/-
  Layer 1: what Read answers (the program's and the document's), and the document's Fixed.
-/
import Derived.Test.YtdcpfpefmndidaaOctFix
import Derived.Test.YtdcpfpefmndidaaOctMath2
import Derived.IntWalk
namespace Go.Proofs.Ytdcpfpefmndidaa
open Go.RowKit

set_option maxHeartbeats 400000 in
theorem worth8_any (b i : Int) (w : World) (h0 : 0 ≤ b) (h1 : b < 256) (h2 : 0 ≤ i) (h3 : i ≤ 7) :
    Calls Try.prog 27 #[.int .u8 b, .int .i64 i, .int .i64 8] w fun e w' => e = .returned (.int .i64 (wrap64 (b * 2 ^ (i * 8).toNat))) ∧ w = w' := by
  go_enter Try.func27, Try.ntmps27
  go_wp2
  go_ret
  exact ⟨rfl, rfl⟩

set_option maxRecDepth 100000 in
set_option maxHeartbeats 800000 in
theorem rread_any (s : ByteArray) (w : World) (hs : s.size ≤ maxLen) :
    Calls Try.prog 21 #[.string s] w fun e w' => e = .returned (.int .i64 (Oct.rd s)) ∧ w = w' := by
  unfold maxLen at hs
  go_enter Try.func21, Try.ntmps21
  go_wp2
  go_loop [3, 4] (fun c i => ∃ k C : Nat, k ≤ 8 ∧ k ≤ s.size ∧ i = .int .i64 k ∧ c = .int .u64 (C : Int) ∧ Hid (C = Oct.be (s.data.toList.take k)))
    (fun _ i => 8 - (intOf i).toNat)
  case atStart => exact ⟨0, 0, by omega, by omega, rfl, rfl, Lib.hid (by simp [Oct.be])⟩
  case round =>
    obtain ⟨k, C, hk8, hks, rfl, rfl, HC⟩ := hrel
    by_cases hlt : k < s.size ∧ k < 8
    · obtain ⟨h1, h2⟩ := hlt
      have hb := Oct.be_take s k h1
      have hl := Oct.be_take_lt s (k + 1) (by omega)
      rw [hb, ← HC.out] at hl
      have HB : Hid (C * 256 + s[k].toNat = Oct.be (s.data.toList.take (k + 1))) := Lib.hid (by rw [hb, ← HC.out])
      have hx : s[k].toNat < 256 := s[k].toNat_lt
      clear hb
      go_wp2
      go_round
      case rel => exact ⟨k + 1, _, by omega, by omega, by go_num, by go_num, HB⟩
      case measure => simp [intOf]; omega
    · have HF : Hid (wrap64 (C : Int) = Oct.rd s) := Lib.hid (by
        rw [← IntWalk.i64_left, Oct.rd, HC.out]
        have e : s.data.toList.length = s.size := by simp
        by_cases h8 : k = 8
        · rw [h8]
        · rw [List.take_of_length_le (by omega), List.take_of_length_le (by omega)])
      by_cases h1 : k < s.size
      all_goals
        go_wp2
        go_ret
        exact ⟨ret_int HF.out, rfl⟩

theorem be_low64 (s : ByteArray) (m k : Nat) (hm : m ≤ s.size) (hk : k < m) (h8 : m ≤ 8) :
    bits .or .i64 (wrap64 (Oct.be (Oct.low s m k) : Int)) (wrap64 (((s[m - 1 - k]).toNat : Int) * 2 ^ (k * 8))) = wrap64 (Oct.be (Oct.low s m (k + 1)) : Int) := by
  have := Oct.be_low s m k hm hk h8
  rw [IntWalk.i64_left, IntWalk.i64_left, IntWalk.i64_left] at this; exact this

set_option maxRecDepth 100000 in
set_option maxHeartbeats 800000 in
theorem read_small (s : ByteArray) (w : World) (hs : s.size ≤ maxLen) (hm : s.size ≤ 8) :
    Calls Try.prog 22 #[.string s] w fun e w' => e = .returned (.int .i64 (Oct.rd s)) ∧ w = w' := by
  unfold maxLen at hs
  go_enter Try.func22, Try.ntmps22
  go_wp2
  go_loop [4, 10] (fun n i => ∃ (k : Nat) (N : Int), k ≤ s.size ∧ i = .int .i64 k ∧ n = .int .i64 N ∧ Hid (N = wrap64 (Oct.be (Oct.low s (s.size) k) : Int)))
    (fun _ i => s.size - (intOf i).toNat)
  case atStart => exact ⟨0, 0, by omega, rfl, rfl, Lib.hid (by rw [Oct.low_none]; exact Oct.wrap_none)⟩
  case round =>
    obtain ⟨k, N, hk, rfl, rfl, HN⟩ := hrel
    by_cases hlt : k < s.size
    · have hi : s.size - 1 - k < s.size := by omega
      have e : s.size - 1 - k = s.size - 1 - k := by omega
      have hx : (s[s.size - 1 - k]'hi).toNat < 256 := (s[s.size - 1 - k]'hi).toNat_lt
      have HB : Hid (bits .or .i64 N (wrap64 (((s[s.size - 1 - k]'hi).toNat : Int) * 2 ^ (k * 8))) = wrap64 (Oct.be (Oct.low s (s.size) (k + 1)) : Int)) := Lib.hid (by
        rw [HN.out]
        exact be_low64 s (s.size) k (by omega) hlt (by omega))
      clear e
      go_wp2_with (go_at_call 27; refine (worth8_any _ _ _ (by omega) (by omega) (by omega) (by omega)).mono ?_; rintro e w' ⟨rfl, rfl⟩)
      go_round
      case rel => exact ⟨k + 1, _, by omega, by go_num, rfl, HB⟩
      case measure => simp [intOf]; omega
    · have HF : Hid (N = Oct.rd s) := Lib.hid (by rw [HN.out, Oct.rd_low s (s.size) (by omega), IntWalk.i64_left, show k = s.size from by omega])
      go_wp2
      go_ret
      exact ⟨ret_int HF.out, rfl⟩

set_option maxRecDepth 100000 in
set_option maxHeartbeats 800000 in
theorem read_great (s : ByteArray) (w : World) (hs : s.size ≤ maxLen) (hm : 8 < s.size) :
    Calls Try.prog 22 #[.string s] w fun e w' => e = .returned (.int .i64 (Oct.rd s)) ∧ w = w' := by
  unfold maxLen at hs
  go_enter Try.func22, Try.ntmps22
  go_wp2
  go_loop [4, 10] (fun n i => ∃ (k : Nat) (N : Int), k ≤ 8 ∧ i = .int .i64 k ∧ n = .int .i64 N ∧ Hid (N = wrap64 (Oct.be (Oct.low s (8) k) : Int)))
    (fun _ i => 8 - (intOf i).toNat)
  case atStart => exact ⟨0, 0, by omega, rfl, rfl, Lib.hid (by rw [Oct.low_none]; exact Oct.wrap_none)⟩
  case round =>
    obtain ⟨k, N, hk, rfl, rfl, HN⟩ := hrel
    by_cases hlt : k < 8
    · have hi : 7 - k < s.size := by omega
      have e : 8 - 1 - k = 7 - k := by omega
      have hx : (s[7 - k]'hi).toNat < 256 := (s[7 - k]'hi).toNat_lt
      have HB : Hid (bits .or .i64 N (wrap64 (((s[7 - k]'hi).toNat : Int) * 2 ^ (k * 8))) = wrap64 (Oct.be (Oct.low s (8) (k + 1)) : Int)) := Lib.hid (by
        rw [HN.out]
        exact be_low64 s (8) k (by omega) hlt (by omega))
      clear e
      go_wp2_with (go_at_call 27; refine (worth8_any _ _ _ (by omega) (by omega) (by omega) (by omega)).mono ?_; rintro e w' ⟨rfl, rfl⟩)
      go_round
      case rel => exact ⟨k + 1, _, by omega, by go_num, rfl, HB⟩
      case measure => simp [intOf]; omega
    · have HF : Hid (N = Oct.rd s) := Lib.hid (by rw [HN.out, Oct.rd_low s (8) (by omega), IntWalk.i64_left, show k = 8 from by omega])
      go_wp2
      go_ret
      exact ⟨ret_int HF.out, rfl⟩

theorem read_any (s : ByteArray) (w : World) (hs : s.size ≤ maxLen) :
    Calls Try.prog 22 #[.string s] w fun e w' => e = .returned (.int .i64 (Oct.rd s)) ∧ w = w' := by
  by_cases h : s.size ≤ 8
  · exact read_small s w hs h
  · exact read_great s w hs (by omega)

theorem digit_div (n : Int) (k : Nat) : (UInt8.ofNat ((n % 18446744073709551616).toNat / 2 ^ (k * 8) % 256)) = Oct.digit n k := rfl

set_option maxRecDepth 100000 in
set_option maxHeartbeats 800000 in
theorem rfixed_any (n bytes : Int) (w : World) :
    Calls Try.prog 25 #[.int .i64 n, .int .i64 bytes] w fun e w' => e = .returned (.string ⟨(Oct.fix n (Oct.cnt bytes)).toArray⟩) ∧ Below w.heap.size w w' := by
  obtain ⟨c, hc⟩ : ∃ c : Nat, c = (n % 18446744073709551616).toNat := ⟨_, rfl⟩
  have hcl : c < 18446744073709551616 := by omega
  have hw : IntKind.u64.wrap n = (c : Int) := by rw [IntKind.wrap_u64]; omega
  have HC := Lib.hid hc; clear hc
  go_enter Try.func25, Try.ntmps25
  go_wp2
  go_loopw [5, 6, 7] (fun c' v i wr => ∃ (k C : Nat) (r : ByteArray), k ≤ 8 ∧ i = .int .i64 k ∧ c' = .int .u64 (C : Int) ∧ C < 18446744073709551616 ∧ v = .string r ∧ r.size ≤ 8 ∧ Below w.heap.size w wr ∧ Hid (C = c / 2 ^ (k * 8) ∧ r = ⟨(Oct.fix n k).toArray⟩ ∧ k ≤ Oct.cnt bytes))
    (fun _ _ i _ => 8 - (intOf i).toNat)
  case atStart => exact ⟨0, c, ⟨#[]⟩, by omega, rfl, rfl, hcl, rfl, by decide, Below.refl _ _, Lib.hid ⟨by simp, rfl, by omega⟩⟩
  case round =>
    obtain ⟨k, C, r, hk8, rfl, rfl, hC, rfl, hr, hb, HK⟩ := hrel
    clear hw
    have hsz := hb.size
    by_cases hlt : (k : Int) < bytes ∧ k < 8
    · obtain ⟨h1, h2⟩ := hlt
      have HB : Hid ((C : Int) % 256 = ((Oct.digit n k).toNat : Int)) := Lib.hid (by
        have := HK.out.1
        rw [HC.out] at this
        rw [Oct.digit, Oct.toNat_ofNat _ (by omega), ← this]; omega)
      have hconv : (convert 37 9 (.slice (some ⟨wr.heap.size, 0, none⟩) 1 1)).run Try.prog (wr.alloc (.cells #[.int .u8 ((C : Int) % 256)] 5)) = .ok (.string ⟨#[Oct.digit n k]⟩) (wr.alloc (.cells #[.int .u8 ((C : Int) % 256)] 5)) := by
        rw [HB.out]; exact conv_one _ _ Try.underlying37 Try.underlying5 Try.underlying9
      have h9 : (⟨#[Oct.digit n k]⟩ : ByteArray).size ≤ 1 := Nat.le_refl _
      have hr9 : (⟨#[Oct.digit n k]⟩ ++ r : ByteArray).size ≤ 8 := by
        rw [ByteArray.size_append, HK.out.2.1]
        have := Oct.fix_len n k
        show 1 + (Oct.fix n k).toArray.size ≤ 8
        simp; omega
      have HK2 : Hid (C / 256 = c / 2 ^ ((k + 1) * 8) ∧ (⟨#[Oct.digit n k]⟩ ++ r : ByteArray) = ⟨(Oct.fix n (k + 1)).toArray⟩ ∧ k + 1 ≤ Oct.cnt bytes) := Lib.hid ⟨by
        rw [HK.out.1, Nat.div_div_eq_div_mul, show (k + 1) * 8 = k * 8 + 8 from by omega, Nat.pow_add], by
        rw [HK.out.2.1]; exact ByteArray.mk_append_mk [Oct.digit n k] (Oct.fix n k), Oct.cnt_step k bytes h1 h2⟩
      have hb2 := Lib.hid (hb.alloc hsz (.cells #[.int .u8 ((C : Int) % 256)] 5))
      clear hb
      go_wp2
      go_roundw
      case rel => exact ⟨k + 1, C / 256, _, by omega, by go_num, by go_num, by omega, rfl, hr9, hb2.out, HK2⟩
      case measure => simp [intOf]; omega
    · have hkc : k = Oct.cnt bytes := Oct.cnt_end k bytes hlt hk8 HK.out.2.2
      have HF := Lib.hid hb
      have HR : Hid (r = ⟨(Oct.fix n (Oct.cnt bytes)).toArray⟩) := Lib.hid (by rw [← hkc]; exact HK.out.2.1)
      clear hb hkc
      by_cases h1 : (k : Int) < bytes
      all_goals
        go_wp2
        go_ret
        exact ⟨ret_str HR.out, HF.out⟩
end Go.Proofs.Ytdcpfpefmndidaa
