/-
  Layer 1: what Read answers (the program's and the document's), and the document's Fixed.
-/
import Derived.Test.YtlhhecomjhfhjaaOctFix
import Derived.Test.YtlhhecomjhfhjaaOctMath2
import Derived.IntWalk
namespace Go.Proofs.Ytlhhecomjhfhjaa
open Go.RowKit

theorem be_low64 (s : ByteArray) (m k : Nat) (hm : m ≤ s.size) (hk : k < m) (h8 : m ≤ 8) :
    bits .or .i64 (wrap64 (Oct.be (Oct.low s m k) : Int)) (wrap64 (((s[m - 1 - k]).toNat : Int) * 2 ^ (k * 8))) = wrap64 (Oct.be (Oct.low s m (k + 1)) : Int) := by
  have := Oct.be_low s m k hm hk h8
  rw [IntWalk.i64_left, IntWalk.i64_left, IntWalk.i64_left] at this; exact this

theorem digit_div (n : Int) (k : Nat) : (UInt8.ofNat ((n % 18446744073709551616).toNat / 2 ^ (k * 8) % 256)) = Oct.digit n k := rfl

set_option maxRecDepth 100000 in
set_option maxHeartbeats 800000 in
theorem rfixed_any (n bytes : Int) (w : World) :
    Calls Try.prog 26 #[.int .i64 n, .int .i64 bytes] w fun e w' => e = .returned (.string ⟨(Oct.fix n (Oct.cnt bytes)).toArray⟩) ∧ Below w.heap.size w w' := by
  obtain ⟨c, hc⟩ : ∃ c : Nat, c = (n % 18446744073709551616).toNat := ⟨_, rfl⟩
  have hcl : c < 18446744073709551616 := by omega
  have hw : IntKind.u64.wrap n = (c : Int) := by rw [IntKind.wrap_u64]; omega
  have HC := Lib.hid hc; clear hc
  go_enter Try.func26, Try.ntmps26
  go_wp2
  go_loopw [5, 6, 7] (fun c' v i wr => ∃ (k C : Nat) (r : ByteArray), k ≤ 8 ∧ i = .int .i64 k ∧ c' = .int .u64 (C : Int) ∧ C < 18446744073709551616 ∧ v = .string r ∧ r.size ≤ 8 ∧ Below w.heap.size w wr ∧ Hid (C = c / 2 ^ (k * 8) ∧ r = ⟨(Oct.fix n k).toArray⟩ ∧ k ≤ Oct.cnt bytes))
    (fun _ _ i _ => 8 - (intOf i).toNat)
  case atStart => exact ⟨0, c, ⟨#[]⟩, by omega, rfl, rfl, hcl, rfl, by decide, Below.refl _ _, Lib.hid ⟨by simp, rfl, by omega⟩⟩
  case round =>
    obtain ⟨k, C, r, hk8, rfl, rfl, hC, rfl, hr, hb, HK⟩ := hrel
    clear hw
    have hsz := hb.size
    by_cases hlt : (k : Int) < bytes ∧ k < 8
    · obtain ⟨h1, h2⟩ := hlt
      have HB : Hid ((C : Int) % 256 = ((Oct.digit n k).toNat : Int)) := Lib.hid (by
        have := HK.out.1
        rw [HC.out] at this
        rw [Oct.digit, Oct.toNat_ofNat _ (by omega), ← this]; omega)
      have hconv : (convert 61 9 (.slice (some ⟨wr.heap.size, 0, none⟩) 1 1)).run Try.prog (wr.alloc (.cells #[.int .u8 ((C : Int) % 256)] 5)) = .ok (.string ⟨#[Oct.digit n k]⟩) (wr.alloc (.cells #[.int .u8 ((C : Int) % 256)] 5)) := by
        rw [HB.out]; exact conv_one _ _ Try.underlying61 Try.underlying5 Try.underlying9
      have h9 : (⟨#[Oct.digit n k]⟩ : ByteArray).size ≤ 1 := Nat.le_refl _
      have hr9 : (⟨#[Oct.digit n k]⟩ ++ r : ByteArray).size ≤ 8 := by
        rw [ByteArray.size_append, HK.out.2.1]
        have := Oct.fix_len n k
        show 1 + (Oct.fix n k).toArray.size ≤ 8
        simp; omega
      have HK2 : Hid (C / 256 = c / 2 ^ ((k + 1) * 8) ∧ (⟨#[Oct.digit n k]⟩ ++ r : ByteArray) = ⟨(Oct.fix n (k + 1)).toArray⟩ ∧ k + 1 ≤ Oct.cnt bytes) := Lib.hid ⟨by
        rw [HK.out.1, Nat.div_div_eq_div_mul, show (k + 1) * 8 = k * 8 + 8 from by omega, Nat.pow_add], by
        rw [HK.out.2.1]; exact ByteArray.mk_append_mk [Oct.digit n k] (Oct.fix n k), Oct.cnt_step k bytes h1 h2⟩
      have hb2 := Lib.hid (hb.alloc hsz (.cells #[.int .u8 ((C : Int) % 256)] 5))
      clear hb
      go_wp2
      go_roundw
      case rel => exact ⟨k + 1, C / 256, _, by omega, by go_num, by go_num, by omega, rfl, hr9, hb2.out, HK2⟩
      case measure => simp [intOf]; omega
    · have hkc : k = Oct.cnt bytes := Oct.cnt_end k bytes hlt hk8 HK.out.2.2
      have HF := Lib.hid hb
      have HR : Hid (r = ⟨(Oct.fix n (Oct.cnt bytes)).toArray⟩) := Lib.hid (by rw [← hkc]; exact HK.out.2.1)
      clear hb hkc
      by_cases h1 : (k : Int) < bytes
      all_goals
        go_wp2
        go_ret
        exact ⟨ret_str HR.out, HF.out⟩
end Go.Proofs.Ytlhhecomjhfhjaa
