/-
  Layer 2: what the array of the half bytes' sums holds.
-/
import Derived.Test.YtdcpfpefmndidaaBits
import Derived.Test.YtdcpfpefmndidaaProg
import Derived.Test.YtdcpfpefmndidaaCrcMath
import Derived.WalkKit
import Derived.WalkSpells
import Derived.WalkLawsBesides
import Derived.Deep.WholeRow
import Derived.Laws.CopyOwn
import Derived.Lib.Hide
import Derived.Below
namespace Go.Proofs.Ytdcpfpefmndidaa
open Go.RowKit

/-- the array's cells, k of them laid -/
def tabK (k : Nat) : Array Value := ((List.range 16).map fun i => Value.int .u32 (if i < k then (Crc.stps 4 i : Int) else 0)).toArray
theorem tabK_size (k : Nat) : (tabK k).size = 16 := by simp [tabK]
theorem tabK_zero : tabK 0 = #[.int .u32 0, .int .u32 0, .int .u32 0, .int .u32 0, .int .u32 0, .int .u32 0, .int .u32 0, .int .u32 0, .int .u32 0, .int .u32 0, .int .u32 0, .int .u32 0, .int .u32 0, .int .u32 0, .int .u32 0, .int .u32 0] := rfl
theorem tabK_at (k i : Nat) (h : i < 16) : (tabK k)[i]? = some (.int .u32 (if i < k then (Crc.stps 4 i : Int) else 0)) := by simp [tabK, h]
theorem tabK_succ (k : Nat) (_h : k < 16) : (tabK k).setIfInBounds k (.int .u32 (Crc.stps 4 k : Int)) = tabK (k + 1) := by
  apply Array.ext_getElem?
  intro i
  rw [Array.getElem?_setIfInBounds]
  by_cases hi : i < 16
  · by_cases hk : k = i
    · subst hk; simp [tabK, hi]
    · have : (i < k + 1) ↔ (i < k) := by omega
      simp [tabK, hk, hi, this]
  · have : ¬ k = i := by omega
    simp [tabK, this, hi]
theorem and1_32 (c : Nat) (h1 : c < 4294967296) : bits .and .u32 (c : Int) 1 = ((c % 2 : Nat) : Int) := by
  rw [u32_and _ _ (by omega) (by omega) (by decide) (by decide)]
  have := Nat.and_one_is_mod c
  simp only [Int.reduceToNat, Int.toNat_natCast]
  omega
theorem tabK_one (k : Nat) : (tabK k).all (·.oneCell') = true := by
  rw [Array.all_eq_true_iff_forall_mem]
  intro x hx
  simp only [tabK, List.mem_toArray, List.mem_map] at hx
  obtain ⟨i, _, rfl⟩ := hx; rfl
theorem arr_info : (Try.prog.info? 56).map (·.size) = some 16 := by kernel_rfl

set_option maxRecDepth 100000 in
set_option maxHeartbeats 800000 in
theorem halfSums_any (w : World) :
    Calls Try.prog 34 #[] w fun e w' => e = .returned (.agg (tabK 16)) ∧ Below w.heap.size w w' := by
  go_enter Try.func34, Try.ntmps34
  go_wp2
  rw [← tabK_zero]
  go_loopw [2, 3, 4, 5, 10] (fun _ _ _ i _ wr => ∃ k : Nat, k ≤ 16 ∧ i = .int .i64 k ∧ wr = (w.alloc (.cells (tabK 0) 56)).alloc (.cells (tabK k) 56))
    (fun _ _ _ i _ _ => 16 - (intOf i).toNat)
  case atStart => exact ⟨0, by omega, rfl, rfl⟩
  case round =>
    obtain ⟨k, hk, rfl, rfl⟩ := hrel
    by_cases hlt : k < 16
    · go_wp2
      go_loop [3, 4, 10] (fun c _ j => ∃ J C : Nat, J ≤ 4 ∧ j = .int .i64 J ∧ c = .int .u32 (C : Int) ∧ C < 4294967296 ∧ Hid (C = Crc.stps J k))
        (fun _ _ j => 4 - (intOf j).toNat)
      case atStart => exact ⟨0, k, by omega, rfl, rfl, by omega, Lib.hid rfl⟩
      case round =>
        obtain ⟨J, C, hJ, rfl, rfl, hC, HC⟩ := hrel
        by_cases hj : J < 4
        · have h2 := and1_32 C hC
          have HL : Crc.stp C < 4294967296 := Crc.stp_lt C hC
          have HS : Hid (Crc.stp C = Crc.stps (J + 1) k) := Lib.hid (by rw [HC.out]; rfl)
          by_cases hc : C % 2 = 1
          · have hb : (bits .and .u32 (C : Int) 1 != 0) = true := by rw [h2, hc]; rfl
            have HX : Hid (bits .xor .u32 ((C : Int) / 2) 2197175160 = (Crc.stp C : Int)) := Lib.hid (by
              have := xor_32 (C / 2) 2197175160 (by omega) (by omega)
              rw [Crc.stp, if_pos hc]; exact this)
            clear h2 hc
            go_wp2
            go_round
            case rel => exact ⟨J + 1, Crc.stp C, by omega, by go_num, by rw [HX.out], HL, HS⟩
            case measure => simp [intOf]; omega
          · have hb : (bits .and .u32 (C : Int) 1 != 0) = false := by rw [h2, show C % 2 = 0 from by omega]; rfl
            have HX : Hid ((C : Int) / 2 = (Crc.stp C : Int)) := Lib.hid (by rw [Crc.stp, if_neg hc]; omega)
            clear h2 hc
            go_wp2
            go_round
            case rel => exact ⟨J + 1, Crc.stp C, by omega, by go_num, by rw [HX.out], HL, HS⟩
            case measure => simp [intOf]; omega
        · have hJ4 : J = 4 := by omega
          subst hJ4
          have HT := Lib.hid (tabK_succ k hlt)
          have hcell := tabK_at k k hlt
          rw [if_neg (by omega)] at hcell
          have HE := HC.out
          subst HE
          clear HC
          go_wp2
          go_roundw
          case rel => exact ⟨k + 1, by omega, by go_num, by rw [← HT.out]⟩
          case measure => simp [intOf]; omega
    · have hg1 : ((w.alloc (.cells (tabK 0) 56)).alloc (.cells (tabK k) 56)).heap[w.heap.size + 1]? = some (.cells (tabK k) 56) := heap_alloc2_new w _ _
      have hg0 : ((w.alloc (.cells (tabK 0) 56)).alloc (.cells (tabK k) 56)).heap[w.heap.size]? = some (.cells (tabK 0) 56) := heap_alloc2_old w _ _
      have HG := Lib.hid (And.intro hg0 hg1)
      have hT0 : tabK k = tabK 16 := by rw [show k = 16 by omega]
      clear hg0 hg1
      generalize hT : tabK k = T at *
      generalize hZ : tabK 0 = Z at *
      have HZ := Lib.hid (And.intro hT0 hZ)
      have hs1 := tabK_size 16
      have hs2 := tabK_size 0
      rw [← hT0] at hs1; rw [hZ] at hs2
      have ho := tabK_one 16
      rw [← hT0] at ho
      have HS := Lib.hid (And.intro hs1 (And.intro hs2 ho))
      clear hT hZ hT0 hs1 hs2 ho
      go_wp2_with (first
        | (refine wpList_load_row rfl 56 _ rfl (w.heap.size + 1) rfl _ _ _ _ HG.out.2 Try.underlying56 rfl (by rw [HS.out.1]; exact arr_info) ?_)
        | (refine wpList_store_row rfl 56 _ _ rfl w.heap.size T rfl rfl _ _ HG.out.1 (by rw [HS.out.1]; exact arr_info) (by rw [HS.out.1, HS.out.2.1]) HS.out.2.2 ?_))
      have hr := setRow_heap _ w.heap.size Z T 56 (0, 0) HG.out.1
      refine bodyPost_ret (v := .agg T) (results_cell_row rfl _ _ w.heap.size _ _ _ _ rfl hr Try.underlying56 rfl (by rw [HS.out.1]; exact arr_info)) rfl ⟨by rw [HZ.out.1], ?_⟩
      exact below_setRow (((Below.refl _ w).alloc (Nat.le_refl _) _).alloc (by simp) _) (Nat.le_refl _) _
end Go.Proofs.Ytdcpfpefmndidaa
