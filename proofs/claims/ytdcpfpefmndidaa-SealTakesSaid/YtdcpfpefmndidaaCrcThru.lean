/-
  Layer 2: what through and the document's bytes answer.
-/
import Derived.Test.YtdcpfpefmndidaaCrcHalf
import Derived.Test.YtdcpfpefmndidaaBase
namespace Go.Proofs.Ytdcpfpefmndidaa
open Go.RowKit

/-- texts, one behind the other -/
def Crc.cat (l : List ByteArray) : List UInt8 := l.flatMap fun s => s.data.toList
theorem Crc.cat_take (l : List ByteArray) (k : Nat) (h : k < l.length) : Crc.cat (l.take (k + 1)) = Crc.cat (l.take k) ++ (l[k]).data.toList := by
  unfold Crc.cat; rw [List.take_succ_eq_append_getElem h, List.flatMap_append]; simp
theorem take_byte (s : ByteArray) (k : Nat) (h : k < s.size) : s.data.toList.take (k + 1) = s.data.toList.take k ++ [s[k]] := by
  rw [List.take_succ_eq_append_getElem (by simpa using h)]; rfl
theorem tab_cell (i : Nat) (h : i < 16) : (tabK 16)[i]? = some (.int .u32 (Crc.stps 4 i : Int)) := by rw [tabK_at 16 i h, if_pos h]

set_option maxRecDepth 100000 in
set_option maxHeartbeats 800000 in
theorem through_any (c : Nat) (l : List ByteArray) (a : Option Addr) (cap : Nat) (w : World) (hc0 : c < 4294967296) (hr : ReadsS w a l) (hl : l.length ≤ maxLen) (hz : ∀ s ∈ l, s.size ≤ maxLen) :
    Calls Try.prog 32 #[.int .u32 (c : Int), .slice a l.length cap] w fun e w' => e = .returned (.int .u32 (Crc.run c (Crc.cat l) : Int)) ∧ Below w.heap.size w w' := by
  have HR := Lib.hid (And.intro hr hz); clear hr hz
  unfold maxLen at hl
  go_enter Try.func32, Try.ntmps32
  go_wp2_with fail
  refine (halfSums_any _).mono ?_
  rintro e w1 ⟨rfl, hb1⟩
  have B1 := Lib.hid hb1; clear hb1
  generalize hT : tabK 16 = T
  have ho := tabK_one 16
  have hs := tabK_size 16
  rw [hT] at ho hs
  have HT := Lib.hid (And.intro hT (And.intro hs ho)); clear hT hs ho
  go_wp2_with (refine wpList_store_row rfl 56 _ _ rfl w1.heap.size T rfl rfl 56 (tabK 0) (heap_alloc_new _ _) (by rw [HT.out.2.1]; exact arr_info) (by rw [HT.out.2.1, tabK_size]) HT.out.2.2 ?_)
  generalize hW : World.setRow _ _ _ = w2
  have hg : w2.heap[w1.heap.size]? = some (.cells T 56) := by
    rw [← hW]; exact setRow_heap _ _ (tabK 0) _ _ (0, 0) (heap_alloc_new w1 _)
  have hcell : ∀ i, i < 16 → w2.cell? ⟨w1.heap.size, i, none⟩ = some (.int .u32 (Crc.stps 4 i : Int)) := by
    intro i hi
    rw [cell_of_row w2 _ i T _ (0, 0) hg, ← HT.out.1, tab_cell i hi]
  have hb2 : Below w.heap.size w w2 := by
    rw [← hW]; exact below_setRow (B1.out.alloc B1.out.size _) B1.out.size _
  have HC := Lib.hid (And.intro hcell (And.intro hb2 (readsS_below HR.out.1 hb2)))
  clear hcell hb2 hg hW HT B1
  go_loop [0, 12] (fun c' i => ∃ k C : Nat, k ≤ l.length ∧ i = .int .i64 k ∧ c' = .int .u32 (C : Int) ∧ C < 4294967296 ∧ Hid (C = Crc.run c (Crc.cat (l.take k))))
    (fun _ i => l.length - (intOf i).toNat)
  case atStart => exact ⟨0, c, by omega, rfl, rfl, hc0, Lib.hid rfl⟩
  case round =>
    obtain ⟨k, C, hk, rfl, rfl, hC, HK⟩ := hrel
    by_cases hlt : k < l.length
    · obtain ⟨g, o, rfl, hc⟩ := HC.out.2.2 k hlt
      have hm := HR.out.2 (l[k]) (List.getElem_mem _)
      unfold maxLen at hm
      have HN : Hid (Crc.run C (l[k]).data.toList = Crc.run c (Crc.cat (l.take (k + 1)))) := Lib.hid (by rw [Crc.cat_take l k hlt, Crc.run_append, ← HK.out])
      generalize l[k] = s at *
      go_wp2_with fail
      go_loop [0, 18] (fun c' i => ∃ j D : Nat, j ≤ s.size ∧ i = .int .i64 j ∧ c' = .int .u32 (D : Int) ∧ D < 4294967296 ∧ Hid (D = Crc.run C (s.data.toList.take j)))
        (fun _ i => s.size - (intOf i).toNat)
      case atStart => exact ⟨0, C, by omega, rfl, rfl, hC, Lib.hid rfl⟩
      case round =>
        obtain ⟨j, D, hj, rfl, rfl, hD, HD⟩ := hrel
        by_cases hjt : j < s.size
        · have hx := (s[j]).toNat_lt
          obtain ⟨D1, hD1⟩ : ∃ D1, D1 = D ^^^ (s[j]).toNat := ⟨_, rfl⟩
          have hl1 : D1 < 4294967296 := by rw [hD1]; exact Nat.xor_lt_two_pow (n := 32) hD (by omega)
          have e1 := xor_32 D (s[j]).toNat hD (by omega)
          rw [← hD1] at e1
          obtain ⟨D2, hD2⟩ : ∃ D2, D2 = Crc.stps 4 D1 := ⟨_, rfl⟩
          have hl2 : D2 < 4294967296 := by rw [hD2]; exact Crc.stps_lt 4 D1 hl1
          obtain ⟨D3, hD3⟩ : ∃ D3, D3 = Crc.stps 4 D2 := ⟨_, rfl⟩
          have hl3 : D3 < 4294967296 := by rw [hD3]; exact Crc.stps_lt 4 D2 hl2
          have HS : Hid (D3 = Crc.run C (s.data.toList.take (j + 1))) := Lib.hid (by rw [take_byte s j hjt, Crc.run_snoc, ← HD.out, Crc.byt_halves, ← hD1, ← hD2, hD3])
          have e2 := xor_32 (D1 / 16) (Crc.stps 4 (D1 % 16)) (by omega) (Crc.stps_lt 4 _ (by omega))
          rw [← Crc.half, ← hD2] at e2
          have e2 : bits .xor .u32 ((D1 : Int) / 16) (Crc.stps 4 (D1 % 16) : Int) = (D2 : Int) := e2
          have e3 := xor_32 (D2 / 16) (Crc.stps 4 (D2 % 16)) (by omega) (Crc.stps_lt 4 _ (by omega))
          rw [← Crc.half, ← hD3] at e3
          have e3 : bits .xor .u32 ((D2 : Int) / 16) (Crc.stps 4 (D2 % 16) : Int) = (D3 : Int) := e3
          have c1 := HC.out.1 (D1 % 16) (by omega)
          have c2 := HC.out.1 (D2 % 16) (by omega)
          generalize Crc.stps 4 (D1 % 16) = T1 at *
          generalize Crc.stps 4 (D2 % 16) = T2 at *
          clear hD1 hD2 hD3 HK HN
          go_wp2_with fail
          go_round
          case rel => exact ⟨j + 1, D3, by omega, by go_num, rfl, hl3, HS⟩
          case measure => simp [intOf]; omega
        · have e : s.data.toList.take j = s.data.toList := List.take_of_length_le (by simp; omega)
          have HF : Hid (D = Crc.run c (Crc.cat (l.take (k + 1)))) := Lib.hid (by rw [← HN.out, HD.out, e])
          clear e HD
          go_wp2_with fail
          go_round
          case rel => exact ⟨k + 1, D, by omega, by go_num, rfl, hD, HF⟩
          case measure => simp [intOf]; omega
    · have e : l.take k = l := List.take_of_length_le (by omega)
      have HF : Hid (C = Crc.run c (Crc.cat l)) := Lib.hid (by rw [HK.out, e])
      clear e HK
      go_wp2_with fail
      go_ret
      exact ⟨ret_int (by rw [HF.out]), HC.out.2.1⟩
end Go.Proofs.Ytdcpfpefmndidaa
