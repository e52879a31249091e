/-
  Texts of the layers, part 2: CrcThru, CrcSum, CrcSeal, SealLeaf, QTail, Cat, SealBlk, SealRblk, SealOps, OctTake, OctTxt, LblLeaf, LblText, LblParse.
-/
import Derived.Test.YtedemehlccmkpaaPk1
import Derived.Deep.RegionHeld3
import Derived.OwnWalk
import Derived.Sort.AtCall
import Derived.StillTail
import Derived.Deep.Quiet
import Derived.BigRegion
import Derived.StillTailTactics
import Derived.Laws.ResultCell
/-
  Layer 2: what through and the document's bytes answer.
-/
namespace Go.Proofs.Ytedemehlccmkpaa
open Go.RowKit

/-- texts, one behind the other -/
def Crc.cat (l : List ByteArray) : List UInt8 := l.flatMap fun s => s.data.toList
theorem Crc.cat_take (l : List ByteArray) (k : Nat) (h : k < l.length) : Crc.cat (l.take (k + 1)) = Crc.cat (l.take k) ++ (l[k]).data.toList := by
  unfold Crc.cat; rw [List.take_succ_eq_append_getElem h, List.flatMap_append]; simp
theorem take_byte (s : ByteArray) (k : Nat) (h : k < s.size) : s.data.toList.take (k + 1) = s.data.toList.take k ++ [s[k]] := by
  rw [List.take_succ_eq_append_getElem (by simpa using h)]; rfl
theorem tab_cell (i : Nat) (h : i < 16) : (tabK 16)[i]? = some (.int .u32 (Crc.stps 4 i : Int)) := by rw [tabK_at 16 i h, if_pos h]

set_option maxRecDepth 100000 in
set_option maxHeartbeats 800000 in
theorem through_any (c : Nat) (l : List ByteArray) (a : Option Addr) (cap : Nat) (w : World) (hc0 : c < 4294967296) (hr : ReadsS w a l) (hl : l.length ≤ maxLen) (hz : ∀ s ∈ l, s.size ≤ maxLen) :
    Calls Try.prog 92 #[.int .u32 (c : Int), .slice a l.length cap] w fun e w' => e = .returned (.int .u32 (Crc.run c (Crc.cat l) : Int)) ∧ Below w.heap.size w w' := by
  have HR := Lib.hid (And.intro hr hz); clear hr hz
  unfold maxLen at hl
  go_enter Try.func92, Try.ntmps92
  go_wp2_with fail
  refine (halfSums_any _).mono ?_
  rintro e w1 ⟨rfl, hb1⟩
  have B1 := Lib.hid hb1; clear hb1
  generalize hT : tabK 16 = T
  have ho := tabK_one 16
  have hs := tabK_size 16
  rw [hT] at ho hs
  have HT := Lib.hid (And.intro hT (And.intro hs ho)); clear hT hs ho
  go_wp2_with (refine wpList_store_row rfl 138 _ _ rfl w1.heap.size T rfl rfl 138 (tabK 0) (heap_alloc_new _ _) (by rw [HT.out.2.1]; exact arr_info) (by rw [HT.out.2.1, tabK_size]) HT.out.2.2 ?_)
  generalize hW : World.setRow _ _ _ = w2
  have hg : w2.heap[w1.heap.size]? = some (.cells T 138) := by
    rw [← hW]; exact setRow_heap _ _ (tabK 0) _ _ (0, 0) (heap_alloc_new w1 _)
  have hcell : ∀ i, i < 16 → w2.cell? ⟨w1.heap.size, i, none⟩ = some (.int .u32 (Crc.stps 4 i : Int)) := by
    intro i hi
    rw [cell_of_row w2 _ i T _ (0, 0) hg, ← HT.out.1, tab_cell i hi]
  have hb2 : Below w.heap.size w w2 := by
    rw [← hW]; exact below_setRow (B1.out.alloc B1.out.size _) B1.out.size _
  have HC := Lib.hid (And.intro hcell (And.intro hb2 (readsS_below HR.out.1 hb2)))
  clear hcell hb2 hg hW HT B1
  go_loop [0, 12] (fun c' i => ∃ k C : Nat, k ≤ l.length ∧ i = .int .i64 k ∧ c' = .int .u32 (C : Int) ∧ C < 4294967296 ∧ Hid (C = Crc.run c (Crc.cat (l.take k))))
    (fun _ i => l.length - (intOf i).toNat)
  case atStart => exact ⟨0, c, by omega, rfl, rfl, hc0, Lib.hid rfl⟩
  case round =>
    obtain ⟨k, C, hk, rfl, rfl, hC, HK⟩ := hrel
    by_cases hlt : k < l.length
    · obtain ⟨g, o, rfl, hc⟩ := HC.out.2.2 k hlt
      have hm := HR.out.2 (l[k]) (List.getElem_mem _)
      unfold maxLen at hm
      have HN : Hid (Crc.run C (l[k]).data.toList = Crc.run c (Crc.cat (l.take (k + 1)))) := Lib.hid (by rw [Crc.cat_take l k hlt, Crc.run_append, ← HK.out])
      generalize l[k] = s at *
      go_wp2_with fail
      go_loop [0, 18] (fun c' i => ∃ j D : Nat, j ≤ s.size ∧ i = .int .i64 j ∧ c' = .int .u32 (D : Int) ∧ D < 4294967296 ∧ Hid (D = Crc.run C (s.data.toList.take j)))
        (fun _ i => s.size - (intOf i).toNat)
      case atStart => exact ⟨0, C, by omega, rfl, rfl, hC, Lib.hid rfl⟩
      case round =>
        obtain ⟨j, D, hj, rfl, rfl, hD, HD⟩ := hrel
        by_cases hjt : j < s.size
        · have hx := (s[j]).toNat_lt
          obtain ⟨D1, hD1⟩ : ∃ D1, D1 = D ^^^ (s[j]).toNat := ⟨_, rfl⟩
          have hl1 : D1 < 4294967296 := by rw [hD1]; exact Nat.xor_lt_two_pow (n := 32) hD (by omega)
          have e1 := xor_32 D (s[j]).toNat hD (by omega)
          rw [← hD1] at e1
          obtain ⟨D2, hD2⟩ : ∃ D2, D2 = Crc.stps 4 D1 := ⟨_, rfl⟩
          have hl2 : D2 < 4294967296 := by rw [hD2]; exact Crc.stps_lt 4 D1 hl1
          obtain ⟨D3, hD3⟩ : ∃ D3, D3 = Crc.stps 4 D2 := ⟨_, rfl⟩
          have hl3 : D3 < 4294967296 := by rw [hD3]; exact Crc.stps_lt 4 D2 hl2
          have HS : Hid (D3 = Crc.run C (s.data.toList.take (j + 1))) := Lib.hid (by rw [take_byte s j hjt, Crc.run_snoc, ← HD.out, Crc.byt_halves, ← hD1, ← hD2, hD3])
          have e2 := xor_32 (D1 / 16) (Crc.stps 4 (D1 % 16)) (by omega) (Crc.stps_lt 4 _ (by omega))
          rw [← Crc.half, ← hD2] at e2
          have e2 : bits .xor .u32 ((D1 : Int) / 16) (Crc.stps 4 (D1 % 16) : Int) = (D2 : Int) := e2
          have e3 := xor_32 (D2 / 16) (Crc.stps 4 (D2 % 16)) (by omega) (Crc.stps_lt 4 _ (by omega))
          rw [← Crc.half, ← hD3] at e3
          have e3 : bits .xor .u32 ((D2 : Int) / 16) (Crc.stps 4 (D2 % 16) : Int) = (D3 : Int) := e3
          have c1 := HC.out.1 (D1 % 16) (by omega)
          have c2 := HC.out.1 (D2 % 16) (by omega)
          generalize Crc.stps 4 (D1 % 16) = T1 at *
          generalize Crc.stps 4 (D2 % 16) = T2 at *
          clear hD1 hD2 hD3 HK HN
          go_wp2_with fail
          go_round
          case rel => exact ⟨j + 1, D3, by omega, by go_num, rfl, hl3, HS⟩
          case measure => simp [intOf]; omega
        · have e : s.data.toList.take j = s.data.toList := List.take_of_length_le (by simp; omega)
          have HF : Hid (D = Crc.run c (Crc.cat (l.take (k + 1)))) := Lib.hid (by rw [← HN.out, HD.out, e])
          clear e HD
          go_wp2_with fail
          go_round
          case rel => exact ⟨k + 1, D, by omega, by go_num, rfl, hD, HF⟩
          case measure => simp [intOf]; omega
    · have e : l.take k = l := List.take_of_length_le (by omega)
      have HF : Hid (C = Crc.run c (Crc.cat l)) := Lib.hid (by rw [HK.out, e])
      clear e HK
      go_wp2_with fail
      go_ret
      exact ⟨ret_int (by rw [HF.out]), HC.out.2.1⟩
end Go.Proofs.Ytedemehlccmkpaa

/-
  Layer 2: what Sum, More, written answer, and the document's bytes, Sum, More.
-/
namespace Go.Proofs.Ytedemehlccmkpaa
open Go.RowKit

set_option maxRecDepth 100000 in
set_option maxHeartbeats 800000 in
theorem rbytes_any (c : Nat) (s : ByteArray) (w : World) (hc0 : c < 4294967296) (hs : s.size ≤ maxLen) :
    Calls Try.prog 93 #[.int .u32 (c : Int), .string s] w fun e w' => e = .returned (.int .u32 (Crc.run c s.data.toList : Int)) ∧ w = w' := by
  unfold maxLen at hs
  go_enter Try.func93, Try.ntmps93
  go_wp2
  go_loop [0, 5] (fun c' i => ∃ j D : Nat, j ≤ s.size ∧ i = .int .i64 j ∧ c' = .int .u32 (D : Int) ∧ D < 4294967296 ∧ Hid (D = Crc.run c (s.data.toList.take j)))
    (fun _ i => s.size - (intOf i).toNat)
  case atStart => exact ⟨0, c, by omega, rfl, rfl, hc0, Lib.hid rfl⟩
  case round =>
    obtain ⟨j, D, hj, rfl, rfl, hD, HD⟩ := hrel
    by_cases hjt : j < s.size
    · have hx := (s[j]).toNat_lt
      obtain ⟨D1, hD1⟩ : ∃ D1, D1 = D ^^^ (s[j]).toNat := ⟨_, rfl⟩
      have hl1 : D1 < 4294967296 := by rw [hD1]; exact Nat.xor_lt_two_pow (n := 32) hD (by omega)
      have e1 := xor_32 D (s[j]).toNat hD (by omega)
      rw [← hD1] at e1
      have HS : Hid (Crc.stps 8 D1 = Crc.run c (s.data.toList.take (j + 1))) := Lib.hid (by rw [take_byte s j hjt, Crc.run_snoc, ← HD.out, hD1]; rfl)
      clear hD1 HD
      go_wp2
      go_loop [0, 6, 7] (fun c' i _ => ∃ J C : Nat, J ≤ 8 ∧ i = .int .i64 J ∧ c' = .int .u32 (C : Int) ∧ C < 4294967296 ∧ Hid (C = Crc.stps J D1))
        (fun _ i _ => 8 - (intOf i).toNat)
      case atStart => exact ⟨0, D1, by omega, rfl, rfl, hl1, Lib.hid rfl⟩
      case round =>
        obtain ⟨J, C, hJ, rfl, rfl, hC, HC⟩ := hrel
        clear e1
        by_cases hj8 : J < 8
        · have HL : Crc.stp C < 4294967296 := Crc.stp_lt C hC
          have HS2 : Hid (Crc.stp C = Crc.stps (J + 1) D1) := Lib.hid (by rw [HC.out]; rfl)
          by_cases hc : C % 2 = 1
          · have hb : ((C : Int) % 2 == 1) = true := by simp; omega
            have HX : Hid (bits .xor .u32 ((C : Int) / 2) 2197175160 = (Crc.stp C : Int)) := Lib.hid (by
              have := xor_32 (C / 2) 2197175160 (by omega) (by omega)
              rw [Crc.stp, if_pos hc]; exact this)
            clear hc
            go_wp2
            go_round
            case rel => exact ⟨J + 1, Crc.stp C, by omega, by go_num, by rw [HX.out], HL, HS2⟩
            case measure => simp [intOf]; omega
          · have hb : ((C : Int) % 2 == 1) = false := by simp; omega
            have HX : Hid ((C : Int) / 2 = (Crc.stp C : Int)) := Lib.hid (by rw [Crc.stp, if_neg hc]; omega)
            clear hc
            go_wp2
            go_round
            case rel => exact ⟨J + 1, Crc.stp C, by omega, by go_num, by rw [HX.out], HL, HS2⟩
            case measure => simp [intOf]; omega
        · have HF : Hid (C = Crc.run c (s.data.toList.take (j + 1))) := Lib.hid (by rw [HC.out, show J = 8 by omega, HS.out])
          clear HC
          go_wp2
          go_round
          case rel => exact ⟨j + 1, C, by omega, by go_num, rfl, hC, HF⟩
          case measure => simp [intOf]; omega
    · have e : s.data.toList.take j = s.data.toList := List.take_of_length_le (by simp; omega)
      have HF : Hid (D = Crc.run c s.data.toList) := Lib.hid (by rw [HD.out, e])
      clear e HD
      go_wp2
      go_ret
      exact ⟨ret_int (by rw [HF.out]), rfl⟩

theorem turn_sum (l : List UInt8) : bits .xor .u32 (Crc.run 4294967295 l : Int) 4294967295 = (Crc.sum l : Int) :=
  xor_32 _ 4294967295 (Crc.run_lt l _ (by omega)) (by omega)

set_option maxRecDepth 100000 in
set_option maxHeartbeats 800000 in
theorem rsum_any (s : ByteArray) (w : World) (hs : s.size ≤ maxLen) :
    Calls Try.prog 87 #[.string s] w fun e w' => e = .returned (.int .i64 (Crc.sum s.data.toList : Int)) ∧ w = w' := by
  have HX := Lib.hid (turn_sum s.data.toList)
  have hl := Crc.sum_lt s.data.toList
  have hl2 := Crc.run_lt s.data.toList 4294967295 (by omega)
  go_enter Try.func87, Try.ntmps87
  go_wp2_with fail
  refine (rbytes_any 4294967295 s _ (by omega) hs).mono ?_
  rintro e w1 ⟨rfl, rfl⟩
  generalize Crc.run 4294967295 s.data.toList = R at *
  generalize hS : Crc.sum s.data.toList = S at HX hl
  have HS := Lib.hid hS; clear hS
  have hx := HX.out
  go_wp2_with fail
  go_ret
  exact ⟨ret_int (by rw [HS.out]), rfl⟩

set_option maxRecDepth 100000 in
set_option maxHeartbeats 800000 in
theorem sum_any (l : List ByteArray) (a : Option Addr) (cap : Nat) (w : World) (hr : ReadsS w a l) (hl : l.length ≤ maxLen) (hz : ∀ s ∈ l, s.size ≤ maxLen) :
    Calls Try.prog 85 #[.slice a l.length cap] w fun e w' => e = .returned (.int .i64 (Crc.sum (Crc.cat l) : Int)) ∧ Below w.heap.size w w' := by
  have HX := Lib.hid (turn_sum (Crc.cat l))
  have hl1 := Crc.sum_lt (Crc.cat l)
  have hl2 := Crc.run_lt (Crc.cat l) 4294967295 (by omega)
  have HR := Lib.hid (And.intro hr (And.intro hl hz)); clear hr hl hz
  go_enter Try.func85, Try.ntmps85
  go_wp2_with fail
  refine (through_any 4294967295 l a cap _ (by omega) HR.out.1 HR.out.2.1 HR.out.2.2).mono ?_
  rintro e w1 ⟨rfl, hb⟩
  have HB := Lib.hid hb; clear hb
  generalize Crc.run 4294967295 (Crc.cat l) = R at *
  generalize hS : Crc.sum (Crc.cat l) = S at HX hl1
  have HS := Lib.hid hS; clear hS
  have hx := HX.out
  go_wp2_with fail
  go_ret
  exact ⟨ret_int (by rw [HS.out]), HB.out⟩
theorem readsS_one (w : World) (s : ByteArray) (t : TypeId) : ReadsS (w.alloc (.cells #[.string s] t)) (some ⟨w.heap.size, 0, none⟩) [s] := by
  intro i hi
  refine ⟨_, _, rfl, ?_⟩
  obtain rfl : i = 0 := by simp at hi; omega
  rw [cell_of_row _ _ _ #[.string s] t (0, 0) (heap_alloc_new w _)]; rfl
theorem readsS_three (w : World) (x y z : ByteArray) (t : TypeId) : ReadsS (w.alloc (.cells #[.string x, .string y, .string z] t)) (some ⟨w.heap.size, 0, none⟩) [x, y, z] := by
  intro i hi
  refine ⟨_, _, rfl, ?_⟩
  rw [cell_of_row _ _ _ #[.string x, .string y, .string z] t (0, 0) (heap_alloc_new w _)]
  simp at hi
  match i, hi with
  | 0, _ => rfl
  | 1, _ => rfl
  | 2, _ => rfl
theorem below_alloc {w w' : World} {o : Obj} (h : Below (w.alloc o).heap.size (w.alloc o) w') : Below w.heap.size w w' :=
  ((Below.refl _ w).alloc (Nat.le_refl _) o).trans (h.mono (by simp))
theorem cat_one (s : ByteArray) : Crc.cat [s] = s.data.toList := by simp [Crc.cat]

/-- the sum of one text -/
theorem sum_one (s : ByteArray) (w : World) (hs : s.size ≤ maxLen) :
    Calls Try.prog 85 #[.slice (some ⟨w.heap.size, 0, none⟩) 1 1] (w.alloc (.cells #[.string s] 9)) fun e w' => e = .returned (.int .i64 (Crc.sum s.data.toList : Int)) ∧ Below w.heap.size w w' :=
  (sum_any [s] _ 1 _ (readsS_one w s _) (by unfold maxLen; simp) (by intro x hx; simp at hx; rw [hx]; exact hs)).mono fun e w' h => by
    rw [cat_one] at h; exact ⟨h.1, below_alloc h.2⟩
theorem sum_none (w : World) :
    Calls Try.prog 85 #[.slice none 0 0] w fun e w' => e = .returned (.int .i64 0) ∧ Below w.heap.size w w' :=
  (sum_any [] none 0 w (readsS_none _ _) (by unfold maxLen; simp) (by intro x hx; simp at hx)).mono fun e w' h => h
theorem sum_three (x y z : ByteArray) (w : World) (hx : x.size ≤ maxLen) (hy : y.size ≤ maxLen) (hz : z.size ≤ maxLen) :
    Calls Try.prog 85 #[.slice (some ⟨w.heap.size, 0, none⟩) 3 3] (w.alloc (.cells #[.string x, .string y, .string z] 9)) fun e w' => e = .returned (.int .i64 (Crc.sum (Crc.cat [x, y, z]) : Int)) ∧ Below w.heap.size w w' :=
  (sum_any [x, y, z] _ 3 _ (readsS_three w x y z _) (by unfold maxLen; simp) (by intro s hs; simp at hs; rcases hs with rfl | rfl | rfl <;> assumption)).mono fun e w' h => ⟨h.1, below_alloc h.2⟩

/-- a sum gone on with: from any number's lowest 32 bits -/
def Crc.more (sum : Int) (l : List UInt8) : Nat := Crc.run ((sum % 4294967296).toNat ^^^ 4294967295) l ^^^ 4294967295
theorem more_lt (sum : Int) (l : List UInt8) : Crc.more sum l < 4294967296 :=
  Nat.xor_lt_two_pow (n := 32) (Crc.run_lt l _ (Nat.xor_lt_two_pow (n := 32) (by omega) (by omega))) (by omega)

theorem more_in (sum : Int) : bits .xor .u32 (sum % 4294967296) 4294967295 = (((sum % 4294967296).toNat ^^^ 4294967295 : Nat) : Int) := by
  obtain ⟨c, hc⟩ : ∃ c : Nat, sum % 4294967296 = (c : Int) := ⟨_, (Int.toNat_of_nonneg (by omega)).symm⟩
  rw [hc, Int.toNat_natCast]
  exact xor_32 c 4294967295 (by omega) (by omega)
theorem rmore_in (sum : Int) : (IntKind.u64.wrap sum).tmod 4294967296 % 4294967296 = sum % 4294967296 := by
  rw [IntKind.wrap_u64, Int.tmod_eq_emod_of_nonneg (by omega)]; omega

/-- four bytes in a new block, as a string -/
theorem conv_four {P : Program} (w : World) (b0 b1 b2 b3 : UInt8) (x0 x1 x2 x3 : Int) {src dst E : TypeId} (h0 : x0 = (b0.toNat : Int)) (h1 : x1 = (b1.toNat : Int)) (h2 : x2 = (b2.toNat : Int)) (h3 : x3 = (b3.toNat : Int))
    (hs : P.underlying src = some (.slice E)) (he : P.underlying E = some (.int .u8)) (hd : P.underlying dst = some .string) :
    (convert src dst (.slice (some ⟨w.heap.size, 0, none⟩) 4 4)).run P (w.alloc (.cells #[.int .u8 x0, .int .u8 x1, .int .u8 x2, .int .u8 x3] E)) = .ok (.string ⟨#[b0, b1, b2, b3]⟩) (w.alloc (.cells #[.int .u8 x0, .int .u8 x1, .int .u8 x2, .int .u8 x3] E)) := by
  subst h0 h1 h2 h3
  have ho : OwnsB (w.alloc (.cells #[.int .u8 (b0.toNat : Int), .int .u8 (b1.toNat : Int), .int .u8 (b2.toNat : Int), .int .u8 (b3.toNat : Int)] E)) 0 E (.slice (some ⟨w.heap.size, 0, none⟩) 4 4) [b0, b1, b2, b3] :=
    ⟨rfl, .inr ⟨w.heap.size, 4, _, rfl, Nat.zero_le _, heap_alloc_new w _, by simp, by unfold maxLen; omega, rfl, rfl⟩⟩
  exact ownsB_conv ho hs he hd
theorem wr_at (n : Nat) (hn : n < 4294967296) : (n : Int) / 16777216 = ((UInt8.ofNat (n / 16777216 % 256)).toNat : Int) ∧ (n : Int) / 65536 % 256 = ((UInt8.ofNat (n / 65536 % 256)).toNat : Int) ∧ (n : Int) / 256 % 256 = ((UInt8.ofNat (n / 256 % 256)).toNat : Int) ∧ (n : Int) % 256 = ((UInt8.ofNat (n % 256)).toNat : Int) := by
  simp; omega
theorem conv_wr {P : Program} (w : World) (n : Nat) (hn : n < 4294967296) {src dst E : TypeId}
    (hs : P.underlying src = some (.slice E)) (he : P.underlying E = some (.int .u8)) (hd : P.underlying dst = some .string) :
    (convert src dst (.slice (some ⟨w.heap.size, 0, none⟩) 4 4)).run P (w.alloc (.cells #[.int .u8 ((n : Int) / 16777216), .int .u8 ((n : Int) / 65536 % 256), .int .u8 ((n : Int) / 256 % 256), .int .u8 ((n : Int) % 256)] E)) = .ok (.string ⟨(Crc.wr n).toArray⟩) (w.alloc (.cells #[.int .u8 ((n : Int) / 16777216), .int .u8 ((n : Int) / 65536 % 256), .int .u8 ((n : Int) / 256 % 256), .int .u8 ((n : Int) % 256)] E)) :=
  have h := wr_at n hn
  conv_four w _ _ _ _ _ _ _ _ h.1 h.2.1 h.2.2.1 h.2.2.2 hs he hd

set_option maxRecDepth 100000 in
set_option maxHeartbeats 800000 in
theorem written_any (n : Nat) (w : World) (hn : n < 4294967296) :
    Calls Try.prog 84 #[.int .i64 (n : Int)] w fun e w' => e = .returned (.string ⟨(Crc.wr n).toArray⟩) ∧ Below w.heap.size w w' := by
  have hconv := conv_wr (P := Try.prog) (src := 84) (dst := 9) w n hn Try.underlying84 Try.underlying5 Try.underlying9
  go_enter Try.func84, Try.ntmps84
  go_wp2_with fail
  go_ret
  exact ⟨rfl, (Below.refl _ _).alloc (Nat.le_refl _) _⟩
end Go.Proofs.Ytedemehlccmkpaa

/-
  Layer 2: what Seal and Right answer, and the document's.
-/
namespace Go.Proofs.Ytedemehlccmkpaa
open Go.RowKit

/-- a sealed text -/
def Crc.sealB (s : ByteArray) : ByteArray := s ++ ⟨(Crc.wr (Crc.sum s.data.toList)).toArray⟩
theorem sealB_list (s : ByteArray) : (Crc.sealB s).data.toList = Crc.seal4 s.data.toList := by
  unfold Crc.sealB Crc.seal4; rw [ByteArray.data_append, Array.toList_append]
theorem sealB_size (s : ByteArray) : (Crc.sealB s).size = s.size + 4 := by
  unfold Crc.sealB; rw [ByteArray.size_append]; rfl

theorem right_less (s : ByteArray) (h : s.size < 4) : Crc.right s.data.toList = false := by
  unfold Crc.right
  have : ¬ 4 ≤ s.data.toList.length := by simp; omega
  simp only [this, decide_false, Bool.false_and]
theorem ext_front (s : ByteArray) (n : Nat) : (s.extract 0 n).data.toList = s.data.toList.take n := by
  rw [ByteArray.data_extract, Array.toList_extract]; simp [List.extract]
theorem ext_back (s : ByteArray) (n : Nat) : (s.extract n s.size).data.toList = s.data.toList.drop n := by
  rw [ByteArray.data_extract, Array.toList_extract, List.extract, List.take_of_length_le (by simp)]
theorem right_cut (s : ByteArray) (h : 4 ≤ s.size) : ((s.extract (s.size - 4) s.size).toList == (⟨(Crc.wr (Crc.sum (s.extract 0 (s.size - 4)).data.toList)).toArray⟩ : ByteArray).toList) = Crc.right s.data.toList := by
  rw [ByteArray.toList_eq, ByteArray.toList_eq, ext_front, ext_back]
  unfold Crc.right
  have e : s.data.toList.length = s.size := by simp
  simp only [e, h, decide_true, Bool.true_and]
theorem rright_cut (s : ByteArray) (h : 4 ≤ s.size) : ((Crc.sealB (s.extract 0 (s.size - 4))).toList == s.toList) = Crc.right s.data.toList := by
  rw [ByteArray.toList_eq, ByteArray.toList_eq, sealB_list, ext_front]
  unfold Crc.right Crc.seal4
  have e : s.data.toList.length = s.size := by simp
  simp only [e, h, decide_true, Bool.true_and]
  generalize Crc.wr (Crc.sum (s.data.toList.take (s.size - 4))) = r
  rw [Bool.eq_iff_iff, beq_iff_eq, beq_iff_eq]
  constructor
  · intro h2
    have h3 := congrArg (List.drop (s.size - 4)) h2
    rw [List.drop_left' (by simp)] at h3
    exact h3.symm
  · intro h2
    rw [← h2, List.take_append_drop]

set_option maxRecDepth 100000 in
set_option maxHeartbeats 800000 in
theorem seal_any (s : ByteArray) (w : World) (hs : s.size ≤ 140737488355323) :
    Calls Try.prog 74 #[.string s] w fun e w' => e = .returned (.string (Crc.sealB s)) ∧ Below w.heap.size w w' := by
  have hm : s.size ≤ maxLen := by unfold maxLen; omega
  have hz : s.size + 4 ≤ 9223372036854775807 := by omega
  have hl := Crc.sum_lt s.data.toList
  have hw : (⟨(Crc.wr (Crc.sum s.data.toList)).toArray⟩ : ByteArray).size = 4 := rfl
  have HW := Lib.hid (And.intro hm hw); clear hm hw
  go_enter Try.func74, Try.ntmps74
  go_wp2_with fail
  refine (sum_one s _ HW.out.1).mono ?_
  rintro e w1 ⟨rfl, hb⟩
  have HB := Lib.hid hb; clear hb
  go_wp2_with fail
  refine (written_any _ _ hl).mono ?_
  rintro e w2 ⟨rfl, hb⟩
  have HB2 := Lib.hid hb; clear hb
  have hw := HW.out.2
  generalize hG : (⟨(Crc.wr (Crc.sum s.data.toList)).toArray⟩ : ByteArray) = G at *
  have HG := Lib.hid hG; clear hG
  have hg : s.size + G.size ≤ 9223372036854775807 := by omega
  clear hw
  go_wp2_with fail
  go_ret
  exact ⟨ret_str (by rw [← HG.out]; rfl), HB.out.trans (HB2.out.mono HB.out.size)⟩

set_option maxRecDepth 100000 in
set_option maxHeartbeats 800000 in
theorem rseal_any (s : ByteArray) (w : World) (hs : s.size ≤ 140737488355323) :
    Calls Try.prog 79 #[.string s] w fun e w' => e = .returned (.string (Crc.sealB s)) ∧ Below w.heap.size w w' := by
  have hm : s.size ≤ maxLen := by unfold maxLen; omega
  have HM := Lib.hid hm; clear hm
  have hl := Crc.sum_lt s.data.toList
  go_enter Try.func79, Try.ntmps79
  go_wp2_with fail
  refine (rsum_any s _ HM.out).mono ?_
  rintro e w1 ⟨rfl, rfl⟩
  have hconv := conv_wr (P := Try.prog) (src := 84) (dst := 9) w _ hl Try.underlying84 Try.underlying5 Try.underlying9
  have hw : (⟨(Crc.wr (Crc.sum s.data.toList)).toArray⟩ : ByteArray).size = 4 := rfl
  generalize hG : (⟨(Crc.wr (Crc.sum s.data.toList)).toArray⟩ : ByteArray) = G at *
  have HG := Lib.hid hG; clear hG
  have hg : s.size + G.size ≤ 9223372036854775807 := by omega
  clear hw
  generalize Crc.sum s.data.toList = S at hl hconv ⊢
  go_wp2_with fail
  go_ret
  exact ⟨ret_str (by rw [← HG.out]; rfl), (Below.refl _ _).alloc (Nat.le_refl _) _⟩

theorem sum_one_drew (s : ByteArray) (w : World) (hs : s.size ≤ maxLen) :
    Calls Try.prog 85 #[.slice (some ⟨w.heap.size, 0, none⟩) 1 1] (w.alloc (.cells #[.string s] 9)).drew fun e w' => e = .returned (.int .i64 (Crc.sum s.data.toList : Int)) ∧ Below w.heap.size w w' :=
  (sum_one s w.drew hs).mono fun _ _ h => ⟨h.1, (below_drewN (Below.refl _ w) 1).trans h.2⟩

end Go.Proofs.Ytedemehlccmkpaa

/-
  Layer 5: leaves: zeros, the numbers of both halves, the length, the text, whether a block is empty.
-/
namespace Go.Proofs.Ytedemehlccmkpaa
open Go.RowKit

theorem ba_eq {a b : ByteArray} (h : a.toList = b.toList) : a = b := by
  rw [ByteArray.toList_eq, ByteArray.toList_eq] at h; exact Go.WideShapes.bytes_inj h
theorem ba_beq {a b : ByteArray} : (a.toList == b.toList) = decide (a = b) := by
  rw [Bool.eq_iff_iff, beq_iff_eq, decide_eq_true_iff]
  exact ⟨ba_eq, fun h => by rw [h]⟩
/-- so many bytes 0 -/
def Sl.zer (n : Nat) : ByteArray := ⟨(List.replicate n 0).toArray⟩
theorem Sl.zer_size (n : Nat) : (Sl.zer n).size = n := by rw [Sl.size_list]; exact List.length_replicate

set_option maxRecDepth 100000 in
set_option maxHeartbeats 800000 in
theorem zeros_any (n : Nat) (hn : n ≤ 4096) (w : World) :
    Calls Try.prog 78 #[.int .i64 (n : Int)] w fun e w' => e = .returned (.string (Sl.zer n)) ∧ Below w.heap.size w w' := by
  obtain ⟨i0, hi, hz0, hz1, hz2⟩ := info_parts Try.info5
  have hmb : i0.bytes * n ≤ 281474976710656 := by rw [hz2]; omega
  have hml : n ≤ maxLen := by unfold maxLen; omega
  have HI := Lib.hid (And.intro hi (And.intro hz0 (And.intro hz1 (And.intro hmb hml))))
  clear hi hz0 hz1 hz2 hmb hml
  go_enter Try.func78, Try.ntmps78
  go_wp2_with (at_make; go_loud (refine wpList_make_full _ rfl _ _ 84 rfl w.heap.size 5 i0 (.int .u8 0) 1 Try.underlying84 HI.out.1 HI.out.2.1 HI.out.2.2.1 .i64 .i64 _ _ n rfl rfl (by omega) (by omega) HI.out.2.2.2.1 HI.out.2.2.2.2 (Nat.le_refl _) ?_))
  intro w1 hown hgrow
  have ho : OwnsB w1 w.heap.size 5 _ (List.replicate n 0) := ownsB_made hown
  have hb : Below w.heap.size w w1 := (Below.refl _ w).grown hgrow (Nat.le_refl _) (by simp)
  have hconv := ownsB_conv (P := Try.prog) (src := 84) (dst := 9) ho Try.underlying84 Try.underlying5 Try.underlying9
  have HF := Lib.hid hb
  clear ho hb hown hgrow
  go_wp2
  go_ret
  exact ⟨rfl, HF.out⟩

theorem right5_any (n : Int) (w : World) :
    Calls Try.prog 62 #[.int .i64 n] w fun e w' => e = .returned (.bool (decide (1 ≤ n ∧ n ≤ 4611686018427387904))) ∧ w = w' := by
  by_cases h1 : 1 ≤ n
  · by_cases h2 : n ≤ 4611686018427387904
    · have e : decide (1 ≤ n ∧ n ≤ 4611686018427387904) = true := decide_eq_true ⟨h1, h2⟩
      rw [e]
      clear e
      go_enter Try.func62, Try.ntmps62
      go_wp2
      go_ret
      exact ⟨by simp, rfl⟩
    · have e : decide (1 ≤ n ∧ n ≤ 4611686018427387904) = false := decide_eq_false fun h => h2 h.2
      rw [e]
      clear e
      go_enter Try.func62, Try.ntmps62
      go_wp2
      go_ret
      exact ⟨by simp, rfl⟩
  · have e : decide (1 ≤ n ∧ n ≤ 4611686018427387904) = false := decide_eq_false fun h => h1 h.1
    rw [e]
    clear e
    go_enter Try.func62, Try.ntmps62
    go_wp2
    go_ret
    exact ⟨by simp, rfl⟩

theorem Sl.one_rd (b : ByteArray) : Oct.rd b = Sl.one b := by
  unfold Sl.one
  rw [Sl.rd_eq b _ rfl, Sl.rd_eq (b.extract 0 8) _ rfl, Sl.ext_first, List.take_take]; rfl
theorem Sl.take_min (r : List UInt8) (k n : Nat) (h : r.length = n) : r.take (min k n) = r.take k := by
  subst h; rw [← List.take_take, List.take_of_length_le (Nat.le_refl r.length)]
theorem Sl.two_rd (b : ByteArray) : Oct.rd (b.extract 256 b.size) = Sl.two b := by
  have hl : (b.data.toList.drop 256).length = b.size - 256 := by rw [List.length_drop, ← Sl.size_list]
  unfold Sl.two
  rw [Sl.rd_eq (b.extract 256 b.size) _ rfl, Sl.rd_eq (b.extract 256 264) _ rfl, Sl.ext_list, Sl.ext_list]
  generalize b.data.toList.drop 256 = r at hl
  rw [List.take_take, List.take_take, Sl.take_min r 8 _ hl]; rfl

set_option maxRecDepth 100000 in
set_option maxHeartbeats 800000 in
theorem halves_any (b : ByteArray) (hb : b.size ≤ maxLen) (w : World) :
    Calls Try.prog 71 #[.string b] w fun e w' => e = .returned (.tuple #[.int .i64 (Sl.halves b).1, .int .i64 (Sl.halves b).2]) ∧ ∃ n, w' = w.drewN n := by
  by_cases h : b.size = 512
  · have e : Sl.halves b = (Sl.one b, Sl.two b) := by unfold Sl.halves; rw [if_pos h]
    have e1 := Sl.one_rd b
    have e2 := Sl.two_rd b
    rw [h] at e2
    rw [e, ← e1, ← e2]
    have z2 : (b.extract 256 512).size ≤ maxLen := by rw [ByteArray.size_extract]; unfold maxLen; omega
    have c1 := fun w => (oread_any b w hb).mono fun _ _ h => And.intro h.1 h.2.symm
    have c2 := fun w => (oread_any (b.extract 256 512) w z2).mono fun _ _ h => And.intro h.1 h.2.symm
    generalize Oct.rd b = X at c1 ⊢
    generalize Oct.rd (b.extract 256 512) = Y at c2 ⊢
    have H := Lib.hid (And.intro c1 c2)
    clear c1 c2 e e1 e2 z2
    have t1 : ((b.size : Int) != 512) = false := by rw [h]; rfl
    have t2 : (256 : Int) ≤ (b.size : Int) := by omega
    go_enter Try.func71, Try.ntmps71
    go_wp2_with fail
    go_quiet (first
      | (go_at_call_has 82 (Value.string b); exact Calls.quiet_of_same (H.out.1 _))
      | (go_at_call_has 82 (Value.string (b.extract 256 512)); exact Calls.quiet_of_same (H.out.2 _)))
    go_wp2_with fail
    go_ret2
    exact ⟨rfl, _, rfl⟩
  · have e : Sl.halves b = (0, 0) := by unfold Sl.halves; rw [if_neg h]
    rw [e]
    have t1 : ((b.size : Int) != 512) = true := by simpa using (by omega : ¬ (b.size : Int) = 512)
    clear e
    go_enter Try.func71, Try.ntmps71
    go_wp2_with fail
    go_ret2
    exact ⟨rfl, 0, rfl⟩

set_option maxRecDepth 100000 in
set_option maxHeartbeats 800000 in
theorem rhalves_any (b : ByteArray) (_hb : b.size ≤ maxLen) (w : World) :
    Calls Try.prog 66 #[.string b] w fun e w' => e = .returned (.tuple #[.int .i64 (Sl.halves b).1, .int .i64 (Sl.halves b).2]) ∧ ∃ n, w' = w.drewN n := by
  by_cases h : b.size = 512
  · have e : Sl.halves b = (Sl.one b, Sl.two b) := by unfold Sl.halves; rw [if_pos h]
    rw [e]
    unfold Sl.one Sl.two
    have z1 : (b.extract 0 8).size ≤ maxLen := by rw [ByteArray.size_extract]; unfold maxLen; omega
    have z2 : (b.extract 256 264).size ≤ maxLen := by rw [ByteArray.size_extract]; unfold maxLen; omega
    have c1 := fun w => (roread_any (b.extract 0 8) w z1).mono fun _ _ h => And.intro h.1 h.2.symm
    have c2 := fun w => (roread_any (b.extract 256 264) w z2).mono fun _ _ h => And.intro h.1 h.2.symm
    generalize Oct.rd (b.extract 0 8) = X at c1 ⊢
    generalize Oct.rd (b.extract 256 264) = Y at c2 ⊢
    have H := Lib.hid (And.intro c1 c2)
    clear c1 c2 e z1 z2
    have t1 : ((b.size : Int) != 512) = false := by rw [h]; rfl
    have t2 : (264 : Int) ≤ (b.size : Int) := by omega
    have t3 : (8 : Int) ≤ (b.size : Int) := by omega
    go_enter Try.func66, Try.ntmps66
    go_wp2_with fail
    go_quiet (first
      | (go_at_call_has 76 (Value.string (b.extract 0 8)); exact Calls.quiet_of_same (H.out.1 _))
      | (go_at_call_has 76 (Value.string (b.extract 256 264)); exact Calls.quiet_of_same (H.out.2 _)))
    go_wp2_with fail
    go_ret2
    exact ⟨rfl, _, rfl⟩
  · have e : Sl.halves b = (0, 0) := by unfold Sl.halves; rw [if_neg h]
    rw [e]
    have t1 : ((b.size : Int) != 512) = true := by simpa using (by omega : ¬ (b.size : Int) = 512)
    clear e
    go_enter Try.func66, Try.ntmps66
    go_wp2_with fail
    go_ret2
    exact ⟨rfl, 0, rfl⟩

/-- how long the block says that its text is -/
theorem Sl.len_bound (b : ByteArray) : 0 ≤ Sl.len b ∧ Sl.len b ≤ 65535 := by
  unfold Sl.len
  rw [Sl.rd_eq (b.extract 8 10) _ rfl, Sl.ext_list, List.take_take]
  have h : ((b.data.toList.drop 8).take (min 8 (10 - 8))).length ≤ 2 := by rw [List.length_take]; omega
  generalize (b.data.toList.drop 8).take (min 8 (10 - 8)) = l at h
  have h2 := Oct.be_lt l
  have h3 : 2 ^ (l.length * 8) ≤ 2 ^ 16 := Nat.pow_le_pow_right (by omega) (by omega)
  rw [IntKind.wrap_i64]
  omega
set_option maxRecDepth 100000 in
theorem length_any (b : ByteArray) (hb : b.size = 512) (w : World) :
    Calls Try.prog 89 #[.string b] w fun e w' => e = .returned (.int .i64 (Sl.len b)) ∧ w' = w := by
  have z1 : (b.extract 8 10).size ≤ maxLen := by rw [ByteArray.size_extract]; unfold maxLen; omega
  have c1 := fun w => oread_any (b.extract 8 10) w z1
  unfold Sl.len
  generalize Oct.rd (b.extract 8 10) = X at c1 ⊢
  have H := Lib.hid c1
  clear c1 z1
  have t2 : (10 : Int) ≤ (b.size : Int) := by omega
  go_enter Try.func89, Try.ntmps89
  go_wp2_with fail
  refine (H.out _).mono ?_
  rintro e w1 ⟨rfl, hw⟩
  subst hw
  go_wp2_with fail
  go_ret
  exact ⟨rfl, rfl⟩

/-- the text, cut out in two parts -/
def Sl.txt (b : ByteArray) : ByteArray := (Sl.all b).extract 0 (Sl.len b).toNat
theorem Sl.ext_app (b : ByteArray) (i j k l : Nat) : (b.extract i j ++ b.extract k l).data.toList = (b.data.toList.drop i).take (j - i) ++ (b.data.toList.drop k).take (l - k) := by
  rw [ByteArray.data_append, Array.toList_append, Sl.ext_list, Sl.ext_list]
theorem Sl.txt_short (b : ByteArray) (hb : b.size = 512) (n : Nat) (h : n ≤ 246) : b.extract 10 (10 + n) = (Sl.all b).extract 0 n := by
  apply Sl.ba_ext
  have hl : ((b.data.toList.drop 10).take 246).length = 246 := by rw [List.length_take, List.length_drop, ← Sl.size_list]; omega
  rw [Sl.ext_list, Sl.ext_first]
  unfold Sl.all
  rw [Sl.ext_app, show 256 - 10 = 246 from rfl, List.take_append_of_le_length (by omega), List.take_take, show min n 246 = n by omega, show 10 + n - 10 = n by omega]
theorem Sl.txt_long (b : ByteArray) (hb : b.size = 512) (n : Nat) (h : 246 ≤ n) (h2 : n ≤ 490) : b.extract 10 256 ++ b.extract 264 (264 + n - 246) = (Sl.all b).extract 0 n := by
  apply Sl.ba_ext
  have hl : ((b.data.toList.drop 10).take 246).length = 246 := by rw [List.length_take, List.length_drop, ← Sl.size_list]; omega
  rw [Sl.ext_app, Sl.ext_first]
  unfold Sl.all
  rw [Sl.ext_app, show 256 - 10 = 246 from rfl, show 508 - 264 = 244 from rfl, List.take_append, hl, List.take_of_length_le (by omega : ((b.data.toList.drop 10).take 246).length ≤ n), List.take_take, show min (n - 246) 244 = 264 + n - 246 - 264 by omega]
set_option maxRecDepth 100000 in
set_option maxHeartbeats 800000 in
theorem text5_any (b : ByteArray) (hb : b.size = 512) (hl : Sl.len b ≤ 490) (w : World) :
    Calls Try.prog 90 #[.string b] w fun e w' => e = .returned (.string (Sl.txt b)) ∧ ∃ n, w' = w.drewN n := by
  obtain ⟨n, hn⟩ : ∃ n : Nat, Sl.len b = (n : Int) := ⟨_, (Int.toNat_of_nonneg (Sl.len_bound b).1).symm⟩
  have c1 := fun w => length_any b hb w
  have e : Sl.txt b = (Sl.all b).extract 0 n := by unfold Sl.txt; rw [hn, Int.toNat_natCast]
  rw [hn] at c1 hl
  rw [e]
  have hn490 : n ≤ 490 := by omega
  by_cases h : n ≤ 246
  · rw [← Sl.txt_short b hb n h]
    have H := Lib.hid c1
    have m : min (n : Int) 246 = (n : Int) := by omega
    clear c1 e hn
    have t1 : (10 : Int) ≤ 10 + (n : Int) := by omega
    have t2 : 10 + (n : Int) ≤ (b.size : Int) := by omega
    have t3 : (264 : Int) ≤ (b.size : Int) := by omega
    have t4 : (264 : Int) + (n : Int) - (n : Int) = 264 := by omega
    go_enter Try.func90, Try.ntmps90
    go_wp2_with fail
    refine (H.out _).mono ?_
    rintro e w1 ⟨rfl, hw⟩
    subst hw
    go_wp2_with fail
    go_quiet (fail)
    go_wp2_with fail
    go_ret
    exact ⟨rfl, _, rfl⟩
  · rw [← Sl.txt_long b hb n (by omega) hn490]
    have H := Lib.hid c1
    have m : min (n : Int) 246 = 246 := by omega
    clear c1 e hn
    have t1 : (264 : Int) ≤ 264 + (n : Int) - 246 := by omega
    have t2 : 264 + (n : Int) - 246 ≤ (b.size : Int) := by omega
    go_enter Try.func90, Try.ntmps90
    go_wp2_with fail
    refine (H.out _).mono ?_
    rintro e w1 ⟨rfl, hw⟩
    subst hw
    go_wp2_with fail
    go_quiet (fail)
    go_wp2_with fail
    go_ret
    exact ⟨rfl, _, rfl⟩
end Go.Proofs.Ytedemehlccmkpaa

/-
  A region that draws its order, whose operations but the last ones (these in one forced order) read, or call what makes memory of its own and always hands back the same: one walk, in the order of the text. What the kit has for one world ('wp_region_still_tail') and for a class of worlds without a tail ('wp_region_quiet'), put together.
-/
namespace Go.Proofs.Ytedemehlccmkpaa
open Go.RowKit

section
variable {P : Program} {ops : Array Oper} {md : Region.Mode} {C : World → Prop}
/-- whatever order is picked among the first n -/
def HeadQ (P : Program) (md : Region.Mode) (ops : Array Oper) (C : World → Prop) (n : Nat) (L : Array Bool → Act → Prop) : Nat → Array Bool → Act → Prop
  | 0, listed, a => L listed a
  | f + 1, listed, a => Region.ready md ops listed ≠ [] ∧ ∀ i ∈ Region.ready md ops listed, i < n ∧ qOp P ops C i (HeadQ P md ops C n L f (listed.setIfInBounds i true)) a
theorem headQ_any {n g : Nat} {L : Array Bool → Act → Prop} {Q : Exit → Act → World → Prop} (hL : ∀ listed a, L listed a → ∀ w, C w → wpAny P md ops Q g listed a w) :
    ∀ (f : Nat) (listed : Array Bool) (a : Act), HeadQ P md ops C n L f listed a → ∀ w, C w → wpAny P md ops Q (f + g) listed a w := by
  intro f
  induction f with
  | zero => intro listed a h w hw; rw [Nat.zero_add]; exact hL _ _ h w hw
  | succ f ih =>
    intro listed a h w hw
    rw [show f + 1 + g = (f + g) + 1 by omega]
    exact ⟨fun h0 => absurd h0 h.1, fun i hi => wpOp_of_qOp hw (fun a' w' hw' k => ih _ a' k w' hw') (h.2 i hi).2⟩
theorem headQ_first {n i : Nat} {oi : Oper} {v : Value} {L : Array Bool → Act → Prop} (hi : ops[i]? = some oi) (hsel : ∀ (j : Nat) (o : Oper) cs b, ops[j]? = some o → o.op ≠ .select cs b)
    (hs : Region.sinkB md ops n = true) (hc : Region.chainB md ops n = true) (hn : n < ops.size) (hin : i < n) (hdone : ∀ listed a, L listed a → ∀ j ∈ Region.ready md ops listed, n ≤ j) :
    ∀ (f : Nat) (listed : Array Bool) (a : Act), HeadInv md ops n listed →
      (∀ j oj, ops[j]? = some oj → j ≠ i → listed.getD j true = false → (∀ e ∈ oj.after, Region.binds md e = true → e.on ≠ i) → oi.apart ops oj = true) →
      i ∈ Region.ready md ops listed → YieldsIn P ops C oi v a → HeadQ P md ops C n L f (listed.setIfInBounds i true) (a.put oi.dst v) → HeadQ P md ops C n L (f + 1) listed a := by
  intro f
  induction f with
  | zero =>
    intro listed a inv _ hr hy H
    have hun := (mem_ready.1 hr).1
    refine ⟨fun h => (by rw [h] at hr; cases hr), fun j hj => ?_⟩
    have hjn : j < n := Nat.lt_of_not_le fun h => absurd hj (tail_waits hs hc hn inv _ i rfl hin hun j h)
    refine ⟨hjn, ?_⟩
    by_cases hji : j = i
    · subst hji; exact hy.qOp hi H
    · have := hdone _ _ H j (ready_mono hj hji)
      omega
  | succ f ih =>
    intro listed a inv hfree hr hy H
    have hun := (mem_ready.1 hr).1
    refine ⟨fun h => (by rw [h] at hr; cases hr), fun j hj => ?_⟩
    have hjn : j < n := Nat.lt_of_not_le fun h => absurd hj (tail_waits hs hc hn inv _ i rfl hin hun j h)
    refine ⟨hjn, ?_⟩
    by_cases hji : j = i
    · subst hji; exact hy.qOp hi H
    · have h1 := (H.2 j (ready_mono hj hji)).2
      obtain ⟨hjun, oj, hoj, hall⟩ := mem_ready.1 hj
      have hnot : ∀ e ∈ oj.after, Region.binds md e = true → e.on ≠ i := fun e he hb heq => by
        have h2 := hall e he hb
        rw [heq, getD_both hun] at h2
        cases h2
      have h2 := qOp_put hoj (hfree j oj hoj hji hjun hnot) (fun cs b => hsel i oi cs b hi) (fun cs b => hsel j oj cs b hoj) hy h1
      refine qOp_mono (fun a' h3 => ih (listed.setIfInBounds j true) a' (inv.set hj hjn) (fun k ok hk hki hunk hno => hfree k ok hk hki ?_ hno) (ready_mono hr (Ne.symm hji)) h3.1 ?_) h2
      · by_cases hjk : j = k
        · subst hjk; exact hjun
        · rw [getD_set_ne true hjk] at hunk; exact hunk
      · rw [Array.setIfInBounds_comm _ _ hji]
        exact h3.2
theorem headQ_lex {n g : Nat} {Lq : Act → Prop} (hsel : Region.noSelect ops = true) (hs : Region.sinkB md ops n = true) (hc : Region.chainB md ops n = true) (hn : n < ops.size) :
    ∀ (l : List Oper) (k : Nat) (listed : Array Bool) (a : Act), (∀ j, j < l.length → l[j]? = ops[k + j]?) → k + l.length = n → HeadInv md ops n listed →
    Region.lexHead md ops g l.length k listed = true → wpQuiet P ops C Lq l a → HeadQ P md ops C n (fun listed' a' => Region.seqB md ops g n listed' = true ∧ Lq a') l.length listed a := by
  intro l
  induction l with
  | nil =>
    intro k listed a _ hk _ hB h
    obtain rfl : k = n := by simpa using hk
    exact ⟨by simpa [Region.lexHead] using hB, h⟩
  | cons o l ih =>
    intro k listed a hl hk inv hB h
    have h0 : ops[k]? = some o := by simpa using (hl 0 (by simp)).symm
    simp only [List.length_cons, Region.lexHead, Bool.and_eq_true] at hB
    obtain ⟨⟨hr, hf⟩, hB'⟩ := hB
    have hkn : k < n := by simp only [List.length_cons] at hk; omega
    have hr' : k ∈ Region.ready md ops listed := by simpa using hr
    have hst : qOp P ops C k (wpQuiet P ops C Lq l) a := by unfold qOp; simp only [h0]; exact h
    obtain ⟨v, hy, hK⟩ := yieldsIn_of_qOp h0 hst
    exact headQ_first h0 (Region.noSelect_spec hsel) hs hc hn hkn (fun listed' a' hL => seqB_ready hL.1) l.length listed a inv (Region.free_spec h0 hf) hr' hy
      (ih (k + 1) _ _ (fun j hj => by have := hl (j + 1) (by simp; omega); simpa [Nat.add_assoc, Nat.add_comm 1 j] using this) (by simp only [List.length_cons] at hk; omega) (inv.set hr' hkn) hB' hK)
/-- the law -/
theorem wp_region_quiet_tail {id : Nat} {Q : Exit → Act → World → Prop} {a : Act} {w : World} {l : List Oper} (n : Nat) (hm : P.follows .mixedOrders = true) (hB : Region.lexTailB .any l.toArray n = true) (hC : C w.drew)
    (h : wpQuiet P l.toArray C (fun a' => ∀ w', C w' → wpList P l.toArray Q (l.drop n) a' w') (l.take n) a) : (Code.region id l.toArray true).wp P Q a w := by
  simp only [Region.lexTailB, Bool.and_eq_true, decide_eq_true_eq] at hB
  obtain ⟨⟨⟨⟨hsel, hn⟩, hs⟩, hc⟩, hlex⟩ := hB
  have hn' : n < l.length := by simpa using hn
  have htl : (l.take n).length = n := by simp; omega
  have hdl : (l.drop n).length = l.toArray.size - n := by simp
  have inv0 : HeadInv .any l.toArray n (Array.replicate l.toArray.size false) :=
    ⟨by simp, fun j oj _ hl => (by rw [getD_replicate_false] at hl; cases hl), fun t _ ht => getD_in (by simpa using ht) (getD_replicate_false _ _)⟩
  have H := headQ_lex (md := .any) (g := l.toArray.size - n) hsel hs hc hn (l.take n) 0 _ a (fun j hj => by
    have hj' : j < n := by rw [htl] at hj; exact hj
    simp [hj']) (by simpa using htl) inv0 (by rw [htl]; exact hlex) h
  refine wp_region_any hm ?_
  have := headQ_any (Q := Q) (g := l.toArray.size - n) (fun listed a' hL w' hw' => by
    have := wpAny_of_seq (md := .any) (Q' := Q) (l.drop n) n listed a' w' (fun j => by simp [List.getElem?_drop]) (by rw [hdl]; exact hL.1) (hL.2 w' hw')
    rwa [hdl] at this) _ _ _ H w.drew hC
  rw [htl, show n + (l.toArray.size - n) = l.toArray.size by omega] at this
  exact this
/-- a load of an array or a struct, in whatever class of worlds -/
theorem wpQuiet_load_rows {Q : Act → Prop} {op : Oper} {rest : List Oper} {a : Act} (hgd : op.guard = none) (ty : TypeId) (x : Operand) (ho : op.op = .load ty x)
    (b o : Nat) (hx : a.eval x = .pointer (some ⟨b, o, none⟩)) (cs : Array Value) (hc : ∀ w, C w → (loadVar ty ⟨b, o, none⟩).run P w = .ok (.agg cs) w)
    (h : wpQuiet P ops C Q rest (a.put op.dst (.agg cs))) : wpQuiet P ops C Q (op :: rest) a := by
  refine wpQuiet_step fun K hK => ?_
  have hw : Region.wanted op (yielded ops a.tmps) = true := by simp [Region.wanted, hgd]
  rw [if_pos hw]
  refine ⟨.agg cs, ?_, hK _ h⟩
  intro w' hw'
  unfold Oper.quietAt execOp
  simp only [ho, hx, Instr.loadAt, Instr.sureAddr, Sem.run_bind, Sem.run_pure, Result.andThen_ok, hc w' hw']
  exact ⟨rfl, rfl⟩
/-- a call by its contract, in whatever class of worlds -/
theorem wpQuiet_call {Q : Act → Prop} {op : Oper} {rest : List Oper} {a : Act} (hgd : op.guard = none) (f : FuncId) (args : Array Value) (v : Value) (hrun : ∀ w, C w → (execOp a.eval op).run P w = .ok (.enter f args) w)
    (hc : ∀ w, C w → Calls P f args w fun e w' => e = .returned v ∧ C w') (h : wpQuiet P ops C Q rest (a.put op.dst v)) : wpQuiet P ops C Q (op :: rest) a := by
  refine wpQuiet_step fun K hK => ?_
  have hw : Region.wanted op (yielded ops a.tmps) = true := by simp [Region.wanted, hgd]
  rw [if_pos hw]
  refine ⟨v, ?_, hK _ h⟩
  intro w' hw'
  unfold Oper.quietAt
  rw [hrun w' hw']
  exact ⟨rfl, hc w' hw'⟩
/-- any operation that only reads -/
theorem wpQuiet_value {Q : Act → Prop} {op : Oper} {rest : List Oper} {a : Act} (hgd : op.guard = none) (v : Value) (hrun : ∀ w, C w → (execOp a.eval op).run P w = .ok (.value v) w)
    (h : wpQuiet P ops C Q rest (a.put op.dst v)) : wpQuiet P ops C Q (op :: rest) a := by
  refine wpQuiet_step fun K hK => ?_
  have hw : Region.wanted op (yielded ops a.tmps) = true := by simp [Region.wanted, hgd]
  rw [if_pos hw]
  refine ⟨v, ?_, hK _ h⟩
  intro w' hw'
  unfold Oper.quietAt
  rw [hrun w' hw']
  exact ⟨rfl, rfl⟩
/-- one step that only reads; its value is found by the walk -/
theorem wpQuiet_read {Q : Act → Prop} {op : Oper} {rest : List Oper} {a : Act} (h : ∃ v, (Region.wanted op (yielded ops a.tmps) = true ∧ ∀ w, C w → (execOp a.eval op).run P w = .ok (.value v) w) ∧ wpQuiet P ops C Q rest (a.put op.dst v)) : wpQuiet P ops C Q (op :: rest) a := by
  obtain ⟨v, ⟨h1, h2⟩, h3⟩ := h
  refine wpQuiet_step fun K hK => ?_
  rw [if_pos h1]
  refine ⟨v, ?_, hK _ h3⟩
  intro w' hw'
  unfold Oper.quietAt
  rw [h2 w' hw']
  exact ⟨rfl, rfl⟩
end
end Go.Proofs.Ytedemehlccmkpaa

/-
  Texts, one behind the other, as bytes; slices of one, two strings that a call makes.
-/
namespace Go.Proofs.Ytedemehlccmkpaa
open Go.RowKit

/-- texts, one behind the other -/
def catB (l : List ByteArray) : List UInt8 := l.flatMap fun s => s.data.toList
theorem catB_take (l : List ByteArray) (k : Nat) (h : k < l.length) : catB (l.take (k + 1)) = catB (l.take k) ++ (l[k]).data.toList := by
  unfold catB; rw [List.take_succ_eq_append_getElem h, List.flatMap_append]; simp
theorem catB_one (s : ByteArray) : catB [s] = s.data.toList := by simp [catB]
theorem catB_two (s t : ByteArray) : catB [s, t] = s.data.toList ++ t.data.toList := by simp [catB]
theorem catB_le (l : List ByteArray) (k : Nat) : (catB (l.take k)).length ≤ (catB l).length := by
  have : catB l = catB (l.take k) ++ catB (l.drop k) := by unfold catB; rw [← List.flatMap_append, List.take_append_drop]
  rw [this, List.length_append]; omega
theorem byte_take (s : ByteArray) (k : Nat) (h : k < s.size) : s.data.toList.take (k + 1) = s.data.toList.take k ++ [s[k]] := by
  rw [List.take_succ_eq_append_getElem (by simpa using h)]; rfl
theorem reads_one (w : World) (s : ByteArray) (t : TypeId) : ReadsS (w.alloc (.cells #[.string s] t)) (some ⟨w.heap.size, 0, none⟩) [s] := by
  intro i hi
  refine ⟨_, _, rfl, ?_⟩
  obtain rfl : i = 0 := by simp at hi; omega
  rw [cell_of_row _ _ _ #[.string s] t (0, 0) (heap_alloc_new w _)]; rfl
theorem reads_two (w : World) (x y : ByteArray) (t : TypeId) : ReadsS (w.alloc (.cells #[.string x, .string y] t)) (some ⟨w.heap.size, 0, none⟩) [x, y] := by
  intro i hi
  refine ⟨_, _, rfl, ?_⟩
  rw [cell_of_row _ _ _ #[.string x, .string y] t (0, 0) (heap_alloc_new w _)]
  simp at hi
  match i, hi with
  | 0, _ => rfl
  | 1, _ => rfl
theorem below_made {w w' : World} {o : Obj} (h : Below (w.alloc o).heap.size (w.alloc o) w') : Below w.heap.size w w' :=
  ((Below.refl _ w).alloc (Nat.le_refl _) o).trans (h.mono (by simp))
end Go.Proofs.Ytedemehlccmkpaa

/-
  Layer 5: the block itself, laid in an array, and by the document.
-/
namespace Go.Proofs.Ytedemehlccmkpaa
open Go.RowKit

theorem arr508_zero : (Try.prog.info? 125).map (fun i => (i.zero, i.size)) = some (some (.agg (valB (List.replicate 508 0)).toArray), 508) := by kernel_rfl
theorem arr512_zero : (Try.prog.info? 90).map (fun i => (i.zero, i.size)) = some (some (.agg (valB (List.replicate 512 0)).toArray), 512) := by kernel_rfl

set_option maxRecDepth 100000 in
set_option maxHeartbeats 800000 in
theorem empty5_any (b : ByteArray) (w : World) :
    Calls Try.prog 88 #[.string b] w fun e w' => e = .returned (.bool (decide (b = Sl.zeros))) ∧ Below w.heap.size w w' := by
  have hz := (zero_of_info (P := Try.prog) arr512_zero).1
  have h0 := laid_new w 90 512 (List.replicate 512 0) List.length_replicate
  have hl : (⟨(List.replicate 512 0).toArray⟩ : ByteArray) = Sl.zeros := rfl
  have hconv := laid_conv h0
  rw [hl] at hconv
  have HB := Lib.hid h0.below
  clear h0 hl
  generalize valB (List.replicate 512 0) = Z at *
  generalize Sl.zeros = Y at *
  go_enter Try.func88, Try.ntmps88
  go_wp2_with fail
  go_ret
  exact ⟨by simp; exact ba_beq, HB.out⟩

/-- what the array holds in the end -/
theorem Sl.laid_pre (n : Int) (s : List UInt8) (c : Nat) (hc : c = min s.length 246) (hs : s.length ≤ 490) :
    spl (spl (spl (spl (spl (List.replicate 508 0) 0 (Oct.fix n 8)) 8 (Oct.fix s.length 2)) 10 (s.take c)) 256 (Oct.fix n 8)) 264 (s.drop c) = Sl.pre n s := by
  have l8 := Oct.fix_len n 8
  have l2 := Oct.fix_len s.length 2
  have lc : (s.take c).length = c := by rw [List.length_take]; omega
  have ld : (s.drop c).length = s.length - c := List.length_drop
  have e1 : spl (List.replicate 508 0) 0 (Oct.fix n 8) = Oct.fix n 8 ++ List.replicate 500 0 := by
    have := spl_end [] (Oct.fix n 8) 0 508 rfl (by omega)
    rw [l8, List.nil_append, List.nil_append] at this
    exact this
  have e2 : spl (Oct.fix n 8 ++ List.replicate 500 0) 8 (Oct.fix s.length 2) = Oct.fix n 8 ++ Oct.fix s.length 2 ++ List.replicate 498 0 := by
    have := spl_end (Oct.fix n 8) (Oct.fix s.length 2) 8 500 l8 (by omega)
    rw [l2] at this; exact this
  have e3 : spl (Oct.fix n 8 ++ Oct.fix s.length 2 ++ List.replicate 498 0) 10 (s.take c) = (Oct.fix n 8 ++ Oct.fix s.length 2 ++ s.take c ++ List.replicate (246 - c) 0) ++ List.replicate 252 0 := by
    rw [spl_end _ (s.take c) 10 498 (by rw [List.length_append]; omega) (by omega), lc, List.append_assoc _ (List.replicate (246 - c) 0), List.replicate_append_replicate, show 498 - c = 246 - c + 252 by omega]
  have e4 : spl ((Oct.fix n 8 ++ Oct.fix s.length 2 ++ s.take c ++ List.replicate (246 - c) 0) ++ List.replicate 252 0) 256 (Oct.fix n 8) = (Oct.fix n 8 ++ Oct.fix s.length 2 ++ s.take c ++ List.replicate (246 - c) 0) ++ Oct.fix n 8 ++ List.replicate 244 0 := by
    have := spl_end (Oct.fix n 8 ++ Oct.fix s.length 2 ++ s.take c ++ List.replicate (246 - c) 0) (Oct.fix n 8) 256 252 (by simp only [List.length_append, List.length_replicate]; omega) (by omega)
    rw [l8] at this; exact this
  have e5 : spl ((Oct.fix n 8 ++ Oct.fix s.length 2 ++ s.take c ++ List.replicate (246 - c) 0) ++ Oct.fix n 8 ++ List.replicate 244 0) 264 (s.drop c) = (Oct.fix n 8 ++ Oct.fix s.length 2 ++ s.take c ++ List.replicate (246 - c) 0) ++ Oct.fix n 8 ++ s.drop c ++ List.replicate (244 - (s.length - c)) 0 := by
    have := spl_end ((Oct.fix n 8 ++ Oct.fix s.length 2 ++ s.take c ++ List.replicate (246 - c) 0) ++ Oct.fix n 8) (s.drop c) 264 244 (by simp only [List.length_append, List.length_replicate]; omega) (by omega)
    rw [ld] at this; exact this
  rw [e1, e2, e3, e4, e5]
  have f : s.take c ++ List.replicate (246 - c) 0 = (Sl.body s).take 246 ∧ s.drop c ++ List.replicate (244 - (s.length - c)) 0 = (Sl.body s).drop 246 := by
    by_cases h : s.length ≤ 246
    · obtain rfl : c = s.length := by omega
      exact ⟨by rw [List.take_of_length_le (Nat.le_refl _)]; exact Sl.front_short s h, by rw [List.drop_of_length_le (Nat.le_refl _), List.nil_append, Nat.sub_self]; exact Sl.back_short s h⟩
    · obtain rfl : c = 246 := by omega
      exact ⟨by rw [Nat.sub_self, List.replicate_zero, List.append_nil]; exact Sl.front_long s (by omega), Sl.back_long s (by omega)⟩
  unfold Sl.pre
  rw [← f.1, ← f.2]
  simp only [List.append_assoc]
theorem Sl.seal_blk (n : Int) (s : List UInt8) : Crc.sealB ⟨(Sl.pre n s).toArray⟩ = ⟨(Sl.blk n s).toArray⟩ := by
  apply Sl.ba_ext
  rw [sealB_list]; rfl

set_option maxRecDepth 100000 in
set_option maxHeartbeats 1600000 in
theorem sealed_any (n : Int) (s : ByteArray) (hs : s.size ≤ 490) (w : World) :
    Calls Try.prog 63 #[.int .i64 n, .string s] w fun e w' => e = .returned (.string ⟨(Sl.blk n s.data.toList).toArray⟩) ∧ Below w.heap.size w w' := by
  have hz := (zero_of_info (P := Try.prog) arr508_zero).1
  have h0 := laid_new w 125 508 (List.replicate 508 0) List.length_replicate
  obtain ⟨c, hc⟩ : ∃ c : Nat, c = min s.size 246 := ⟨_, rfl⟩
  have hcm : ∀ (ts : Array TypeId) (t : TypeId) (W : World), (Builtin.min_ ts t #[.int .i64 (s.size : Int), .int .i64 246]).run Try.prog W = .ok (.int .i64 (c : Int)) W := fun ts t W => by
    have e : (if (246 : Int) < (s.size : Int) then (246 : Int) else (s.size : Int)) = (c : Int) := by split <;> omega
    simp [Builtin.min_, Builtin.min2, e]
  have c1 : c ≤ s.size := by omega
  have c2 : c ≤ 246 := by omega
  have c3 : s.size - c ≤ 244 := by omega
  have e8 : Oct.cnt 8 = 8 := by decide
  have e2 : Oct.cnt 2 = 2 := by decide
  have f8 := fun w => fixed_any n 8 w
  have f2 := fun w => fixed_any (s.size : Int) 2 w
  rw [e8] at f8
  rw [e2] at f2
  have hend := Sl.laid_pre n s.data.toList c (by rw [← Sl.size_list]; exact hc) (by rw [← Sl.size_list]; exact hs)
  have l8 := Oct.fix_len n 8
  have l2 := Oct.fix_len (s.size : Int) 2
  rw [← Sl.size_list] at hend
  have hx1 : (s.extract 0 c).data.toList = s.data.toList.take c := Sl.ext_first s c
  have hx2 : (s.extract c s.size).data.toList = s.data.toList.drop c := ext_back s c
  have z1 : (s.extract 0 c).size = c := by rw [ByteArray.size_extract]; omega
  have z2 : (s.extract c s.size).size = s.size - c := by rw [ByteArray.size_extract]; omega
  rw [← hx1, ← hx2] at hend
  have hfin := Sl.seal_blk n s.data.toList
  have hpl : (Sl.pre n s.data.toList).length = 508 := Sl.pre_len n _ (by rw [← Sl.size_list]; exact hs)
  rw [← hend] at hfin hpl
  rw [← hfin]
  clear hfin
  generalize hR : Crc.sealB _ = R
  generalize Oct.fix n 8 = F8 at *
  generalize Oct.fix (s.size : Int) 2 = F2 at *
  have b8 : (⟨F8.toArray⟩ : ByteArray).size = 8 := by rw [Sl.size_list]; exact l8
  have b2 : (⟨F2.toArray⟩ : ByteArray).size = 2 := by rw [Sl.size_list]; exact l2
  have d8 : (⟨F8.toArray⟩ : ByteArray).data.toList = F8 := rfl
  have d2 : (⟨F2.toArray⟩ : ByteArray).data.toList = F2 := rfl
  generalize (⟨F8.toArray⟩ : ByteArray) = B8 at *
  generalize (⟨F2.toArray⟩ : ByteArray) = B2 at *
  subst d8 d2
  have hsl : ∀ x : List UInt8, x.length = 508 → (⟨x.toArray⟩ : ByteArray).size ≤ 140737488355323 := fun x h => by rw [Sl.size_list]; show x.length ≤ _; omega
  have hv : valB (List.replicate 508 0) = valB (List.replicate 508 0) := rfl
  generalize hLZ : List.replicate 508 (0 : UInt8) = LZ at *
  have HH := Lib.hid (And.intro f8 (And.intro f2 (And.intro h0 (And.intro hpl (And.intro (hsl _ hpl) hR)))))
  clear f8 f2 h0 hpl hsl hx1 hx2 hend hR hc hv e8 e2 hLZ l8 l2 hs
  go_enter Try.func63, Try.ntmps63
  go_wp2_with fail
  have h0 := HH.out.2.2.1
  generalize hw0 : World.alloc _ _ = w0 at *
  clear hw0
  refine (HH.out.1 _).mono ?_
  rintro e w1 ⟨rfl, hb⟩
  have h1 := laid_below h0 hb
  have t1 := laid_there h1 0 508 (by omega)
  have H1 := Lib.hid h1
  clear h0 h1 hb
  go_wp2_with (refine wpList_copy_str rfl (.tmp 13) (.tmp 14) 84 9 rfl 5 Try.underlying84 one_byte w.heap.size 0 508 508 rfl B8 rfl (by omega) t1 ?_)
  have h1 := laid_put H1.out 0 B8 (by omega)
  clear H1 t1
  generalize hp1 : spl LZ 0 B8.data.toList = p1 at *
  generalize hw2 : World.setCells _ _ _ _ = w2 at *
  clear hw2 hp1
  refine wp_region_quiet_tail (C := fun w' => Laid w w' w.heap.size 125 508 p1) 4 (by kernel_rfl) (by kernel_rfl) (laid_drew h1) ?_
  simp only [List.take_succ_cons, List.take_zero, List.drop_succ_cons, List.drop_zero]
  iterate 3
    refine wpQuiet_read ?_
    apply Exists.intro
    refine ⟨⟨by rfl, fun wx hSx => ?_⟩, ?_⟩
    · go_simp
      with_reducible rfl
    simp only [Act.put, List.setIfInBounds_toArray, List.set_cons_zero, List.set_cons_succ]
  refine wpQuiet_call rfl 73 #[.int .i64 (s.size : Int), .int .i64 2] (.string B2) (fun wx hSx => by go_simp) (fun wx hSx => (HH.out.2.1 wx).mono fun e w' hh => ⟨hh.1, laid_below hSx hh.2⟩) ?_
  simp only [Act.put, List.setIfInBounds_toArray, List.set_cons_zero, List.set_cons_succ]
  refine wpQuiet_nil ?_
  intro w3 h3
  have t3 := laid_there h3 8 500 (by omega)
  have H3 := Lib.hid h3
  clear h3 h1
  go_wp2_with (refine wpList_copy_str rfl (.tmp 16) (.tmp 19) 84 9 rfl 5 Try.underlying84 one_byte w.heap.size 8 500 500 rfl B2 rfl (by omega) t3 ?_)
  have h4 := laid_put H3.out 8 B2 (by omega)
  clear H3 t3
  generalize hp2 : spl p1 8 B2.data.toList = p2 at *
  generalize hw4 : World.setCells _ _ _ _ = w4 at *
  clear hw4 hp2
  have H4 := Lib.hid h4
  clear h4
  have u1 : (c : Int) ≤ (s.size : Int) := by omega
  go_still_tail 4, (by kernel_rfl)
  change wpList _ _ _ _ _ w4.drew
  have h4 := laid_drew H4.out
  generalize w4.drew = w5 at *
  have t5 := laid_there h4 10 498 (by omega)
  have H5 := Lib.hid h4
  clear h4 H4
  refine wpList_copy_str rfl (.tmp 21) (.tmp 24) 84 9 rfl 5 Try.underlying84 one_byte w.heap.size 10 498 498 rfl (s.extract 0 c) rfl (by omega) t5 ?_
  have h6 := laid_put H5.out 10 (s.extract 0 c) (by omega)
  clear H5 t5
  generalize hp3 : spl p2 10 (s.extract 0 c).data.toList = p3 at *
  generalize hw6 : World.setCells _ _ _ _ = w6 at *
  clear hw6 hp3
  have t6 := laid_there h6 256 252 (by omega)
  have H6 := Lib.hid h6
  clear h6
  go_wp2_with (refine wpList_copy_str rfl (.tmp 26) (.tmp 27) 84 9 rfl 5 Try.underlying84 one_byte w.heap.size 256 252 252 rfl B8 rfl (by omega) t6 ?_)
  have h7 := laid_put H6.out 256 B8 (by omega)
  clear H6 t6
  generalize hp4 : spl p3 256 B8.data.toList = p4 at *
  generalize hw7 : World.setCells _ _ _ _ = w7 at *
  clear hw7 hp4
  have H7 := Lib.hid h7
  clear h7
  go_still_tail 4, (by kernel_rfl)
  change wpList _ _ _ _ _ w7.drew
  have h7 := laid_drew H7.out
  generalize w7.drew = w8 at *
  have t8 := laid_there h7 264 244 (by omega)
  have H8 := Lib.hid h7
  clear h7 H7
  refine wpList_copy_str rfl (.tmp 29) (.tmp 32) 84 9 rfl 5 Try.underlying84 one_byte w.heap.size 264 244 244 rfl (s.extract c s.size) rfl (by omega) t8 ?_
  have h9 := laid_put H8.out 264 (s.extract c s.size) (by omega)
  clear H8 t8
  generalize hp5 : spl p4 264 (s.extract c s.size).data.toList = p5 at *
  generalize hw9 : World.setCells _ _ _ _ = w9 at *
  clear hw9 hp5
  have hconv := laid_conv h9
  have H9 := Lib.hid h9.below
  clear h9
  go_wp2_with fail
  refine (seal_any _ _ HH.out.2.2.2.2.1).mono ?_
  rintro e w10 ⟨rfl, hb⟩
  have HE := Lib.hid (below_two H9.out hb)
  clear hb
  go_wp2_with fail
  go_ret
  exact ⟨ret_str HH.out.2.2.2.2.2, HE.out⟩
end Go.Proofs.Ytedemehlccmkpaa

/-
  Layer 5: the block by the document.
-/
namespace Go.Proofs.Ytedemehlccmkpaa
open Go.RowKit

/-! ### by the document -/
theorem Sl.doc_short (n : Int) (s : List UInt8) (h : s.length ≤ 246) :
    Oct.fix n 8 ++ Oct.fix s.length 2 ++ s ++ List.replicate (246 - s.length) 0 ++ Oct.fix n 8 ++ [] ++ List.replicate 244 0 = Sl.pre n s := by
  unfold Sl.pre
  rw [← Sl.front_short s h, ← Sl.back_short s h]
  simp only [List.append_assoc, List.nil_append]
theorem Sl.doc_long (n : Int) (s : List UInt8) (h : 246 < s.length) :
    Oct.fix n 8 ++ Oct.fix s.length 2 ++ s.take 246 ++ [] ++ Oct.fix n 8 ++ s.drop 246 ++ List.replicate (244 - (s.length - 246)) 0 = Sl.pre n s := by
  unfold Sl.pre
  rw [← Sl.front_long s h, ← Sl.back_long s h]
  simp only [List.append_assoc, List.nil_append]
theorem Sl.cat_list (a b : ByteArray) : (a ++ b).data.toList = a.data.toList ++ b.data.toList := by rw [ByteArray.data_append, Array.toList_append]
theorem Sl.zer_list (n : Nat) : (Sl.zer n).data.toList = List.replicate n 0 := rfl

set_option maxRecDepth 100000 in
set_option maxHeartbeats 1600000 in
theorem rblock_any (n : Int) (s : ByteArray) (hs : s.size ≤ 490) (w : World) :
    Calls Try.prog 67 #[.int .i64 n, .string s] w fun e w' => e = .returned (.string ⟨(Sl.blk n s.data.toList).toArray⟩) ∧ Below w.heap.size w w' := by
  have e8 : Oct.cnt 8 = 8 := by decide
  have e2 : Oct.cnt 2 = 2 := by decide
  have f8 := fun w => rfixed_any n 8 w
  have f2 := fun w => rfixed_any (s.size : Int) 2 w
  rw [e8] at f8
  rw [e2] at f2
  have l8 := Oct.fix_len n 8
  have l2 := Oct.fix_len (s.size : Int) 2
  have hfin := Sl.seal_blk n s.data.toList
  have hsl := Sl.size_list s
  have b8 : (⟨(Oct.fix n 8).toArray⟩ : ByteArray).size = 8 := by rw [Sl.size_list]; exact l8
  have b2 : (⟨(Oct.fix (s.size : Int) 2).toArray⟩ : ByteArray).size = 2 := by rw [Sl.size_list]; exact l2
  have hpl : (⟨(Sl.pre n s.data.toList).toArray⟩ : ByteArray).size ≤ 140737488355323 := by
    rw [Sl.size_list]; have := Sl.pre_len n s.data.toList (by omega); show (Sl.pre n s.data.toList).length ≤ _; omega
  by_cases h : s.size ≤ 246
  · have hd := Sl.doc_short n s.data.toList (by omega)
    rw [← hsl] at hd
    have z := fun w => zeros_any (246 - s.size) (by omega) w
    have y := fun w => zeros_any 244 (by omega) w
    have ez : ((246 - s.size : Nat) : Int) = 246 - (s.size : Int) := by omega
    rw [ez] at z
    have hE : (⟨(Oct.fix n 8).toArray⟩ : ByteArray) ++ ⟨(Oct.fix (s.size : Int) 2).toArray⟩ ++ s ++ Sl.zer (246 - s.size) ++ ⟨(Oct.fix n 8).toArray⟩ ++ ⟨#[]⟩ ++ Sl.zer 244 = ⟨(Sl.pre n s.data.toList).toArray⟩ := by
      apply Sl.ba_ext
      rw [← hd]
      simp only [Sl.cat_list, Sl.zer_list]
    have zz := Sl.zer_size (246 - s.size)
    have zy := Sl.zer_size 244
    rw [← hE] at hfin hpl
    rw [← hfin]
    clear hfin
    generalize hR : Crc.sealB _ = R
    have t1 : ¬ (246 : Int) < (s.size : Int) := by omega
    generalize (⟨(Oct.fix n 8).toArray⟩ : ByteArray) = B8 at *
    generalize (⟨(Oct.fix (s.size : Int) 2).toArray⟩ : ByteArray) = B2 at *
    generalize Sl.zer (246 - s.size) = Z1 at *
    generalize Sl.zer 244 = Z2 at *
    have HH := Lib.hid (And.intro f8 (And.intro f2 (And.intro z (And.intro y (And.intro hpl hR)))))
    clear f8 f2 z y hpl hR hE hd e8 e2 l8 l2 ez hsl
    go_enter Try.func67, Try.ntmps67
    go_wp2_with fail
    refine (HH.out.1 _).mono ?_
    rintro e w1 ⟨rfl, hb⟩
    have H1 := Lib.hid hb; clear hb
    go_wp2_with fail
    refine (HH.out.2.1 _).mono ?_
    rintro e w2 ⟨rfl, hb⟩
    have H2 := Lib.hid (below_two H1.out hb); clear hb H1
    go_wp2_with fail
    refine (HH.out.2.2.1 _).mono ?_
    rintro e w3 ⟨rfl, hb⟩
    have H3 := Lib.hid (below_two H2.out hb); clear hb H2
    go_wp2_with fail
    refine (HH.out.1 _).mono ?_
    rintro e w4 ⟨rfl, hb⟩
    have H4 := Lib.hid (below_two H3.out hb); clear hb H3
    go_wp2_with fail
    refine (HH.out.2.2.2.1 _).mono ?_
    rintro e w5 ⟨rfl, hb⟩
    have H5 := Lib.hid (below_two H4.out hb); clear hb H4
    go_wp2_with fail
    refine (rseal_any _ _ HH.out.2.2.2.2.1).mono ?_
    rintro e w6 ⟨rfl, hb⟩
    have H6 := Lib.hid (below_two H5.out hb); clear hb H5
    go_wp2_with fail
    go_ret
    exact ⟨ret_str HH.out.2.2.2.2.2, H6.out⟩
  · have hd := Sl.doc_long n s.data.toList (by omega)
    rw [← hsl] at hd
    have z := fun w => zeros_any 0 (by omega) w
    have y := fun w => zeros_any (244 - (s.size - 246)) (by omega) w
    have ez : ((244 - (s.size - 246) : Nat) : Int) = 244 - ((s.size - 246 : Nat) : Int) := by omega
    rw [ez] at y
    have hE : (⟨(Oct.fix n 8).toArray⟩ : ByteArray) ++ ⟨(Oct.fix (s.size : Int) 2).toArray⟩ ++ s.extract 0 246 ++ Sl.zer 0 ++ ⟨(Oct.fix n 8).toArray⟩ ++ s.extract 246 s.size ++ Sl.zer (244 - (s.size - 246)) = ⟨(Sl.pre n s.data.toList).toArray⟩ := by
      apply Sl.ba_ext
      rw [← hd]
      simp only [Sl.cat_list, Sl.zer_list, Sl.ext_first, ext_back, List.replicate_zero]
    have zz := Sl.zer_size (244 - (s.size - 246))
    have zy := Sl.zer_size 0
    rw [← hE] at hfin hpl
    rw [← hfin]
    clear hfin
    generalize hR : Crc.sealB _ = R
    have t1 : (246 : Int) < (s.size : Int) := by omega
    have t2 : (246 : Int) ≤ (s.size : Int) := by omega
    have z1 : (s.extract 0 246).size = 246 := by rw [ByteArray.size_extract]; omega
    have z2 : (s.extract 246 s.size).size = s.size - 246 := by rw [ByteArray.size_extract]; omega
    generalize (⟨(Oct.fix n 8).toArray⟩ : ByteArray) = B8 at *
    generalize (⟨(Oct.fix (s.size : Int) 2).toArray⟩ : ByteArray) = B2 at *
    generalize Sl.zer 0 = Z1 at *
    generalize Sl.zer (244 - (s.size - 246)) = Z2 at *
    have HH := Lib.hid (And.intro f8 (And.intro f2 (And.intro z (And.intro y (And.intro hpl hR)))))
    clear f8 f2 z y hpl hR hE hd e8 e2 l8 l2 ez hsl
    go_enter Try.func67, Try.ntmps67
    go_wp2_with fail
    go_quiet (fail)
    go_wp2_with fail
    refine (HH.out.1 _).mono ?_
    rintro e w1 ⟨rfl, hb⟩
    have H1 := Lib.hid (below_two (below_drewN (Below.refl _ _) _) hb); clear hb
    go_wp2_with fail
    refine (HH.out.2.1 _).mono ?_
    rintro e w2 ⟨rfl, hb⟩
    have H2 := Lib.hid (below_two H1.out hb); clear hb H1
    go_wp2_with fail
    refine (HH.out.2.2.1 _).mono ?_
    rintro e w3 ⟨rfl, hb⟩
    have H3 := Lib.hid (below_two H2.out hb); clear hb H2
    go_wp2_with fail
    refine (HH.out.1 _).mono ?_
    rintro e w4 ⟨rfl, hb⟩
    have H4 := Lib.hid (below_two H3.out hb); clear hb H3
    go_wp2_with fail
    refine (HH.out.2.2.2.1 _).mono ?_
    rintro e w5 ⟨rfl, hb⟩
    have H5 := Lib.hid (below_two H4.out hb); clear hb H4
    go_wp2_with fail
    refine (rseal_any _ _ HH.out.2.2.2.2.1).mono ?_
    rintro e w6 ⟨rfl, hb⟩
    have H6 := Lib.hid (below_two H5.out hb); clear hb H5
    go_wp2_with fail
    go_ret
    exact ⟨ret_str HH.out.2.2.2.2.2, H6.out⟩
end Go.Proofs.Ytedemehlccmkpaa

/-
  Layer 5: what Put and Take answer, and the document's.
-/
namespace Go.Proofs.Ytedemehlccmkpaa
open Go.RowKit

theorem Sl.empty_eq : ByteArray.empty = (⟨#[]⟩ : ByteArray) := rfl
set_option maxRecDepth 100000 in
theorem put5_any (n : Int) (s : ByteArray) (hs : s.size ≤ maxLen) (w : World) :
    Calls Try.prog 37 #[.int .i64 n, .string s] w fun e w' => e = .returned (.tuple #[.string (Sl.putB n s), .int .i64 (Sl.putE n s)]) ∧ Below w.heap.size w w' := by
  unfold maxLen at hs
  have cr := fun w => right5_any n w
  by_cases h1 : 1 ≤ n ∧ n ≤ 4611686018427387904
  · rw [decide_eq_true h1] at cr
    by_cases h2 : s.size ≤ 490
    · have e1 : Sl.putE n s = 0 := Sl.putE_ok.2 ⟨h1.1, h1.2, h2⟩
      have e2 := Sl.putB_ok e1
      rw [e1, e2]
      have cs := fun w => sealed_any n s h2 w
      generalize (⟨(Sl.blk n s.data.toList).toArray⟩ : ByteArray) = R at *
      have H := Lib.hid (And.intro cr cs)
      clear cr cs h1 e1 e2
      have t1 : ¬ (490 : Int) < (s.size : Int) := by omega
      go_enter Try.func37, Try.ntmps37
      go_wp2_with fail
      refine (H.out.1 _).mono ?_
      rintro e _ ⟨rfl, rfl⟩
      go_wp2_with fail
      refine (H.out.2 _).mono ?_
      rintro e w1 ⟨rfl, hb⟩
      have HB := Lib.hid hb; clear hb
      go_wp2_with fail
      go_ret2
      exact ⟨rfl, HB.out⟩
    · have e1 : Sl.putE n s = 5 := by unfold Sl.putE; rw [if_neg (by omega), if_pos (by omega)]
      have e2 := Sl.putB_err (n := n) (s := s) (by rw [e1]; decide)
      rw [e1, e2]
      have H := Lib.hid cr
      clear cr h1 e1 e2
      have t1 : (490 : Int) < (s.size : Int) := by omega
      go_enter Try.func37, Try.ntmps37
      go_wp2_with fail
      refine (H.out _).mono ?_
      rintro e _ ⟨rfl, rfl⟩
      go_wp2_with fail
      go_ret2
      exact ⟨rfl, Below.refl _ _⟩
  · rw [decide_eq_false h1] at cr
    have e1 : Sl.putE n s = 2 := by unfold Sl.putE; rw [if_pos (by omega)]
    have e2 := Sl.putB_err (n := n) (s := s) (by rw [e1]; decide)
    rw [e1, e2]
    have H := Lib.hid cr
    clear cr h1 e1 e2
    go_enter Try.func37, Try.ntmps37
    go_wp2_with fail
    refine (H.out _).mono ?_
    rintro e _ ⟨rfl, rfl⟩
    go_wp2_with fail
    go_ret2
    exact ⟨rfl, Below.refl _ _⟩

set_option maxRecDepth 100000 in
theorem rput5_any (n : Int) (s : ByteArray) (hs : s.size ≤ maxLen) (w : World) :
    Calls Try.prog 39 #[.int .i64 n, .string s] w fun e w' => e = .returned (.tuple #[.string (Sl.putB n s), .int .i64 (Sl.putE n s)]) ∧ Below w.heap.size w w' := by
  unfold maxLen at hs
  by_cases h1 : 1 ≤ n
  · by_cases h0 : n ≤ 4611686018427387904
    · by_cases h2 : s.size ≤ 490
      · have e1 : Sl.putE n s = 0 := Sl.putE_ok.2 ⟨h1, h0, h2⟩
        have e2 := Sl.putB_ok e1
        rw [e1, e2]
        have cs := fun w => rblock_any n s h2 w
        generalize (⟨(Sl.blk n s.data.toList).toArray⟩ : ByteArray) = R at *
        have H := Lib.hid cs
        clear cs e1 e2
        have t1 : ¬ (490 : Int) < (s.size : Int) := by omega
        have t2 : ¬ n < 1 := by omega
        have t3 : ¬ 4611686018427387904 < n := by omega
        go_enter Try.func39, Try.ntmps39
        go_wp2_with fail
        refine (H.out _).mono ?_
        rintro e w1 ⟨rfl, hb⟩
        have HB := Lib.hid hb; clear hb
        go_wp2_with fail
        go_ret2
        exact ⟨rfl, HB.out⟩
      · have e1 : Sl.putE n s = 5 := by unfold Sl.putE; rw [if_neg (by omega), if_pos (by omega)]
        have e2 := Sl.putB_err (n := n) (s := s) (by rw [e1]; decide)
        rw [e1, e2]
        clear e1 e2
        have t1 : (490 : Int) < (s.size : Int) := by omega
        have t2 : ¬ n < 1 := by omega
        have t3 : ¬ 4611686018427387904 < n := by omega
        go_enter Try.func39, Try.ntmps39
        go_wp2_with fail
        go_ret2
        exact ⟨rfl, Below.refl _ _⟩
    · have e1 : Sl.putE n s = 2 := by unfold Sl.putE; rw [if_pos (by omega)]
      have e2 := Sl.putB_err (n := n) (s := s) (by rw [e1]; decide)
      rw [e1, e2]
      clear e1 e2
      have t2 : ¬ n < 1 := by omega
      have t3 : 4611686018427387904 < n := by omega
      go_enter Try.func39, Try.ntmps39
      go_wp2_with fail
      go_ret2
      exact ⟨rfl, Below.refl _ _⟩
  · have e1 : Sl.putE n s = 2 := by unfold Sl.putE; rw [if_pos (by omega)]
    have e2 := Sl.putB_err (n := n) (s := s) (by rw [e1]; decide)
    rw [e1, e2]
    clear e1 e2
    have t2 : n < 1 := by omega
    go_enter Try.func39, Try.ntmps39
    go_wp2_with fail
    go_ret2
    exact ⟨rfl, Below.refl _ _⟩

/-! ### Take, case by case -/
theorem Sl.take_form {b : ByteArray} (h : b.size ≠ 512) : Sl.take b = (0, ByteArray.empty, 4) := by unfold Sl.take; rw [if_pos h]
theorem Sl.take_none {b : ByteArray} (h1 : b.size = 512) (h : b = Sl.zeros) : Sl.take b = (0, ByteArray.empty, 6) := by unfold Sl.take; rw [if_neg (by omega), if_pos h]
theorem Sl.take_big {b : ByteArray} (h1 : b.size = 512) (h2 : b ≠ Sl.zeros) (h3 : Sl.one b = Sl.two b) (h : 490 < Sl.len b) : Sl.take b = (0, ByteArray.empty, 9) := by
  unfold Sl.take; rw [if_neg (by omega), if_neg h2, if_neg (by simp [h3]), if_pos h]
theorem Sl.take_range {b : ByteArray} (h1 : b.size = 512) (h2 : b ≠ Sl.zeros) (h3 : Sl.one b = Sl.two b) (h : ¬ (1 ≤ Sl.one b ∧ Sl.one b ≤ 4611686018427387904)) : Sl.take b = (0, ByteArray.empty, 9) := by
  by_cases h4 : 490 < Sl.len b
  · exact Sl.take_big h1 h2 h3 h4
  · unfold Sl.take; rw [if_neg (by omega), if_neg h2, if_neg (by simp [h3]), if_neg h4, if_neg (fun hh => h ⟨(Sl.putE_ok.1 hh.1).1, (Sl.putE_ok.1 hh.1).2.1⟩)]
theorem Sl.txt_size {b : ByteArray} (h : Sl.len b ≤ 490) : (Sl.txt b).size ≤ 490 := by
  unfold Sl.txt; rw [ByteArray.size_extract]; omega
theorem Sl.take_last {b : ByteArray} (h1 : b.size = 512) (h2 : b ≠ Sl.zeros) (h3 : Sl.one b = Sl.two b) (h4 : 1 ≤ Sl.one b ∧ Sl.one b ≤ 4611686018427387904) (h5 : Sl.len b ≤ 490) :
    Sl.take b = if (⟨(Sl.blk (Sl.one b) (Sl.txt b).data.toList).toArray⟩ : ByteArray) = b then (Sl.one b, Sl.txt b, 0) else (0, ByteArray.empty, 9) := by
  have hp : Sl.putE (Sl.one b) (Sl.txt b) = 0 := Sl.putE_ok.2 ⟨h4.1, h4.2, Sl.txt_size h5⟩
  have hb := Sl.putB_ok hp
  have e : Sl.take b = if Sl.putE (Sl.one b) (Sl.txt b) = 0 ∧ Sl.putB (Sl.one b) (Sl.txt b) = b then (Sl.one b, Sl.txt b, 0) else (0, ByteArray.empty, 9) := by
    unfold Sl.take
    rw [if_neg (by omega), if_neg h2, if_neg (by simp [h3]), if_neg (by omega)]; rfl
  rw [e, hb]
  by_cases h : (⟨(Sl.blk (Sl.one b) (Sl.txt b).data.toList).toArray⟩ : ByteArray) = b
  · rw [if_pos ⟨hp, h⟩, if_pos h]
  · rw [if_neg (fun hh => h hh.2), if_neg h]

set_option maxRecDepth 100000 in
set_option maxHeartbeats 800000 in
theorem take5_any (b : ByteArray) (hb : b.size ≤ maxLen) (w : World) :
    Calls Try.prog 81 #[.string b] w fun e w' => e = .returned (.tuple #[.int .i64 (Sl.take b).1, .string (Sl.take b).2.1, .int .i64 (Sl.take b).2.2]) ∧ Below w.heap.size w w' := by
  have ch := fun w => halves_any b hb w
  by_cases h1 : b.size = 512
  · have e : Sl.halves b = (Sl.one b, Sl.two b) := by unfold Sl.halves; rw [if_pos h1]
    rw [e] at ch
    have ce := fun w => empty5_any b w
    have t1 : ((b.size : Int) != 512) = false := by rw [h1]; rfl
    by_cases h2 : b = Sl.zeros
    · rw [Sl.take_none h1 h2]
      rw [decide_eq_true h2] at ce
      have H := Lib.hid (And.intro ch ce)
      clear ch ce h2 e
      generalize Sl.one b = X at H
      generalize Sl.two b = Y at H
      go_enter Try.func81, Try.ntmps81
      go_wp2_with fail
      refine (H.out.1 _).mono ?_
      rintro e _ ⟨rfl, nq, rfl⟩
      go_wp2_with fail
      refine (H.out.2 _).mono ?_
      rintro e w2 ⟨rfl, hb2⟩
      have HB := Lib.hid (below_two (below_drewN (Below.refl _ _) nq) hb2); clear hb2
      go_wp2_with fail
      go_ret3
      exact ⟨rfl, HB.out⟩
    · rw [decide_eq_false h2] at ce
      by_cases h3 : Sl.one b = Sl.two b
      · have cr := fun w => right5_any (Sl.one b) w
        rw [← h3] at ch
        by_cases h4 : 1 ≤ Sl.one b ∧ Sl.one b ≤ 4611686018427387904
        · rw [decide_eq_true h4] at cr
          have cl := fun w => length_any b h1 w
          by_cases h5 : Sl.len b ≤ 490
          · have ct := fun w => text5_any b h1 h5 w
            have cs := fun w => sealed_any (Sl.one b) (Sl.txt b) (Sl.txt_size h5) w
            rw [Sl.take_last h1 h2 h3 h4 h5]
            have t3 : ¬ 490 < Sl.len b := by omega
            by_cases h6 : (⟨(Sl.blk (Sl.one b) (Sl.txt b).data.toList).toArray⟩ : ByteArray) = b
            · rw [if_pos h6]
              rw [h6] at cs
              clear h2 h3 h4 h5 h6 e
              generalize Sl.one b = X at *
              generalize Sl.len b = L at *
              generalize Sl.txt b = T at *
              have H := Lib.hid (And.intro ch (And.intro ce (And.intro cr (And.intro cl (And.intro ct cs)))))
              clear ch ce cr cl ct cs
              go_enter Try.func81, Try.ntmps81
              go_wp2_with fail
              refine (H.out.1 _).mono ?_
              rintro e _ ⟨rfl, nq, rfl⟩
              go_wp2_with fail
              refine (H.out.2.1 _).mono ?_
              rintro e w2 ⟨rfl, hb2⟩
              have H2 := Lib.hid (below_two (below_drewN (Below.refl _ _) nq) hb2); clear hb2
              go_wp2_with fail
              refine (H.out.2.2.1 _).mono ?_
              rintro e w3 ⟨rfl, hw⟩
              subst hw
              go_wp2_with fail
              refine (H.out.2.2.2.1 _).mono ?_
              rintro e w3 ⟨rfl, hw⟩
              subst hw
              go_wp2_with fail
              refine (H.out.2.2.2.2.1 _).mono ?_
              rintro e _ ⟨rfl, nr, rfl⟩
              have H3 := Lib.hid (below_two H2.out (below_drewN (Below.refl _ _) nr)); clear H2
              go_wp2_with fail
              refine (H.out.2.2.2.2.2 _).mono ?_
              rintro e w4 ⟨rfl, hb4⟩
              have H4 := Lib.hid (below_two H3.out hb4); clear hb4 H3
              go_wp2_with fail
              refine (H.out.2.2.2.2.1 _).mono ?_
              rintro e _ ⟨rfl, ns, rfl⟩
              have H5 := Lib.hid (below_two H4.out (below_drewN (Below.refl _ _) ns)); clear H4
              go_wp2_with fail
              go_ret3
              exact ⟨rfl, H5.out⟩
            · rw [if_neg h6]
              clear h2 h3 h4 h5 e
              generalize (⟨(Sl.blk (Sl.one b) (Sl.txt b).data.toList).toArray⟩ : ByteArray) = S at *
              generalize Sl.one b = X at *
              generalize Sl.len b = L at *
              generalize Sl.txt b = T at *
              have t4 : ¬ b.toList = S.toList := str_neq (Ne.symm h6)
              have t5 := str_beq t4
              have H := Lib.hid (And.intro ch (And.intro ce (And.intro cr (And.intro cl (And.intro ct cs)))))
              clear ch ce cr cl ct cs h6
              go_enter Try.func81, Try.ntmps81
              go_wp2_with fail
              refine (H.out.1 _).mono ?_
              rintro e _ ⟨rfl, nq, rfl⟩
              go_wp2_with fail
              refine (H.out.2.1 _).mono ?_
              rintro e w2 ⟨rfl, hb2⟩
              have H2 := Lib.hid (below_two (below_drewN (Below.refl _ _) nq) hb2); clear hb2
              go_wp2_with fail
              refine (H.out.2.2.1 _).mono ?_
              rintro e w3 ⟨rfl, hw⟩
              subst hw
              go_wp2_with fail
              refine (H.out.2.2.2.1 _).mono ?_
              rintro e w3 ⟨rfl, hw⟩
              subst hw
              go_wp2_with fail
              refine (H.out.2.2.2.2.1 _).mono ?_
              rintro e _ ⟨rfl, nr, rfl⟩
              have H3 := Lib.hid (below_two H2.out (below_drewN (Below.refl _ _) nr)); clear H2
              go_wp2_with fail
              refine (H.out.2.2.2.2.2 _).mono ?_
              rintro e w4 ⟨rfl, hb4⟩
              have H4 := Lib.hid (below_two H3.out hb4); clear hb4 H3
              go_wp2_with fail
              go_ret3
              exact ⟨rfl, H4.out⟩
          · rw [Sl.take_big h1 h2 h3 (by omega)]
            have t3 : 490 < Sl.len b := by omega
            clear h2 h3 h4 h5 e
            generalize Sl.one b = X at *
            generalize Sl.len b = L at *
            have H := Lib.hid (And.intro ch (And.intro ce (And.intro cr cl)))
            clear ch ce cr cl
            go_enter Try.func81, Try.ntmps81
            go_wp2_with fail
            refine (H.out.1 _).mono ?_
            rintro e _ ⟨rfl, nq, rfl⟩
            go_wp2_with fail
            refine (H.out.2.1 _).mono ?_
            rintro e w2 ⟨rfl, hb2⟩
            have H2 := Lib.hid (below_two (below_drewN (Below.refl _ _) nq) hb2); clear hb2
            go_wp2_with fail
            refine (H.out.2.2.1 _).mono ?_
            rintro e w3 ⟨rfl, hw⟩
            subst hw
            go_wp2_with fail
            refine (H.out.2.2.2 _).mono ?_
            rintro e w3 ⟨rfl, hw⟩
            subst hw
            go_wp2_with fail
            go_ret3
            exact ⟨rfl, H2.out⟩
        · rw [Sl.take_range h1 h2 h3 h4]
          rw [decide_eq_false h4] at cr
          clear h2 h3 h4 e
          generalize Sl.one b = X at *
          have H := Lib.hid (And.intro ch (And.intro ce cr))
          clear ch ce cr
          go_enter Try.func81, Try.ntmps81
          go_wp2_with fail
          refine (H.out.1 _).mono ?_
          rintro e _ ⟨rfl, nq, rfl⟩
          go_wp2_with fail
          refine (H.out.2.1 _).mono ?_
          rintro e w2 ⟨rfl, hb2⟩
          have H2 := Lib.hid (below_two (below_drewN (Below.refl _ _) nq) hb2); clear hb2
          go_wp2_with fail
          refine (H.out.2.2 _).mono ?_
          rintro e w3 ⟨rfl, hw⟩
          subst hw
          go_wp2_with fail
          go_ret3
          exact ⟨rfl, H2.out⟩
      · rw [Sl.take_torn h1 h3]
        have t2 : (Sl.one b != Sl.two b) = true := by simpa using h3
        clear h2 e
        generalize Sl.one b = X at *
        generalize Sl.two b = Y at *
        have H := Lib.hid (And.intro ch ce)
        clear ch ce
        go_enter Try.func81, Try.ntmps81
        go_wp2_with fail
        refine (H.out.1 _).mono ?_
        rintro e _ ⟨rfl, nq, rfl⟩
        go_wp2_with fail
        refine (H.out.2 _).mono ?_
        rintro e w2 ⟨rfl, hb2⟩
        have H2 := Lib.hid (below_two (below_drewN (Below.refl _ _) nq) hb2); clear hb2
        go_wp2_with fail
        go_ret3
        exact ⟨rfl, H2.out⟩
  · rw [Sl.take_form h1]
    have t1 : ((b.size : Int) != 512) = true := by simpa using (by omega : ¬ (b.size : Int) = 512)
    generalize (Sl.halves b).1 = X at ch
    generalize (Sl.halves b).2 = Y at ch
    have H := Lib.hid ch
    clear ch
    go_enter Try.func81, Try.ntmps81
    go_wp2_with fail
    refine (H.out _).mono ?_
    rintro e _ ⟨rfl, nq, rfl⟩
    go_wp2_with fail
    go_ret3
    exact ⟨rfl, below_drewN (Below.refl _ _) nq⟩
end Go.Proofs.Ytedemehlccmkpaa

/-
  Layer 1: what TakeNum answers (the program's and the document's).
-/
namespace Go.Proofs.Ytedemehlccmkpaa
open Go.RowKit

theorem ret3 {a a' e e' : Int} {r r' : ByteArray} (h : a = a' ∧ r = r' ∧ e = e') :
    Ending.returned (.tuple #[.int .i64 a, .string r, .int .i64 e]) = .returned (.tuple #[.int .i64 a', .string r', .int .i64 e']) := by rw [h.1, h.2.1, h.2.2]

set_option maxRecDepth 100000 in
set_option maxHeartbeats 800000 in
theorem takeNum_any (s : ByteArray) (w : World) (hs : s.size ≤ maxLen) :
    Calls Try.prog 33 #[.string s] w fun e w' => e = .returned (.tuple #[.int .i64 (Oct.tN s), .string (Oct.tR s), .int .i64 (Oct.tE s)]) ∧ ∃ n, w' = w.drewN n := by
  unfold maxLen at hs
  go_enter Try.func33, Try.ntmps33
  go_wp2
  go_loop [5, 8] (fun c i => ∃ k : Nat, k ≤ 10 ∧ i = .int .i64 k ∧ ((k ≤ 9 ∧ k ≤ s.size ∧ ∃ acc : Nat, acc < 18446744073709551616 ∧ c = .int .u64 (acc : Int) ∧ Oct.Inv s.data.toList k acc) ∨ (k = 10 ∧ (∃ C : Int, c = .int .u64 C) ∧ Hid (Oct.take 0 s.data.toList = (4, 0, [])))))
    (fun _ i => 10 - (intOf i).toNat)
  case atStart => exact ⟨0, by omega, rfl, .inl ⟨by omega, by omega, 0, by omega, rfl, Oct.inv_start _⟩⟩
  case round =>
    obtain ⟨k, hk, rfl, ⟨hk9, hks, acc, hacc, rfl, hinv⟩ | ⟨rfl, ⟨C, rfl⟩, herr⟩⟩ := hrel
    · by_cases he : k = s.size
      · have hE := Lib.hid (Oct.inv_end hinv (by simpa using he))
        have ht : ((k : Int) == (s.size : Int)) = true := by simp; omega
        clear he
        go_wp2
        go_ret3
        exact ⟨ret3 (Oct.t_err (by decide) hE.out), 0, rfl⟩
      · have hlt : k < s.size := by omega
        have ht : ((k : Int) == (s.size : Int)) = false := by simp; omega
        clear he
        have hlt' : k < s.data.toList.length := by simpa using hlt
        have hg : s.data.toList[k] = s[k] := rfl
        have hb256 : s[k].toNat < 256 := s[k].toNat_lt
        have ha := andNot128 s[k]
        have hb0 : 0 ≤ bits .andNot .u8 ((s[k].toNat : Nat) : Int) 128 := by omega
        have hb1 : bits .andNot .u8 ((s[k].toNat : Nat) : Int) 128 < 256 := by omega
        have HA := Lib.hid ha; clear ha
        by_cases h128 : 128 ≤ s[k].toNat
        · by_cases h9 : k = 9
          · have herr : Hid (Oct.take 0 s.data.toList = (4, 0, [])) := Lib.hid (Oct.inv_form hinv hlt' (.inl ⟨h9, by rw [hg]; omega⟩))
            have hk9 : 9 ≤ k := by omega
            clear h9 hg
            go_wp2_with (go_at_call 58; refine (worth7_any _ _ _ hb0 hb1 (by omega) (by omega)).mono ?_; rintro e w' ⟨rfl, rfl⟩)
            go_round
            case rel => exact ⟨k + 1, by omega, by go_num, .inr ⟨by omega, ⟨_, rfl⟩, herr⟩⟩
            case measure => simp [intOf]; omega
          · have hm := Oct.inv_more hinv hlt' h9 (by rw [hg]; omega)
            have ho := or_digit acc (s[k].toNat % 128) k hk9 hinv.1 (by omega) (fun h => absurd h h9)
            rw [hg, show s[k].toNat - 128 = s[k].toNat % 128 from by omega] at hm
            have h9' : k ≤ 8 := by omega
            have HO := Lib.hid ho; clear ho h9 hg
            go_wp2_with (go_at_call 58; refine (worth7_any _ _ _ hb0 hb1 (by omega) (by omega)).mono ?_; rintro e w' ⟨rfl, rfl⟩)
            go_round
            case rel => exact ⟨k + 1, by omega, by go_num, .inl ⟨by omega, by omega, _, HO.out.2, by rw [HA.out, HO.out.1], hm⟩⟩
            case measure => simp [intOf]; omega
        · by_cases hbad : (k = 9 ∧ 1 < s[k].toNat) ∨ (0 < k ∧ s[k].toNat = 0)
          · have herr := Lib.hid (Oct.inv_form hinv hlt' (by rw [hg]; exact hbad))
            clear hg
            rcases hbad with ⟨h9, h1⟩ | ⟨h0, h1⟩
            · have t1 : ((k : Int) == 9) = true := by simp; omega
              have t2 : ((s[k].toNat : Int) == 0) = false := by simp; omega
              have hk0 : 9 ≤ k := by omega
              clear h9
              go_wp2_with (go_at_call 58; refine (worth7_any _ _ _ hb0 hb1 (by omega) (by omega)).mono ?_; rintro e w' ⟨rfl, rfl⟩)
              go_ret3
              exact ⟨ret3 (Oct.t_err (by decide) herr.out), 0, rfl⟩
            · have t2 : ((s[k].toNat : Int) == 0) = true := by simp; omega
              clear h1
              go_wp2_with (go_at_call 58; refine (worth7_any _ _ _ hb0 hb1 (by omega) (by omega)).mono ?_; rintro e w' ⟨rfl, rfl⟩)
              go_ret3
              exact ⟨ret3 (Oct.t_err (by decide) herr.out), 0, rfl⟩
          · have hl := Oct.inv_last hinv hlt' (by rw [hg]; exact hbad) (by rw [hg]; omega)
            have ho := or_digit acc (s[k].toNat % 128) k hk9 hinv.1 (by omega) (fun h => by omega)
            rw [hg] at hl
            have ha : bits .andNot .u8 ((s[k].toNat : Nat) : Int) 128 = ((s[k].toNat : Nat) : Int) := by rw [HA.out]; omega
            rw [show s[k].toNat % 128 = s[k].toNat from by omega] at ho
            obtain ⟨N, hN⟩ : ∃ N, N = acc + 2 ^ (7 * k) * s[k].toNat := ⟨_, rfl⟩
            rw [← hN] at ho hl
            obtain ⟨ho1, ho2⟩ := ho
            have HL := Lib.hid hl
            clear hN hl hg hb0 hb1 HA
            have hw : ∀ (i : Int) (w : World), 0 ≤ i → i ≤ 9 → _ := fun i w h2 h3 => worth7_any ((s[k].toNat : Nat) : Int) i w (by omega) (by omega) h2 h3
            have HW := Lib.hid hw; clear hw
            by_cases h0 : k = 0
            · have t1 : ((k : Int) == 9) = false := by simp; omega
              have h0' : ¬ 0 < k := by omega
              clear h0
              go_wp2_with (go_at_call 58; refine (HW.out _ _ (by omega) (by omega)).mono ?_; rintro e w' ⟨rfl, rfl⟩)
              go_quiet ((go_at_call 59; exact Calls.quiet_of_same (decode_any N _ ho2)))
              go_wp2
              go_ret3
              exact ⟨ret3 (Oct.t_last HL.out), _, rfl⟩
            · have t2 : ((s[k].toNat : Int) == 0) = false := by simp; omega
              have h0' : 0 < k := by omega
              clear h0
              by_cases h9 : k = 9
              · have t1 : ((k : Int) == 9) = true := by simp; omega
                have h1 : ¬ 1 < s[k].toNat := by omega
                have hk0 : 9 ≤ k := by omega
                clear h9
                go_wp2_with (go_at_call 58; refine (HW.out _ _ (by omega) (by omega)).mono ?_; rintro e w' ⟨rfl, rfl⟩)
                go_quiet ((go_at_call 59; exact Calls.quiet_of_same (decode_any N _ ho2)))
                go_wp2
                go_ret3
                exact ⟨ret3 (Oct.t_last HL.out), _, rfl⟩
              · have t1 : ((k : Int) == 9) = false := by simp; omega
                clear h9
                go_wp2_with (go_at_call 58; refine (HW.out _ _ (by omega) (by omega)).mono ?_; rintro e w' ⟨rfl, rfl⟩)
                go_quiet ((go_at_call 59; exact Calls.quiet_of_same (decode_any N _ ho2)))
                go_wp2
                go_ret3
                exact ⟨ret3 (Oct.t_last HL.out), _, rfl⟩
    · go_wp2
      go_ret3
      exact ⟨ret3 (Oct.t_err (by decide) herr.out), 0, rfl⟩

/-- the place's worth, one further: as uint64s go -/
theorem power_step (k : Nat) (hk : k ≤ 8) : ((2 ^ (7 * k) : Nat) : Int) * 128 = ((2 ^ (7 * (k + 1)) : Nat) : Int) ∧ (2 : Nat) ^ (7 * (k + 1)) < 18446744073709551616 := by
  have e : (2 : Nat) ^ (7 * (k + 1)) = 128 * 2 ^ (7 * k) := by rw [show 7 * (k + 1) = 7 + 7 * k from by omega, Nat.pow_add]
  have h8 : (2 : Nat) ^ (7 * k) ≤ 2 ^ 56 := Nat.pow_le_pow_right (by omega) (by omega)
  omega
theorem sum_digit (acc d k : Nat) (hk : k ≤ 9) (h : acc < 2 ^ (7 * k)) (hd : d < 128) (h9 : k = 9 → d ≤ 1) :
    IntKind.u64.wrap ((acc : Int) + IntKind.u64.wrap ((d : Int) * ((2 ^ (7 * k) : Nat) : Int))) = ((acc + 2 ^ (7 * k) * d : Nat) : Int) ∧ acc + 2 ^ (7 * k) * d < 18446744073709551616 := by
  have ho := (or_digit acc d k hk h hd h9).2
  have e2 : ((d : Int) * ((2 ^ (7 * k) : Nat) : Int)) = ((2 ^ (7 * k) * d : Nat) : Int) := by push_cast; rw [Int.mul_comm]
  rw [e2, IntKind.wrap_u64, IntKind.wrap_u64, Int.emod_eq_of_lt (a := ((2 ^ (7 * k) * d : Nat) : Int)) (by omega) (by omega), Int.emod_eq_of_lt (by omega) (by omega)]
  exact ⟨by push_cast; rfl, ho⟩

set_option maxRecDepth 100000 in
set_option maxHeartbeats 800000 in
theorem rtakeNum_any (s : ByteArray) (w : World) (hs : s.size ≤ maxLen) :
    Calls Try.prog 35 #[.string s] w fun e w' => e = .returned (.tuple #[.int .i64 (Oct.tN s), .string (Oct.tR s), .int .i64 (Oct.tE s)]) ∧ ∃ n, w' = w.drewN n := by
  unfold maxLen at hs
  go_enter Try.func35, Try.ntmps35
  go_wp2
  go_loop [5, 6, 7] (fun c p i => ∃ k acc P : Nat, k ≤ 9 ∧ k ≤ s.size ∧ i = .int .i64 k ∧ c = .int .u64 (acc : Int) ∧ p = .int .u64 (P : Int) ∧ P < 18446744073709551616 ∧ Hid (P = 2 ^ (7 * k)) ∧ acc < 18446744073709551616 ∧ Oct.Inv s.data.toList k acc)
    (fun _ _ i => s.size - (intOf i).toNat)
  case atStart => exact ⟨0, 0, 1, by omega, by omega, rfl, rfl, rfl, by omega, Lib.hid rfl, by omega, Oct.inv_start _⟩
  case round =>
    obtain ⟨k, acc, P, hk9, hks, rfl, rfl, rfl, hP, HP, hacc, hinv⟩ := hrel
    by_cases he : k = s.size
    · have hE := Lib.hid (Oct.inv_end hinv (by simpa using he))
      have ht : ¬ k < s.size := by omega
      clear he
      go_wp2
      go_ret3
      exact ⟨ret3 (Oct.t_err (by decide) hE.out), 0, rfl⟩
    · have hlt : k < s.size := by omega
      clear he
      have hlt' : k < s.data.toList.length := by simpa using hlt
      have hg : s.data.toList[k] = s[k] := rfl
      have hb256 : s[k].toNat < 256 := s[k].toNat_lt
      by_cases hbad : (k = 9 ∧ 1 < s[k].toNat) ∨ (0 < k ∧ s[k].toNat = 0)
      · have herr := Lib.hid (Oct.inv_form hinv hlt' (by rw [hg]; exact hbad))
        clear hg
        rcases hbad with ⟨h9, h1⟩ | ⟨h0, h1⟩
        · have t1 : ((k : Int) == 9) = true := by simp; omega
          have t2 : ((s[k].toNat : Int) == 0) = false := by simp; omega
          have hk0 : 9 ≤ k := by omega
          clear h9
          go_wp2
          go_ret3
          exact ⟨ret3 (Oct.t_err (by decide) herr.out), 0, rfl⟩
        · have t2 : ((s[k].toNat : Int) == 0) = true := by simp; omega
          have t3 : ¬ 1 < s[k].toNat := by omega
          clear h1
          by_cases h9 : k = 9
          · have t1 : ((k : Int) == 9) = true := by simp; omega
            have hk0 : 9 ≤ k := by omega
            clear h9
            go_wp2
            go_ret3
            exact ⟨ret3 (Oct.t_err (by decide) herr.out), 0, rfl⟩
          · have t1 : ((k : Int) == 9) = false := by simp; omega
            clear h9
            go_wp2
            go_ret3
            exact ⟨ret3 (Oct.t_err (by decide) herr.out), 0, rfl⟩
      · have ho := sum_digit acc (s[k].toNat % 128) k hk9 hinv.1 (by omega) (fun h => by omega)
        have hm : 128 ≤ s[k].toNat → Oct.Inv s.data.toList (k + 1) (acc + 2 ^ (7 * k) * (s[k].toNat % 128)) ∧ k ≤ 8 := fun h => by
          have := Oct.inv_more hinv hlt' (by omega) (by rw [hg]; exact h)
          rw [hg, show s[k].toNat - 128 = s[k].toNat % 128 from by omega] at this
          exact ⟨this, by omega⟩
        have hl : s[k].toNat < 128 → Oct.take 0 s.data.toList = (0, acc + 2 ^ (7 * k) * (s[k].toNat % 128), s.data.toList.drop (k + 1)) := fun h => by
          have := Oct.inv_last hinv hlt' (by rw [hg]; exact hbad) (by rw [hg]; exact h)
          rw [this, hg, Nat.mod_eq_of_lt h]
        rw [← HP.out] at ho
        obtain ⟨N, hN⟩ : ∃ N, N = acc + P * (s[k].toNat % 128) := ⟨_, rfl⟩
        rw [← HP.out, ← hN] at hm hl
        rw [← hN] at ho
        obtain ⟨ho1, ho2⟩ := ho
        have ho1 : IntKind.u64.wrap ((acc : Int) + IntKind.u64.wrap ((s[k].toNat : Int) % 128 * (P : Int))) = (N : Int) := by rw [← ho1]; push_cast; rfl
        have HM := Lib.hid hm
        have HL := Lib.hid hl
        clear hm hl hN hg
        by_cases h128 : 128 ≤ s[k].toNat
        · obtain ⟨hinv', hk8⟩ := HM.out h128
          have hps := power_step k hk8
          rw [← HP.out] at hps
          obtain ⟨hps1, hps2⟩ := hps
          have hP2 : P * 128 < 18446744073709551616 := by omega
          have HP2 : Hid (P * 128 = 2 ^ (7 * (k + 1))) := Lib.hid (by omega)
          clear hps1 hps2 HM HL
          have t1 : ((k : Int) == 9) = false := by simp; omega
          have t2 : ((s[k].toNat : Int) == 0) = false := by simp; omega
          clear hbad
          by_cases h0 : 0 < k
          all_goals
            go_wp2
            go_round
            case rel => exact ⟨k + 1, N, P * 128, by omega, by omega, by go_num, rfl, by go_num, hP2, HP2, ho2, hinv'⟩
            case measure => simp [intOf]; omega
        · have HL := Lib.hid (HL.out (by omega))
          clear HM
          by_cases h0 : k = 0
          · have t1 : ((k : Int) == 9) = false := by simp; omega
            have h0' : ¬ 0 < k := by omega
            clear h0 hbad
            go_wp2
            go_quiet ((go_at_call 61; exact Calls.quiet_of_same (rnumber_any N _ ho2)))
            go_wp2
            go_ret3
            exact ⟨ret3 (Oct.t_last HL.out), _, rfl⟩
          · have t2 : ((s[k].toNat : Int) == 0) = false := by simp; omega
            have h0' : 0 < k := by omega
            by_cases h9 : k = 9
            · have t1 : ((k : Int) == 9) = true := by simp; omega
              have h1 : ¬ 1 < s[k].toNat := by omega
              have hk0 : 9 ≤ k := by omega
              clear h0 h9 hbad
              go_wp2
              go_quiet ((go_at_call 61; exact Calls.quiet_of_same (rnumber_any N _ ho2)))
              go_wp2
              go_ret3
              exact ⟨ret3 (Oct.t_last HL.out), _, rfl⟩
            · have t1 : ((k : Int) == 9) = false := by simp; omega
              clear h0 h9 hbad
              go_wp2
              go_quiet ((go_at_call 61; exact Calls.quiet_of_same (rnumber_any N _ ho2)))
              go_wp2
              go_ret3
              exact ⟨ret3 (Oct.t_last HL.out), _, rfl⟩
end Go.Proofs.Ytedemehlccmkpaa

/-
  Layer 1: what TakeText answers (the program's and the document's).
-/
namespace Go.Proofs.Ytedemehlccmkpaa
open Go.RowKit

theorem ret3c {a e : Int} {r : ByteArray} {t : Int × ByteArray × Int} (h : t = (a, r, e)) :
    Ending.returned (.tuple #[.int .i64 a, .string r, .int .i64 e]) = .returned (.tuple #[.int .i64 t.1, .string t.2.1, .int .i64 t.2.2]) := by rw [h]
theorem ret3t {a r : ByteArray} {e : Int} {t : ByteArray × ByteArray × Int} (h : t = (a, r, e)) :
    Ending.returned (.tuple #[.string a, .string r, .int .i64 e]) = .returned (.tuple #[.string t.1, .string t.2.1, .int .i64 t.2.2]) := by rw [h]

set_option maxRecDepth 100000 in
set_option maxHeartbeats 800000 in
theorem takeCount_any (s : ByteArray) (lim : Int) (w : World) (hs : s.size ≤ maxLen) :
    Calls Try.prog 60 #[.string s, .int .i64 lim] w fun e w' => e = .returned (.tuple #[.int .i64 (Oct.cnt3 s lim).1, .string (Oct.cnt3 s lim).2.1, .int .i64 (Oct.cnt3 s lim).2.2]) ∧ ∃ n, w' = w.drewN n := by
  rcases Oct.t_cases s with ⟨e1, e2, e3 | e3⟩ | ⟨n, r, h1, h2, h3, e1, e2, e3, e4⟩
  · have E := Lib.hid (And.intro e1 (And.intro e2 e3))
    have F := Lib.hid (Oct.cnt3_err (lim := lim) 3 e3 (by decide)); clear e1 e2 e3
    go_enter Try.func60, Try.ntmps60
    go_wp2_with fail
    refine (takeNum_any s _ hs).mono ?_
    rintro e w1 ⟨he, nd, rfl⟩
    rw [E.out.1, E.out.2.1, E.out.2.2] at he
    subst he
    go_wp2_with fail
    go_ret3
    exact ⟨ret3c F.out, nd, rfl⟩
  · have E := Lib.hid (And.intro e1 (And.intro e2 e3))
    have F := Lib.hid (Oct.cnt3_err (lim := lim) 4 e3 (by decide)); clear e1 e2 e3
    go_enter Try.func60, Try.ntmps60
    go_wp2_with fail
    refine (takeNum_any s _ hs).mono ?_
    rintro e w1 ⟨he, nd, rfl⟩
    rw [E.out.1, E.out.2.1, E.out.2.2] at he
    subst he
    go_wp2_with fail
    go_ret3
    exact ⟨ret3c F.out, nd, rfl⟩
  · have E := Lib.hid (And.intro e1 (And.intro e2 e3))
    have F1 : Hid (n < 0 → Oct.cnt3 s lim = (0, ⟨#[]⟩, 4)) := Lib.hid fun h0 => Oct.cnt3_neg e3 e1 h0
    have F2 : Hid (¬ n < 0 → lim < n → Oct.cnt3 s lim = (0, ⟨#[]⟩, 5)) := Lib.hid fun h0 hl => Oct.cnt3_big e3 e1 h0 hl
    have F3 : Hid (¬ n < 0 → ¬ lim < n → Oct.cnt3 s lim = (n, r, 0)) := Lib.hid fun h0 hl => Oct.cnt3_ok e3 e1 e2 h0 hl
    clear e1 e2 e3 e4
    by_cases h0 : n < 0
    · go_enter Try.func60, Try.ntmps60
      go_wp2_with fail
      refine (takeNum_any s _ hs).mono ?_
      rintro e w1 ⟨he, nd, rfl⟩
      rw [E.out.1, E.out.2.1, E.out.2.2] at he
      subst he
      go_wp2_with fail
      go_ret3
      exact ⟨ret3c (F1.out h0), nd, rfl⟩
    · by_cases hl : lim < n
      all_goals
        go_enter Try.func60, Try.ntmps60
        go_wp2_with fail
        refine (takeNum_any s _ hs).mono ?_
        rintro e w1 ⟨he, nd, rfl⟩
        rw [E.out.1, E.out.2.1, E.out.2.2] at he
        subst he
        go_wp2_with fail
        go_ret3
        exact ⟨ret3c (by first | exact F2.out h0 hl | exact F3.out h0 hl), nd, rfl⟩

set_option maxRecDepth 100000 in
set_option maxHeartbeats 800000 in
theorem takeText_any (s : ByteArray) (most : Int) (w : World) (hs : s.size ≤ maxLen) :
    Calls Try.prog 34 #[.string s, .int .i64 most] w fun e w' => e = .returned (.tuple #[.string (Oct.txt s most).1, .string (Oct.txt s most).2.1, .int .i64 (Oct.txt s most).2.2]) ∧ ∃ n, w' = w.drewN n := by
  rcases Oct.cnt3_cases s most with ⟨e, he, h⟩ | ⟨n, r, h1, h2, h3, h, _⟩
  · have E := Lib.hid h
    have F := Lib.hid (Oct.txt_err he h)
    have ht : (e != 0) = true := by simpa using he
    clear h he
    go_enter Try.func34, Try.ntmps34
    go_wp2_with fail
    refine (takeCount_any s most _ hs).mono ?_
    rintro e w1 ⟨he, nd, rfl⟩
    rw [E.out] at he
    subst he
    go_wp2_with fail
    go_ret3
    exact ⟨ret3t F.out, nd, rfl⟩
  · have hs' := hs
    unfold maxLen at hs'
    have E := Lib.hid h
    by_cases hl : r.size < n
    · have F := Lib.hid (Oct.txt_short h hl)
      clear h
      go_enter Try.func34, Try.ntmps34
      go_wp2_with fail
      refine (takeCount_any s most _ hs).mono ?_
      rintro e w1 ⟨he, nd, rfl⟩
      rw [E.out] at he
      subst he
      go_wp2_with fail
      go_ret3
      exact ⟨ret3t F.out, nd, rfl⟩
    · have F := Lib.hid (Oct.txt_ok h hl)
      clear h
      go_enter Try.func34, Try.ntmps34
      go_wp2_with fail
      refine (takeCount_any s most _ hs).mono ?_
      rintro e w1 ⟨he, nd, hw⟩
      subst hw
      rw [E.out] at he
      subst he
      go_wp2_with fail
      go_quiet (fail)
      go_wp2_with fail
      go_ret3
      exact ⟨ret3t F.out, _, World.drewN_drewN ..⟩

set_option maxRecDepth 100000 in
set_option maxHeartbeats 800000 in
theorem rtakeText_any (s : ByteArray) (most : Int) (w : World) (hs : s.size ≤ maxLen) :
    Calls Try.prog 36 #[.string s, .int .i64 most] w fun e w' => e = .returned (.tuple #[.string (Oct.txt s most).1, .string (Oct.txt s most).2.1, .int .i64 (Oct.txt s most).2.2]) ∧ ∃ n, w' = w.drewN n := by
  have hs' := hs
  unfold maxLen at hs'
  rcases Oct.t_cases s with ⟨e1, e2, e3 | e3⟩ | ⟨n, r, h1, h2, h3, e1, e2, e3, e4⟩
  · have E := Lib.hid (And.intro e1 (And.intro e2 e3))
    have F := Lib.hid (Oct.txt_err (by decide) (Oct.cnt3_err (lim := most) 3 e3 (by decide))); clear e1 e2 e3
    go_enter Try.func36, Try.ntmps36
    go_wp2_with fail
    refine (rtakeNum_any s _ hs).mono ?_
    rintro e w1 ⟨he, nd, rfl⟩
    rw [E.out.1, E.out.2.1, E.out.2.2] at he
    subst he
    go_wp2_with fail
    go_ret3
    exact ⟨ret3t F.out, nd, rfl⟩
  · have E := Lib.hid (And.intro e1 (And.intro e2 e3))
    have F := Lib.hid (Oct.txt_err (by decide) (Oct.cnt3_err (lim := most) 4 e3 (by decide))); clear e1 e2 e3
    go_enter Try.func36, Try.ntmps36
    go_wp2_with fail
    refine (rtakeNum_any s _ hs).mono ?_
    rintro e w1 ⟨he, nd, rfl⟩
    rw [E.out.1, E.out.2.1, E.out.2.2] at he
    subst he
    go_wp2_with fail
    go_ret3
    exact ⟨ret3t F.out, nd, rfl⟩
  · have E := Lib.hid (And.intro e1 (And.intro e2 e3))
    by_cases h0 : n < 0
    · have F := Lib.hid (Oct.txt_err (by decide) (Oct.cnt3_neg (lim := most) e3 e1 h0))
      clear e1 e2 e3 e4
      go_enter Try.func36, Try.ntmps36
      go_wp2_with fail
      refine (rtakeNum_any s _ hs).mono ?_
      rintro e w1 ⟨he, nd, rfl⟩
      rw [E.out.1, E.out.2.1, E.out.2.2] at he
      subst he
      go_wp2_with fail
      go_ret3
      exact ⟨ret3t F.out, nd, rfl⟩
    · by_cases hl : most < n
      · have F := Lib.hid (Oct.txt_err (by decide) (Oct.cnt3_big (lim := most) e3 e1 h0 hl))
        clear e1 e2 e3 e4
        go_enter Try.func36, Try.ntmps36
        go_wp2_with fail
        refine (rtakeNum_any s _ hs).mono ?_
        rintro e w1 ⟨he, nd, rfl⟩
        rw [E.out.1, E.out.2.1, E.out.2.2] at he
        subst he
        go_wp2_with fail
        go_ret3
        exact ⟨ret3t F.out, nd, rfl⟩
      · have hc := Oct.cnt3_ok (lim := most) e3 e1 e2 h0 hl
        clear e1 e2 e3 e4
        obtain ⟨m, rfl⟩ := Int.eq_ofNat_of_zero_le (show 0 ≤ n by omega)
        by_cases hr : r.size < m
        · have F := Lib.hid (Oct.txt_short hc hr)
          clear hc
          go_enter Try.func36, Try.ntmps36
          go_wp2_with fail
          refine (rtakeNum_any s _ hs).mono ?_
          rintro e w1 ⟨he, nd, rfl⟩
          rw [E.out.1, E.out.2.1, E.out.2.2] at he
          subst he
          go_wp2_with fail
          go_ret3
          exact ⟨ret3t F.out, nd, rfl⟩
        · have F := Lib.hid (Oct.txt_ok hc hr)
          clear hc
          go_enter Try.func36, Try.ntmps36
          go_wp2_with fail
          refine (rtakeNum_any s _ hs).mono ?_
          rintro e w1 ⟨he, nd, hw⟩
          subst hw
          rw [E.out.1, E.out.2.1, E.out.2.2] at he
          subst he
          go_wp2_with fail
          go_quiet (fail)
          go_wp2_with fail
          go_ret3
          exact ⟨ret3t F.out, _, World.drewN_drewN ..⟩
end Go.Proofs.Ytedemehlccmkpaa

/-
  Layer 6: what right tells, a label's bytes and what bytes are parsed as, the program's and the document's.
-/
namespace Go.Proofs.Ytedemehlccmkpaa
open Go.RowKit
/-- a label as a value -/
abbrev labC (l : Lb.Label) : Array Value := #[.int .i64 l.turn, .int .i64 l.tail, .int .i64 l.head, .string l.note]
abbrev labV (l : Lb.Label) : Value := .agg (labC l)
set_option maxRecDepth 100000 in
set_option maxHeartbeats 1600000 in
theorem right6_any (l : Lb.Label) (w : World) :
    Calls Try.prog 28 #[labV l] w fun e w' => e = .returned (.bool (decide (Lb.right l))) ∧ Below w.heap.size w w' := by
  obtain ⟨t, a, h, n⟩ := l
  have hb := (Below.refl w.heap.size w).alloc (Nat.le_refl _) (.cells #[.int .i64 t, .int .i64 a, .int .i64 h, .string n] 23)
  have H := Lib.hid hb
  clear hb
  by_cases h1 : 1 ≤ t
  · by_cases h2 : t ≤ 4611686018427387904
    · by_cases h3 : 0 ≤ a
      · by_cases h4 : a ≤ h
        · by_cases h5 : h ≤ 1125899906842624
          · by_cases h6 : (n.size : Int) ≤ 400
            · go_enter Try.func28, Try.ntmps28
              go_wp2_with fail
              go_ret
              exact ⟨ret_bool (decide_eq_true (show Lb.right _ from ⟨h1, h2, h3, h4, h5, by show n.size ≤ 400; omega⟩)).symm, H.out⟩
            · go_enter Try.func28, Try.ntmps28
              go_wp2_with fail
              go_ret
              exact ⟨ret_bool (decide_eq_false (fun hh : Lb.right _ => by have h7 : n.size ≤ 400 := hh.2.2.2.2.2; omega)).symm, H.out⟩
          · go_enter Try.func28, Try.ntmps28
            go_wp2_with fail
            go_ret
            exact ⟨ret_bool (decide_eq_false (fun hh : Lb.right _ => absurd hh.2.2.2.2.1 (Int.not_le.2 h5))).symm, H.out⟩
        · go_enter Try.func28, Try.ntmps28
          go_wp2_with fail
          go_ret
          exact ⟨ret_bool (decide_eq_false (fun hh : Lb.right _ => absurd hh.2.2.2.1 (Int.not_le.2 h4))).symm, H.out⟩
      · go_enter Try.func28, Try.ntmps28
        go_wp2_with fail
        go_ret
        exact ⟨ret_bool (decide_eq_false (fun hh : Lb.right _ => absurd hh.2.2.1 (Int.not_le.2 h3))).symm, H.out⟩
    · go_enter Try.func28, Try.ntmps28
      go_wp2_with fail
      go_ret
      exact ⟨ret_bool (decide_eq_false (fun hh : Lb.right _ => absurd hh.2.1 (Int.not_le.2 h2))).symm, H.out⟩
  · go_enter Try.func28, Try.ntmps28
    go_wp2_with fail
    go_ret
    exact ⟨ret_bool (decide_eq_false (fun hh : Lb.right _ => absurd hh.1 (Int.not_le.2 h1))).symm, H.out⟩
set_option maxRecDepth 100000 in
set_option maxHeartbeats 1600000 in
theorem rright6_any (l : Lb.Label) (w : World) :
    Calls Try.prog 31 #[labV l] w fun e w' => e = .returned (.bool (decide (Lb.right l))) ∧ Below w.heap.size w w' := by
  obtain ⟨t, a, h, n⟩ := l
  have hb := (Below.refl w.heap.size w).alloc (Nat.le_refl _) (.cells #[.int .i64 t, .int .i64 a, .int .i64 h, .string n] 23)
  have H := Lib.hid hb
  clear hb
  by_cases h1 : 1 ≤ t
  · by_cases h2 : t ≤ 4611686018427387904
    · by_cases h3 : 0 ≤ a
      · by_cases h4 : a ≤ h
        · by_cases h5 : h ≤ 1125899906842624
          · by_cases h6 : (n.size : Int) ≤ 400
            · go_enter Try.func31, Try.ntmps31
              go_wp2_with fail
              go_ret
              exact ⟨ret_bool (decide_eq_true (show Lb.right _ from ⟨h1, h2, h3, h4, h5, by show n.size ≤ 400; omega⟩)).symm, H.out⟩
            · go_enter Try.func31, Try.ntmps31
              go_wp2_with fail
              go_ret
              exact ⟨ret_bool (decide_eq_false (fun hh : Lb.right _ => by have h7 : n.size ≤ 400 := hh.2.2.2.2.2; omega)).symm, H.out⟩
          · go_enter Try.func31, Try.ntmps31
            go_wp2_with fail
            go_ret
            exact ⟨ret_bool (decide_eq_false (fun hh : Lb.right _ => absurd hh.2.2.2.2.1 (Int.not_le.2 h5))).symm, H.out⟩
        · go_enter Try.func31, Try.ntmps31
          go_wp2_with fail
          go_ret
          exact ⟨ret_bool (decide_eq_false (fun hh : Lb.right _ => absurd hh.2.2.2.1 (Int.not_le.2 h4))).symm, H.out⟩
      · go_enter Try.func31, Try.ntmps31
        go_wp2_with fail
        go_ret
        exact ⟨ret_bool (decide_eq_false (fun hh : Lb.right _ => absurd hh.2.2.1 (Int.not_le.2 h3))).symm, H.out⟩
    · go_enter Try.func31, Try.ntmps31
      go_wp2_with fail
      go_ret
      exact ⟨ret_bool (decide_eq_false (fun hh : Lb.right _ => absurd hh.2.1 (Int.not_le.2 h2))).symm, H.out⟩
  · go_enter Try.func31, Try.ntmps31
    go_wp2_with fail
    go_ret
    exact ⟨ret_bool (decide_eq_false (fun hh : Lb.right _ => absurd hh.1 (Int.not_le.2 h1))).symm, H.out⟩
end Go.Proofs.Ytedemehlccmkpaa

/-
  Layer 6: a label's bytes, the program's and the document's.
-/
namespace Go.Proofs.Ytedemehlccmkpaa
open Go.RowKit
theorem bytes6_no {l : Lb.Label} (h : ¬ Lb.right l) : Lb.bytes l = ⟨#[]⟩ ∧ Lb.bytesE l = 2 := ⟨if_neg h, if_neg h⟩
theorem bytes6_yes {l : Lb.Label} (h : Lb.right l) : Lb.bytes l = Lb.text l ∧ Lb.bytesE l = 0 := ⟨if_pos h, if_pos h⟩
set_option maxRecDepth 100000 in
set_option maxHeartbeats 400000 in
theorem rtext1_any (s : ByteArray) (w : World) (hs : s.size ≤ 140737488355328) :
    Calls Try.prog 57 #[.string s] w fun e w' => e = .returned (.string (Oct.numB s.size ++ s)) ∧ Below w.heap.size w w' := by
  have hl := Oct.numB_len (s.size : Int) (by omega) (by omega)
  go_enter Try.func57, Try.ntmps57
  go_wp2_with (go_at_call 56; refine (rnum_any _ _ (by omega) (by omega)).mono ?_; rintro e w' ⟨rfl, hb⟩; have HB := Lib.hid hb; clear hb)
  go_ret
  exact ⟨rfl, HB.out⟩
/-- a label in a box -/
theorem lab_box (l : Lb.Label) (w : World) : Below w.heap.size w (w.alloc (.cells (labC l) 23)) ∧ w.heap.size < (w.alloc (.cells (labC l) 23)).heap.size ∧ RowV (w.alloc (.cells (labC l) 23)) w.heap.size 23 (labC l).toList :=
  ⟨(Below.refl w.heap.size w).alloc (Nat.le_refl _) _, by simp, rowV_new w _ [_, _, _, _]⟩
set_option maxRecDepth 100000 in
set_option maxHeartbeats 1600000 in
theorem bytes6_any (l : Lb.Label) (w : World) :
    Calls Try.prog 9 #[labV l] w fun e w' => e = .returned (.tuple #[.string (Lb.bytes l), .int .i64 (Lb.bytesE l)]) ∧ Below w.heap.size w w' := by
  obtain ⟨hb, hlt, hrow⟩ := lab_box l w
  have cR := right6_any l
  by_cases hr : Lb.right l
  · rw [decide_eq_true hr] at cR
    rw [(bytes6_yes hr).1, (bytes6_yes hr).2]
    have l1 := Oct.numB_len l.tail (by have := hr.2.2.1; omega) (by have := hr.2.2.2.1; have := hr.2.2.2.2.1; omega)
    have l2 := Oct.numB_len l.head (by have := hr.2.2.1; have := hr.2.2.2.1; omega) (by have := hr.2.2.2.2.1; omega)
    have l3 := Oct.numB_len (l.note.size : Int) (by have := hr.2.2.2.2.2; omega) (by have := hr.2.2.2.2.2; omega)
    have cN1 := fun w => num_any l.tail w (by have := hr.2.2.1; omega) (by have := hr.2.2.2.1; have := hr.2.2.2.2.1; omega)
    have cN2 := fun w => num_any l.head w (by have := hr.2.2.1; have := hr.2.2.2.1; omega) (by have := hr.2.2.2.2.1; omega)
    have cT := fun w => text_any l.note w (by have := hr.2.2.2.2.2; omega)
    have hn := hr.2.2.2.2.2
    have hR : Lb.text l = Oct.numB l.tail ++ Oct.numB l.head ++ (Oct.numB l.note.size ++ l.note) := rfl
    obtain ⟨t, a, h, n⟩ := l
    simp only at *
    have b1 : (w.alloc (.cells (labC ⟨t, a, h, n⟩) 23)).cell? ⟨w.heap.size, 1, none⟩ = some (.int .i64 a) := rowV_cell hrow 1
    have b2 : (w.alloc (.cells (labC ⟨t, a, h, n⟩) 23)).cell? ⟨w.heap.size, 2, none⟩ = some (.int .i64 h) := rowV_cell hrow 2
    have b3 : (w.alloc (.cells (labC ⟨t, a, h, n⟩) 23)).cell? ⟨w.heap.size, 3, none⟩ = some (.string n) := rowV_cell hrow 3
    have e3 : (Oct.numB n.size ++ n).size ≤ 410 := by rw [ByteArray.size_append]; omega
    have e2 : (Oct.numB a ++ Oct.numB h).size ≤ 20 := by rw [ByteArray.size_append]; omega
    rw [hR]
    generalize Oct.numB n.size ++ n = T3 at *
    generalize Oct.numB a = T1 at *
    generalize Oct.numB h = T2 at *
    have t1 : ¬ 9223372036854775807 < T1.size + T2.size := by omega
    have t2 : ¬ 9223372036854775807 < T1.size + T2.size + T3.size := by omega
    have H := Lib.hid (And.intro cR (And.intro cN1 (And.intro cN2 (And.intro cT (And.intro hb hlt)))))
    clear cR cN1 cN2 cT hb hlt hrow hr hR hn l3
    go_enter Try.func9, Try.ntmps9
    go_wp2_with fail
    generalize hwa : World.alloc _ _ = w1 at *
    generalize hN : w.heap.size = N at *
    refine (H.out.1 w1).mono ?_
    rintro e w2 ⟨rfl, hb2⟩
    have c1 := (hb2.cell (p := ⟨N, 1, none⟩) H.out.2.2.2.2.2).trans b1
    have c2 := (hb2.cell (p := ⟨N, 2, none⟩) H.out.2.2.2.2.2).trans b2
    have c3 := (hb2.cell (p := ⟨N, 3, none⟩) H.out.2.2.2.2.2).trans b3
    have hlt2 : N < w2.heap.size := Nat.lt_of_lt_of_le H.out.2.2.2.2.2 hb2.size
    have hN2 : Below N w w2 := H.out.2.2.2.2.1.trans (hb2.mono (Nat.le_of_lt H.out.2.2.2.2.2))
    have K := Lib.hid (And.intro hlt2 (And.intro hN2 (And.intro c1 (And.intro c2 c3))))
    clear hb2 hlt2 hN2 c1 c2 c3 b1 b2 b3
    go_wp2_with fail
    go_region_held3 (fun w' => w'.cell? ⟨N, 1, none⟩ = some (.int .i64 a) ∧ w'.cell? ⟨N, 2, none⟩ = some (.int .i64 h) ∧ w'.cell? ⟨N, 3, none⟩ = some (.string n) ∧ Below w2.heap.size w2 w')
      (first | exact ⟨K.out.2.2.1, K.out.2.2.2.1, K.out.2.2.2.2, (Below.refl _ _).drew⟩ | exact ⟨(hb3.cell (p := ⟨N, 1, none⟩) K.out.1).trans K.out.2.2.1, (hb3.cell (p := ⟨N, 2, none⟩) K.out.1).trans K.out.2.2.2.1, (hb3.cell (p := ⟨N, 3, none⟩) K.out.1).trans K.out.2.2.2.2, hb3⟩ | exact ⟨(hb4.cell (p := ⟨N, 1, none⟩) K.out.1).trans K.out.2.2.1, (hb4.cell (p := ⟨N, 2, none⟩) K.out.1).trans K.out.2.2.2.1, (hb4.cell (p := ⟨N, 3, none⟩) K.out.1).trans K.out.2.2.2.2, hb4⟩ | exact ⟨(hb5.cell (p := ⟨N, 1, none⟩) K.out.1).trans K.out.2.2.1, (hb5.cell (p := ⟨N, 2, none⟩) K.out.1).trans K.out.2.2.2.1, (hb5.cell (p := ⟨N, 3, none⟩) K.out.1).trans K.out.2.2.2.2, hb5⟩)
      (first
        | (go_at_call_has 29 (Value.int .i64 a); refine (H.out.2.1 _).mono ?_; rintro e w3 ⟨rfl, hb3'⟩; have hb3 : Below w2.heap.size w2 w3 := (Below.refl _ _).drew.trans (hb3'.mono (Nat.le_refl _)); clear hb3')
        | (go_at_call 29; refine (H.out.2.2.1 _).mono ?_; rintro e w4 ⟨rfl, hb4'⟩; have hb4 : Below w2.heap.size w2 w4 := hb3.trans (hb4'.mono hb3.size); clear hb4')
        | (go_at_call 30; refine (H.out.2.2.2.1 _).mono ?_; rintro e w5 ⟨rfl, hb5'⟩; have hb5 : Below w2.heap.size w2 w5 := hb4.trans (hb5'.mono hb4.size); clear hb5'))
    have L := Lib.hid hb5
    clear hb3 hb4 hb5
    go_wp2_with fail
    go_ret2
    rw [hN]
    exact ⟨rfl, K.out.2.1.trans (L.out.mono (Nat.le_of_lt K.out.1))⟩
  · rw [decide_eq_false hr] at cR
    rw [(bytes6_no hr).1, (bytes6_no hr).2]
    have H := Lib.hid (And.intro cR (And.intro hb hlt))
    clear cR hb hlt hrow hr
    obtain ⟨t, a, h, n⟩ := l
    go_enter Try.func9, Try.ntmps9
    go_wp2_with fail
    generalize hwa : World.alloc _ _ = w1 at *
    generalize hN : w.heap.size = N at *
    refine (H.out.1 w1).mono ?_
    rintro e w2 ⟨rfl, hb2⟩
    have K := Lib.hid (H.out.2.1.trans (hb2.mono (Nat.le_of_lt H.out.2.2)))
    clear hb2
    go_wp2_with fail
    go_ret2
    rw [hN]
    exact ⟨rfl, K.out⟩
set_option maxRecDepth 100000 in
set_option maxHeartbeats 1600000 in
theorem rtext6_any (l : Lb.Label) (hr : Lb.right l) (w : World) :
    Calls Try.prog 32 #[labV l] w fun e w' => e = .returned (.string (Lb.text l)) ∧ Below w.heap.size w w' := by
  obtain ⟨hb, hlt, hrow⟩ := lab_box l w
  have l1 := Oct.numB_len l.tail (by have := hr.2.2.1; omega) (by have := hr.2.2.2.1; have := hr.2.2.2.2.1; omega)
  have l2 := Oct.numB_len l.head (by have := hr.2.2.1; have := hr.2.2.2.1; omega) (by have := hr.2.2.2.2.1; omega)
  have l3 := Oct.numB_len (l.note.size : Int) (by have := hr.2.2.2.2.2; omega) (by have := hr.2.2.2.2.2; omega)
  have cN1 := fun w => rnum_any l.tail w (by have := hr.2.2.1; omega) (by have := hr.2.2.2.1; have := hr.2.2.2.2.1; omega)
  have cN2 := fun w => rnum_any l.head w (by have := hr.2.2.1; have := hr.2.2.2.1; omega) (by have := hr.2.2.2.2.1; omega)
  have cT := fun w => rtext1_any l.note w (by have := hr.2.2.2.2.2; omega)
  have hn := hr.2.2.2.2.2
  have hR : Lb.text l = Oct.numB l.tail ++ Oct.numB l.head ++ (Oct.numB l.note.size ++ l.note) := rfl
  obtain ⟨t, a, h, n⟩ := l
  simp only at *
  have c1 : (w.alloc (.cells (labC ⟨t, a, h, n⟩) 23)).cell? ⟨w.heap.size, 1, none⟩ = some (.int .i64 a) := rowV_cell hrow 1
  have c2 : (w.alloc (.cells (labC ⟨t, a, h, n⟩) 23)).cell? ⟨w.heap.size, 2, none⟩ = some (.int .i64 h) := rowV_cell hrow 2
  have c3 : (w.alloc (.cells (labC ⟨t, a, h, n⟩) 23)).cell? ⟨w.heap.size, 3, none⟩ = some (.string n) := rowV_cell hrow 3
  have e3 : (Oct.numB n.size ++ n).size ≤ 410 := by rw [ByteArray.size_append]; omega
  have e2 : (Oct.numB a ++ Oct.numB h).size ≤ 20 := by rw [ByteArray.size_append]; omega
  rw [hR]
  generalize Oct.numB n.size ++ n = T3 at *
  generalize Oct.numB a = T1 at *
  generalize Oct.numB h = T2 at *
  have t1 : ¬ 9223372036854775807 < T1.size + T2.size := by omega
  have t2 : ¬ 9223372036854775807 < T1.size + T2.size + T3.size := by omega
  have H := Lib.hid (And.intro cN1 (And.intro cN2 cT))
  have K := Lib.hid (And.intro hlt (And.intro hb (And.intro c1 (And.intro c2 c3))))
  clear cN1 cN2 cT hb hlt hrow hr hR hn l3 c1 c2 c3
  go_enter Try.func32, Try.ntmps32
  go_wp2_with fail
  generalize hwa : World.alloc _ _ = w2 at *
  generalize hN : w.heap.size = N at *
  go_region_held3 (fun w' => w'.cell? ⟨N, 1, none⟩ = some (.int .i64 a) ∧ w'.cell? ⟨N, 2, none⟩ = some (.int .i64 h) ∧ w'.cell? ⟨N, 3, none⟩ = some (.string n) ∧ Below w2.heap.size w2 w')
    (first | exact ⟨K.out.2.2.1, K.out.2.2.2.1, K.out.2.2.2.2, (Below.refl _ _).drew⟩ | exact ⟨(hb3.cell (p := ⟨N, 1, none⟩) K.out.1).trans K.out.2.2.1, (hb3.cell (p := ⟨N, 2, none⟩) K.out.1).trans K.out.2.2.2.1, (hb3.cell (p := ⟨N, 3, none⟩) K.out.1).trans K.out.2.2.2.2, hb3⟩ | exact ⟨(hb4.cell (p := ⟨N, 1, none⟩) K.out.1).trans K.out.2.2.1, (hb4.cell (p := ⟨N, 2, none⟩) K.out.1).trans K.out.2.2.2.1, (hb4.cell (p := ⟨N, 3, none⟩) K.out.1).trans K.out.2.2.2.2, hb4⟩ | exact ⟨(hb5.cell (p := ⟨N, 1, none⟩) K.out.1).trans K.out.2.2.1, (hb5.cell (p := ⟨N, 2, none⟩) K.out.1).trans K.out.2.2.2.1, (hb5.cell (p := ⟨N, 3, none⟩) K.out.1).trans K.out.2.2.2.2, hb5⟩)
    (first
      | (go_at_call_has 56 (Value.int .i64 a); refine (H.out.1 _).mono ?_; rintro e w3 ⟨rfl, hb3'⟩; have hb3 : Below w2.heap.size w2 w3 := (Below.refl _ _).drew.trans (hb3'.mono (Nat.le_refl _)); clear hb3')
      | (go_at_call 56; refine (H.out.2.1 _).mono ?_; rintro e w4 ⟨rfl, hb4'⟩; have hb4 : Below w2.heap.size w2 w4 := hb3.trans (hb4'.mono hb3.size); clear hb4')
      | (go_at_call 57; refine (H.out.2.2 _).mono ?_; rintro e w5 ⟨rfl, hb5'⟩; have hb5 : Below w2.heap.size w2 w5 := hb4.trans (hb5'.mono hb4.size); clear hb5'))
  have L := Lib.hid hb5
  clear hb3 hb4 hb5
  go_wp2_with fail
  go_ret
  rw [hN]
  exact ⟨rfl, K.out.2.1.trans (L.out.mono (Nat.le_of_lt K.out.1))⟩
set_option maxRecDepth 100000 in
set_option maxHeartbeats 1600000 in
theorem rbytes6_any (l : Lb.Label) (w : World) :
    Calls Try.prog 10 #[labV l] w fun e w' => e = .returned (.tuple #[.string (Lb.bytes l), .int .i64 (Lb.bytesE l)]) ∧ Below w.heap.size w w' := by
  obtain ⟨hb, hlt, hrow⟩ := lab_box l w
  have cR := rright6_any l
  by_cases hr : Lb.right l
  · rw [decide_eq_true hr] at cR
    rw [(bytes6_yes hr).1, (bytes6_yes hr).2]
    have cT := rtext6_any l hr
    generalize Lb.text l = T at *
    have c0 : (w.alloc (.cells (labC l) 23)).cell? ⟨w.heap.size, 0, none⟩ = some (.int .i64 l.turn) := rowV_cell hrow 0
    have c1 : (w.alloc (.cells (labC l) 23)).cell? ⟨w.heap.size, 1, none⟩ = some (.int .i64 l.tail) := rowV_cell hrow 1
    have c2 : (w.alloc (.cells (labC l) 23)).cell? ⟨w.heap.size, 2, none⟩ = some (.int .i64 l.head) := rowV_cell hrow 2
    have c3 : (w.alloc (.cells (labC l) 23)).cell? ⟨w.heap.size, 3, none⟩ = some (.string l.note) := rowV_cell hrow 3
    obtain ⟨t, a, h, n⟩ := l
    have H := Lib.hid (And.intro cR (And.intro cT (And.intro hb (And.intro hlt (And.intro c0 (And.intro c1 (And.intro c2 c3)))))))
    clear cR cT hb hlt hrow hr c0 c1 c2 c3
    go_enter Try.func10, Try.ntmps10
    go_wp2_with fail
    generalize hwa : World.alloc _ _ = w1 at *
    generalize hN : w.heap.size = N at *
    refine (H.out.1 w1).mono ?_
    rintro e w2 ⟨rfl, hb2⟩
    have c0 := (hb2.cell (p := ⟨N, 0, none⟩) H.out.2.2.2.1).trans H.out.2.2.2.2.1
    have c1 := (hb2.cell (p := ⟨N, 1, none⟩) H.out.2.2.2.1).trans H.out.2.2.2.2.2.1
    have c2 := (hb2.cell (p := ⟨N, 2, none⟩) H.out.2.2.2.1).trans H.out.2.2.2.2.2.2.1
    have c3 := (hb2.cell (p := ⟨N, 3, none⟩) H.out.2.2.2.1).trans H.out.2.2.2.2.2.2.2
    have hN2 : Below N w w2 := H.out.2.2.1.trans (hb2.mono (Nat.le_of_lt H.out.2.2.2.1))
    have K := Lib.hid (And.intro (Nat.lt_of_lt_of_le H.out.2.2.2.1 hb2.size) hN2)
    clear hb2 hN2
    go_wp2_with fail
    refine (H.out.2.1 w2).mono ?_
    rintro e w3 ⟨rfl, hb3⟩
    have L := Lib.hid hb3
    clear hb3
    go_wp2_with fail
    go_ret2
    rw [hN]
    exact ⟨rfl, K.out.2.trans (L.out.mono (Nat.le_of_lt K.out.1))⟩
  · rw [decide_eq_false hr] at cR
    rw [(bytes6_no hr).1, (bytes6_no hr).2]
    have H := Lib.hid (And.intro cR (And.intro hb hlt))
    clear cR hb hlt hrow hr
    obtain ⟨t, a, h, n⟩ := l
    go_enter Try.func10, Try.ntmps10
    go_wp2_with fail
    generalize hwa : World.alloc _ _ = w1 at *
    generalize hN : w.heap.size = N at *
    refine (H.out.1 w1).mono ?_
    rintro e w2 ⟨rfl, hb2⟩
    have K := Lib.hid (H.out.2.1.trans (hb2.mono (Nat.le_of_lt H.out.2.2)))
    clear hb2
    go_wp2_with fail
    go_ret2
    rw [hN]
    exact ⟨rfl, K.out⟩
end Go.Proofs.Ytedemehlccmkpaa

/-
  Layer 6: what bytes are parsed as, the program's and the document's.
-/
namespace Go.Proofs.Ytedemehlccmkpaa
open Go.RowKit
theorem tR_size (s : ByteArray) : (Oct.tR s).size ≤ s.size := by
  rcases Oct.t_cases s with ⟨_, h, _⟩ | ⟨n, r, _, _, h3, _, e2, _, _⟩
  · rw [h]; exact Nat.zero_le _
  · rw [e2]; exact h3
theorem info_lab : (Try.prog.info? 23).map (·.size) = some 4 := by kernel_rfl
set_option maxRecDepth 100000 in
theorem results_lab {fn : Func} {p u : Tmp} (h : fn.results = #[.cell p 23, .tmp u]) (tmps : Array Value) (w : World) (g : Nat) (l : Lb.Label)
    (hp : tmps.getD p undef = .pointer (some ⟨g, 0, none⟩)) (hg : RowV w g 23 (labC l).toList) :
    (results fn tmps).run Try.prog w = .ok (.tuple #[labV l, tmps.getD u undef]) w := by
  have hl := run_loadVar_row (P := Try.prog) w g 23 23 (labC l) (0, 0) _ hg Try.underlying23 rfl info_lab
  rw [results_cell_tmp h, hp]
  simp only [asAddr, Sem.run_pure, Result.andThen]
  rw [hl]
/-- a label stored into its box -/
theorem lab_put {w : World} {N : Nat} {l : Lb.Label} (hr : RowV w N 23 (labC l).toList) (t a h : Int) (n : ByteArray) :
    RowV ((((w.setCell ⟨N, 0, none⟩ (.int .i64 t)).setCell ⟨N, 1, none⟩ (.int .i64 a)).setCell ⟨N, 2, none⟩ (.int .i64 h)).setCell ⟨N, 3, none⟩ (.string n)) N 23 (labC ⟨t, a, h, n⟩).toList ∧
    ∀ B, B ≤ N → Below B w ((((w.setCell ⟨N, 0, none⟩ (.int .i64 t)).setCell ⟨N, 1, none⟩ (.int .i64 a)).setCell ⟨N, 2, none⟩ (.int .i64 h)).setCell ⟨N, 3, none⟩ (.string n)) :=
  ⟨rowV_stored (rowV_stored (rowV_stored (rowV_stored hr 0 (.int .i64 t)) 1 (.int .i64 a)) 2 (.int .i64 h)) 3 (.string n),
    fun B hB => ((((Below.refl B w).setCell (p := ⟨N, 0, none⟩) hB _).setCell (p := ⟨N, 1, none⟩) hB _).setCell (p := ⟨N, 2, none⟩) hB _).setCell (p := ⟨N, 3, none⟩) hB _⟩
theorem rowV_drewN {w : World} {g T : Nat} {l : List Value} (h : RowV w g T l) (n : Nat) : RowV (w.drewN n) g T l := h
theorem lab_below {w w' : World} {g B : Nat} {l : Lb.Label} (h : RowV w g 23 (labC l).toList) (hb : Below B w w') (hg : g < B) :
    w'.cell? ⟨g, 0, none⟩ = some (.int .i64 l.turn) ∧ w'.cell? ⟨g, 1, none⟩ = some (.int .i64 l.tail) ∧ w'.cell? ⟨g, 2, none⟩ = some (.int .i64 l.head) ∧ w'.cell? ⟨g, 3, none⟩ = some (.string l.note) ∧
    w'.frozen? ⟨g, 0, none⟩ = false ∧ w'.frozen? ⟨g, 1, none⟩ = false ∧ w'.frozen? ⟨g, 2, none⟩ = false ∧ w'.frozen? ⟨g, 3, none⟩ = false ∧ RowV w' g 23 (labC l).toList := by
  have h2 := rowV_below h hb hg
  exact ⟨rowV_cell h2 0, rowV_cell h2 1, rowV_cell h2 2, rowV_cell h2 3, rowV_frozen h2 0, rowV_frozen h2 1, rowV_frozen h2 2, rowV_frozen h2 3, h2⟩
theorem parse6_bad {t : Int} {s : ByteArray} (h : Oct.tE s ≠ 0 ∨ Oct.tE (Oct.tR s) ≠ 0 ∨ (Oct.txt (Oct.tR (Oct.tR s)) 400).2.2 ≠ 0 ∨ (Oct.txt (Oct.tR (Oct.tR s)) 400).2.1 ≠ ⟨#[]⟩ ∨ ¬ Lb.right (Lb.told t s)) : Lb.parse t s = (Lb.no, 4) := if_pos h
theorem parse6_good {t : Int} {s : ByteArray} (h1 : Oct.tE s = 0) (h2 : Oct.tE (Oct.tR s) = 0) (h3 : (Oct.txt (Oct.tR (Oct.tR s)) 400).2.2 = 0) (h4 : (Oct.txt (Oct.tR (Oct.tR s)) 400).2.1 = ⟨#[]⟩) (h5 : Lb.right (Lb.told t s)) : Lb.parse t s = (Lb.told t s, 0) :=
  if_neg fun h => h.elim (fun h => h h1) fun h => h.elim (fun h => h h2) fun h => h.elim (fun h => h h3) fun h => h.elim (fun h => h h4) fun h => h h5
/-- two labels in boxes, with draws between -/
theorem lab_box2 (w : World) (l0 l : Lb.Label) (k : Nat) :
    RowV (((w.alloc (.cells (labC l0) 23)).drewN k).alloc (.cells (labC l) 23)) (w.heap.size + 1) 23 (labC l).toList ∧
    RowV (((w.alloc (.cells (labC l0) 23)).drewN k).alloc (.cells (labC l) 23)) w.heap.size 23 (labC l0).toList ∧
    Below w.heap.size w (((w.alloc (.cells (labC l0) 23)).drewN k).alloc (.cells (labC l) 23)) ∧
    w.heap.size + 1 < (((w.alloc (.cells (labC l0) 23)).drewN k).alloc (.cells (labC l) 23)).heap.size := by
  obtain ⟨hb, hlt, hrow⟩ := lab_box l0 w
  have e : ((w.alloc (.cells (labC l0) 23)).drewN k).heap.size = w.heap.size + 1 := by simp
  have h := rowV_new ((w.alloc (.cells (labC l0) 23)).drewN k) 23 (labC l).toList
  rw [e] at h
  have h0 : RowV ((w.alloc (.cells (labC l0) 23)).drewN k) w.heap.size 23 (labC l0).toList := hrow
  have hb0 : Below w.heap.size w ((w.alloc (.cells (labC l0) 23)).drewN k) := below_drewN hb k
  exact ⟨h, rowV_alloc h0 _, hb0.trans ((Below.refl w.heap.size _).alloc (by omega) _), rowV_lt h⟩
set_option maxRecDepth 100000 in
set_option maxHeartbeats 1600000 in
theorem parse6_0 (t : Int) (s : ByteArray) (hs : s.size ≤ maxLen) (e1 : ¬ Oct.tE s = 0) (w : World) :
    Calls Try.prog 11 #[.int .i64 t, .string s] w fun e w' => e = .returned (.tuple #[labV (Lb.parse t s).1, .int .i64 (Lb.parse t s).2]) ∧ Below w.heap.size w w' := by
  have z1 := tR_size s
  have z2 := tR_size (Oct.tR s)
  have h1 := fun w => takeNum_any s w hs
  have h2 := fun w => takeNum_any (Oct.tR s) w (by omega)
  have h3 := fun w => takeText_any (Oct.tR (Oct.tR s)) 400 w (by omega)
  have h4 := fun w => right6_any (Lb.told t s) w
  have eT : Lb.told t s = ⟨t, Oct.tN s, Oct.tN (Oct.tR s), (Oct.txt (Oct.tR (Oct.tR s)) 400).1⟩ := rfl
  obtain ⟨hb, hlt, hrow⟩ := lab_box Lb.no w
  have HB := Lib.hid (And.intro hb (And.intro hlt hrow))
  clear hb hlt hrow z1 z2
  have hP := parse6_bad (t := t) (s := s) (.inl e1)
  rw [hP]
  clear hP
  generalize Oct.tE s = E1 at *
  generalize Oct.tN s = N1 at *
  generalize Oct.tE (Oct.tR s) = E2 at *
  generalize Oct.tN (Oct.tR s) = N2 at *
  generalize (Oct.txt (Oct.tR (Oct.tR s)) 400).2.2 = E3 at *
  generalize (Oct.txt (Oct.tR (Oct.tR s)) 400).2.1 = R3 at *
  generalize (Oct.txt (Oct.tR (Oct.tR s)) 400).1 = T3 at *
  generalize Oct.tR (Oct.tR s) = R2 at *
  generalize Oct.tR s = R1 at *
  generalize Lb.told t s = TL at *
  subst eT
  have q1 : (E1 != 0) = true := by simpa using e1
  clear e1
  have H := Lib.hid (And.intro h1 (And.intro h2 (And.intro h3 h4)))
  clear h1 h2 h3 h4
  go_enter Try.func11, Try.ntmps11
  go_wp2_with fail
  refine (H.out.1 _).mono ?_
  rintro e _ ⟨rfl, n0, rfl⟩
  go_wp2_with fail
  generalize hwa : World.drewN _ _ = w1 at *
  have hrow1 : RowV w1 w.heap.size 23 (labC Lb.no).toList := by rw [← hwa]; exact HB.out.2.2
  have hb1 : Below w.heap.size w w1 := by rw [← hwa]; exact below_drewN HB.out.1 _
  clear hwa
  generalize hN : w.heap.size = N at *
  refine bodyPost_ret (v := .tuple #[labV Lb.no, .int .i64 4]) (results_lab (p := 4) (u := 5) rfl _ _ N Lb.no rfl (lab_put (l := Lb.no) ?_ 0 0 0 ⟨#[]⟩).1) rfl ⟨rfl, ?_⟩
  · exact hrow1
  try rw [hN]
  exact hb1.trans ((lab_put hrow1 0 0 0 ⟨#[]⟩).2 _ (Nat.le_refl _))
set_option maxRecDepth 100000 in
set_option maxHeartbeats 1600000 in
theorem parse6_1 (t : Int) (s : ByteArray) (hs : s.size ≤ maxLen) (e1 : Oct.tE s = 0) (e2 : ¬ Oct.tE (Oct.tR s) = 0) (w : World) :
    Calls Try.prog 11 #[.int .i64 t, .string s] w fun e w' => e = .returned (.tuple #[labV (Lb.parse t s).1, .int .i64 (Lb.parse t s).2]) ∧ Below w.heap.size w w' := by
  have z1 := tR_size s
  have z2 := tR_size (Oct.tR s)
  have h1 := fun w => takeNum_any s w hs
  have h2 := fun w => takeNum_any (Oct.tR s) w (by omega)
  have h3 := fun w => takeText_any (Oct.tR (Oct.tR s)) 400 w (by omega)
  have h4 := fun w => right6_any (Lb.told t s) w
  have eT : Lb.told t s = ⟨t, Oct.tN s, Oct.tN (Oct.tR s), (Oct.txt (Oct.tR (Oct.tR s)) 400).1⟩ := rfl
  obtain ⟨hb, hlt, hrow⟩ := lab_box Lb.no w
  have HB := Lib.hid (And.intro hb (And.intro hlt hrow))
  clear hb hlt hrow z1 z2
  have hP := parse6_bad (t := t) (s := s) (.inr (.inl e2))
  rw [hP]
  clear hP
  generalize Oct.tE s = E1 at *
  generalize Oct.tN s = N1 at *
  generalize Oct.tE (Oct.tR s) = E2 at *
  generalize Oct.tN (Oct.tR s) = N2 at *
  generalize (Oct.txt (Oct.tR (Oct.tR s)) 400).2.2 = E3 at *
  generalize (Oct.txt (Oct.tR (Oct.tR s)) 400).2.1 = R3 at *
  generalize (Oct.txt (Oct.tR (Oct.tR s)) 400).1 = T3 at *
  generalize Oct.tR (Oct.tR s) = R2 at *
  generalize Oct.tR s = R1 at *
  generalize Lb.told t s = TL at *
  subst eT
  subst e1
  have q2 : (E2 != 0) = true := by simpa using e2
  clear e2
  have H := Lib.hid (And.intro h1 (And.intro h2 (And.intro h3 h4)))
  clear h1 h2 h3 h4
  go_enter Try.func11, Try.ntmps11
  go_wp2_with fail
  refine (H.out.1 _).mono ?_
  rintro e _ ⟨rfl, n0, rfl⟩
  go_wp2_with fail
  refine (H.out.2.1 _).mono ?_
  rintro e _ ⟨rfl, n1, rfl⟩
  go_wp2_with fail
  generalize hwa : World.drewN _ _ = w1 at *
  have hrow1 : RowV w1 w.heap.size 23 (labC Lb.no).toList := by rw [← hwa]; exact HB.out.2.2
  have hb1 : Below w.heap.size w w1 := by rw [← hwa]; exact below_drewN HB.out.1 _
  clear hwa
  generalize hN : w.heap.size = N at *
  refine bodyPost_ret (v := .tuple #[labV Lb.no, .int .i64 4]) (results_lab (p := 4) (u := 5) rfl _ _ N Lb.no rfl (lab_put (l := Lb.no) ?_ 0 0 0 ⟨#[]⟩).1) rfl ⟨rfl, ?_⟩
  · exact hrow1
  try rw [hN]
  exact hb1.trans ((lab_put hrow1 0 0 0 ⟨#[]⟩).2 _ (Nat.le_refl _))
set_option maxRecDepth 100000 in
set_option maxHeartbeats 1600000 in
theorem parse6_2 (t : Int) (s : ByteArray) (hs : s.size ≤ maxLen) (e1 : Oct.tE s = 0) (e2 : Oct.tE (Oct.tR s) = 0) (e3 : ¬ (Oct.txt (Oct.tR (Oct.tR s)) 400).2.2 = 0) (w : World) :
    Calls Try.prog 11 #[.int .i64 t, .string s] w fun e w' => e = .returned (.tuple #[labV (Lb.parse t s).1, .int .i64 (Lb.parse t s).2]) ∧ Below w.heap.size w w' := by
  have z1 := tR_size s
  have z2 := tR_size (Oct.tR s)
  have h1 := fun w => takeNum_any s w hs
  have h2 := fun w => takeNum_any (Oct.tR s) w (by omega)
  have h3 := fun w => takeText_any (Oct.tR (Oct.tR s)) 400 w (by omega)
  have h4 := fun w => right6_any (Lb.told t s) w
  have eT : Lb.told t s = ⟨t, Oct.tN s, Oct.tN (Oct.tR s), (Oct.txt (Oct.tR (Oct.tR s)) 400).1⟩ := rfl
  obtain ⟨hb, hlt, hrow⟩ := lab_box Lb.no w
  have HB := Lib.hid (And.intro hb (And.intro hlt hrow))
  clear hb hlt hrow z1 z2
  have hP := parse6_bad (t := t) (s := s) (.inr (.inr (.inl e3)))
  rw [hP]
  clear hP
  generalize Oct.tE s = E1 at *
  generalize Oct.tN s = N1 at *
  generalize Oct.tE (Oct.tR s) = E2 at *
  generalize Oct.tN (Oct.tR s) = N2 at *
  generalize (Oct.txt (Oct.tR (Oct.tR s)) 400).2.2 = E3 at *
  generalize (Oct.txt (Oct.tR (Oct.tR s)) 400).2.1 = R3 at *
  generalize (Oct.txt (Oct.tR (Oct.tR s)) 400).1 = T3 at *
  generalize Oct.tR (Oct.tR s) = R2 at *
  generalize Oct.tR s = R1 at *
  generalize Lb.told t s = TL at *
  subst eT
  subst e1 e2
  have q3 : (E3 != 0) = true := by simpa using e3
  clear e3
  have H := Lib.hid (And.intro h1 (And.intro h2 (And.intro h3 h4)))
  clear h1 h2 h3 h4
  go_enter Try.func11, Try.ntmps11
  go_wp2_with fail
  refine (H.out.1 _).mono ?_
  rintro e _ ⟨rfl, n0, rfl⟩
  go_wp2_with fail
  refine (H.out.2.1 _).mono ?_
  rintro e _ ⟨rfl, n1, rfl⟩
  go_wp2_with fail
  refine (H.out.2.2.1 _).mono ?_
  rintro e w1 ⟨rfl, n2, hw1⟩
  have hrow1 : RowV w1 w.heap.size 23 (labC Lb.no).toList := by rw [hw1]; exact HB.out.2.2
  have hb1 : Below w.heap.size w w1 := by rw [hw1]; exact below_drewN (below_drewN HB.out.1 _) _
  have hlt1 := rowV_lt hrow1
  have hba := (Below.refl w1.heap.size w1).alloc (Nat.le_refl _) (.cells (labC ⟨t, N1, N2, T3⟩) 23)
  obtain ⟨a0, a1, a2, a3, b0, b1, b2, b3, hr⟩ := lab_below hrow1 hba hlt1
  have L := Lib.hid (And.intro (hb1.trans (hba.mono (Nat.le_of_lt hlt1))) hr)
  clear hw1 hrow1 hb1 hlt1 hba hr H
  generalize hN : w.heap.size = N at *
  go_wp2_with fail
  refine bodyPost_ret (v := .tuple #[labV Lb.no, .int .i64 4]) (results_lab (p := 4) (u := 5) rfl _ _ N Lb.no rfl (lab_put (l := Lb.no) ?_ 0 0 0 ⟨#[]⟩).1) rfl ⟨rfl, ?_⟩
  · exact L.out.2
  try rw [hN]
  exact L.out.1.trans ((lab_put L.out.2 0 0 0 ⟨#[]⟩).2 _ (Nat.le_refl _))
set_option maxRecDepth 100000 in
set_option maxHeartbeats 1600000 in
theorem parse6_3 (t : Int) (s : ByteArray) (hs : s.size ≤ maxLen) (e1 : Oct.tE s = 0) (e2 : Oct.tE (Oct.tR s) = 0) (e3 : (Oct.txt (Oct.tR (Oct.tR s)) 400).2.2 = 0) (e4 : ¬ (Oct.txt (Oct.tR (Oct.tR s)) 400).2.1 = ⟨#[]⟩) (w : World) :
    Calls Try.prog 11 #[.int .i64 t, .string s] w fun e w' => e = .returned (.tuple #[labV (Lb.parse t s).1, .int .i64 (Lb.parse t s).2]) ∧ Below w.heap.size w w' := by
  have z1 := tR_size s
  have z2 := tR_size (Oct.tR s)
  have h1 := fun w => takeNum_any s w hs
  have h2 := fun w => takeNum_any (Oct.tR s) w (by omega)
  have h3 := fun w => takeText_any (Oct.tR (Oct.tR s)) 400 w (by omega)
  have h4 := fun w => right6_any (Lb.told t s) w
  have eT : Lb.told t s = ⟨t, Oct.tN s, Oct.tN (Oct.tR s), (Oct.txt (Oct.tR (Oct.tR s)) 400).1⟩ := rfl
  obtain ⟨hb, hlt, hrow⟩ := lab_box Lb.no w
  have HB := Lib.hid (And.intro hb (And.intro hlt hrow))
  clear hb hlt hrow z1 z2
  have hP := parse6_bad (t := t) (s := s) (.inr (.inr (.inr (.inl e4))))
  rw [hP]
  clear hP
  generalize Oct.tE s = E1 at *
  generalize Oct.tN s = N1 at *
  generalize Oct.tE (Oct.tR s) = E2 at *
  generalize Oct.tN (Oct.tR s) = N2 at *
  generalize (Oct.txt (Oct.tR (Oct.tR s)) 400).2.2 = E3 at *
  generalize (Oct.txt (Oct.tR (Oct.tR s)) 400).2.1 = R3 at *
  generalize (Oct.txt (Oct.tR (Oct.tR s)) 400).1 = T3 at *
  generalize Oct.tR (Oct.tR s) = R2 at *
  generalize Oct.tR s = R1 at *
  generalize Lb.told t s = TL at *
  subst eT
  subst e1 e2 e3
  have q4 := str_ne R3 (Nat.pos_of_ne_zero fun h => e4 (ByteArray.size_eq_zero_iff.1 h))
  clear e4
  have H := Lib.hid (And.intro h1 (And.intro h2 (And.intro h3 h4)))
  clear h1 h2 h3 h4
  go_enter Try.func11, Try.ntmps11
  go_wp2_with fail
  refine (H.out.1 _).mono ?_
  rintro e _ ⟨rfl, n0, rfl⟩
  go_wp2_with fail
  refine (H.out.2.1 _).mono ?_
  rintro e _ ⟨rfl, n1, rfl⟩
  go_wp2_with fail
  refine (H.out.2.2.1 _).mono ?_
  rintro e w1 ⟨rfl, n2, hw1⟩
  have hrow1 : RowV w1 w.heap.size 23 (labC Lb.no).toList := by rw [hw1]; exact HB.out.2.2
  have hb1 : Below w.heap.size w w1 := by rw [hw1]; exact below_drewN (below_drewN HB.out.1 _) _
  have hlt1 := rowV_lt hrow1
  have hba := (Below.refl w1.heap.size w1).alloc (Nat.le_refl _) (.cells (labC ⟨t, N1, N2, T3⟩) 23)
  obtain ⟨a0, a1, a2, a3, b0, b1, b2, b3, hr⟩ := lab_below hrow1 hba hlt1
  have L := Lib.hid (And.intro (hb1.trans (hba.mono (Nat.le_of_lt hlt1))) hr)
  clear hw1 hrow1 hb1 hlt1 hba hr H
  generalize hN : w.heap.size = N at *
  go_wp2_with fail
  refine bodyPost_ret (v := .tuple #[labV Lb.no, .int .i64 4]) (results_lab (p := 4) (u := 5) rfl _ _ N Lb.no rfl (lab_put (l := Lb.no) ?_ 0 0 0 ⟨#[]⟩).1) rfl ⟨rfl, ?_⟩
  · exact L.out.2
  try rw [hN]
  exact L.out.1.trans ((lab_put L.out.2 0 0 0 ⟨#[]⟩).2 _ (Nat.le_refl _))
set_option maxRecDepth 100000 in
set_option maxHeartbeats 1600000 in
theorem parse6_4 (t : Int) (s : ByteArray) (hs : s.size ≤ maxLen) (e1 : Oct.tE s = 0) (e2 : Oct.tE (Oct.tR s) = 0) (e3 : (Oct.txt (Oct.tR (Oct.tR s)) 400).2.2 = 0) (e4 : (Oct.txt (Oct.tR (Oct.tR s)) 400).2.1 = ⟨#[]⟩) (e5 : ¬ Lb.right (Lb.told t s)) (w : World) :
    Calls Try.prog 11 #[.int .i64 t, .string s] w fun e w' => e = .returned (.tuple #[labV (Lb.parse t s).1, .int .i64 (Lb.parse t s).2]) ∧ Below w.heap.size w w' := by
  have z1 := tR_size s
  have z2 := tR_size (Oct.tR s)
  have h1 := fun w => takeNum_any s w hs
  have h2 := fun w => takeNum_any (Oct.tR s) w (by omega)
  have h3 := fun w => takeText_any (Oct.tR (Oct.tR s)) 400 w (by omega)
  have h4 := fun w => right6_any (Lb.told t s) w
  have eT : Lb.told t s = ⟨t, Oct.tN s, Oct.tN (Oct.tR s), (Oct.txt (Oct.tR (Oct.tR s)) 400).1⟩ := rfl
  obtain ⟨hb, hlt, hrow⟩ := lab_box Lb.no w
  have HB := Lib.hid (And.intro hb (And.intro hlt hrow))
  clear hb hlt hrow z1 z2
  have hP := parse6_bad (t := t) (s := s) (.inr (.inr (.inr (.inr e5))))
  rw [hP]
  clear hP
  rw [decide_eq_false e5] at h4
  clear e5
  generalize Oct.tE s = E1 at *
  generalize Oct.tN s = N1 at *
  generalize Oct.tE (Oct.tR s) = E2 at *
  generalize Oct.tN (Oct.tR s) = N2 at *
  generalize (Oct.txt (Oct.tR (Oct.tR s)) 400).2.2 = E3 at *
  generalize (Oct.txt (Oct.tR (Oct.tR s)) 400).2.1 = R3 at *
  generalize (Oct.txt (Oct.tR (Oct.tR s)) 400).1 = T3 at *
  generalize Oct.tR (Oct.tR s) = R2 at *
  generalize Oct.tR s = R1 at *
  generalize Lb.told t s = TL at *
  subst eT
  subst e1 e2 e3 e4
  have H := Lib.hid (And.intro h1 (And.intro h2 (And.intro h3 h4)))
  clear h1 h2 h3 h4
  go_enter Try.func11, Try.ntmps11
  go_wp2_with fail
  refine (H.out.1 _).mono ?_
  rintro e _ ⟨rfl, n0, rfl⟩
  go_wp2_with fail
  refine (H.out.2.1 _).mono ?_
  rintro e _ ⟨rfl, n1, rfl⟩
  go_wp2_with fail
  refine (H.out.2.2.1 _).mono ?_
  rintro e _ ⟨rfl, n2, rfl⟩
  go_wp2_with fail
  generalize hwa : World.alloc (World.drewN _ _) _ = w1 at *
  obtain ⟨hrow2, hrow1, hb1, hl2⟩ := lab_box2 w Lb.no ⟨t, N1, N2, T3⟩ (n0 + n1 + n2)
  rw [show ((w.alloc (.cells (labC Lb.no) 23)).drewN (n0 + n1 + n2)).alloc (.cells (labC ⟨t, N1, N2, T3⟩) 23) = w1 from hwa] at hrow2 hrow1 hb1 hl2
  have K := Lib.hid (And.intro hrow2 (And.intro hrow1 (And.intro hb1 hl2)))
  clear hrow2 hrow1 hb1 hl2
  generalize hN : w.heap.size = N at *
  refine (H.out.2.2.2 _).mono ?_
  rintro e w2 ⟨rfl, hb2⟩
  obtain ⟨a0, a1, a2, a3, b0, b1, b2, b3, hr⟩ := lab_below K.out.2.1 hb2 (Nat.lt_of_succ_lt K.out.2.2.2)
  obtain ⟨c0, c1, c2, c3, d0, d1, d2, d3, hr2⟩ := lab_below K.out.1 hb2 K.out.2.2.2
  have L := Lib.hid (And.intro (K.out.2.2.1.trans (hb2.mono (Nat.le_of_lt (Nat.lt_of_succ_lt K.out.2.2.2)))) (And.intro hr hr2))
  clear hb2 hr hr2
  go_wp2_with fail
  refine bodyPost_ret (v := .tuple #[labV Lb.no, .int .i64 4]) (results_lab (p := 4) (u := 5) rfl _ _ N Lb.no rfl (lab_put (l := Lb.no) ?_ 0 0 0 ⟨#[]⟩).1) rfl ⟨rfl, ?_⟩
  · exact L.out.2.1
  try rw [hN]
  exact L.out.1.trans ((lab_put L.out.2.1 0 0 0 ⟨#[]⟩).2 _ (Nat.le_refl _))
set_option maxRecDepth 100000 in
set_option maxHeartbeats 1600000 in
theorem parse6_5 (t : Int) (s : ByteArray) (hs : s.size ≤ maxLen) (e1 : Oct.tE s = 0) (e2 : Oct.tE (Oct.tR s) = 0) (e3 : (Oct.txt (Oct.tR (Oct.tR s)) 400).2.2 = 0) (e4 : (Oct.txt (Oct.tR (Oct.tR s)) 400).2.1 = ⟨#[]⟩) (e5 : Lb.right (Lb.told t s)) (w : World) :
    Calls Try.prog 11 #[.int .i64 t, .string s] w fun e w' => e = .returned (.tuple #[labV (Lb.parse t s).1, .int .i64 (Lb.parse t s).2]) ∧ Below w.heap.size w w' := by
  have z1 := tR_size s
  have z2 := tR_size (Oct.tR s)
  have h1 := fun w => takeNum_any s w hs
  have h2 := fun w => takeNum_any (Oct.tR s) w (by omega)
  have h3 := fun w => takeText_any (Oct.tR (Oct.tR s)) 400 w (by omega)
  have h4 := fun w => right6_any (Lb.told t s) w
  have eT : Lb.told t s = ⟨t, Oct.tN s, Oct.tN (Oct.tR s), (Oct.txt (Oct.tR (Oct.tR s)) 400).1⟩ := rfl
  obtain ⟨hb, hlt, hrow⟩ := lab_box Lb.no w
  have HB := Lib.hid (And.intro hb (And.intro hlt hrow))
  clear hb hlt hrow z1 z2
  have hP := parse6_good (t := t) (s := s) e1 e2 e3 e4 e5
  rw [hP]
  clear hP
  rw [decide_eq_true e5] at h4
  clear e5
  generalize Oct.tE s = E1 at *
  generalize Oct.tN s = N1 at *
  generalize Oct.tE (Oct.tR s) = E2 at *
  generalize Oct.tN (Oct.tR s) = N2 at *
  generalize (Oct.txt (Oct.tR (Oct.tR s)) 400).2.2 = E3 at *
  generalize (Oct.txt (Oct.tR (Oct.tR s)) 400).2.1 = R3 at *
  generalize (Oct.txt (Oct.tR (Oct.tR s)) 400).1 = T3 at *
  generalize Oct.tR (Oct.tR s) = R2 at *
  generalize Oct.tR s = R1 at *
  generalize Lb.told t s = TL at *
  subst eT
  subst e1 e2 e3 e4
  have H := Lib.hid (And.intro h1 (And.intro h2 (And.intro h3 h4)))
  clear h1 h2 h3 h4
  go_enter Try.func11, Try.ntmps11
  go_wp2_with fail
  refine (H.out.1 _).mono ?_
  rintro e _ ⟨rfl, n0, rfl⟩
  go_wp2_with fail
  refine (H.out.2.1 _).mono ?_
  rintro e _ ⟨rfl, n1, rfl⟩
  go_wp2_with fail
  refine (H.out.2.2.1 _).mono ?_
  rintro e _ ⟨rfl, n2, rfl⟩
  go_wp2_with fail
  generalize hwa : World.alloc (World.drewN _ _) _ = w1 at *
  obtain ⟨hrow2, hrow1, hb1, hl2⟩ := lab_box2 w Lb.no ⟨t, N1, N2, T3⟩ (n0 + n1 + n2)
  rw [show ((w.alloc (.cells (labC Lb.no) 23)).drewN (n0 + n1 + n2)).alloc (.cells (labC ⟨t, N1, N2, T3⟩) 23) = w1 from hwa] at hrow2 hrow1 hb1 hl2
  have K := Lib.hid (And.intro hrow2 (And.intro hrow1 (And.intro hb1 hl2)))
  clear hrow2 hrow1 hb1 hl2
  generalize hN : w.heap.size = N at *
  refine (H.out.2.2.2 _).mono ?_
  rintro e w2 ⟨rfl, hb2⟩
  obtain ⟨a0, a1, a2, a3, b0, b1, b2, b3, hr⟩ := lab_below K.out.2.1 hb2 (Nat.lt_of_succ_lt K.out.2.2.2)
  obtain ⟨c0, c1, c2, c3, d0, d1, d2, d3, hr2⟩ := lab_below K.out.1 hb2 K.out.2.2.2
  have L := Lib.hid (And.intro (K.out.2.2.1.trans (hb2.mono (Nat.le_of_lt (Nat.lt_of_succ_lt K.out.2.2.2)))) (And.intro hr hr2))
  clear hb2 hr hr2
  go_wp2_with fail
  refine bodyPost_ret (v := .tuple #[labV ⟨t, N1, N2, T3⟩, .int .i64 0]) (results_lab (p := 4) (u := 5) rfl _ _ N ⟨t, N1, N2, T3⟩ rfl (lab_put (l := Lb.no) ?_ t N1 N2 T3).1) rfl ⟨rfl, ?_⟩
  · exact L.out.2.1
  try rw [hN]
  exact L.out.1.trans ((lab_put L.out.2.1 t N1 N2 T3).2 _ (Nat.le_refl _))
theorem parse6_any (t : Int) (s : ByteArray) (hs : s.size ≤ maxLen) (w : World) :
    Calls Try.prog 11 #[.int .i64 t, .string s] w fun e w' => e = .returned (.tuple #[labV (Lb.parse t s).1, .int .i64 (Lb.parse t s).2]) ∧ Below w.heap.size w w' := by
  by_cases e1 : Oct.tE s = 0
  · by_cases e2 : Oct.tE (Oct.tR s) = 0
    · by_cases e3 : (Oct.txt (Oct.tR (Oct.tR s)) 400).2.2 = 0
      · by_cases e4 : (Oct.txt (Oct.tR (Oct.tR s)) 400).2.1 = ⟨#[]⟩
        · by_cases e5 : Lb.right (Lb.told t s)
          · exact parse6_5 t s hs e1 e2 e3 e4 e5 w
          · exact parse6_4 t s hs e1 e2 e3 e4 e5 w
        · exact parse6_3 t s hs e1 e2 e3 e4 w
      · exact parse6_2 t s hs e1 e2 e3 w
    · exact parse6_1 t s hs e1 e2 w
  · exact parse6_0 t s hs e1 w
end Go.Proofs.Ytedemehlccmkpaa
