/-
  Layer 2: what Sum, More, written answer, and the document's bytes, Sum, More.
-/
import Derived.Test.YtdcpfpefmndidaaCrcThru
import Derived.Test.YtdcpfpefmndidaaOctOwn
namespace Go.Proofs.Ytdcpfpefmndidaa
open Go.RowKit

set_option maxRecDepth 100000 in
set_option maxHeartbeats 800000 in
theorem rbytes_any (c : Nat) (s : ByteArray) (w : World) (hc0 : c < 4294967296) (hs : s.size ≤ maxLen) :
    Calls Try.prog 33 #[.int .u32 (c : Int), .string s] w fun e w' => e = .returned (.int .u32 (Crc.run c s.data.toList : Int)) ∧ w = w' := by
  unfold maxLen at hs
  go_enter Try.func33, Try.ntmps33
  go_wp2
  go_loop [0, 5] (fun c' i => ∃ j D : Nat, j ≤ s.size ∧ i = .int .i64 j ∧ c' = .int .u32 (D : Int) ∧ D < 4294967296 ∧ Hid (D = Crc.run c (s.data.toList.take j)))
    (fun _ i => s.size - (intOf i).toNat)
  case atStart => exact ⟨0, c, by omega, rfl, rfl, hc0, Lib.hid rfl⟩
  case round =>
    obtain ⟨j, D, hj, rfl, rfl, hD, HD⟩ := hrel
    by_cases hjt : j < s.size
    · have hx := (s[j]).toNat_lt
      obtain ⟨D1, hD1⟩ : ∃ D1, D1 = D ^^^ (s[j]).toNat := ⟨_, rfl⟩
      have hl1 : D1 < 4294967296 := by rw [hD1]; exact Nat.xor_lt_two_pow (n := 32) hD (by omega)
      have e1 := xor_32 D (s[j]).toNat hD (by omega)
      rw [← hD1] at e1
      have HS : Hid (Crc.stps 8 D1 = Crc.run c (s.data.toList.take (j + 1))) := Lib.hid (by rw [take_byte s j hjt, Crc.run_snoc, ← HD.out, hD1]; rfl)
      clear hD1 HD
      go_wp2
      go_loop [0, 6, 7] (fun c' i _ => ∃ J C : Nat, J ≤ 8 ∧ i = .int .i64 J ∧ c' = .int .u32 (C : Int) ∧ C < 4294967296 ∧ Hid (C = Crc.stps J D1))
        (fun _ i _ => 8 - (intOf i).toNat)
      case atStart => exact ⟨0, D1, by omega, rfl, rfl, hl1, Lib.hid rfl⟩
      case round =>
        obtain ⟨J, C, hJ, rfl, rfl, hC, HC⟩ := hrel
        clear e1
        by_cases hj8 : J < 8
        · have HL : Crc.stp C < 4294967296 := Crc.stp_lt C hC
          have HS2 : Hid (Crc.stp C = Crc.stps (J + 1) D1) := Lib.hid (by rw [HC.out]; rfl)
          by_cases hc : C % 2 = 1
          · have hb : ((C : Int) % 2 == 1) = true := by simp; omega
            have HX : Hid (bits .xor .u32 ((C : Int) / 2) 2197175160 = (Crc.stp C : Int)) := Lib.hid (by
              have := xor_32 (C / 2) 2197175160 (by omega) (by omega)
              rw [Crc.stp, if_pos hc]; exact this)
            clear hc
            go_wp2
            go_round
            case rel => exact ⟨J + 1, Crc.stp C, by omega, by go_num, by rw [HX.out], HL, HS2⟩
            case measure => simp [intOf]; omega
          · have hb : ((C : Int) % 2 == 1) = false := by simp; omega
            have HX : Hid ((C : Int) / 2 = (Crc.stp C : Int)) := Lib.hid (by rw [Crc.stp, if_neg hc]; omega)
            clear hc
            go_wp2
            go_round
            case rel => exact ⟨J + 1, Crc.stp C, by omega, by go_num, by rw [HX.out], HL, HS2⟩
            case measure => simp [intOf]; omega
        · have HF : Hid (C = Crc.run c (s.data.toList.take (j + 1))) := Lib.hid (by rw [HC.out, show J = 8 by omega, HS.out])
          clear HC
          go_wp2
          go_round
          case rel => exact ⟨j + 1, C, by omega, by go_num, rfl, hC, HF⟩
          case measure => simp [intOf]; omega
    · have e : s.data.toList.take j = s.data.toList := List.take_of_length_le (by simp; omega)
      have HF : Hid (D = Crc.run c s.data.toList) := Lib.hid (by rw [HD.out, e])
      clear e HD
      go_wp2
      go_ret
      exact ⟨ret_int (by rw [HF.out]), rfl⟩

theorem turn_sum (l : List UInt8) : bits .xor .u32 (Crc.run 4294967295 l : Int) 4294967295 = (Crc.sum l : Int) :=
  xor_32 _ 4294967295 (Crc.run_lt l _ (by omega)) (by omega)

set_option maxRecDepth 100000 in
set_option maxHeartbeats 800000 in
theorem rsum_any (s : ByteArray) (w : World) (hs : s.size ≤ maxLen) :
    Calls Try.prog 31 #[.string s] w fun e w' => e = .returned (.int .i64 (Crc.sum s.data.toList : Int)) ∧ w = w' := by
  have HX := Lib.hid (turn_sum s.data.toList)
  have hl := Crc.sum_lt s.data.toList
  have hl2 := Crc.run_lt s.data.toList 4294967295 (by omega)
  go_enter Try.func31, Try.ntmps31
  go_wp2_with fail
  refine (rbytes_any 4294967295 s _ (by omega) hs).mono ?_
  rintro e w1 ⟨rfl, rfl⟩
  generalize Crc.run 4294967295 s.data.toList = R at *
  generalize hS : Crc.sum s.data.toList = S at HX hl
  have HS := Lib.hid hS; clear hS
  have hx := HX.out
  go_wp2_with fail
  go_ret
  exact ⟨ret_int (by rw [HS.out]), rfl⟩

set_option maxRecDepth 100000 in
set_option maxHeartbeats 800000 in
theorem sum_any (l : List ByteArray) (a : Option Addr) (cap : Nat) (w : World) (hr : ReadsS w a l) (hl : l.length ≤ maxLen) (hz : ∀ s ∈ l, s.size ≤ maxLen) :
    Calls Try.prog 30 #[.slice a l.length cap] w fun e w' => e = .returned (.int .i64 (Crc.sum (Crc.cat l) : Int)) ∧ Below w.heap.size w w' := by
  have HX := Lib.hid (turn_sum (Crc.cat l))
  have hl1 := Crc.sum_lt (Crc.cat l)
  have hl2 := Crc.run_lt (Crc.cat l) 4294967295 (by omega)
  have HR := Lib.hid (And.intro hr (And.intro hl hz)); clear hr hl hz
  go_enter Try.func30, Try.ntmps30
  go_wp2_with fail
  refine (through_any 4294967295 l a cap _ (by omega) HR.out.1 HR.out.2.1 HR.out.2.2).mono ?_
  rintro e w1 ⟨rfl, hb⟩
  have HB := Lib.hid hb; clear hb
  generalize Crc.run 4294967295 (Crc.cat l) = R at *
  generalize hS : Crc.sum (Crc.cat l) = S at HX hl1
  have HS := Lib.hid hS; clear hS
  have hx := HX.out
  go_wp2_with fail
  go_ret
  exact ⟨ret_int (by rw [HS.out]), HB.out⟩
theorem readsS_one (w : World) (s : ByteArray) (t : TypeId) : ReadsS (w.alloc (.cells #[.string s] t)) (some ⟨w.heap.size, 0, none⟩) [s] := by
  intro i hi
  refine ⟨_, _, rfl, ?_⟩
  obtain rfl : i = 0 := by simp at hi; omega
  rw [cell_of_row _ _ _ #[.string s] t (0, 0) (heap_alloc_new w _)]; rfl
theorem readsS_three (w : World) (x y z : ByteArray) (t : TypeId) : ReadsS (w.alloc (.cells #[.string x, .string y, .string z] t)) (some ⟨w.heap.size, 0, none⟩) [x, y, z] := by
  intro i hi
  refine ⟨_, _, rfl, ?_⟩
  rw [cell_of_row _ _ _ #[.string x, .string y, .string z] t (0, 0) (heap_alloc_new w _)]
  simp at hi
  match i, hi with
  | 0, _ => rfl
  | 1, _ => rfl
  | 2, _ => rfl
theorem below_alloc {w w' : World} {o : Obj} (h : Below (w.alloc o).heap.size (w.alloc o) w') : Below w.heap.size w w' :=
  ((Below.refl _ w).alloc (Nat.le_refl _) o).trans (h.mono (by simp))
theorem cat_one (s : ByteArray) : Crc.cat [s] = s.data.toList := by simp [Crc.cat]

/-- the sum of one text -/
theorem sum_one (s : ByteArray) (w : World) (hs : s.size ≤ maxLen) :
    Calls Try.prog 30 #[.slice (some ⟨w.heap.size, 0, none⟩) 1 1] (w.alloc (.cells #[.string s] 9)) fun e w' => e = .returned (.int .i64 (Crc.sum s.data.toList : Int)) ∧ Below w.heap.size w w' :=
  (sum_any [s] _ 1 _ (readsS_one w s _) (by unfold maxLen; simp) (by intro x hx; simp at hx; rw [hx]; exact hs)).mono fun e w' h => by
    rw [cat_one] at h; exact ⟨h.1, below_alloc h.2⟩
theorem sum_none (w : World) :
    Calls Try.prog 30 #[.slice none 0 0] w fun e w' => e = .returned (.int .i64 0) ∧ Below w.heap.size w w' :=
  (sum_any [] none 0 w (readsS_none _ _) (by unfold maxLen; simp) (by intro x hx; simp at hx)).mono fun e w' h => h
theorem sum_three (x y z : ByteArray) (w : World) (hx : x.size ≤ maxLen) (hy : y.size ≤ maxLen) (hz : z.size ≤ maxLen) :
    Calls Try.prog 30 #[.slice (some ⟨w.heap.size, 0, none⟩) 3 3] (w.alloc (.cells #[.string x, .string y, .string z] 9)) fun e w' => e = .returned (.int .i64 (Crc.sum (Crc.cat [x, y, z]) : Int)) ∧ Below w.heap.size w w' :=
  (sum_any [x, y, z] _ 3 _ (readsS_three w x y z _) (by unfold maxLen; simp) (by intro s hs; simp at hs; rcases hs with rfl | rfl | rfl <;> assumption)).mono fun e w' h => ⟨h.1, below_alloc h.2⟩

/-- a sum gone on with: from any number's lowest 32 bits -/
def Crc.more (sum : Int) (l : List UInt8) : Nat := Crc.run ((sum % 4294967296).toNat ^^^ 4294967295) l ^^^ 4294967295
theorem more_lt (sum : Int) (l : List UInt8) : Crc.more sum l < 4294967296 :=
  Nat.xor_lt_two_pow (n := 32) (Crc.run_lt l _ (Nat.xor_lt_two_pow (n := 32) (by omega) (by omega))) (by omega)

theorem more_in (sum : Int) : bits .xor .u32 (sum % 4294967296) 4294967295 = (((sum % 4294967296).toNat ^^^ 4294967295 : Nat) : Int) := by
  obtain ⟨c, hc⟩ : ∃ c : Nat, sum % 4294967296 = (c : Int) := ⟨_, (Int.toNat_of_nonneg (by omega)).symm⟩
  rw [hc, Int.toNat_natCast]
  exact xor_32 c 4294967295 (by omega) (by omega)
theorem rmore_in (sum : Int) : (IntKind.u64.wrap sum).tmod 4294967296 % 4294967296 = sum % 4294967296 := by
  rw [IntKind.wrap_u64, Int.tmod_eq_emod_of_nonneg (by omega)]; omega

/-- four bytes in a new block, as a string -/
theorem conv_four {P : Program} (w : World) (b0 b1 b2 b3 : UInt8) (x0 x1 x2 x3 : Int) {src dst E : TypeId} (h0 : x0 = (b0.toNat : Int)) (h1 : x1 = (b1.toNat : Int)) (h2 : x2 = (b2.toNat : Int)) (h3 : x3 = (b3.toNat : Int))
    (hs : P.underlying src = some (.slice E)) (he : P.underlying E = some (.int .u8)) (hd : P.underlying dst = some .string) :
    (convert src dst (.slice (some ⟨w.heap.size, 0, none⟩) 4 4)).run P (w.alloc (.cells #[.int .u8 x0, .int .u8 x1, .int .u8 x2, .int .u8 x3] E)) = .ok (.string ⟨#[b0, b1, b2, b3]⟩) (w.alloc (.cells #[.int .u8 x0, .int .u8 x1, .int .u8 x2, .int .u8 x3] E)) := by
  subst h0 h1 h2 h3
  have ho : OwnsB (w.alloc (.cells #[.int .u8 (b0.toNat : Int), .int .u8 (b1.toNat : Int), .int .u8 (b2.toNat : Int), .int .u8 (b3.toNat : Int)] E)) 0 E (.slice (some ⟨w.heap.size, 0, none⟩) 4 4) [b0, b1, b2, b3] :=
    ⟨rfl, .inr ⟨w.heap.size, 4, _, rfl, Nat.zero_le _, heap_alloc_new w _, by simp, by unfold maxLen; omega, rfl, rfl⟩⟩
  exact ownsB_conv ho hs he hd
theorem wr_at (n : Nat) (hn : n < 4294967296) : (n : Int) / 16777216 = ((UInt8.ofNat (n / 16777216 % 256)).toNat : Int) ∧ (n : Int) / 65536 % 256 = ((UInt8.ofNat (n / 65536 % 256)).toNat : Int) ∧ (n : Int) / 256 % 256 = ((UInt8.ofNat (n / 256 % 256)).toNat : Int) ∧ (n : Int) % 256 = ((UInt8.ofNat (n % 256)).toNat : Int) := by
  simp; omega
theorem conv_wr {P : Program} (w : World) (n : Nat) (hn : n < 4294967296) {src dst E : TypeId}
    (hs : P.underlying src = some (.slice E)) (he : P.underlying E = some (.int .u8)) (hd : P.underlying dst = some .string) :
    (convert src dst (.slice (some ⟨w.heap.size, 0, none⟩) 4 4)).run P (w.alloc (.cells #[.int .u8 ((n : Int) / 16777216), .int .u8 ((n : Int) / 65536 % 256), .int .u8 ((n : Int) / 256 % 256), .int .u8 ((n : Int) % 256)] E)) = .ok (.string ⟨(Crc.wr n).toArray⟩) (w.alloc (.cells #[.int .u8 ((n : Int) / 16777216), .int .u8 ((n : Int) / 65536 % 256), .int .u8 ((n : Int) / 256 % 256), .int .u8 ((n : Int) % 256)] E)) :=
  have h := wr_at n hn
  conv_four w _ _ _ _ _ _ _ _ h.1 h.2.1 h.2.2.1 h.2.2.2 hs he hd

set_option maxRecDepth 100000 in
set_option maxHeartbeats 800000 in
theorem written_any (n : Nat) (w : World) (hn : n < 4294967296) :
    Calls Try.prog 29 #[.int .i64 (n : Int)] w fun e w' => e = .returned (.string ⟨(Crc.wr n).toArray⟩) ∧ Below w.heap.size w w' := by
  have hconv := conv_wr (P := Try.prog) (src := 37) (dst := 9) w n hn Try.underlying37 Try.underlying5 Try.underlying9
  go_enter Try.func29, Try.ntmps29
  go_wp2_with fail
  go_ret
  exact ⟨rfl, (Below.refl _ _).alloc (Nat.le_refl _) _⟩
end Go.Proofs.Ytdcpfpefmndidaa
