/-
  Layer 3: what close does; what written answers.
-/
import Derived.Test.YtjdjajjogpmdaaaDoorShaPut
import Derived.Deep.LoopGhost
import Derived.Laws.IdiomStrings
namespace Go.Proofs.YtjdjajjogpmdaaaDoor
open Go.RowKit

theorem dig_taken {w : World} {g : Nat} {m : List UInt8} (h : Dig w g m) : w.cell? ⟨g, 72, none⟩ = some (.int .u64 (m.length : Int)) := by
  obtain ⟨B, h1, h2⟩ := h
  rw [rowV_cell h2, digL_taken _ _ _ (Sha.hs_len _ _) h1.1]
theorem rep_snoc (j : Nat) : List.replicate (j + 1) (0 : UInt8) = List.replicate j 0 ++ [0] := by rw [List.replicate_succ']
/-- the last bytes: their lowest eight bits -/
theorem len8_len (n : Nat) : (Sha.len8 n).length = 8 := by simp [Sha.len8]
theorem len8_take (n j : Nat) (h : j < 8) : (Sha.len8 n).take (j + 1) = (Sha.len8 n).take j ++ [UInt8.ofNat (n / 2 ^ (8 * (7 - j)))] := by
  rw [List.take_succ_eq_append_getElem (by rw [len8_len]; exact h)]
  simp [Sha.len8]
theorem ofNat_int (x : Nat) : ((UInt8.ofNat x).toNat : Int) = (x : Int) % 256 := by simp

set_option maxRecDepth 100000 in
set_option maxHeartbeats 1600000 in
theorem close_any (m : List UInt8) (g : Nat) (w : World) (hn : m.length < 576460752303423488) (hd : Dig w g m) (ht : Tab w) (hg : 0 < g) :
    Calls Tryd.prog 19 #[.pointer (some ⟨g, 0, none⟩)] w fun e w' => e = .returned (.tuple #[]) ∧ Dig w' g (Sha.fill m) ∧ Below g w w' := by
  have HH := Lib.hid (And.intro hd (And.intro ht hg))
  have ct := dig_taken hd
  obtain ⟨n, hN⟩ : ∃ n, m.length = n := ⟨_, rfl⟩
  rw [hN] at ct hn
  have HN := Lib.hid hN
  clear hd ht hg hN
  go_enter Tryd.func19, Tryd.ntmps19
  go_wp2_with fail
  refine (put_any m 128 g w (by rw [HN.out]; omega) HH.out.1 HH.out.2.1 HH.out.2.2).mono ?_
  rintro e w1 ⟨rfl, hd1, hb1⟩
  have H1 := Lib.hid (And.intro hd1 hb1)
  clear hd1 hb1 ct
  go_wp2_with fail
  go_loopg [] (Sha.zeros n + 1) (fun gk wr => ∃ j : Nat, j ≤ Sha.zeros n ∧ Sha.zeros n + 1 - j ≤ gk ∧ Hid (Dig wr g (m ++ [128] ++ List.replicate j 0)) ∧ Hid (Below g w wr))
  case atStart => exact ⟨0, by omega, by omega, Lib.hid (by simpa using H1.out.1), Lib.hid H1.out.2⟩
  case round =>
    obtain ⟨j, hj, hgk, HD, HB⟩ := hrel
    have hl : (m ++ [128] ++ List.replicate j (0 : UInt8)).length = n + 1 + j := by have := HN.out; simp; omega
    have ct := dig_taken HD.out
    rw [hl] at ct
    have HL := Lib.hid hl
    clear hl
    have hz : Sha.zeros n = (119 - n % 64) % 64 := rfl
    have hz64 : Sha.zeros n < 64 := by unfold Sha.zeros; omega
    by_cases hlt : j < Sha.zeros n
    · have td : (((n + 1 + j : Nat) : Int) % 64 != 56) = true := by rw [bne_iff_ne]; omega
      have HT := Lib.hid (And.intro hlt hgk)
      clear hz hlt hj
      have ht1 := tab_below HH.out.2.1 HB.out HH.out.2.2
      have hput := put_any (m ++ [128] ++ List.replicate j 0) 0 g wr (by rw [HL.out]; have := HT.out.1; omega) HD.out ht1 HH.out.2.2
      have HP := Lib.hid hput
      clear hput ht1
      clear hz64
      generalize n + 1 + j = N at ct td
      go_wp2_with fail
      refine HP.out.mono ?_
      rintro e w2 ⟨rfl, hd2, hb2⟩
      have H2 := Lib.hid (And.intro hd2 hb2)
      clear hd2 hb2 ct td
      go_wp2_with fail
      go_roundg (Sha.zeros n - j)
      case measure => have := HT.out; omega
      case rel => exact ⟨j + 1, by have := HT.out; omega, by omega, Lib.hid (by rw [rep_snoc, ← List.append_assoc]; exact H2.out.1), Lib.hid (HB.out.trans H2.out.2)⟩
    · obtain rfl : j = Sha.zeros n := by omega
      have td : (((n + 1 + Sha.zeros n : Nat) : Int) % 64 != 56) = false := by rw [bne_eq_false_iff_eq]; omega
      clear hz hlt hj hgk
      have hl2 : n + 1 + Sha.zeros n < 576460752303423488 + 65 := by unfold Sha.zeros; omega
      have HL2 := Lib.hid hl2
      clear hl2
      clear hz64
      generalize n + 1 + Sha.zeros n = N at ct td
      go_wp2_with fail
      clear ct td
      go_loopw [3] (fun s wr => ∃ j : Nat, j ≤ 8 ∧ s = .int .i64 (56 - 8 * (j : Int)) ∧ Hid (Dig wr g (m ++ [128] ++ List.replicate (Sha.zeros n) 0 ++ (Sha.len8 (8 * n)).take j)) ∧ Hid (Below g w wr))
        (fun s _ => (intOf s + 8).toNat)
      case atStart => exact ⟨0, by omega, rfl, Lib.hid (by simpa using HD.out), HB⟩
      case round =>
        obtain ⟨i, hi, rfl, HD3, HB3⟩ := hrel
        by_cases hlt : i < 8
        · have hl3 : (m ++ [128] ++ List.replicate (Sha.zeros n) 0 ++ (Sha.len8 (8 * n)).take i).length < 1152921504606846976 := by
            rw [List.length_append, HL.out, List.length_take]
            have := HL2.out
            omega
          have hput := put_any (m ++ [128] ++ List.replicate (Sha.zeros n) 0 ++ (Sha.len8 (8 * n)).take i) (UInt8.ofNat (8 * n / 2 ^ (8 * (7 - i)))) g wr hl3 HD3.out (tab_below HH.out.2.1 HB3.out HH.out.2.2) HH.out.2.2
          rw [ofNat_int, cast_div, Int.natCast_mul] at hput
          replace hput : Calls Tryd.prog 18 #[.pointer (some ⟨g, 0, none⟩), .int .u8 (8 * (n : Int) / 2 ^ (8 * (7 - i)) % 256)] wr _ := hput
          have HP := Lib.hid hput
          clear hput hl3
          have e0 : (0 : Int) ≤ 56 - 8 * (i : Int) := by omega
          have e1 : (56 - 8 * (i : Int)).toNat = 8 * (7 - i) := by omega
          go_wp2_with fail
          refine HP.out.mono ?_
          rintro e w4 ⟨rfl, hd4, hb4⟩
          rw [List.append_assoc, ← len8_take (8 * n) i hlt] at hd4
          have H4 := Lib.hid (And.intro hd4 (HB3.out.trans hb4))
          clear hd4 hb4 e0 e1
          go_wp2_with fail
          go_roundw
          case rel => exact ⟨i + 1, by omega, by go_num, Lib.hid H4.out.1, Lib.hid H4.out.2⟩
          case measure => simp [intOf]; omega
        · obtain rfl : i = 8 := by omega
          have hF : m ++ [128] ++ List.replicate (Sha.zeros n) 0 ++ (Sha.len8 (8 * n)).take 8 = Sha.fill m := by
            rw [List.take_of_length_le (by rw [len8_len]; omega)]
            unfold Sha.fill; rw [HN.out]
          have HF := Lib.hid hF
          clear hF
          go_wp2_with fail
          go_end0
          exact ⟨rfl, by rw [← HF.out]; exact HD3.out, HB3.out⟩
end Go.Proofs.YtjdjajjogpmdaaaDoor
