/-
  Layer 2: the law CrcEven, walked.
-/
import Derived.Test.YtohlgghfdibdcaaCrcLaws
import Derived.Test.YtohlgghfdibdcaaDump
import Derived.Deep.RegionHeld3
import Derived.Deep.AppendLies
import Derived.IntWalk
namespace Go.Proofs.Ytohlgghfdibdcaa
open Go.RowKit

theorem xor_64 (a b : Nat) (h1 : a < 9223372036854775808) (h2 : b < 9223372036854775808) : bits .xor .i64 (a : Int) (b : Int) = ((a ^^^ b : Nat) : Int) := by
  have hx : a ^^^ b < 2 ^ 63 := Nat.xor_lt_two_pow (by omega) (by omega)
  have e : ∀ n : Nat, n < 9223372036854775808 → (BitVec.ofInt 64 (n : Int)).toNat = n := by
    intro n hn
    rw [BitVec.ofInt_natCast, BitVec.toNat_ofNat]; exact Nat.mod_eq_of_lt (by omega)
  show IntKind.i64.wrap ((BitVec.ofInt 64 (a : Int) ^^^ BitVec.ofInt 64 (b : Int)).toNat : Int) = _
  rw [BitVec.toNat_xor, e a h1, e b h2]
  exact IntWalk.i64_in _ (by omega)
theorem xor_8 (a b c : UInt8) : bits .xor .u8 (bits .xor .u8 (a.toNat : Int) (b.toNat : Int)) (c.toNat : Int) = ((a ^^^ b ^^^ c).toNat : Int) := by
  have ha := a.toNat_lt
  have hb := b.toNat_lt
  have hc := c.toNat_lt
  rw [u8_xor_nat _ _ ha hb, u8_xor_nat _ _ (Nat.xor_lt_two_pow (n := 8) ha hb) hc, UInt8.toNat_xor, UInt8.toNat_xor]
namespace Crc
theorem xor3_len : ∀ (l m n : List UInt8), m.length = l.length → n.length = l.length → (xor3 l m n).length = l.length
  | [], [], [], _, _ => rfl
  | _ :: l, _ :: m, _ :: n, h1, h2 => by
    have := xor3_len l m n (by simpa using h1) (by simpa using h2)
    simp [xor3, this]
theorem xor3_at : ∀ (l m n : List UInt8) (i : Nat) (h1 : m.length = l.length) (h2 : n.length = l.length) (h : i < l.length), (xor3 l m n)[i]'(by rw [xor3_len l m n h1 h2]; exact h) = l[i] ^^^ m[i]'(by omega) ^^^ n[i]'(by omega)
  | _ :: _, _ :: _, _ :: _, 0, _, _, _ => rfl
  | _ :: l, _ :: m, _ :: n, i + 1, h1, h2, h => by
    simp only [xor3, List.getElem_cons_succ]
    exact xor3_at l m n i (by simpa using h1) (by simpa using h2) (by simpa using h)
end Crc
/-- the first k bytes of three texts' xor -/
def x3 (a b c : ByteArray) (k : Nat) : List UInt8 := (Crc.xor3 a.data.toList b.data.toList c.data.toList).take k
theorem x3_snoc (a b c : ByteArray) (k : Nat) (hb : b.size = a.size) (hc : c.size = a.size) (h : k < a.size) : x3 a b c (k + 1) = x3 a b c k ++ [a[k] ^^^ b[k]'(by omega) ^^^ c[k]'(by omega)] := by
  have ea : a.data.toList.length = a.size := by simp
  have eb : b.data.toList.length = b.size := by simp
  have ec : c.data.toList.length = c.size := by simp
  have hl := Crc.xor3_len a.data.toList b.data.toList c.data.toList (by omega) (by omega)
  unfold x3
  rw [List.take_succ_eq_append_getElem (by omega), Crc.xor3_at _ _ _ _ (by omega) (by omega) (by omega)]
  rfl
theorem x3_len (a b c : ByteArray) (k : Nat) (hb : b.size = a.size) (hc : c.size = a.size) (h : k ≤ a.size) : (x3 a b c k).length = k := by
  have ea : a.data.toList.length = a.size := by simp
  have eb : b.data.toList.length = b.size := by simp
  have ec : c.data.toList.length = c.size := by simp
  have hl := Crc.xor3_len a.data.toList b.data.toList c.data.toList (by omega) (by omega)
  unfold x3; rw [List.length_take]; omega
theorem x3_sum (a b c : ByteArray) (hb : b.size = a.size) (hc : c.size = a.size) : Crc.sum (x3 a b c a.size) = Crc.sum a.data.toList ^^^ Crc.sum b.data.toList ^^^ Crc.sum c.data.toList := by
  have ea : a.data.toList.length = a.size := by simp
  have eb : b.data.toList.length = b.size := by simp
  have ec : c.data.toList.length = c.size := by simp
  have hl := Crc.xor3_len a.data.toList b.data.toList c.data.toList (by omega) (by omega)
  unfold x3
  rw [List.take_of_length_le (by omega)]
  exact Crc.sum_xor3 _ _ _ (by omega) (by omega)

set_option maxRecDepth 100000 in
set_option maxHeartbeats 800000 in
theorem even_loop (a b c : ByteArray) (h1 : a.size ≤ 2000) (h2 : b.size = a.size) (h3 : c.size = a.size) (w : World) :
    Calls Try.prog 6 #[.string a, .string b, .string c] w fun e w' => e = .returned (.bool true) ∧ Below w.heap.size w w' := by
  obtain ⟨i0, hi, hz0, hz1, hz2⟩ := info_parts Try.info5
  have t1 : ((b.size : Int) == (a.size : Int)) = true := by simp; omega
  have t2 : ((c.size : Int) == (a.size : Int)) = true := by simp; omega
  have t3 : ((b.size : Int) != (a.size : Int)) = false := by simp; omega
  have t4 : ((c.size : Int) != (a.size : Int)) = false := by simp; omega
  have HE := Lib.hid (And.intro h2 h3)
  clear h2 h3
  go_enter Try.func6, Try.ntmps6
  go_wp2_with fail
  clear t1 t2 t3 t4
  go_loopw [7, 8] (fun v i wr => ∃ k : Nat, k ≤ a.size ∧ i = .int .i64 k ∧ OwnsB wr w.heap.size 5 v (x3 a b c k) ∧ Below w.heap.size w wr)
    (fun _ i _ => a.size - (intOf i).toNat)
  case atStart => exact ⟨0, by omega, rfl, ownsB_nil _ _ _, Below.refl _ _⟩
  case round =>
    obtain ⟨k, hk, rfl, hown, hb⟩ := hrel
    have hsz := hb.size
    by_cases hlt : k < a.size
    · have i1 : (k : Int) < (a.size : Int) := by omega
      have i2 : (k : Int) < (b.size : Int) := by have := HE.out.1; omega
      have i3 : (k : Int) < (c.size : Int) := by have := HE.out.2; omega
      have j2 : k < b.size := by omega
      have j3 : k < c.size := by omega
      have i0' : (0 : Int) ≤ (k : Int) := by omega
      have HX := Lib.hid (xor_8 (a[k]) (b[k]) (c[k]))
      have HS := Lib.hid (x3_snoc a b c k HE.out.1 HE.out.2 hlt)
      have hlen := x3_len a b c k HE.out.1 HE.out.2 hk
      have HL := Lib.hid hlen; clear hlen
      go_wp2_with fail
      go_region_held3 (fun w' => wr.heap.size ≤ w'.heap.size)
        (first
          | (simp; done)
          | (have := hgrow.size; simp at this; omega))
        (first
          | (refine step_append_lies _ (by rfl) _ _ _ (by rfl) w.heap.size 5 i0 (.int .u8 0) 1 1 Try.underlying31 hi hz0 hz1 hz2 rfl (by omega) u7 _ _ (by rfl) ((ownsB_row0 hown _).drew)
              ⟨wr.heap.size, 0, none⟩ 1 1 [.int .u8 (bits .xor .u8 (bits .xor .u8 (a[k].toNat : Int) (b[k].toNat : Int)) (c[k].toNat : Int))] (by rfl) (by rfl) (World.news_of_block (cs := #[.int .u8 (bits .xor .u8 (bits .xor .u8 (a[k].toNat : Int) (b[k].toNat : Int)) (c[k].toNat : Int))]) (t := 5) (fr := (0, 0)) (heap_alloc_new wr _)) one_cell
              (by omega) (by rw [HL.out]; unfold maxLen; omega) (by rw [HL.out]; omega) (by simp; omega) (wr.heap.size + 1) (by simp) ?_; intro gg cap w1 hown1 hgrow hat hlt1))
      all_goals
        have ho := ownsB_snoc _ hown1 HX.out
        rw [← HS.out] at ho
        have hb1 : Below w.heap.size w w1 := below_grown (wr := wr.drew) (hb.trans (below_drewN (Below.refl _ _) 1)) hsz hown hgrow
        have HF := Lib.hid (And.intro ho hb1)
        clear ho hb1 hown1 hgrow hat hlt1 hown hb
        go_wp2_with fail
        go_roundw
        case rel => exact ⟨k + 1, by omega, by go_num, HF.out.1, HF.out.2⟩
        case measure => simp [intOf]; omega
    · obtain rfl : k = a.size := by omega
      have hlen := x3_len a b c a.size HE.out.1 HE.out.2 (by omega)
      have hconv := ownsB_conv (P := Try.prog) (src := 31) (dst := 9) hown Try.underlying31 Try.underlying5 Try.underlying9
      have hz : (⟨(x3 a b c a.size).toArray⟩ : ByteArray).size ≤ maxLen := by
        show (x3 a b c a.size).toArray.size ≤ maxLen
        unfold maxLen; simp; omega
      have za : a.size ≤ maxLen := by unfold maxLen; omega
      have zb : b.size ≤ maxLen := by have := HE.out.1; unfold maxLen; omega
      have zc : c.size ≤ maxLen := by have := HE.out.2; unfold maxLen; omega
      have s0 := fun w => sum_one ⟨(x3 a b c a.size).toArray⟩ w hz
      have s1 := fun w => sum_one a w za
      have s2 := fun w => sum_one b w zb
      have s3 := fun w => sum_one c w zc
      have hs := x3_sum a b c HE.out.1 HE.out.2
      have la := Crc.sum_lt a.data.toList
      have lb := Crc.sum_lt b.data.toList
      have lc := Crc.sum_lt c.data.toList
      have e0 : (⟨(x3 a b c a.size).toArray⟩ : ByteArray).data.toList = x3 a b c a.size := rfl
      rw [e0, hs] at s0
      generalize Crc.sum a.data.toList = A at la s0 s1
      generalize Crc.sum b.data.toList = B at lb s0 s2
      generalize Crc.sum c.data.toList = C at lc s0 s3
      have e1 := xor_64 A B (by omega) (by omega)
      have lab : A ^^^ B < 4294967296 := Nat.xor_lt_two_pow (n := 32) la lb
      have e2 := xor_64 (A ^^^ B) C (by omega) (by omega)
      rw [← e1] at e2
      generalize A ^^^ B ^^^ C = N at s0 e2
      have S := Lib.hid (And.intro s0 (And.intro s1 (And.intro s2 s3)))
      have HB := Lib.hid hb
      clear s0 s1 s2 s3 hs la lb lc e0 e1 lab hz za zb zc hlen hb hsz
      generalize (⟨(x3 a b c a.size).toArray⟩ : ByteArray) = X at hconv S
      go_wp2_with fail
      refine (S.out.1 _).mono ?_
      rintro e w1 ⟨rfl, hb⟩
      have B1 := Lib.hid (HB.out.trans (hb.mono HB.out.size)); clear hb hconv
      go_wp2_with fail
      refine (S.out.2.1 _).mono ?_
      rintro e w2 ⟨rfl, hb⟩
      have B2 := Lib.hid (B1.out.trans (hb.mono B1.out.size)); clear hb
      go_wp2_with fail
      refine (S.out.2.2.1 _).mono ?_
      rintro e w3 ⟨rfl, hb⟩
      have B3 := Lib.hid (B2.out.trans (hb.mono B2.out.size)); clear hb
      go_wp2_with fail
      refine (S.out.2.2.2 _).mono ?_
      rintro e w4 ⟨rfl, hb⟩
      have B4 := Lib.hid (B3.out.trans (hb.mono B3.out.size)); clear hb
      go_wp2_with fail
      refine (lives2_any _).mono ?_
      rintro e w5 ⟨rfl, hb⟩
      have B5 := Lib.hid (B4.out.trans (hb.mono B4.out.size)); clear hb
      go_wp2_with fail
      go_ret
      exact ⟨rfl, B5.out⟩

set_option maxRecDepth 100000 in
set_option maxHeartbeats 800000 in
theorem CrcEven_walk (a b c : ByteArray) (_ha : a.size ≤ maxLen) (_hb : b.size ≤ maxLen) (_hc : c.size ≤ maxLen) (w : World) :
    Calls Try.prog 6 #[.string a, .string b, .string c] w fun e w' => e = .returned (.bool true) ∧ Below w.heap.size w w' := by
  by_cases h1 : 2000 < a.size
  · clear _ha _hb _hc
    go_enter Try.func6, Try.ntmps6
    go_wp2_with fail
    refine (lives2_any _).mono ?_
    rintro e w1 ⟨rfl, hb⟩
    have B1 := Lib.hid hb; clear hb
    go_wp2_with fail
    go_ret
    exact ⟨rfl, B1.out⟩
  · by_cases h2 : b.size = a.size
    · by_cases h3 : c.size = a.size
      · exact even_loop a b c (by omega) h2 h3 w
      · have t1 : ((b.size : Int) != (a.size : Int)) = false := by simp; omega
        have t2 : ((c.size : Int) != (a.size : Int)) = true := by simp; omega
        clear _ha _hb _hc h2 h3
        go_enter Try.func6, Try.ntmps6
        go_wp2_with fail
        refine (lives2_any _).mono ?_
        rintro e w1 ⟨rfl, hb⟩
        have B1 := Lib.hid hb; clear hb
        go_wp2_with fail
        go_ret
        exact ⟨rfl, B1.out⟩
    · have t1 : ((b.size : Int) != (a.size : Int)) = true := by simp; omega
      clear _ha _hb _hc h2
      go_enter Try.func6, Try.ntmps6
      go_wp2_with fail
      refine (lives2_any _).mono ?_
      rintro e w1 ⟨rfl, hb⟩
      have B1 := Lib.hid hb; clear hb
      go_wp2_with fail
      go_ret
      exact ⟨rfl, B1.out⟩
end Go.Proofs.Ytohlgghfdibdcaa
