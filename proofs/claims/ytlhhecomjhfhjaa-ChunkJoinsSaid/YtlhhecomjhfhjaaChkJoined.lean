/-
  Layer 11: the values of pairs as one text (the program's, with a builder).
-/
import Derived.Test.YtlhhecomjhfhjaaChkMath
import Derived.Test.YtlhhecomjhfhjaaPairOwn
import Derived.Test.YtlhhecomjhfhjaaBld
import Derived.Test.YtlhhecomjhfhjaaCat
import Derived.Test.YtlhhecomjhfhjaaRowV
namespace Go.Proofs.Ytlhhecomjhfhjaa
open Go.RowKit
theorem joined_next (l : List (ByteArray × ByteArray)) (k : Nat) (h : k < l.length) : Ck.joined (l.take (k + 1)) = Ck.joined (l.take k) ++ l[k].2 := by
  rw [List.take_succ_eq_append_getElem h, Ck.joined_snoc]
set_option maxRecDepth 100000 in
set_option maxHeartbeats 1600000 in
theorem joined11_any (a : Option Addr) (L : List (ByteArray × ByteArray)) (c : Nat) (w : World) (hr : ReadsP w a L) (hL : L.length ≤ 1000) (hS : ∀ x ∈ L, x.2.size ≤ 1000000) :
    Calls Try.prog 22 #[.slice a L.length c] w fun e w' => e = .returned (.string (Ck.joined L)) ∧ Below w.heap.size w w' := by
  have hb0 := bld_fresh w
  have bl0 : Below w.heap.size w (w.alloc (.cells #[.pointer none, .slice none 0 0] 63)) := (Below.refl w.heap.size w).alloc (Nat.le_refl _) _
  have hKT : ∀ k, k ≤ L.length → (Ck.joined (L.take k)).size ≤ k * 1000000 := fun k hk => by
    have := Ck.joined_size (L.take k) 1000000 (fun x hx => hS x (List.mem_of_mem_take hx))
    rw [List.length_take, Nat.min_eq_left hk] at this
    exact this
  have H := Lib.hid (And.intro hr (And.intro hb0 bl0))
  clear hr hb0 bl0
  go_enter Try.func22, Try.ntmps22
  go_wp2_with fail
  go_loopw [8] (fun i wr => ∃ k : Nat, k ≤ L.length ∧ i = .int .i64 (k : Int) ∧ Hid (Bld wr w.heap.size w.heap.size (Ck.joined (L.take k)).data.toList ∧ Below w.heap.size w wr)) (fun i _ => L.length - (RowKit.intOf i).toNat)
  case atStart => exact ⟨0, Nat.zero_le _, rfl, Lib.hid ⟨H.out.2.1, H.out.2.2⟩⟩
  case round =>
    obtain ⟨k, hk, rfl, HI⟩ := hrel
    have hsz := HI.out.2.size
    have hkt := hKT k hk
    have hll : (Ck.joined (L.take k)).data.toList.length = (Ck.joined (L.take k)).size := Array.length_toList
    by_cases hlt : k < L.length
    · obtain ⟨ab, off, rfl, c0, c1⟩ := (readsP_below H.out.1 HI.out.2) k hlt
      have hst : (Ck.joined (L.take k)).data.toList ++ L[k].2.data.toList = (Ck.joined (L.take (k + 1))).data.toList := by
        rw [joined_next L k hlt, ByteArray.data_append, Array.toList_append]
      have hs2 := hS _ (List.getElem_mem hlt)
      generalize L[k].1 = key at *
      generalize L[k].2 = val at *
      obtain ⟨rB, bB⟩ : RowV (wr.alloc (.cells #[.string key, .string val] 46)) wr.heap.size 46 [.string key, .string val] ∧ Below wr.heap.size wr (wr.alloc (.cells #[.string key, .string val] 46)) := ⟨rowV_new wr _ [_, _], (Below.refl _ wr).alloc (Nat.le_refl _) _⟩
      have x1 := rowV_cell rB 1
      simp only [List.getElem?_cons_zero, List.getElem?_cons_succ] at x1
      have hbl := bld_below HI.out.1 bB
      have HC := Lib.hid (And.intro hst (And.intro bB hbl))
      clear hst bB rB hbl
      go_wp2_with fail
      refine (bld_write _ _ _ _ _ HC.out.2.2 (by omega) (by have := HC.out.2.1.size; omega)).mono ?_
      rintro e w5 ⟨rfl, hbl5, hb5⟩
      have H5 := Lib.hid (And.intro hbl5 hb5)
      clear hbl5 hb5
      go_wp2_with fail
      go_roundw
      case rel => exact ⟨k + 1, by omega, by go_num, Lib.hid ⟨by rw [← HC.out.1]; exact H5.out.1, (HI.out.2.trans (HC.out.2.1.mono HI.out.2.size)).trans H5.out.2⟩⟩
      case measure => simp [RowKit.intOf]; omega
    · obtain rfl : k = L.length := by omega
      go_wp2_with fail
      refine (bld_string _ _ _ _ HI.out.1 hsz).mono ?_
      rintro e w5 ⟨rfl, hb5⟩
      have H5 := Lib.hid hb5
      clear hb5
      go_wp2_with fail
      go_ret
      refine ⟨ret_str ?_, HI.out.2.trans H5.out⟩
      have e : L.take L.length = L := List.take_length
      first
        | rfl
        | (rw [e]; rfl)
end Go.Proofs.Ytlhhecomjhfhjaa
