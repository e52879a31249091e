/-
  Layer 5: the block by the document.
-/
import Derived.Test.YtdcpfpefmndidaaSealBlk
namespace Go.Proofs.Ytdcpfpefmndidaa
open Go.RowKit

/-! ### by the document -/
theorem Sl.doc_short (n : Int) (s : List UInt8) (h : s.length ≤ 246) :
    Oct.fix n 8 ++ Oct.fix s.length 2 ++ s ++ List.replicate (246 - s.length) 0 ++ Oct.fix n 8 ++ [] ++ List.replicate 244 0 = Sl.pre n s := by
  unfold Sl.pre
  rw [← Sl.front_short s h, ← Sl.back_short s h]
  simp only [List.append_assoc, List.nil_append]
theorem Sl.doc_long (n : Int) (s : List UInt8) (h : 246 < s.length) :
    Oct.fix n 8 ++ Oct.fix s.length 2 ++ s.take 246 ++ [] ++ Oct.fix n 8 ++ s.drop 246 ++ List.replicate (244 - (s.length - 246)) 0 = Sl.pre n s := by
  unfold Sl.pre
  rw [← Sl.front_long s h, ← Sl.back_long s h]
  simp only [List.append_assoc, List.nil_append]
theorem Sl.cat_list (a b : ByteArray) : (a ++ b).data.toList = a.data.toList ++ b.data.toList := by rw [ByteArray.data_append, Array.toList_append]
theorem Sl.zer_list (n : Nat) : (Sl.zer n).data.toList = List.replicate n 0 := rfl

set_option maxRecDepth 100000 in
set_option maxHeartbeats 1600000 in
theorem rblock_any (n : Int) (s : ByteArray) (hs : s.size ≤ 490) (w : World) :
    Calls Try.prog 16 #[.int .i64 n, .string s] w fun e w' => e = .returned (.string ⟨(Sl.blk n s.data.toList).toArray⟩) ∧ Below w.heap.size w w' := by
  have e8 : Oct.cnt 8 = 8 := by decide
  have e2 : Oct.cnt 2 = 2 := by decide
  have f8 := fun w => rfixed_any n 8 w
  have f2 := fun w => rfixed_any (s.size : Int) 2 w
  rw [e8] at f8
  rw [e2] at f2
  have l8 := Oct.fix_len n 8
  have l2 := Oct.fix_len (s.size : Int) 2
  have hfin := Sl.seal_blk n s.data.toList
  have hsl := Sl.size_list s
  have b8 : (⟨(Oct.fix n 8).toArray⟩ : ByteArray).size = 8 := by rw [Sl.size_list]; exact l8
  have b2 : (⟨(Oct.fix (s.size : Int) 2).toArray⟩ : ByteArray).size = 2 := by rw [Sl.size_list]; exact l2
  have hpl : (⟨(Sl.pre n s.data.toList).toArray⟩ : ByteArray).size ≤ 140737488355323 := by
    rw [Sl.size_list]; have := Sl.pre_len n s.data.toList (by omega); show (Sl.pre n s.data.toList).length ≤ _; omega
  by_cases h : s.size ≤ 246
  · have hd := Sl.doc_short n s.data.toList (by omega)
    rw [← hsl] at hd
    have z := fun w => zeros_any (246 - s.size) (by omega) w
    have y := fun w => zeros_any 244 (by omega) w
    have ez : ((246 - s.size : Nat) : Int) = 246 - (s.size : Int) := by omega
    rw [ez] at z
    have hE : (⟨(Oct.fix n 8).toArray⟩ : ByteArray) ++ ⟨(Oct.fix (s.size : Int) 2).toArray⟩ ++ s ++ Sl.zer (246 - s.size) ++ ⟨(Oct.fix n 8).toArray⟩ ++ ⟨#[]⟩ ++ Sl.zer 244 = ⟨(Sl.pre n s.data.toList).toArray⟩ := by
      apply Sl.ba_ext
      rw [← hd]
      simp only [Sl.cat_list, Sl.zer_list]
    have zz := Sl.zer_size (246 - s.size)
    have zy := Sl.zer_size 244
    rw [← hE] at hfin hpl
    rw [← hfin]
    clear hfin
    generalize hR : Crc.sealB _ = R
    have t1 : ¬ (246 : Int) < (s.size : Int) := by omega
    generalize (⟨(Oct.fix n 8).toArray⟩ : ByteArray) = B8 at *
    generalize (⟨(Oct.fix (s.size : Int) 2).toArray⟩ : ByteArray) = B2 at *
    generalize Sl.zer (246 - s.size) = Z1 at *
    generalize Sl.zer 244 = Z2 at *
    have HH := Lib.hid (And.intro f8 (And.intro f2 (And.intro z (And.intro y (And.intro hpl hR)))))
    clear f8 f2 z y hpl hR hE hd e8 e2 l8 l2 ez hsl
    go_enter Try.func16, Try.ntmps16
    go_wp2_with fail
    refine (HH.out.1 _).mono ?_
    rintro e w1 ⟨rfl, hb⟩
    have H1 := Lib.hid hb; clear hb
    go_wp2_with fail
    refine (HH.out.2.1 _).mono ?_
    rintro e w2 ⟨rfl, hb⟩
    have H2 := Lib.hid (below_two H1.out hb); clear hb H1
    go_wp2_with fail
    refine (HH.out.2.2.1 _).mono ?_
    rintro e w3 ⟨rfl, hb⟩
    have H3 := Lib.hid (below_two H2.out hb); clear hb H2
    go_wp2_with fail
    refine (HH.out.1 _).mono ?_
    rintro e w4 ⟨rfl, hb⟩
    have H4 := Lib.hid (below_two H3.out hb); clear hb H3
    go_wp2_with fail
    refine (HH.out.2.2.2.1 _).mono ?_
    rintro e w5 ⟨rfl, hb⟩
    have H5 := Lib.hid (below_two H4.out hb); clear hb H4
    go_wp2_with fail
    refine (rseal_any _ _ HH.out.2.2.2.2.1).mono ?_
    rintro e w6 ⟨rfl, hb⟩
    have H6 := Lib.hid (below_two H5.out hb); clear hb H5
    go_wp2_with fail
    go_ret
    exact ⟨ret_str HH.out.2.2.2.2.2, H6.out⟩
  · have hd := Sl.doc_long n s.data.toList (by omega)
    rw [← hsl] at hd
    have z := fun w => zeros_any 0 (by omega) w
    have y := fun w => zeros_any (244 - (s.size - 246)) (by omega) w
    have ez : ((244 - (s.size - 246) : Nat) : Int) = 244 - ((s.size - 246 : Nat) : Int) := by omega
    rw [ez] at y
    have hE : (⟨(Oct.fix n 8).toArray⟩ : ByteArray) ++ ⟨(Oct.fix (s.size : Int) 2).toArray⟩ ++ s.extract 0 246 ++ Sl.zer 0 ++ ⟨(Oct.fix n 8).toArray⟩ ++ s.extract 246 s.size ++ Sl.zer (244 - (s.size - 246)) = ⟨(Sl.pre n s.data.toList).toArray⟩ := by
      apply Sl.ba_ext
      rw [← hd]
      simp only [Sl.cat_list, Sl.zer_list, Sl.ext_first, ext_back, List.replicate_zero]
    have zz := Sl.zer_size (244 - (s.size - 246))
    have zy := Sl.zer_size 0
    rw [← hE] at hfin hpl
    rw [← hfin]
    clear hfin
    generalize hR : Crc.sealB _ = R
    have t1 : (246 : Int) < (s.size : Int) := by omega
    have t2 : (246 : Int) ≤ (s.size : Int) := by omega
    have z1 : (s.extract 0 246).size = 246 := by rw [ByteArray.size_extract]; omega
    have z2 : (s.extract 246 s.size).size = s.size - 246 := by rw [ByteArray.size_extract]; omega
    generalize (⟨(Oct.fix n 8).toArray⟩ : ByteArray) = B8 at *
    generalize (⟨(Oct.fix (s.size : Int) 2).toArray⟩ : ByteArray) = B2 at *
    generalize Sl.zer 0 = Z1 at *
    generalize Sl.zer (244 - (s.size - 246)) = Z2 at *
    have HH := Lib.hid (And.intro f8 (And.intro f2 (And.intro z (And.intro y (And.intro hpl hR)))))
    clear f8 f2 z y hpl hR hE hd e8 e2 l8 l2 ez hsl
    go_enter Try.func16, Try.ntmps16
    go_wp2_with fail
    go_quiet (fail)
    go_wp2_with fail
    refine (HH.out.1 _).mono ?_
    rintro e w1 ⟨rfl, hb⟩
    have H1 := Lib.hid (below_two (below_drewN (Below.refl _ _) _) hb); clear hb
    go_wp2_with fail
    refine (HH.out.2.1 _).mono ?_
    rintro e w2 ⟨rfl, hb⟩
    have H2 := Lib.hid (below_two H1.out hb); clear hb H1
    go_wp2_with fail
    refine (HH.out.2.2.1 _).mono ?_
    rintro e w3 ⟨rfl, hb⟩
    have H3 := Lib.hid (below_two H2.out hb); clear hb H2
    go_wp2_with fail
    refine (HH.out.1 _).mono ?_
    rintro e w4 ⟨rfl, hb⟩
    have H4 := Lib.hid (below_two H3.out hb); clear hb H3
    go_wp2_with fail
    refine (HH.out.2.2.2.1 _).mono ?_
    rintro e w5 ⟨rfl, hb⟩
    have H5 := Lib.hid (below_two H4.out hb); clear hb H4
    go_wp2_with fail
    refine (rseal_any _ _ HH.out.2.2.2.2.1).mono ?_
    rintro e w6 ⟨rfl, hb⟩
    have H6 := Lib.hid (below_two H5.out hb); clear hb H5
    go_wp2_with fail
    go_ret
    exact ⟨ret_str HH.out.2.2.2.2.2, H6.out⟩
end Go.Proofs.Ytdcpfpefmndidaa
