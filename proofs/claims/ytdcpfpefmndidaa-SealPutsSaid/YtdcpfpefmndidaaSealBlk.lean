/-
  Layer 5: the block itself, laid in an array, and by the document.
-/
import Derived.Test.YtdcpfpefmndidaaSealLeaf
import Derived.Test.YtdcpfpefmndidaaQTail
import Derived.Test.YtdcpfpefmndidaaCat
import Derived.BigRegion
import Derived.StillTailTactics
namespace Go.Proofs.Ytdcpfpefmndidaa
open Go.RowKit

theorem arr508_zero : (Try.prog.info? 44).map (fun i => (i.zero, i.size)) = some (some (.agg (valB (List.replicate 508 0)).toArray), 508) := by kernel_rfl
theorem arr512_zero : (Try.prog.info? 46).map (fun i => (i.zero, i.size)) = some (some (.agg (valB (List.replicate 512 0)).toArray), 512) := by kernel_rfl

set_option maxRecDepth 100000 in
set_option maxHeartbeats 800000 in
theorem empty5_any (b : ByteArray) (w : World) :
    Calls Try.prog 17 #[.string b] w fun e w' => e = .returned (.bool (decide (b = Sl.zeros))) ∧ Below w.heap.size w w' := by
  have hz := (zero_of_info (P := Try.prog) arr512_zero).1
  have h0 := laid_new w 46 512 (List.replicate 512 0) List.length_replicate
  have hl : (⟨(List.replicate 512 0).toArray⟩ : ByteArray) = Sl.zeros := rfl
  have hconv := laid_conv h0
  rw [hl] at hconv
  have HB := Lib.hid h0.below
  clear h0 hl
  generalize valB (List.replicate 512 0) = Z at *
  generalize Sl.zeros = Y at *
  go_enter Try.func17, Try.ntmps17
  go_wp2_with fail
  go_ret
  exact ⟨by simp; exact ba_beq, HB.out⟩

/-- what the array holds in the end -/
theorem Sl.laid_pre (n : Int) (s : List UInt8) (c : Nat) (hc : c = min s.length 246) (hs : s.length ≤ 490) :
    spl (spl (spl (spl (spl (List.replicate 508 0) 0 (Oct.fix n 8)) 8 (Oct.fix s.length 2)) 10 (s.take c)) 256 (Oct.fix n 8)) 264 (s.drop c) = Sl.pre n s := by
  have l8 := Oct.fix_len n 8
  have l2 := Oct.fix_len s.length 2
  have lc : (s.take c).length = c := by rw [List.length_take]; omega
  have ld : (s.drop c).length = s.length - c := List.length_drop
  have e1 : spl (List.replicate 508 0) 0 (Oct.fix n 8) = Oct.fix n 8 ++ List.replicate 500 0 := by
    have := spl_end [] (Oct.fix n 8) 0 508 rfl (by omega)
    rw [l8, List.nil_append, List.nil_append] at this
    exact this
  have e2 : spl (Oct.fix n 8 ++ List.replicate 500 0) 8 (Oct.fix s.length 2) = Oct.fix n 8 ++ Oct.fix s.length 2 ++ List.replicate 498 0 := by
    have := spl_end (Oct.fix n 8) (Oct.fix s.length 2) 8 500 l8 (by omega)
    rw [l2] at this; exact this
  have e3 : spl (Oct.fix n 8 ++ Oct.fix s.length 2 ++ List.replicate 498 0) 10 (s.take c) = (Oct.fix n 8 ++ Oct.fix s.length 2 ++ s.take c ++ List.replicate (246 - c) 0) ++ List.replicate 252 0 := by
    rw [spl_end _ (s.take c) 10 498 (by rw [List.length_append]; omega) (by omega), lc, List.append_assoc _ (List.replicate (246 - c) 0), List.replicate_append_replicate, show 498 - c = 246 - c + 252 by omega]
  have e4 : spl ((Oct.fix n 8 ++ Oct.fix s.length 2 ++ s.take c ++ List.replicate (246 - c) 0) ++ List.replicate 252 0) 256 (Oct.fix n 8) = (Oct.fix n 8 ++ Oct.fix s.length 2 ++ s.take c ++ List.replicate (246 - c) 0) ++ Oct.fix n 8 ++ List.replicate 244 0 := by
    have := spl_end (Oct.fix n 8 ++ Oct.fix s.length 2 ++ s.take c ++ List.replicate (246 - c) 0) (Oct.fix n 8) 256 252 (by simp only [List.length_append, List.length_replicate]; omega) (by omega)
    rw [l8] at this; exact this
  have e5 : spl ((Oct.fix n 8 ++ Oct.fix s.length 2 ++ s.take c ++ List.replicate (246 - c) 0) ++ Oct.fix n 8 ++ List.replicate 244 0) 264 (s.drop c) = (Oct.fix n 8 ++ Oct.fix s.length 2 ++ s.take c ++ List.replicate (246 - c) 0) ++ Oct.fix n 8 ++ s.drop c ++ List.replicate (244 - (s.length - c)) 0 := by
    have := spl_end ((Oct.fix n 8 ++ Oct.fix s.length 2 ++ s.take c ++ List.replicate (246 - c) 0) ++ Oct.fix n 8) (s.drop c) 264 244 (by simp only [List.length_append, List.length_replicate]; omega) (by omega)
    rw [ld] at this; exact this
  rw [e1, e2, e3, e4, e5]
  have f : s.take c ++ List.replicate (246 - c) 0 = (Sl.body s).take 246 ∧ s.drop c ++ List.replicate (244 - (s.length - c)) 0 = (Sl.body s).drop 246 := by
    by_cases h : s.length ≤ 246
    · obtain rfl : c = s.length := by omega
      exact ⟨by rw [List.take_of_length_le (Nat.le_refl _)]; exact Sl.front_short s h, by rw [List.drop_of_length_le (Nat.le_refl _), List.nil_append, Nat.sub_self]; exact Sl.back_short s h⟩
    · obtain rfl : c = 246 := by omega
      exact ⟨by rw [Nat.sub_self, List.replicate_zero, List.append_nil]; exact Sl.front_long s (by omega), Sl.back_long s (by omega)⟩
  unfold Sl.pre
  rw [← f.1, ← f.2]
  simp only [List.append_assoc]
theorem Sl.seal_blk (n : Int) (s : List UInt8) : Crc.sealB ⟨(Sl.pre n s).toArray⟩ = ⟨(Sl.blk n s).toArray⟩ := by
  apply Sl.ba_ext
  rw [sealB_list]; rfl

set_option maxRecDepth 100000 in
set_option maxHeartbeats 1600000 in
theorem sealed_any (n : Int) (s : ByteArray) (hs : s.size ≤ 490) (w : World) :
    Calls Try.prog 15 #[.int .i64 n, .string s] w fun e w' => e = .returned (.string ⟨(Sl.blk n s.data.toList).toArray⟩) ∧ Below w.heap.size w w' := by
  have hz := (zero_of_info (P := Try.prog) arr508_zero).1
  have h0 := laid_new w 44 508 (List.replicate 508 0) List.length_replicate
  obtain ⟨c, hc⟩ : ∃ c : Nat, c = min s.size 246 := ⟨_, rfl⟩
  have hcm : ∀ (ts : Array TypeId) (t : TypeId) (W : World), (Builtin.min_ ts t #[.int .i64 (s.size : Int), .int .i64 246]).run Try.prog W = .ok (.int .i64 (c : Int)) W := fun ts t W => by
    have e : (if (246 : Int) < (s.size : Int) then (246 : Int) else (s.size : Int)) = (c : Int) := by split <;> omega
    simp [Builtin.min_, Builtin.min2, e]
  have c1 : c ≤ s.size := by omega
  have c2 : c ≤ 246 := by omega
  have c3 : s.size - c ≤ 244 := by omega
  have e8 : Oct.cnt 8 = 8 := by decide
  have e2 : Oct.cnt 2 = 2 := by decide
  have f8 := fun w => fixed_any n 8 w
  have f2 := fun w => fixed_any (s.size : Int) 2 w
  rw [e8] at f8
  rw [e2] at f2
  have hend := Sl.laid_pre n s.data.toList c (by rw [← Sl.size_list]; exact hc) (by rw [← Sl.size_list]; exact hs)
  have l8 := Oct.fix_len n 8
  have l2 := Oct.fix_len (s.size : Int) 2
  rw [← Sl.size_list] at hend
  have hx1 : (s.extract 0 c).data.toList = s.data.toList.take c := Sl.ext_first s c
  have hx2 : (s.extract c s.size).data.toList = s.data.toList.drop c := ext_back s c
  have z1 : (s.extract 0 c).size = c := by rw [ByteArray.size_extract]; omega
  have z2 : (s.extract c s.size).size = s.size - c := by rw [ByteArray.size_extract]; omega
  rw [← hx1, ← hx2] at hend
  have hfin := Sl.seal_blk n s.data.toList
  have hpl : (Sl.pre n s.data.toList).length = 508 := Sl.pre_len n _ (by rw [← Sl.size_list]; exact hs)
  rw [← hend] at hfin hpl
  rw [← hfin]
  clear hfin
  generalize hR : Crc.sealB _ = R
  generalize Oct.fix n 8 = F8 at *
  generalize Oct.fix (s.size : Int) 2 = F2 at *
  have b8 : (⟨F8.toArray⟩ : ByteArray).size = 8 := by rw [Sl.size_list]; exact l8
  have b2 : (⟨F2.toArray⟩ : ByteArray).size = 2 := by rw [Sl.size_list]; exact l2
  have d8 : (⟨F8.toArray⟩ : ByteArray).data.toList = F8 := rfl
  have d2 : (⟨F2.toArray⟩ : ByteArray).data.toList = F2 := rfl
  generalize (⟨F8.toArray⟩ : ByteArray) = B8 at *
  generalize (⟨F2.toArray⟩ : ByteArray) = B2 at *
  subst d8 d2
  have hsl : ∀ x : List UInt8, x.length = 508 → (⟨x.toArray⟩ : ByteArray).size ≤ 140737488355323 := fun x h => by rw [Sl.size_list]; show x.length ≤ _; omega
  have hv : valB (List.replicate 508 0) = valB (List.replicate 508 0) := rfl
  generalize hLZ : List.replicate 508 (0 : UInt8) = LZ at *
  have HH := Lib.hid (And.intro f8 (And.intro f2 (And.intro h0 (And.intro hpl (And.intro (hsl _ hpl) hR)))))
  clear f8 f2 h0 hpl hsl hx1 hx2 hend hR hc hv e8 e2 hLZ l8 l2 hs
  go_enter Try.func15, Try.ntmps15
  go_wp2_with fail
  have h0 := HH.out.2.2.1
  generalize hw0 : World.alloc _ _ = w0 at *
  clear hw0
  refine (HH.out.1 _).mono ?_
  rintro e w1 ⟨rfl, hb⟩
  have h1 := laid_below h0 hb
  have t1 := laid_there h1 0 508 (by omega)
  have H1 := Lib.hid h1
  clear h0 h1 hb
  go_wp2_with (refine wpList_copy_str rfl (.tmp 13) (.tmp 14) 37 9 rfl 5 Try.underlying37 one_byte w.heap.size 0 508 508 rfl B8 rfl (by omega) t1 ?_)
  have h1 := laid_put H1.out 0 B8 (by omega)
  clear H1 t1
  generalize hp1 : spl LZ 0 B8.data.toList = p1 at *
  generalize hw2 : World.setCells _ _ _ _ = w2 at *
  clear hw2 hp1
  refine wp_region_quiet_tail (C := fun w' => Laid w w' w.heap.size 44 508 p1) 4 (by kernel_rfl) (by kernel_rfl) (laid_drew h1) ?_
  simp only [List.take_succ_cons, List.take_zero, List.drop_succ_cons, List.drop_zero]
  iterate 3
    refine wpQuiet_read ?_
    apply Exists.intro
    refine ⟨⟨by rfl, fun wx hSx => ?_⟩, ?_⟩
    · go_simp
      with_reducible rfl
    simp only [Act.put, List.setIfInBounds_toArray, List.set_cons_zero, List.set_cons_succ]
  refine wpQuiet_call rfl 23 #[.int .i64 (s.size : Int), .int .i64 2] (.string B2) (fun wx hSx => by go_simp) (fun wx hSx => (HH.out.2.1 wx).mono fun e w' hh => ⟨hh.1, laid_below hSx hh.2⟩) ?_
  simp only [Act.put, List.setIfInBounds_toArray, List.set_cons_zero, List.set_cons_succ]
  refine wpQuiet_nil ?_
  intro w3 h3
  have t3 := laid_there h3 8 500 (by omega)
  have H3 := Lib.hid h3
  clear h3 h1
  go_wp2_with (refine wpList_copy_str rfl (.tmp 16) (.tmp 19) 37 9 rfl 5 Try.underlying37 one_byte w.heap.size 8 500 500 rfl B2 rfl (by omega) t3 ?_)
  have h4 := laid_put H3.out 8 B2 (by omega)
  clear H3 t3
  generalize hp2 : spl p1 8 B2.data.toList = p2 at *
  generalize hw4 : World.setCells _ _ _ _ = w4 at *
  clear hw4 hp2
  have H4 := Lib.hid h4
  clear h4
  have u1 : (c : Int) ≤ (s.size : Int) := by omega
  go_still_tail 4, (by kernel_rfl)
  change wpList _ _ _ _ _ w4.drew
  have h4 := laid_drew H4.out
  generalize w4.drew = w5 at *
  have t5 := laid_there h4 10 498 (by omega)
  have H5 := Lib.hid h4
  clear h4 H4
  refine wpList_copy_str rfl (.tmp 21) (.tmp 24) 37 9 rfl 5 Try.underlying37 one_byte w.heap.size 10 498 498 rfl (s.extract 0 c) rfl (by omega) t5 ?_
  have h6 := laid_put H5.out 10 (s.extract 0 c) (by omega)
  clear H5 t5
  generalize hp3 : spl p2 10 (s.extract 0 c).data.toList = p3 at *
  generalize hw6 : World.setCells _ _ _ _ = w6 at *
  clear hw6 hp3
  have t6 := laid_there h6 256 252 (by omega)
  have H6 := Lib.hid h6
  clear h6
  go_wp2_with (refine wpList_copy_str rfl (.tmp 26) (.tmp 27) 37 9 rfl 5 Try.underlying37 one_byte w.heap.size 256 252 252 rfl B8 rfl (by omega) t6 ?_)
  have h7 := laid_put H6.out 256 B8 (by omega)
  clear H6 t6
  generalize hp4 : spl p3 256 B8.data.toList = p4 at *
  generalize hw7 : World.setCells _ _ _ _ = w7 at *
  clear hw7 hp4
  have H7 := Lib.hid h7
  clear h7
  go_still_tail 4, (by kernel_rfl)
  change wpList _ _ _ _ _ w7.drew
  have h7 := laid_drew H7.out
  generalize w7.drew = w8 at *
  have t8 := laid_there h7 264 244 (by omega)
  have H8 := Lib.hid h7
  clear h7 H7
  refine wpList_copy_str rfl (.tmp 29) (.tmp 32) 37 9 rfl 5 Try.underlying37 one_byte w.heap.size 264 244 244 rfl (s.extract c s.size) rfl (by omega) t8 ?_
  have h9 := laid_put H8.out 264 (s.extract c s.size) (by omega)
  clear H8 t8
  generalize hp5 : spl p4 264 (s.extract c s.size).data.toList = p5 at *
  generalize hw9 : World.setCells _ _ _ _ = w9 at *
  clear hw9 hp5
  have hconv := laid_conv h9
  have H9 := Lib.hid h9.below
  clear h9
  go_wp2_with fail
  refine (seal_any _ _ HH.out.2.2.2.2.1).mono ?_
  rintro e w10 ⟨rfl, hb⟩
  have HE := Lib.hid (below_two H9.out hb)
  clear hb
  go_wp2_with fail
  go_ret
  exact ⟨ret_str HH.out.2.2.2.2.2, HE.out⟩
end Go.Proofs.Ytdcpfpefmndidaa
