/-
  Layer 4's laws: the document's example.
-/
import Derived.Test.YtjefmmbkkdaeiaaDskActs
namespace Go.Proofs.Ytjefmmbkkdaeiaa
open Go.RowKit

theorem ba_ext {a b : ByteArray} (h : a.data.toList = b.data.toList) : a = b := by
  cases a with | mk x => cases b with | mk y =>
    simp only [ByteArray.mk.injEq]
    exact Array.toList_inj.1 h
theorem blk_front (a b : UInt8) : ((blkB a b).extract 0 256).data.toList = List.replicate 256 a := by
  rw [ByteArray.data_extract, Array.toList_extract]
  show (blkL a b).extract 0 256 = _
  rw [List.extract_eq_take_drop, List.drop_zero]
  unfold blkL
  rw [List.take_append_of_le_length (by rw [List.length_replicate]; omega), List.take_of_length_le (by rw [List.length_replicate]; omega)]
theorem blk_back (a b : UInt8) : ((blkB a b).extract 256 512).data.toList = List.replicate 256 b := by
  rw [ByteArray.data_extract, Array.toList_extract]
  show (blkL a b).extract 256 512 = _
  rw [List.extract_eq_take_drop]
  unfold blkL
  rw [List.drop_append, List.length_replicate, List.drop_of_length_le (by rw [List.length_replicate]; omega), List.nil_append, Nat.sub_self, List.drop_zero, List.take_of_length_le (by rw [List.length_replicate]; omega)]
theorem blk_mix (a b c d : UInt8) : (blkB a b).extract 0 256 ++ (blkB c d).extract 256 512 = blkB a d := by
  apply ba_ext
  rw [ByteArray.data_append, Array.toList_append, blk_front, blk_back]
  rfl
theorem falls_blk (f : Int) (a b c d : UInt8) : Dk.falls f (blkB a b) (blkB c d) = if f = 1 then blkB c d else if f = 2 then blkB c b else if f = 3 then blkB a d else blkB a b := by
  unfold Dk.falls
  rw [blk_mix, blk_mix]
theorem write_done {d : Dk.D} (i : Nat) (s : ByteArray) (hg : d.gone = false) (hi : i < d.B.length) (hs : s.size = 512) (hf : d.fuse = -1) : Dk.write d i s = ⟨d.B, d.W ++ [(i, s)], -1, false⟩ ∧ Dk.writeE d i s = 0 := by
  have h1 : ¬ (¬ (0 ≤ (i : Int) ∧ (i : Int) < d.B.length) ∨ s.size ≠ 512) := by
    intro h
    rcases h with h | h
    · exact h ⟨by omega, by omega⟩
    · exact h hs
  have h2 : ¬ d.gone = true := by rw [hg]; simp
  have h3 : ¬ d.fuse = 0 := by rw [hf]; omega
  constructor
  · unfold Dk.write
    rw [if_neg h2, if_neg h1, if_neg h3, hf, hg]; rfl
  · unfold Dk.writeE
    rw [if_neg h2, if_neg h1, if_neg h3]
theorem flush_done {d : Dk.D} (hg : d.gone = false) (hf : d.fuse = -1) : Dk.flush d = ⟨Dk.over d.B d.W, [], -1, false⟩ ∧ Dk.flushE d = 0 := by
  have h2 : ¬ d.gone = true := by rw [hg]; simp
  have h3 : ¬ d.fuse = 0 := by rw [hf]; omega
  constructor
  · unfold Dk.flush
    rw [if_neg h2, if_neg h3, hf, hg]; rfl
  · unfold Dk.flushE
    rw [if_neg h2, if_neg h3]
theorem read_done {d : Dk.D} (i : Nat) (hg : d.gone = false) (hi : i < d.B.length) : Dk.readS d i = Dk.blk (Dk.over d.B d.W) i ∧ Dk.readE d i = 0 := by
  have h2 : ¬ d.gone = true := by rw [hg]; simp
  have h1 : 0 ≤ (i : Int) ∧ (i : Int) < d.B.length := ⟨by omega, by omega⟩
  constructor
  · unfold Dk.readS
    rw [if_neg h2, if_pos h1]; rfl
  · unfold Dk.readE
    rw [if_neg h2, if_pos h1]

def livesD : Dk.D := Dk.write (Dk.flush (Dk.write (Dk.new 1) ((0 : Nat) : Int) (blkB 97 97))) ((0 : Nat) : Int) (blkB 98 98)
theorem lives_math : Dk.writeE (Dk.flush (Dk.write (Dk.new 1) ((0 : Nat) : Int) (blkB 97 97))) ((0 : Nat) : Int) (blkB 98 98) = 0 ∧ Dk.readS (Dk.crash livesD [2]) ((0 : Nat) : Int) = blkB 98 97 ∧ Dk.readE (Dk.crash livesD [2]) ((0 : Nat) : Int) = 0 ∧ livesD.W.length ≤ 1000000 := by
  have e1 := (write_done (d := Dk.new 1) 0 (blkB 97 97) rfl (by show 0 < 1; omega) (blkB_size _ _) rfl).1
  have e2 := (flush_done (d := ⟨[Dk.zeros], [(0, blkB 97 97)], -1, false⟩) rfl rfl).1
  have e3 := write_done (d := ⟨[blkB 97 97], [], -1, false⟩) 0 (blkB 98 98) rfl (by show 0 < 1; omega) (blkB_size _ _) rfl
  have e12 : Dk.flush (Dk.write (Dk.new 1) ((0 : Nat) : Int) (blkB 97 97)) = ⟨[blkB 97 97], [], -1, false⟩ := by rw [e1]; exact e2
  have e4 : livesD = ⟨[blkB 97 97], [(0, blkB 98 98)], -1, false⟩ := by unfold livesD; rw [e12, e3.1]; rfl
  have e5 : Dk.crash livesD [2] = ⟨[blkB 98 97], [], -1, false⟩ := by
    rw [e4]
    have : Dk.falls 2 (blkB 97 97) (blkB 98 98) = blkB 98 97 := by rw [falls_blk]; rfl
    show (⟨[Dk.falls 2 (blkB 97 97) (blkB 98 98)], [], -1, false⟩ : Dk.D) = _
    rw [this]
  have e6 := read_done (d := ⟨[blkB 98 97], [], -1, false⟩) 0 rfl (by show 0 < 1; omega)
  refine ⟨by rw [e12]; exact e3.2, by rw [e5]; exact e6.1, by rw [e5]; exact e6.2, by rw [e4]; show 1 ≤ _; omega⟩

/-- the set of the blocks from B on -/
abbrev Up (B : Nat) : Nat → Prop := fun k => B ≤ k
theorem up_below {B : Nat} {w w' : World} (h : Only (Up B) w w') (hB : B ≤ w.heap.size) : Below B w w' := h.below (fun _ _ h => h) hB
theorem new_up (n : Nat) (w : World) (h1 : 1 ≤ n) (h2 : n ≤ 4096) : Calls Try.prog 8 #[.int .i64 (n : Int)] w fun e w' => ∃ p, e = .returned (.tuple #[.pointer (some ⟨p, 0, none⟩), .int .i64 0]) ∧ DiskAt w' (Up w.heap.size) p (Dk.new n) ∧ Below w.heap.size w w' := by
  refine (new_any (n : Int) w).mono fun e w' h => ?_
  rcases h with ⟨h, _⟩ | ⟨_, _, p, he, hd, hb⟩
  · exact absurd ⟨by omega, by omega⟩ h
  · exact ⟨p, he, by rw [show ((n : Int)).toNat = n from by omega] at hd; exact hd, hb⟩

set_option maxRecDepth 100000 in
set_option maxHeartbeats 1600000 in
theorem lives_any (w : World) : Calls Try.prog 7 #[] w fun e w' => e = .returned (.bool true) ∧ Below w.heap.size w w' := by
  have HM := Lib.hid lives_math
  go_enter Try.func7, Try.ntmps7
  go_wp2_with fail
  refine (new_up 1 w (by omega) (by omega)).mono ?_
  rintro e w1 ⟨p, rfl, hd, hb⟩
  have H1 := Lib.hid (And.intro hd hb); clear hd hb
  go_wp2_with fail
  refine (block_any 97 97 w1).mono ?_
  rintro e w2 ⟨rfl, hb⟩
  have hd2 := diskAt_below H1.out.1 hb
  have hb2 := H1.out.2.trans (hb.mono H1.out.2.size)
  have H2 := Lib.hid (And.intro hd2 hb2); clear hd2 hb2 hb
  go_wp2_with fail
  refine (write_up H2.out.1 (fun k hk => Nat.le_trans H2.out.2.size hk) ((0 : Nat) : Int) _ (by show 0 ≤ 1000000; omega)).mono ?_
  rintro e w3 ⟨rfl, hd, ho⟩
  have hb3 := H2.out.2.trans (up_below ho H2.out.2.size)
  have H3 := Lib.hid (And.intro hd hb3); clear hd hb3 ho
  go_wp2_with fail
  refine (flush_up H3.out.1).mono ?_
  rintro e w4 ⟨rfl, hd, ho⟩
  have hb4 := H3.out.2.trans (up_below ho H3.out.2.size)
  have H4 := Lib.hid (And.intro hd hb4); clear hd hb4 ho
  go_wp2_with fail
  refine (block_any 98 98 w4).mono ?_
  rintro e w5 ⟨rfl, hb⟩
  have hd5 := diskAt_below H4.out.1 hb
  have hb5 := H4.out.2.trans (hb.mono H4.out.2.size)
  have H5 := Lib.hid (And.intro hd5 hb5); clear hd5 hb5 hb
  go_wp2_with fail
  refine (write_up H5.out.1 (fun k hk => Nat.le_trans H5.out.2.size hk) ((0 : Nat) : Int) _ (by rw [(flush_done (d := Dk.write (Dk.new 1) ((0 : Nat) : Int) (blkB 97 97)) (by rw [(write_done (d := Dk.new 1) 0 (blkB 97 97) rfl (by show 0 < 1; omega) (blkB_size _ _) rfl).1]) (by rw [(write_done (d := Dk.new 1) 0 (blkB 97 97) rfl (by show 0 < 1; omega) (blkB_size _ _) rfl).1])).1]; show 0 ≤ 1000000; omega)).mono ?_
  rintro e w6 ⟨rfl, hd, ho⟩
  have hb6 := H5.out.2.trans (up_below ho H5.out.2.size)
  rw [HM.out.1]
  have H6 := Lib.hid (And.intro hd hb6); clear hd hb6 ho
  go_wp2_with fail
  have hd7 : DiskAt (w6.alloc (.cells #[.int .i64 2] 3)) (fun k => Up w.heap.size k ∧ k ≠ w6.heap.size) p livesD := diskAt_mono (S := fun k => Up w.heap.size k ∧ k < w6.heap.size) (diskAt_below (diskAt_mono H6.out.1 (fun k hk h => ⟨h, hk⟩)) ((Below.refl _ w6).alloc (Nat.le_refl _) _)) (fun k _ h => ⟨h.1, by omega⟩)
  have hr7 : ReadsI (w6.alloc (.cells #[.int .i64 2] 3)) (some ⟨w6.heap.size, 0, none⟩) [2] := by
    intro i hi
    obtain rfl : i = 0 := by simp at hi; omega
    exact ⟨_, _, rfl, rowV_cell (rowV_new w6 3 [.int .i64 2]) 0⟩
  refine (crash_up hd7 (fun k hk => ⟨by have := H6.out.2.size; simp at hk; show w.heap.size ≤ k; omega, by simp at hk; omega⟩) (some ⟨w6.heap.size, 0, none⟩) [2] 1 hr7 (by rintro a ha _; cases ha; exact fun h => h.2 rfl)).mono ?_
  rintro e w8 ⟨rfl, hd, ho⟩
  have hb8 : Below w.heap.size w w8 := (H6.out.2.alloc H6.out.2.size _).trans (ho.below (B := w.heap.size) (fun k _ h => h.1) (by have := H6.out.2.size; simp; omega))
  have H8 := Lib.hid (And.intro hd hb8); clear hd hb8 ho hd7 hr7
  go_wp2_with fail
  refine (read_up H8.out.1 ((0 : Nat) : Int)).mono ?_
  rintro e w9 ⟨rfl, hw9⟩
  obtain rfl := hw9.symm
  clear hw9
  rw [HM.out.2.1, HM.out.2.2.1]
  go_wp2_with fail
  refine (block_any 98 97 _).mono ?_
  rintro e w10 ⟨rfl, hb⟩
  have hb10 := H8.out.2.trans (hb.mono H8.out.2.size)
  have H10 := Lib.hid hb10; clear hb hb10
  go_wp2_with fail
  go_ret
  exact ⟨rfl, H10.out⟩
end Go.Proofs.Ytjefmmbkkdaeiaa
