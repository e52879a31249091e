/-
  Layer 4's laws: DiskStays, walked.
-/
import Derived.Test.YtjefmmbkkdaeiaaDskLives
namespace Go.Proofs.Ytjefmmbkkdaeiaa
open Go.RowKit

def st1 (a : UInt8) : Dk.D := Dk.flush (Dk.write (Dk.new 3) ((1 : Nat) : Int) (blkB a a))
def st2 (a b : UInt8) : Dk.D := Dk.write (st1 a) ((2 : Nat) : Int) (blkB b b)
def st3 (a b : UInt8) : Dk.D := Dk.write (st2 a b) ((1 : Nat) : Int) (blkB b b)
theorem st1_eq (a : UInt8) : st1 a = ⟨[Dk.zeros, blkB a a, Dk.zeros], [], -1, false⟩ := by
  have e1 := (write_done (d := Dk.new 3) 1 (blkB a a) rfl (by show 1 < 3; omega) (blkB_size _ _) rfl).1
  have e2 := (flush_done (d := ⟨[Dk.zeros, Dk.zeros, Dk.zeros], [(1, blkB a a)], -1, false⟩) rfl rfl).1
  unfold st1
  rw [e1]; exact e2
theorem st2_eq (a b : UInt8) : st2 a b = ⟨[Dk.zeros, blkB a a, Dk.zeros], [(2, blkB b b)], -1, false⟩ := by
  unfold st2
  rw [st1_eq]
  exact (write_done (d := ⟨[Dk.zeros, blkB a a, Dk.zeros], [], -1, false⟩) 2 (blkB b b) rfl (by show 2 < 3; omega) (blkB_size _ _) rfl).1
theorem st3_eq (a b : UInt8) : st3 a b = ⟨[Dk.zeros, blkB a a, Dk.zeros], [(2, blkB b b), (1, blkB b b)], -1, false⟩ := by
  unfold st3
  rw [st2_eq]
  exact (write_done (d := ⟨[Dk.zeros, blkB a a, Dk.zeros], [(2, blkB b b)], -1, false⟩) 1 (blkB b b) rfl (by show 1 < 3; omega) (blkB_size _ _) rfl).1
theorem stays_not (a b : UInt8) (F : List Int) : Dk.readS (Dk.crash (st2 a b) F) ((1 : Nat) : Int) = blkB a a ∧ Dk.readE (Dk.crash (st2 a b) F) ((1 : Nat) : Int) = 0 := by
  rw [st2_eq]
  have e : Dk.crash ⟨[Dk.zeros, blkB a a, Dk.zeros], [(2, blkB b b)], -1, false⟩ F = ⟨[Dk.zeros, blkB a a, Dk.falls (F.getD 0 0) Dk.zeros (blkB b b)], [], -1, false⟩ := rfl
  rw [e]
  exact read_done (d := ⟨[Dk.zeros, blkB a a, Dk.falls (F.getD 0 0) Dk.zeros (blkB b b)], [], -1, false⟩) 1 rfl (by show 1 < 3; omega)
theorem stays_over (a b : UInt8) (F : List Int) : Dk.readS (Dk.crash (st3 a b) F) ((1 : Nat) : Int) = Dk.falls (F.getD 1 0) (blkB a a) (blkB b b) ∧ Dk.readE (Dk.crash (st3 a b) F) ((1 : Nat) : Int) = 0 := by
  rw [st3_eq]
  have e : Dk.crash ⟨[Dk.zeros, blkB a a, Dk.zeros], [(2, blkB b b), (1, blkB b b)], -1, false⟩ F = ⟨[Dk.zeros, Dk.falls (F.getD 1 0) (blkB a a) (blkB b b), Dk.falls (F.getD 0 0) Dk.zeros (blkB b b)], [], -1, false⟩ := rfl
  rw [e]
  exact read_done (d := ⟨[Dk.zeros, Dk.falls (F.getD 1 0) (blkB a a) (blkB b b), Dk.falls (F.getD 0 0) Dk.zeros (blkB b b)], [], -1, false⟩) 1 rfl (by show 1 < 3; omega)
theorem stays_cases (f : Int) (a b : UInt8) : Dk.falls f (blkB a a) (blkB b b) = blkB a a ∨ Dk.falls f (blkB a a) (blkB b b) = blkB b b ∨ Dk.falls f (blkB a a) (blkB b b) = blkB a b ∨ Dk.falls f (blkB a a) (blkB b b) = blkB b a := by
  rw [falls_blk]
  repeat' split
  · exact .inr (.inl rfl)
  · exact .inr (.inr (.inr rfl))
  · exact .inr (.inr (.inl rfl))
  · exact .inl rfl
set_option maxRecDepth 100000 in
set_option maxHeartbeats 1600000 in
theorem stays_walk_not (a b : UInt8) (F : List Int) (fa : Option Addr) (fc : Nat) (w : World) (hf : ReadsI w fa F) :
    Calls Try.prog 4 #[.int .u8 (a.toNat : Int), .int .u8 (b.toNat : Int), .bool false, .slice fa F.length fc] w fun e w' => e = .returned (.bool true) ∧ Below w.heap.size w w' := by
  have HF := Lib.hid hf; clear hf
  have hz := blkB_size a a
  go_enter Try.func4, Try.ntmps4
  go_wp2_with fail
  refine (new_up 3 w (by omega) (by omega)).mono ?_
  rintro e w1 ⟨p, rfl, hd, hb⟩
  have H1 := Lib.hid (And.intro hd hb); clear hd hb
  go_wp2_with fail
  refine (block_any a a w1).mono ?_
  rintro e w2 ⟨rfl, hb⟩
  have H2 := Lib.hid (And.intro (diskAt_below H1.out.1 hb) (H1.out.2.trans (hb.mono H1.out.2.size))); clear hb
  go_wp2_with fail
  refine (write_up H2.out.1 (fun k hk => Nat.le_trans H2.out.2.size hk) ((1 : Nat) : Int) _ (by show 0 ≤ 1000000; omega)).mono ?_
  rintro e w3 ⟨rfl, hd, ho⟩
  have H3 := Lib.hid (And.intro hd (H2.out.2.trans (up_below ho H2.out.2.size))); clear hd ho
  go_wp2_with fail
  refine (flush_up H3.out.1).mono ?_
  rintro e w4 ⟨rfl, hd, ho⟩
  replace hd : DiskAt w4 (Up w.heap.size) p (st1 a) := hd
  have H4 := Lib.hid (And.intro hd (H3.out.2.trans (up_below ho H3.out.2.size))); clear hd ho
  go_wp2_with fail
  refine (block_any b b w4).mono ?_
  rintro e w5 ⟨rfl, hb⟩
  have H5 := Lib.hid (And.intro (diskAt_below H4.out.1 hb) (H4.out.2.trans (hb.mono H4.out.2.size))); clear hb
  go_wp2_with fail
  refine (write_up H5.out.1 (fun k hk => Nat.le_trans H5.out.2.size hk) ((2 : Nat) : Int) _ (by rw [st1_eq]; show 0 ≤ 1000000; omega)).mono ?_
  rintro e w6 ⟨rfl, hd, ho⟩
  replace hd : DiskAt w6 (Up w.heap.size) p (st2 a b) := hd
  have H6 := Lib.hid (And.intro hd (H5.out.2.trans (up_below ho H5.out.2.size))); clear hd ho
  go_wp2_with fail
  refine (crash_up H6.out.1 (fun k hk => Nat.le_trans H6.out.2.size hk) fa F fc (readsI_below HF.out H6.out.2) (fun x hx hl h => by have := readsI_lt HF.out x hx hl; have h : w.heap.size ≤ x.block := h; omega)).mono ?_
  rintro e w9 ⟨rfl, hd, ho⟩
  have H9 := Lib.hid (And.intro hd (H6.out.2.trans (up_below ho H6.out.2.size))); clear hd ho
  go_wp2_with fail
  refine (read_up H9.out.1 ((1 : Nat) : Int)).mono ?_
  rintro e wq ⟨rfl, hq⟩
  obtain rfl := hq.symm
  clear hq
  rw [(stays_not a b F).1, (stays_not a b F).2]
  go_wp2_with fail
  have G0 := Lib.hid H9.out.2
  refine (block_any a a _).mono ?_
  rintro e v1 ⟨rfl, hb⟩
  have G1 := Lib.hid (G0.out.trans (hb.mono G0.out.size)); clear hb
  go_wp2_with fail
  refine (lives_any _).mono ?_
  rintro e wz ⟨rfl, hb⟩
  have GZ := Lib.hid (G1.out.trans (hb.mono G1.out.size)); clear hb
  go_wp2_with fail
  go_ret
  exact ⟨rfl, GZ.out⟩
set_option maxRecDepth 100000 in
set_option maxHeartbeats 1600000 in
theorem stays_walk_0 (a b : UInt8) (F : List Int) (fa : Option Addr) (fc : Nat) (w : World) (hf : ReadsI w fa F) (s : ByteArray) (hs : Dk.falls (F.getD 1 0) (blkB a a) (blkB b b) = s)  (y : s = blkB a a) :
    Calls Try.prog 4 #[.int .u8 (a.toNat : Int), .int .u8 (b.toNat : Int), .bool true, .slice fa F.length fc] w fun e w' => e = .returned (.bool true) ∧ Below w.heap.size w w' := by
  have HF := Lib.hid hf; clear hf
  have hz : s.size = 512 := by rw [y]; exact blkB_size _ _
  have HS := Lib.hid (And.intro hs y)
  have q0 : (s.toList == (blkB a a).toList) = true := by rw [y]; exact beq_self_eq_true _
  clear hs y 
  go_enter Try.func4, Try.ntmps4
  go_wp2_with fail
  refine (new_up 3 w (by omega) (by omega)).mono ?_
  rintro e w1 ⟨p, rfl, hd, hb⟩
  have H1 := Lib.hid (And.intro hd hb); clear hd hb
  go_wp2_with fail
  refine (block_any a a w1).mono ?_
  rintro e w2 ⟨rfl, hb⟩
  have H2 := Lib.hid (And.intro (diskAt_below H1.out.1 hb) (H1.out.2.trans (hb.mono H1.out.2.size))); clear hb
  go_wp2_with fail
  refine (write_up H2.out.1 (fun k hk => Nat.le_trans H2.out.2.size hk) ((1 : Nat) : Int) _ (by show 0 ≤ 1000000; omega)).mono ?_
  rintro e w3 ⟨rfl, hd, ho⟩
  have H3 := Lib.hid (And.intro hd (H2.out.2.trans (up_below ho H2.out.2.size))); clear hd ho
  go_wp2_with fail
  refine (flush_up H3.out.1).mono ?_
  rintro e w4 ⟨rfl, hd, ho⟩
  replace hd : DiskAt w4 (Up w.heap.size) p (st1 a) := hd
  have H4 := Lib.hid (And.intro hd (H3.out.2.trans (up_below ho H3.out.2.size))); clear hd ho
  go_wp2_with fail
  refine (block_any b b w4).mono ?_
  rintro e w5 ⟨rfl, hb⟩
  have H5 := Lib.hid (And.intro (diskAt_below H4.out.1 hb) (H4.out.2.trans (hb.mono H4.out.2.size))); clear hb
  go_wp2_with fail
  refine (write_up H5.out.1 (fun k hk => Nat.le_trans H5.out.2.size hk) ((2 : Nat) : Int) _ (by rw [st1_eq]; show 0 ≤ 1000000; omega)).mono ?_
  rintro e w6 ⟨rfl, hd, ho⟩
  replace hd : DiskAt w6 (Up w.heap.size) p (st2 a b) := hd
  have H6 := Lib.hid (And.intro hd (H5.out.2.trans (up_below ho H5.out.2.size))); clear hd ho
  go_wp2_with fail
  refine (block_any b b w6).mono ?_
  rintro e w7 ⟨rfl, hb⟩
  have H7 := Lib.hid (And.intro (diskAt_below H6.out.1 hb) (H6.out.2.trans (hb.mono H6.out.2.size))); clear hb
  go_wp2_with fail
  refine (write_up H7.out.1 (fun k hk => Nat.le_trans H7.out.2.size hk) ((1 : Nat) : Int) _ (by rw [st2_eq]; show 1 ≤ 1000000; omega)).mono ?_
  rintro e w8 ⟨rfl, hd, ho⟩
  replace hd : DiskAt w8 (Up w.heap.size) p (st3 a b) := hd
  have H8 := Lib.hid (And.intro hd (H7.out.2.trans (up_below ho H7.out.2.size))); clear hd ho
  go_wp2_with fail
  refine (crash_up H8.out.1 (fun k hk => Nat.le_trans H8.out.2.size hk) fa F fc (readsI_below HF.out H8.out.2) (fun x hx hl h => by have := readsI_lt HF.out x hx hl; have h : w.heap.size ≤ x.block := h; omega)).mono ?_
  rintro e w9 ⟨rfl, hd, ho⟩
  have H9 := Lib.hid (And.intro hd (H8.out.2.trans (up_below ho H8.out.2.size))); clear hd ho
  go_wp2_with fail
  refine (read_up H9.out.1 ((1 : Nat) : Int)).mono ?_
  rintro e wq ⟨rfl, hq⟩
  obtain rfl := hq.symm
  clear hq
  rw [(stays_over a b F).1, (stays_over a b F).2, HS.out.1]
  go_wp2_with fail
  have G0 := Lib.hid H9.out.2
  refine (block_any a a _).mono ?_
  rintro e v1 ⟨rfl, hb⟩
  have G1 := Lib.hid (G0.out.trans (hb.mono G0.out.size)); clear hb
  go_wp2_with fail
  refine (lives_any _).mono ?_
  rintro e wz ⟨rfl, hb⟩
  have GZ := Lib.hid (G1.out.trans (hb.mono G1.out.size)); clear hb
  go_wp2_with fail
  go_ret
  exact ⟨rfl, GZ.out⟩
set_option maxRecDepth 100000 in
set_option maxHeartbeats 1600000 in
theorem stays_walk_1 (a b : UInt8) (F : List Int) (fa : Option Addr) (fc : Nat) (w : World) (hf : ReadsI w fa F) (s : ByteArray) (hs : Dk.falls (F.getD 1 0) (blkB a a) (blkB b b) = s) (n0 : s ≠ blkB a a) (y : s = blkB b b) :
    Calls Try.prog 4 #[.int .u8 (a.toNat : Int), .int .u8 (b.toNat : Int), .bool true, .slice fa F.length fc] w fun e w' => e = .returned (.bool true) ∧ Below w.heap.size w w' := by
  have HF := Lib.hid hf; clear hf
  have hz : s.size = 512 := by rw [y]; exact blkB_size _ _
  have HS := Lib.hid (And.intro hs y)
  have q0 := str_beq (str_neq n0)
  have q1 : (s.toList == (blkB b b).toList) = true := by rw [y]; exact beq_self_eq_true _
  clear hs y n0
  go_enter Try.func4, Try.ntmps4
  go_wp2_with fail
  refine (new_up 3 w (by omega) (by omega)).mono ?_
  rintro e w1 ⟨p, rfl, hd, hb⟩
  have H1 := Lib.hid (And.intro hd hb); clear hd hb
  go_wp2_with fail
  refine (block_any a a w1).mono ?_
  rintro e w2 ⟨rfl, hb⟩
  have H2 := Lib.hid (And.intro (diskAt_below H1.out.1 hb) (H1.out.2.trans (hb.mono H1.out.2.size))); clear hb
  go_wp2_with fail
  refine (write_up H2.out.1 (fun k hk => Nat.le_trans H2.out.2.size hk) ((1 : Nat) : Int) _ (by show 0 ≤ 1000000; omega)).mono ?_
  rintro e w3 ⟨rfl, hd, ho⟩
  have H3 := Lib.hid (And.intro hd (H2.out.2.trans (up_below ho H2.out.2.size))); clear hd ho
  go_wp2_with fail
  refine (flush_up H3.out.1).mono ?_
  rintro e w4 ⟨rfl, hd, ho⟩
  replace hd : DiskAt w4 (Up w.heap.size) p (st1 a) := hd
  have H4 := Lib.hid (And.intro hd (H3.out.2.trans (up_below ho H3.out.2.size))); clear hd ho
  go_wp2_with fail
  refine (block_any b b w4).mono ?_
  rintro e w5 ⟨rfl, hb⟩
  have H5 := Lib.hid (And.intro (diskAt_below H4.out.1 hb) (H4.out.2.trans (hb.mono H4.out.2.size))); clear hb
  go_wp2_with fail
  refine (write_up H5.out.1 (fun k hk => Nat.le_trans H5.out.2.size hk) ((2 : Nat) : Int) _ (by rw [st1_eq]; show 0 ≤ 1000000; omega)).mono ?_
  rintro e w6 ⟨rfl, hd, ho⟩
  replace hd : DiskAt w6 (Up w.heap.size) p (st2 a b) := hd
  have H6 := Lib.hid (And.intro hd (H5.out.2.trans (up_below ho H5.out.2.size))); clear hd ho
  go_wp2_with fail
  refine (block_any b b w6).mono ?_
  rintro e w7 ⟨rfl, hb⟩
  have H7 := Lib.hid (And.intro (diskAt_below H6.out.1 hb) (H6.out.2.trans (hb.mono H6.out.2.size))); clear hb
  go_wp2_with fail
  refine (write_up H7.out.1 (fun k hk => Nat.le_trans H7.out.2.size hk) ((1 : Nat) : Int) _ (by rw [st2_eq]; show 1 ≤ 1000000; omega)).mono ?_
  rintro e w8 ⟨rfl, hd, ho⟩
  replace hd : DiskAt w8 (Up w.heap.size) p (st3 a b) := hd
  have H8 := Lib.hid (And.intro hd (H7.out.2.trans (up_below ho H7.out.2.size))); clear hd ho
  go_wp2_with fail
  refine (crash_up H8.out.1 (fun k hk => Nat.le_trans H8.out.2.size hk) fa F fc (readsI_below HF.out H8.out.2) (fun x hx hl h => by have := readsI_lt HF.out x hx hl; have h : w.heap.size ≤ x.block := h; omega)).mono ?_
  rintro e w9 ⟨rfl, hd, ho⟩
  have H9 := Lib.hid (And.intro hd (H8.out.2.trans (up_below ho H8.out.2.size))); clear hd ho
  go_wp2_with fail
  refine (read_up H9.out.1 ((1 : Nat) : Int)).mono ?_
  rintro e wq ⟨rfl, hq⟩
  obtain rfl := hq.symm
  clear hq
  rw [(stays_over a b F).1, (stays_over a b F).2, HS.out.1]
  go_wp2_with fail
  have G0 := Lib.hid H9.out.2
  refine (block_any a a _).mono ?_
  rintro e v1 ⟨rfl, hb⟩
  have G1 := Lib.hid (G0.out.trans (hb.mono G0.out.size)); clear hb
  go_wp2_with fail
  refine (block_any b b _).mono ?_
  rintro e v2 ⟨rfl, hb⟩
  have G2 := Lib.hid (G1.out.trans (hb.mono G1.out.size)); clear hb
  go_wp2_with fail
  refine (lives_any _).mono ?_
  rintro e wz ⟨rfl, hb⟩
  have GZ := Lib.hid (G2.out.trans (hb.mono G2.out.size)); clear hb
  go_wp2_with fail
  go_ret
  exact ⟨rfl, GZ.out⟩
set_option maxRecDepth 100000 in
set_option maxHeartbeats 1600000 in
theorem stays_walk_2 (a b : UInt8) (F : List Int) (fa : Option Addr) (fc : Nat) (w : World) (hf : ReadsI w fa F) (s : ByteArray) (hs : Dk.falls (F.getD 1 0) (blkB a a) (blkB b b) = s) (n0 : s ≠ blkB a a) (n1 : s ≠ blkB b b) (y : s = blkB a b) :
    Calls Try.prog 4 #[.int .u8 (a.toNat : Int), .int .u8 (b.toNat : Int), .bool true, .slice fa F.length fc] w fun e w' => e = .returned (.bool true) ∧ Below w.heap.size w w' := by
  have HF := Lib.hid hf; clear hf
  have hz : s.size = 512 := by rw [y]; exact blkB_size _ _
  have HS := Lib.hid (And.intro hs y)
  have q0 := str_beq (str_neq n0)
  have q1 := str_beq (str_neq n1)
  have q2 : (s.toList == (blkB a b).toList) = true := by rw [y]; exact beq_self_eq_true _
  clear hs y n0 n1
  go_enter Try.func4, Try.ntmps4
  go_wp2_with fail
  refine (new_up 3 w (by omega) (by omega)).mono ?_
  rintro e w1 ⟨p, rfl, hd, hb⟩
  have H1 := Lib.hid (And.intro hd hb); clear hd hb
  go_wp2_with fail
  refine (block_any a a w1).mono ?_
  rintro e w2 ⟨rfl, hb⟩
  have H2 := Lib.hid (And.intro (diskAt_below H1.out.1 hb) (H1.out.2.trans (hb.mono H1.out.2.size))); clear hb
  go_wp2_with fail
  refine (write_up H2.out.1 (fun k hk => Nat.le_trans H2.out.2.size hk) ((1 : Nat) : Int) _ (by show 0 ≤ 1000000; omega)).mono ?_
  rintro e w3 ⟨rfl, hd, ho⟩
  have H3 := Lib.hid (And.intro hd (H2.out.2.trans (up_below ho H2.out.2.size))); clear hd ho
  go_wp2_with fail
  refine (flush_up H3.out.1).mono ?_
  rintro e w4 ⟨rfl, hd, ho⟩
  replace hd : DiskAt w4 (Up w.heap.size) p (st1 a) := hd
  have H4 := Lib.hid (And.intro hd (H3.out.2.trans (up_below ho H3.out.2.size))); clear hd ho
  go_wp2_with fail
  refine (block_any b b w4).mono ?_
  rintro e w5 ⟨rfl, hb⟩
  have H5 := Lib.hid (And.intro (diskAt_below H4.out.1 hb) (H4.out.2.trans (hb.mono H4.out.2.size))); clear hb
  go_wp2_with fail
  refine (write_up H5.out.1 (fun k hk => Nat.le_trans H5.out.2.size hk) ((2 : Nat) : Int) _ (by rw [st1_eq]; show 0 ≤ 1000000; omega)).mono ?_
  rintro e w6 ⟨rfl, hd, ho⟩
  replace hd : DiskAt w6 (Up w.heap.size) p (st2 a b) := hd
  have H6 := Lib.hid (And.intro hd (H5.out.2.trans (up_below ho H5.out.2.size))); clear hd ho
  go_wp2_with fail
  refine (block_any b b w6).mono ?_
  rintro e w7 ⟨rfl, hb⟩
  have H7 := Lib.hid (And.intro (diskAt_below H6.out.1 hb) (H6.out.2.trans (hb.mono H6.out.2.size))); clear hb
  go_wp2_with fail
  refine (write_up H7.out.1 (fun k hk => Nat.le_trans H7.out.2.size hk) ((1 : Nat) : Int) _ (by rw [st2_eq]; show 1 ≤ 1000000; omega)).mono ?_
  rintro e w8 ⟨rfl, hd, ho⟩
  replace hd : DiskAt w8 (Up w.heap.size) p (st3 a b) := hd
  have H8 := Lib.hid (And.intro hd (H7.out.2.trans (up_below ho H7.out.2.size))); clear hd ho
  go_wp2_with fail
  refine (crash_up H8.out.1 (fun k hk => Nat.le_trans H8.out.2.size hk) fa F fc (readsI_below HF.out H8.out.2) (fun x hx hl h => by have := readsI_lt HF.out x hx hl; have h : w.heap.size ≤ x.block := h; omega)).mono ?_
  rintro e w9 ⟨rfl, hd, ho⟩
  have H9 := Lib.hid (And.intro hd (H8.out.2.trans (up_below ho H8.out.2.size))); clear hd ho
  go_wp2_with fail
  refine (read_up H9.out.1 ((1 : Nat) : Int)).mono ?_
  rintro e wq ⟨rfl, hq⟩
  obtain rfl := hq.symm
  clear hq
  rw [(stays_over a b F).1, (stays_over a b F).2, HS.out.1]
  go_wp2_with fail
  have G0 := Lib.hid H9.out.2
  refine (block_any a a _).mono ?_
  rintro e v1 ⟨rfl, hb⟩
  have G1 := Lib.hid (G0.out.trans (hb.mono G0.out.size)); clear hb
  go_wp2_with fail
  refine (block_any b b _).mono ?_
  rintro e v2 ⟨rfl, hb⟩
  have G2 := Lib.hid (G1.out.trans (hb.mono G1.out.size)); clear hb
  go_wp2_with fail
  refine (block_any a b _).mono ?_
  rintro e v3 ⟨rfl, hb⟩
  have G3 := Lib.hid (G2.out.trans (hb.mono G2.out.size)); clear hb
  go_wp2_with fail
  refine (lives_any _).mono ?_
  rintro e wz ⟨rfl, hb⟩
  have GZ := Lib.hid (G3.out.trans (hb.mono G3.out.size)); clear hb
  go_wp2_with fail
  go_ret
  exact ⟨rfl, GZ.out⟩
set_option maxRecDepth 100000 in
set_option maxHeartbeats 1600000 in
theorem stays_walk_3 (a b : UInt8) (F : List Int) (fa : Option Addr) (fc : Nat) (w : World) (hf : ReadsI w fa F) (s : ByteArray) (hs : Dk.falls (F.getD 1 0) (blkB a a) (blkB b b) = s) (n0 : s ≠ blkB a a) (n1 : s ≠ blkB b b) (n2 : s ≠ blkB a b) (y : s = blkB b a) :
    Calls Try.prog 4 #[.int .u8 (a.toNat : Int), .int .u8 (b.toNat : Int), .bool true, .slice fa F.length fc] w fun e w' => e = .returned (.bool true) ∧ Below w.heap.size w w' := by
  have HF := Lib.hid hf; clear hf
  have hz : s.size = 512 := by rw [y]; exact blkB_size _ _
  have HS := Lib.hid (And.intro hs y)
  have q0 := str_beq (str_neq n0)
  have q1 := str_beq (str_neq n1)
  have q2 := str_beq (str_neq n2)
  have q3 : (s.toList == (blkB b a).toList) = true := by rw [y]; exact beq_self_eq_true _
  clear hs y n0 n1 n2
  go_enter Try.func4, Try.ntmps4
  go_wp2_with fail
  refine (new_up 3 w (by omega) (by omega)).mono ?_
  rintro e w1 ⟨p, rfl, hd, hb⟩
  have H1 := Lib.hid (And.intro hd hb); clear hd hb
  go_wp2_with fail
  refine (block_any a a w1).mono ?_
  rintro e w2 ⟨rfl, hb⟩
  have H2 := Lib.hid (And.intro (diskAt_below H1.out.1 hb) (H1.out.2.trans (hb.mono H1.out.2.size))); clear hb
  go_wp2_with fail
  refine (write_up H2.out.1 (fun k hk => Nat.le_trans H2.out.2.size hk) ((1 : Nat) : Int) _ (by show 0 ≤ 1000000; omega)).mono ?_
  rintro e w3 ⟨rfl, hd, ho⟩
  have H3 := Lib.hid (And.intro hd (H2.out.2.trans (up_below ho H2.out.2.size))); clear hd ho
  go_wp2_with fail
  refine (flush_up H3.out.1).mono ?_
  rintro e w4 ⟨rfl, hd, ho⟩
  replace hd : DiskAt w4 (Up w.heap.size) p (st1 a) := hd
  have H4 := Lib.hid (And.intro hd (H3.out.2.trans (up_below ho H3.out.2.size))); clear hd ho
  go_wp2_with fail
  refine (block_any b b w4).mono ?_
  rintro e w5 ⟨rfl, hb⟩
  have H5 := Lib.hid (And.intro (diskAt_below H4.out.1 hb) (H4.out.2.trans (hb.mono H4.out.2.size))); clear hb
  go_wp2_with fail
  refine (write_up H5.out.1 (fun k hk => Nat.le_trans H5.out.2.size hk) ((2 : Nat) : Int) _ (by rw [st1_eq]; show 0 ≤ 1000000; omega)).mono ?_
  rintro e w6 ⟨rfl, hd, ho⟩
  replace hd : DiskAt w6 (Up w.heap.size) p (st2 a b) := hd
  have H6 := Lib.hid (And.intro hd (H5.out.2.trans (up_below ho H5.out.2.size))); clear hd ho
  go_wp2_with fail
  refine (block_any b b w6).mono ?_
  rintro e w7 ⟨rfl, hb⟩
  have H7 := Lib.hid (And.intro (diskAt_below H6.out.1 hb) (H6.out.2.trans (hb.mono H6.out.2.size))); clear hb
  go_wp2_with fail
  refine (write_up H7.out.1 (fun k hk => Nat.le_trans H7.out.2.size hk) ((1 : Nat) : Int) _ (by rw [st2_eq]; show 1 ≤ 1000000; omega)).mono ?_
  rintro e w8 ⟨rfl, hd, ho⟩
  replace hd : DiskAt w8 (Up w.heap.size) p (st3 a b) := hd
  have H8 := Lib.hid (And.intro hd (H7.out.2.trans (up_below ho H7.out.2.size))); clear hd ho
  go_wp2_with fail
  refine (crash_up H8.out.1 (fun k hk => Nat.le_trans H8.out.2.size hk) fa F fc (readsI_below HF.out H8.out.2) (fun x hx hl h => by have := readsI_lt HF.out x hx hl; have h : w.heap.size ≤ x.block := h; omega)).mono ?_
  rintro e w9 ⟨rfl, hd, ho⟩
  have H9 := Lib.hid (And.intro hd (H8.out.2.trans (up_below ho H8.out.2.size))); clear hd ho
  go_wp2_with fail
  refine (read_up H9.out.1 ((1 : Nat) : Int)).mono ?_
  rintro e wq ⟨rfl, hq⟩
  obtain rfl := hq.symm
  clear hq
  rw [(stays_over a b F).1, (stays_over a b F).2, HS.out.1]
  go_wp2_with fail
  have G0 := Lib.hid H9.out.2
  refine (block_any a a _).mono ?_
  rintro e v1 ⟨rfl, hb⟩
  have G1 := Lib.hid (G0.out.trans (hb.mono G0.out.size)); clear hb
  go_wp2_with fail
  refine (block_any b b _).mono ?_
  rintro e v2 ⟨rfl, hb⟩
  have G2 := Lib.hid (G1.out.trans (hb.mono G1.out.size)); clear hb
  go_wp2_with fail
  refine (block_any a b _).mono ?_
  rintro e v3 ⟨rfl, hb⟩
  have G3 := Lib.hid (G2.out.trans (hb.mono G2.out.size)); clear hb
  go_wp2_with fail
  refine (block_any b a _).mono ?_
  rintro e v4 ⟨rfl, hb⟩
  have G4 := Lib.hid (G3.out.trans (hb.mono G3.out.size)); clear hb
  go_wp2_with fail
  refine (lives_any _).mono ?_
  rintro e wz ⟨rfl, hb⟩
  have GZ := Lib.hid (G4.out.trans (hb.mono G4.out.size)); clear hb
  go_wp2_with fail
  go_ret
  exact ⟨rfl, GZ.out⟩
theorem stays_walk (a b : UInt8) (over : Bool) (F : List Int) (fa : Option Addr) (fc : Nat) (w : World) (hf : ReadsI w fa F) :
    Calls Try.prog 4 #[.int .u8 (a.toNat : Int), .int .u8 (b.toNat : Int), .bool over, .slice fa F.length fc] w fun e w' => e = .returned (.bool true) ∧ Below w.heap.size w w' := by
  cases over with
  | false => exact stays_walk_not a b F fa fc w hf
  | true =>
    obtain ⟨s, hs⟩ : ∃ s, Dk.falls (F.getD 1 0) (blkB a a) (blkB b b) = s := ⟨_, rfl⟩
    by_cases y0 : s = blkB a a
    · exact stays_walk_0 a b F fa fc w hf s hs y0
    · by_cases y1 : s = blkB b b
      · exact stays_walk_1 a b F fa fc w hf s hs y0 y1
      · by_cases y2 : s = blkB a b
        · exact stays_walk_2 a b F fa fc w hf s hs y0 y1 y2
        · have y3 : s = blkB b a := by
            rcases stays_cases (F.getD 1 0) a b with h | h | h | h
            · exact absurd (hs.symm.trans h) y0
            · exact absurd (hs.symm.trans h) y1
            · exact absurd (hs.symm.trans h) y2
            · exact hs.symm.trans h
          exact stays_walk_3 a b F fa fc w hf s hs y0 y1 y2 y3
end Go.Proofs.Ytjefmmbkkdaeiaa
