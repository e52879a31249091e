/-
  Layer 4: each call of the program's disk, told in one form; a call as a value.
-/
import Derived.Test.YtjefmmbkkdaeiaaDskCrash
import Derived.Test.YtjefmmbkkdaeiaaDskCopy
import Derived.Test.YtjefmmbkkdaeiaaDskBlk
namespace Go.Proofs.Ytjefmmbkkdaeiaa
open Go.RowKit

theorem diskAt_mono {S S' : Nat → Prop} {w : World} {p : Nat} {d : Dk.D} (h : DiskAt w S p d) (hs : ∀ k, k < w.heap.size → S k → S' k) : DiskAt w S' p d := by
  obtain ⟨_, _, _, _, _, _, h⟩ := h
  exact ⟨_, _, _, _, _, _, diskIn_mono h hs⟩
theorem diskAt_below {S : Nat → Prop} {w w' : World} {p : Nat} {d : Dk.D} (h : DiskAt w S p d) (hb : Below w.heap.size w w') : DiskAt w' S p d := by
  obtain ⟨_, _, _, _, _, _, h⟩ := h
  exact ⟨_, _, _, _, _, _, diskIn_below h hb⟩
theorem diskAt_ok {S : Nat → Prop} {w : World} {p : Nat} {d : Dk.D} (h : DiskAt w S p d) : Dk.Ok d := by
  obtain ⟨_, _, _, _, _, _, h⟩ := h
  exact h.ok
theorem diskAt_lt {S : Nat → Prop} {w : World} {p : Nat} {d : Dk.D} (h : DiskAt w S p d) : p < w.heap.size ∧ S p := by
  obtain ⟨_, _, _, _, _, _, h⟩ := h
  exact ⟨rowV_lt h.head, h.sp⟩

theorem next_at {w : World} {S : Nat → Prop} {p : Nat} {d : Dk.D} {la : Option Addr} (h : DiskNext w S p d la) : DiskAt w S p d := by
  obtain ⟨_, _, _, _, _, _, h, _⟩ := h
  exact ⟨_, _, _, _, _, _, h⟩
theorem next_atL {w : World} {S S' L : Nat → Prop} {p : Nat} {d : Dk.D} {la : Option Addr} (h : DiskNext w S p d la) (hs : ∀ k, S k → S' k) (hL : ∀ k, S' k → L k) (hla : ∀ a, la = some a → L a.block) : DiskAtL w S' L p d := by
  obtain ⟨_, _, _, _, la', _, h, hl⟩ := h
  refine ⟨_, _, _, _, la', _, diskIn_mono h fun k _ hk => hs k hk, fun a ha => ?_⟩
  rcases hl with rfl | rfl | ⟨g, rfl, hg⟩
  · cases ha
  · exact hla a ha
  · cases ha; exact hL _ (hs _ hg)
theorem atL_at {w : World} {S L : Nat → Prop} {p : Nat} {d : Dk.D} (h : DiskAtL w S L p d) : DiskAt w S p d := by
  obtain ⟨_, _, _, _, _, _, h, _⟩ := h
  exact ⟨_, _, _, _, _, _, h⟩
theorem at_atL {w : World} {S : Nat → Prop} {p : Nat} {d : Dk.D} (h : DiskAt w S p d) : DiskAtL w S (fun _ => True) p d := by
  obtain ⟨_, _, _, _, _, _, h⟩ := h
  exact ⟨_, _, _, _, _, _, h, fun _ _ => trivial⟩
section
variable {w : World} {S L : Nat → Prop} {p : Nat} {d : Dk.D}
theorem write_upL (h : DiskAtL w S L p d) (hS : ∀ k, w.heap.size ≤ k → S k) (hL : ∀ k, S k → L k) (i : Int) (s : ByteArray) (hW : d.W.length ≤ 1000000) :
    Calls Try.prog 13 #[.pointer (some ⟨p, 0, none⟩), .int .i64 i, .string s] w fun e w' => e = .returned (.int .i64 (Dk.writeE d i s)) ∧ DiskAtL w' S L p (Dk.write d i s) ∧ Only S w w' := by
  obtain ⟨_, _, _, _, _, _, h, hl⟩ := h
  exact (write_any h i s hW).mono fun e w' ⟨h1, h2, h3⟩ => ⟨h1, next_atL h2 (fun k hk => hk.elim id (hS k)) hL hl, h3⟩
theorem flush_upL (h : DiskAtL w S L p d) (hL : ∀ k, S k → L k) : Calls Try.prog 15 #[.pointer (some ⟨p, 0, none⟩)] w fun e w' => e = .returned (.int .i64 (Dk.flushE d)) ∧ DiskAtL w' S L p (Dk.flush d) ∧ Only S w w' := by
  obtain ⟨_, _, _, _, _, _, h, hl⟩ := h
  exact (flush_any h).mono fun e w' ⟨h1, h2, h3⟩ => ⟨h1, next_atL h2 (fun k hk => hk) hL hl, h3⟩
theorem crash_upL (h : DiskAtL w S L p d) (hS : ∀ k, w.heap.size ≤ k → S k) (hL : ∀ k, S k → L k) (fa : Option Addr) (F : List Int) (fc : Nat) (hF : ReadsI w fa F) (hfa : ∀ a, fa = some a → F ≠ [] → ¬ S a.block) :
    Calls Try.prog 16 #[.pointer (some ⟨p, 0, none⟩), .slice fa F.length fc] w fun e w' => e = .returned (.int .i64 0) ∧ DiskAtL w' S L p (Dk.crash d F) ∧ Only S w w' := by
  obtain ⟨_, _, _, _, _, _, h, hl⟩ := h
  exact (crash_any h fa F fc hF hfa).mono fun e w' ⟨h1, h2, h3⟩ => ⟨h1, next_atL h2 (fun k hk => hk.elim id (hS k)) hL hl, h3⟩
theorem arm_upL (h : DiskAtL w S L p d) (n : Int) (h1 : -9223372036854775808 ≤ n) (h2 : n ≤ 9223372036854775807) :
    Calls Try.prog 21 #[.pointer (some ⟨p, 0, none⟩), .int .i64 n] w fun e w' => e = .returned (.int .i64 (Dk.armE d)) ∧ DiskAtL w' S L p (Dk.arm d n) ∧ Only S w w' := by
  obtain ⟨gn, gk, cn, ck, la, cap, h, hl⟩ := h
  refine (arm_any h.head h.ok n).mono fun e w' ⟨e1, hh, ho⟩ => ⟨e1, ⟨gn, gk, cn, ck, la, cap, ?_, hl⟩, ho.mono fun k _ e => e ▸ h.sp⟩
  have eB : (Dk.arm d n).B = d.B := by unfold Dk.arm; split <;> rfl
  have eW : (Dk.arm d n).W = d.W := by unfold Dk.arm; split <;> rfl
  refine ⟨Dk.arm_ok h.ok n h1 h2, hh, ?_, ?_, ?_, h.pn, h.pk, h.nk, h.sp, h.sn, h.sk⟩
  · rw [eB, eW]; exact blocksAt_only h.now ho (fun e => h.pn e)
  · rw [eB]; exact blocksAt_only h.kept ho (fun e => h.pk e)
  · rw [eW]
    refine looseAt_only h.loose ho ?_
    rintro a rfl
    rcases h.loose with ⟨h1, _⟩ | ⟨g, r, h1, _, _, _, h5, _⟩
    · cases h1
    · cases h1; exact h5
theorem write_up (h : DiskAt w S p d) (hS : ∀ k, w.heap.size ≤ k → S k) (i : Int) (s : ByteArray) (hW : d.W.length ≤ 1000000) :
    Calls Try.prog 13 #[.pointer (some ⟨p, 0, none⟩), .int .i64 i, .string s] w fun e w' => e = .returned (.int .i64 (Dk.writeE d i s)) ∧ DiskAt w' S p (Dk.write d i s) ∧ Only S w w' :=
  (write_upL (at_atL h) hS (fun _ _ => trivial) i s hW).mono fun _ _ ⟨h1, h2, h3⟩ => ⟨h1, atL_at h2, h3⟩
theorem flush_up (h : DiskAt w S p d) : Calls Try.prog 15 #[.pointer (some ⟨p, 0, none⟩)] w fun e w' => e = .returned (.int .i64 (Dk.flushE d)) ∧ DiskAt w' S p (Dk.flush d) ∧ Only S w w' :=
  (flush_upL (at_atL h) (fun _ _ => trivial)).mono fun _ _ ⟨h1, h2, h3⟩ => ⟨h1, atL_at h2, h3⟩
theorem crash_up (h : DiskAt w S p d) (hS : ∀ k, w.heap.size ≤ k → S k) (fa : Option Addr) (F : List Int) (fc : Nat) (hF : ReadsI w fa F) (hfa : ∀ a, fa = some a → F ≠ [] → ¬ S a.block) :
    Calls Try.prog 16 #[.pointer (some ⟨p, 0, none⟩), .slice fa F.length fc] w fun e w' => e = .returned (.int .i64 0) ∧ DiskAt w' S p (Dk.crash d F) ∧ Only S w w' :=
  (crash_upL (at_atL h) hS (fun _ _ => trivial) fa F fc hF hfa).mono fun _ _ ⟨h1, h2, h3⟩ => ⟨h1, atL_at h2, h3⟩
theorem arm_up (h : DiskAt w S p d) (n : Int) (h1 : -9223372036854775808 ≤ n) (h2 : n ≤ 9223372036854775807) :
    Calls Try.prog 21 #[.pointer (some ⟨p, 0, none⟩), .int .i64 n] w fun e w' => e = .returned (.int .i64 (Dk.armE d)) ∧ DiskAt w' S p (Dk.arm d n) ∧ Only S w w' :=
  (arm_upL (at_atL h) n h1 h2).mono fun _ _ ⟨h1, h2, h3⟩ => ⟨h1, atL_at h2, h3⟩
theorem read_up (h : DiskAt w S p d) (i : Int) : Calls Try.prog 17 #[.pointer (some ⟨p, 0, none⟩), .int .i64 i] w fun e w' => e = .returned (.tuple #[.string (Dk.readS d i), .int .i64 (Dk.readE d i)]) ∧ w' = w := by
  obtain ⟨_, _, _, _, _, _, h⟩ := h
  exact read_any h.ok h.head h.now i
theorem loose_up (h : DiskAt w S p d) : Calls Try.prog 11 #[.pointer (some ⟨p, 0, none⟩)] w fun e w' => e = .returned (.int .i64 (d.W.length : Int)) ∧ w' = w := by
  obtain ⟨_, _, _, _, _, _, h⟩ := h
  exact loose_any h.head h.ok
theorem len_up (h : DiskAt w S p d) : Calls Try.prog 20 #[.pointer (some ⟨p, 0, none⟩)] w fun e w' => e = .returned (.int .i64 (d.B.length : Int)) ∧ w' = w := by
  obtain ⟨_, _, _, _, _, _, h⟩ := h
  exact len_any h.head h.ok
theorem copy_up (h : DiskAt w S p d) : Calls Try.prog 19 #[.pointer (some ⟨p, 0, none⟩)] w fun e w' => CopyPost d w e w' := by
  obtain ⟨_, _, _, _, _, _, h⟩ := h
  exact copy_any h
end

/-- a call -/
structure DAct where
  kind : Int
  i : Int
  a : UInt8
  b : UInt8
  F : List Int
/-- what a call makes of a disk -/
def actD (d : Dk.D) (x : DAct) : Dk.D := if x.kind = 0 then Dk.write d x.i (blkB x.a x.b) else if x.kind = 2 then Dk.flush d else if x.kind = 3 then Dk.arm d x.i else if x.kind = 4 then Dk.crash d x.F else d
theorem actD_W (d : Dk.D) (x : DAct) : (actD d x).W.length ≤ d.W.length + 1 := by
  unfold actD
  repeat' split
  · unfold Dk.write
    repeat' split
    all_goals simp
  · unfold Dk.flush
    repeat' split
    all_goals simp
  · unfold Dk.arm
    split <;> simp
  · show ([] : List (Nat × ByteArray)).length ≤ _; simp
  · omega
/-- the cells of a call as a value -/
def actV (x : DAct) (fa : Option Addr) (fc : Nat) : Array Value := #[.int .i64 x.kind, .int .i64 x.i, .int .u8 (x.a.toNat : Int), .int .u8 (x.b.toNat : Int), .slice fa x.F.length fc]
/-- a call that may stand there: its number fits, its fates lie where the disk does not write -/
structure ActOk (w : World) (S : Nat → Prop) (x : DAct) (fa : Option Addr) : Prop where
  low : -9223372036854775808 ≤ x.i
  high : x.i ≤ 9223372036854775807
  reads : ReadsI w fa x.F
  apart : ∀ a, fa = some a → x.F ≠ [] → ¬ S a.block

set_option maxRecDepth 100000 in
set_option maxHeartbeats 1600000 in
theorem do_any {w : World} {S : Nat → Prop} {p : Nat} {d : Dk.D} (h : DiskAt w S p d) (hS : ∀ k, w.heap.size ≤ k → S k) (x : DAct) (fa : Option Addr) (fc : Nat) (hx : ActOk w S x fa) (hW : d.W.length ≤ 1000000) :
    Calls Try.prog 18 #[.pointer (some ⟨p, 0, none⟩), .agg (actV x fa fc)] w fun e w' => e = .returned (.tuple #[]) ∧ DiskAt w' S p (actD d x) ∧ Only S w w' := by
  have hw1 : Below w.heap.size w (w.alloc (.cells (actV x fa fc) 34)) := (Below.refl _ w).alloc (Nat.le_refl _) _
  have hd1 := diskAt_below h hw1
  have hS1 : ∀ k, (w.alloc (.cells (actV x fa fc) 34)).heap.size ≤ k → S k := fun k hk => hS k (by simp at hk; omega)
  have ho1 : Only S w (w.alloc (.cells (actV x fa fc) 34)) := (Only.refl S w).alloc _
  have hr1 : ReadsI (w.alloc (.cells (actV x fa fc) 34)) fa x.F := readsI_only hx.reads ho1 hx.apart
  have hrow : RowV (w.alloc (.cells (actV x fa fc) 34)) w.heap.size 34 (actV x fa fc).toList := rowV_new w _ [_, _, _, _, _]
  have b0 : (w.alloc (.cells (actV x fa fc) 34)).cell? ⟨w.heap.size, 0, none⟩ = some (.int .i64 x.kind) := rowV_cell hrow 0
  have b1 : (w.alloc (.cells (actV x fa fc) 34)).cell? ⟨w.heap.size, 1, none⟩ = some (.int .i64 x.i) := rowV_cell hrow 1
  have b2 : (w.alloc (.cells (actV x fa fc) 34)).cell? ⟨w.heap.size, 2, none⟩ = some (.int .u8 (x.a.toNat : Int)) := rowV_cell hrow 2
  have b3 : (w.alloc (.cells (actV x fa fc) 34)).cell? ⟨w.heap.size, 3, none⟩ = some (.int .u8 (x.b.toNat : Int)) := rowV_cell hrow 3
  have b4 : (w.alloc (.cells (actV x fa fc) 34)).cell? ⟨w.heap.size, 4, none⟩ = some (.slice fa x.F.length fc) := rowV_cell hrow 4
  have hlt : w.heap.size < (w.alloc (.cells (actV x fa fc) 34)).heap.size := by simp
  have hb01 : Below w.heap.size w (w.alloc (.cells (actV x fa fc) 34)) := hw1
  have HH := Lib.hid (And.intro hd1 (And.intro hS1 (And.intro ho1 (And.intro hr1 (And.intro hW (And.intro hx hlt))))))
  clear h hS hx hW hw1 hd1 hS1 ho1 hr1 hrow hb01
  by_cases t0 : x.kind = 0
  · have e1 : actD d x = Dk.write d x.i (blkB x.a x.b) := by unfold actD; rw [if_pos t0]
    rw [e1]
    have q0 : (x.kind == 0) = true := by rw [t0]; rfl
    clear t0 e1
    go_enter Try.func18, Try.ntmps18
    go_wp2_with fail
    generalize hwa : World.alloc _ _ = w1 at *
    generalize hN : w.heap.size = N at *
    refine wp_region_quiet_tail (C := fun w' => w'.cell? ⟨N, 1, none⟩ = some (.int .i64 x.i) ∧ w'.cell? ⟨N, 2, none⟩ = some (.int .u8 (x.a.toNat : Int)) ∧ w'.cell? ⟨N, 3, none⟩ = some (.int .u8 (x.b.toNat : Int)) ∧ Hid (Below w1.heap.size w1 w')) 8 (by kernel_rfl) (by kernel_rfl) ⟨b1, b2, b3, Lib.hid ((Below.refl _ w1).drew)⟩ ?_
    simp only [List.take_succ_cons, List.take_zero, List.drop_succ_cons, List.drop_zero]
    iterate 7
      refine wpQuiet_read ?_
      apply Exists.intro
      refine ⟨⟨by rfl, fun wx hSx => ?_⟩, ?_⟩
      · go_simp
        with_reducible rfl
      simp only [Act.put, List.setIfInBounds_toArray, List.set_cons_zero, List.set_cons_succ]
    refine wpQuiet_call rfl 14 #[.int .u8 (x.a.toNat : Int), .int .u8 (x.b.toNat : Int)] (.string (blkB x.a x.b)) (fun wx hSx => by go_simp) (fun wx hSx => (block_any x.a x.b wx).mono fun e w' hh => by
      have hb := hSx.2.2.2.out.trans (hh.2.mono hSx.2.2.2.out.size)
      exact ⟨hh.1, (hb.cell (p := ⟨N, 1, none⟩) HH.out.2.2.2.2.2.2).trans b1, (hb.cell (p := ⟨N, 2, none⟩) HH.out.2.2.2.2.2.2).trans b2, (hb.cell (p := ⟨N, 3, none⟩) HH.out.2.2.2.2.2.2).trans b3, Lib.hid hb⟩) ?_
    simp only [Act.put, List.setIfInBounds_toArray, List.set_cons_zero, List.set_cons_succ]
    refine wpQuiet_nil ?_
    rintro w4 ⟨_, _, _, hb4⟩
    go_wp2_with fail
    refine (write_up (diskAt_below HH.out.1 hb4.out) (fun k hk => HH.out.2.1 k (Nat.le_trans hb4.out.size hk)) x.i (blkB x.a x.b) HH.out.2.2.2.2.1).mono ?_
    rintro e w5 ⟨rfl, hd5, ho5⟩
    have H5 := Lib.hid (And.intro hd5 ((HH.out.2.2.1.more (Only.of_none hb4.out)).more ho5))
    clear hd5 ho5
    go_wp2_with fail
    go_end0
    exact ⟨rfl, H5.out.1, H5.out.2⟩
  · have q0 : (x.kind == 0) = false := by rw [beq_eq_false_iff_ne]; exact t0
    by_cases t2 : x.kind = 2
    · have e1 : actD d x = Dk.flush d := by unfold actD; rw [if_neg t0, if_pos t2]
      rw [e1]
      have q2 : (x.kind == 2) = true := by rw [t2]; rfl
      clear t0 t2 e1
      go_enter Try.func18, Try.ntmps18
      go_wp2_with fail
      generalize hwa : World.alloc _ _ = w1 at *
      refine (flush_up HH.out.1).mono ?_
      rintro e w5 ⟨rfl, hd5, ho5⟩
      have H5 := Lib.hid (And.intro hd5 (HH.out.2.2.1.more ho5))
      clear hd5 ho5
      go_wp2_with fail
      go_end0
      exact ⟨rfl, H5.out.1, H5.out.2⟩
    · have q2 : (x.kind == 2) = false := by rw [beq_eq_false_iff_ne]; exact t2
      by_cases t3 : x.kind = 3
      · have e1 : actD d x = Dk.arm d x.i := by unfold actD; rw [if_neg t0, if_neg t2, if_pos t3]
        rw [e1]
        have q3 : (x.kind == 3) = true := by rw [t3]; rfl
        clear t0 t2 t3 e1
        go_enter Try.func18, Try.ntmps18
        go_wp2_with fail
        generalize hwa : World.alloc _ _ = w1 at *
        refine (arm_up HH.out.1 x.i HH.out.2.2.2.2.2.1.low HH.out.2.2.2.2.2.1.high).mono ?_
        rintro e w5 ⟨rfl, hd5, ho5⟩
        have H5 := Lib.hid (And.intro hd5 (HH.out.2.2.1.more ho5))
        clear hd5 ho5
        go_wp2_with fail
        go_end0
        exact ⟨rfl, H5.out.1, H5.out.2⟩
      · have q3 : (x.kind == 3) = false := by rw [beq_eq_false_iff_ne]; exact t3
        by_cases t4 : x.kind = 4
        · have e1 : actD d x = Dk.crash d x.F := by unfold actD; rw [if_neg t0, if_neg t2, if_neg t3, if_pos t4]
          rw [e1]
          have q4 : (x.kind == 4) = true := by rw [t4]; rfl
          clear t0 t2 t3 t4 e1
          go_enter Try.func18, Try.ntmps18
          go_wp2_with fail
          generalize hwa : World.alloc _ _ = w1 at *
          refine (crash_up HH.out.1 HH.out.2.1 fa x.F fc HH.out.2.2.2.1 HH.out.2.2.2.2.2.1.apart).mono ?_
          rintro e w5 ⟨rfl, hd5, ho5⟩
          have H5 := Lib.hid (And.intro hd5 (HH.out.2.2.1.more ho5))
          clear hd5 ho5
          go_wp2_with fail
          go_end0
          exact ⟨rfl, H5.out.1, H5.out.2⟩
        · have e1 : actD d x = d := by unfold actD; rw [if_neg t0, if_neg t2, if_neg t3, if_neg t4]
          rw [e1]
          have q4 : (x.kind == 4) = false := by rw [beq_eq_false_iff_ne]; exact t4
          clear t0 t2 t3 t4 e1
          go_enter Try.func18, Try.ntmps18
          go_wp2_with fail
          go_end0
          exact ⟨rfl, HH.out.1, HH.out.2.2.1⟩
end Go.Proofs.Ytjefmmbkkdaeiaa
