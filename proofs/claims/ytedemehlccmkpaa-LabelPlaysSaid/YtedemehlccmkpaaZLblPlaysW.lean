/-
  Layer 6's laws: calls of both disks; LabelPlays, walked.
-/
import Derived.Test.YtedemehlccmkpaaZLblSame
namespace Go.Proofs.Ytedemehlccmkpaa
open Go.RowKit
/-- a call -/
structure BAct where
  kind : Int
  i : Int
  l : Lb.Label
  raw : ByteArray
  F : List Int
abbrev Acts6 := BAct × Option Addr × Nat
abbrev act6C (x : BAct) (fa : Option Addr) (fc : Nat) : Array Value := #[.int .i64 x.kind, .int .i64 x.i, .int .i64 x.l.turn, .int .i64 x.l.tail, .int .i64 x.l.head, .string x.l.note, .string x.raw, .slice fa x.F.length fc]
def noAct6 : Acts6 := (⟨0, 0, ⟨0, 0, 0, ⟨#[]⟩⟩, ⟨#[]⟩, []⟩, none, 0)
/-- the slice at a reads as the calls L -/
def ReadsB (w : World) (a : Option Addr) (L : List Acts6) : Prop := ∀ i (h : i < L.length), ∃ b off, a = some ⟨b, off, none⟩ ∧
  (∀ j v, (act6C L[i].1 L[i].2.1 L[i].2.2).toList[j]? = some v → w.cell? ⟨b, off + i * 8 + j, none⟩ = some v) ∧ (-9223372036854775808 ≤ L[i].1.i ∧ L[i].1.i ≤ 9223372036854775807) ∧ ReadsI w L[i].2.1 L[i].1.F
theorem readsB_none (w : World) (a : Option Addr) : ReadsB w a [] := by intro i hi; simp at hi
theorem act6_at {w0 w : World} {a : Option Addr} {L : List Acts6} (h : ReadsB w0 a L) (hb : Below w0.heap.size w0 w) (k : Nat) (hk : k < L.length) :
    ∃ b off x fa fc, L.getD k noAct6 = (x, fa, fc) ∧ a = some ⟨b, off, none⟩ ∧ b < w0.heap.size ∧ (∀ j v, (act6C x fa fc).toList[j]? = some v → w.cell? ⟨b, off + k * 8 + j, none⟩ = some v) ∧
      (-9223372036854775808 ≤ x.i ∧ x.i ≤ 9223372036854775807) ∧ ReadsI w fa x.F ∧ ∀ y, fa = some y → x.F ≠ [] → y.block < w0.heap.size := by
  have e : L.getD k noAct6 = L[k] := Dk.getD_get L k noAct6 hk
  obtain ⟨b, off, h1, h2, h3, h4⟩ := h k hk
  have hlt : b < w0.heap.size := World.block_lt_of_cell? w0 _ (h2 0 _ rfl)
  exact ⟨b, off, L[k].1, L[k].2.1, L[k].2.2, e, h1, hlt, fun j v hv => (hb.cell (p := ⟨b, off + k * 8 + j, none⟩) hlt).trans (h2 j v hv), h3, readsI_below h4 hb, readsI_lt h4⟩
/-- what a call makes of a disk -/
def stepB (d : Dk.D) (x : BAct) : Dk.D := if x.kind = 0 then Lb.write d x.l else if x.kind = 1 then Dk.write d x.i x.raw else if x.kind = 2 then Dk.arm d x.i else if x.kind = 3 then Dk.crash d x.F else Dk.flush d
def stepsB (d : Dk.D) (L : List Acts6) : Nat → Dk.D
  | 0 => d
  | k + 1 => stepB (stepsB d L k) (L.getD k noAct6).1
theorem Dk.write_W (d : Dk.D) (i : Int) (s : ByteArray) : (Dk.write d i s).W.length ≤ d.W.length + 1 := by
  unfold Dk.write
  repeat' split
  all_goals simp
theorem Dk.flush_W (d : Dk.D) : (Dk.flush d).W.length ≤ d.W.length := by
  unfold Dk.flush
  repeat' split
  all_goals simp
theorem stepB_W (d : Dk.D) (x : BAct) : (stepB d x).W.length ≤ d.W.length + 1 := by
  unfold stepB
  repeat' split
  · unfold Lb.write
    repeat' split
    · omega
    · omega
    · exact Dk.write_W _ _ _
    · exact Nat.le_trans (Dk.flush_W _) (Dk.write_W _ _ _)
  · exact Dk.write_W _ _ _
  · unfold Dk.arm
    split <;> simp
  · show ([] : List (Nat × ByteArray)).length ≤ _; simp
  · exact Nat.le_trans (Dk.flush_W _) (Nat.le_succ _)
theorem stepsB_W (d : Dk.D) (L : List Acts6) (k : Nat) : (stepsB d L k).W.length ≤ d.W.length + k := by
  induction k with
  | zero => exact Nat.le_refl _
  | succ k ih => have := stepB_W (stepsB d L k) (L.getD k noAct6).1; show (stepB _ _).W.length ≤ _; omega
theorem two_new6 {w w1 w2 : World} {p q n : Nat} (hd : DiskAtL w1 (fun k => w.heap.size ≤ k) (fun k => w.heap.size ≤ k) p (Dk.new n)) (hb : Below w.heap.size w w1) (hr : RefAt w2 (fun k => w1.heap.size ≤ k) q (Dk.new n)) (hb2 : Below w1.heap.size w1 w2) : Two w2 (fun j => j < w.heap.size) p q (Dk.new n) (Dk.new n) := by
  have ho : Only (fun _ => False) w1 w2 := Only.of_none hb2
  have hz := hb.size
  have hz2 := hb2.size
  have hd1 : DiskAtL w1 (fun k => w.heap.size ≤ k ∧ k < w1.heap.size) (fun k => w.heap.size ≤ k ∧ k < w1.heap.size) p (Dk.new n) := diskAtL_mono hd (fun k hk h => ⟨h, hk⟩) (fun k hk h => ⟨h, hk⟩)
  exact ⟨fun k => w.heap.size ≤ k ∧ k < w1.heap.size, fun k => w1.heap.size ≤ k ∧ k < w2.heap.size, diskAtL_only hd1 ho (fun _ _ h => h) (fun _ _ h => h), refAt_mono hr (fun k hk h => ⟨h, hk⟩), fun k h1 h2 => by omega, fun k h => ⟨by omega, by omega⟩, fun k h => ⟨by omega, by omega⟩, fun k h => by omega⟩
set_option maxRecDepth 100000 in
set_option maxHeartbeats 4000000 in
theorem plays6_in (L : List Acts6) (la : Option Addr) (lc : Nat) (w : World) (hL : ReadsB w la L) (l25 : L.length ≤ 25) :
    Calls Try.prog 4 #[.slice la L.length lc] w fun e w' => e = .returned (.bool true) ∧ Below w.heap.size w w' := by
  have HH := Lib.hid hL; clear hL
  have b2 : ¬ (25 : Int) < (L.length : Int) := by omega
  go_enter Try.func4, Try.ntmps4
  go_wp2_with fail
  refine (newL_any 3 w).mono ?_
  rintro e w1 (⟨h0, _⟩ | ⟨_, _, p, rfl, hd, hb⟩)
  · exact absurd ⟨by omega, by omega⟩ h0
  have H1 := Lib.hid (And.intro hd hb); clear hd hb
  go_wp2_with fail
  refine (rnew_any 3 w1).mono ?_
  rintro e w2 (⟨h0, _⟩ | ⟨_, _, q, rfl, hr, hb2⟩)
  · exact absurd ⟨by omega, by omega⟩ h0
  have H2 := Lib.hid (And.intro (two_new6 H1.out.1 H1.out.2 hr hb2) (H1.out.2.trans (hb2.mono H1.out.2.size))); clear hr hb2
  go_wp2_with fail
  go_loopw [7] (fun i wr => ∃ k : Nat, k ≤ L.length ∧ i = .int .i64 (k : Int) ∧ Hid (Two wr (fun j => j < w.heap.size) p q (stepsB (Dk.new 3) L k) (stepsB (Dk.new 3) L k)) ∧ Hid (Below w.heap.size w wr))
    (fun i _ => L.length - (intOf i).toNat)
  case atStart => exact ⟨0, by omega, rfl, Lib.hid H2.out.1, Lib.hid H2.out.2⟩
  case round =>
    obtain ⟨k, hk, rfl, HD, HB⟩ := hrel
    by_cases hlt : k < L.length
    · obtain ⟨b, off, x, fa, fc, hx, rfl, hbl, hc, hi, hF, hFl⟩ := act6_at HH.out HB.out k hlt
      obtain ⟨kind, i, ⟨lt, lla, lh, ln⟩, raw, F⟩ := x
      have d0 : wr.cell? ⟨b, off + k * 8, none⟩ = some (.int .i64 kind) := hc 0 _ rfl
      have d1 : wr.cell? ⟨b, off + k * 8 + 1, none⟩ = some (.int .i64 i) := hc 1 _ rfl
      have d2 : wr.cell? ⟨b, off + k * 8 + 2, none⟩ = some (.int .i64 lt) := hc 2 _ rfl
      have d3 : wr.cell? ⟨b, off + k * 8 + 3, none⟩ = some (.int .i64 lla) := hc 3 _ rfl
      have d4 : wr.cell? ⟨b, off + k * 8 + 4, none⟩ = some (.int .i64 lh) := hc 4 _ rfl
      have d5 : wr.cell? ⟨b, off + k * 8 + 5, none⟩ = some (.string ln) := hc 5 _ rfl
      have d6 : wr.cell? ⟨b, off + k * 8 + 6, none⟩ = some (.string raw) := hc 6 _ rfl
      have d7 : wr.cell? ⟨b, off + k * 8 + 7, none⟩ = some (.slice fa F.length fc) := hc 7 _ rfl
      clear hc
      have hw1 : Below wr.heap.size wr (wr.alloc (.cells (act6C ⟨kind, i, ⟨lt, lla, lh, ln⟩, raw, F⟩ fa fc) 44)) := (Below.refl _ wr).alloc (Nat.le_refl _) _
      have hlt1 : wr.heap.size < (wr.alloc (.cells (act6C ⟨kind, i, ⟨lt, lla, lh, ln⟩, raw, F⟩ fa fc) 44)).heap.size := by simp
      have h1 := two_more HD.out hw1 hlt1
      have hrow : RowV (wr.alloc (.cells (act6C ⟨kind, i, ⟨lt, lla, lh, ln⟩, raw, F⟩ fa fc) 44)) wr.heap.size 44 (act6C ⟨kind, i, ⟨lt, lla, lh, ln⟩, raw, F⟩ fa fc).toList := rowV_new wr _ [_, _, _, _, _, _, _, _]
      have hB1 := HB.out.trans (hw1.mono HB.out.size)
      have hF1 := readsI_below hF hw1
      have hE : stepsB (Dk.new 3) L (k + 1) = stepB (stepsB (Dk.new 3) L k) ⟨kind, i, ⟨lt, lla, lh, ln⟩, raw, F⟩ := by show stepB _ (L.getD k noAct6).1 = _; rw [hx]
      have hW : (stepsB (Dk.new 3) L k).W.length ≤ 1000000 := Nat.le_trans (stepsB_W _ L k) (by show 0 + k ≤ 1000000; omega)
      have c0 := rowV_cell hrow 0
      have c1 := rowV_cell hrow 1
      have c2 := rowV_cell hrow 2
      have c3 := rowV_cell hrow 3
      have c4 := rowV_cell hrow 4
      have c5 := rowV_cell hrow 5
      have c6 := rowV_cell hrow 6
      have c7 := rowV_cell hrow 7
      simp only [List.getElem?_cons_zero, List.getElem?_cons_succ] at c0 c1 c2 c3 c4 c5 c6 c7
      have hX1 : ∀ (wa wb : World) (j : Nat), Only (fun y => ¬ (y < w.heap.size ∨ y = wr.heap.size)) wa wb → wr.heap.size < wa.heap.size → wb.cell? ⟨wr.heap.size, j, none⟩ = wa.cell? ⟨wr.heap.size, j, none⟩ := fun wa wb j ho hlt => ho.cell (p := ⟨wr.heap.size, j, none⟩) hlt (fun hn => hn (.inr rfl))
      have hO : ∀ wa wb, Below w.heap.size w wa → Only (fun y => ¬ (y < w.heap.size ∨ y = wr.heap.size)) wa wb → Below w.heap.size w wb := fun wa wb hb ho => hb.trans (ho.below (fun y _ hn => Nat.le_of_not_lt fun hlt => hn (.inl hlt)) hb.size)
      have HQ := Lib.hid (And.intro h1 (And.intro hlt1 (And.intro hB1 (And.intro hF1 (And.intro hE (And.intro hW (And.intro hi (And.intro hFl (And.intro hX1 hO)))))))))
      clear h1 hlt1 hB1 hF1 hE hW hi hFl hX1 hO hrow hw1 hF hx
      by_cases hz : 1000 < ln.size
      · have t1 : (1000 : Int) < (ln.size : Int) := by omega
        go_wp2_with fail
        refine (lives6_any _).mono ?_
        rintro e w7 ⟨rfl, hb7⟩
        have H7 := Lib.hid (HQ.out.2.2.1.trans (hb7.mono HQ.out.2.2.1.size)); clear hb7
        go_wp2_with fail
        go_ret
        exact ⟨rfl, H7.out⟩
      · have t1 : ¬ (1000 : Int) < (ln.size : Int) := by omega
        by_cases hy : 1000 < raw.size
        · have t2 : (1000 : Int) < (raw.size : Int) := by omega
          go_wp2_with fail
          refine (lives6_any _).mono ?_
          rintro e w7 ⟨rfl, hb7⟩
          have H7 := Lib.hid (HQ.out.2.2.1.trans (hb7.mono HQ.out.2.2.1.size)); clear hb7
          go_wp2_with fail
          go_ret
          exact ⟨rfl, H7.out⟩
        · have t2 : ¬ (1000 : Int) < (raw.size : Int) := by omega
          clear hz hy
          by_cases k0 : kind = 0
          · have tk := k0
            have e1 : stepB (stepsB (Dk.new 3) L k) ⟨kind, i, ⟨lt, lla, lh, ln⟩, raw, F⟩ = Lb.write (stepsB (Dk.new 3) L k) ⟨lt, lla, lh, ln⟩ := by unfold stepB; exact if_pos tk
            have q0 : (kind == 0) = true := by rw [tk]; rfl
            clear tk k0
            go_wp2_with fail
            generalize hw3 : World.alloc _ _ = w3 at *
            generalize hC : wr.heap.size = C at *
            go_region_held3 (fun w' => w'.cell? ⟨C, 2, none⟩ = some (.int .i64 lt) ∧ w'.cell? ⟨C, 3, none⟩ = some (.int .i64 lla) ∧ w'.cell? ⟨C, 4, none⟩ = some (.int .i64 lh) ∧ w'.cell? ⟨C, 5, none⟩ = some (.string ln))
              (first | exact ⟨c2, c3, c4, c5⟩ | exact ⟨(HQ.out.2.2.2.2.2.2.2.2.1 _ _ 2 ho4 HQ.out.2.1).trans c2, (HQ.out.2.2.2.2.2.2.2.2.1 _ _ 3 ho4 HQ.out.2.1).trans c3, (HQ.out.2.2.2.2.2.2.2.2.1 _ _ 4 ho4 HQ.out.2.1).trans c4, (HQ.out.2.2.2.2.2.2.2.2.1 _ _ 5 ho4 HQ.out.2.1).trans c5⟩ | exact ⟨(HQ.out.2.2.2.2.2.2.2.2.1 _ _ 2 ho5 (Nat.lt_of_lt_of_le HQ.out.2.1 ho4.size)).trans ((HQ.out.2.2.2.2.2.2.2.2.1 _ _ 2 ho4 HQ.out.2.1).trans c2), (HQ.out.2.2.2.2.2.2.2.2.1 _ _ 3 ho5 (Nat.lt_of_lt_of_le HQ.out.2.1 ho4.size)).trans ((HQ.out.2.2.2.2.2.2.2.2.1 _ _ 3 ho4 HQ.out.2.1).trans c3), (HQ.out.2.2.2.2.2.2.2.2.1 _ _ 4 ho5 (Nat.lt_of_lt_of_le HQ.out.2.1 ho4.size)).trans ((HQ.out.2.2.2.2.2.2.2.2.1 _ _ 4 ho4 HQ.out.2.1).trans c4), (HQ.out.2.2.2.2.2.2.2.2.1 _ _ 5 ho5 (Nat.lt_of_lt_of_le HQ.out.2.1 ho4.size)).trans ((HQ.out.2.2.2.2.2.2.2.2.1 _ _ 5 ho4 HQ.out.2.1).trans c5)⟩)
              (first
                | (go_at_call 15; refine (two_lwrite (two_below HQ.out.1 (Below.refl _ _).drew) ⟨lt, lla, lh, ln⟩ HQ.out.2.2.2.2.2.1).mono ?_; rintro e w4 ⟨rfl, h4, ho4⟩)
                | (go_at_call 16; refine (two_rlwrite h4 ⟨lt, lla, lh, ln⟩ HQ.out.2.2.2.2.2.1).mono ?_; rintro e w5 ⟨rfl, h5, ho5⟩))
            have H5 := Lib.hid (And.intro h5 (HQ.out.2.2.2.2.2.2.2.2.2 _ _ (HQ.out.2.2.2.2.2.2.2.2.2 _ _ HQ.out.2.2.1.drew ho4) ho5))
            clear h4 ho4 h5 ho5
            go_wp2_with fail
            refine (same6_any H5.out.1).mono ?_
            rintro e w8 ⟨rfl, hb8⟩
            have H8 := Lib.hid (And.intro (two_less (two_below H5.out.1 hb8) (Y := fun j => j < w.heap.size) fun _ h => .inl h) (H5.out.2.trans (hb8.mono H5.out.2.size)))
            clear hb8
            go_wp2_with fail
            exact ⟨⟨k + 1, by omega, by go_num, Lib.hid (by rw [HQ.out.2.2.2.2.1, e1]; exact H8.out.1), Lib.hid H8.out.2⟩, by simp [intOf]; omega⟩
          · skip
            by_cases k1 : kind = 1
            · have tk := k1
              have e1 : stepB (stepsB (Dk.new 3) L k) ⟨kind, i, ⟨lt, lla, lh, ln⟩, raw, F⟩ = Dk.write (stepsB (Dk.new 3) L k) i raw := by unfold stepB; rw [if_neg (show ¬ kind = 0 by omega)]; exact if_pos tk
              have q0 : (kind == 0) = false := by rw [tk]; rfl
              have q1 : (kind == 1) = true := by rw [tk]; rfl
              clear tk k1
              go_wp2_with fail
              generalize hw3 : World.alloc _ _ = w3 at *
              generalize hC : wr.heap.size = C at *
              go_region_held3 (fun w' => w'.cell? ⟨C, 1, none⟩ = some (.int .i64 i) ∧ w'.cell? ⟨C, 6, none⟩ = some (.string raw))
                (first | exact ⟨c1, c6⟩ | exact ⟨(HQ.out.2.2.2.2.2.2.2.2.1 _ _ 1 ho4 HQ.out.2.1).trans c1, (HQ.out.2.2.2.2.2.2.2.2.1 _ _ 6 ho4 HQ.out.2.1).trans c6⟩ | exact ⟨(HQ.out.2.2.2.2.2.2.2.2.1 _ _ 1 ho5 (Nat.lt_of_lt_of_le HQ.out.2.1 ho4.size)).trans ((HQ.out.2.2.2.2.2.2.2.2.1 _ _ 1 ho4 HQ.out.2.1).trans c1), (HQ.out.2.2.2.2.2.2.2.2.1 _ _ 6 ho5 (Nat.lt_of_lt_of_le HQ.out.2.1 ho4.size)).trans ((HQ.out.2.2.2.2.2.2.2.2.1 _ _ 6 ho4 HQ.out.2.1).trans c6)⟩)
                (first
                  | (go_at_call 17; refine (two_write (two_below HQ.out.1 (Below.refl _ _).drew) i raw HQ.out.2.2.2.2.2.1).mono ?_; rintro e w4 ⟨rfl, h4, ho4⟩)
                  | (go_at_call 18; refine (two_rwrite h4 i raw HQ.out.2.2.2.2.2.1).mono ?_; rintro e w5 ⟨rfl, h5, ho5⟩))
              have H5 := Lib.hid (And.intro h5 (HQ.out.2.2.2.2.2.2.2.2.2 _ _ (HQ.out.2.2.2.2.2.2.2.2.2 _ _ HQ.out.2.2.1.drew ho4) ho5))
              clear h4 ho4 h5 ho5
              go_wp2_with fail
              refine (same6_any H5.out.1).mono ?_
              rintro e w8 ⟨rfl, hb8⟩
              have H8 := Lib.hid (And.intro (two_less (two_below H5.out.1 hb8) (Y := fun j => j < w.heap.size) fun _ h => .inl h) (H5.out.2.trans (hb8.mono H5.out.2.size)))
              clear hb8
              go_wp2_with fail
              exact ⟨⟨k + 1, by omega, by go_num, Lib.hid (by rw [HQ.out.2.2.2.2.1, e1]; exact H8.out.1), Lib.hid H8.out.2⟩, by simp [intOf]; omega⟩
            · skip
              by_cases k2 : kind = 2
              · have tk := k2
                have e1 : stepB (stepsB (Dk.new 3) L k) ⟨kind, i, ⟨lt, lla, lh, ln⟩, raw, F⟩ = Dk.arm (stepsB (Dk.new 3) L k) i := by unfold stepB; rw [if_neg (show ¬ kind = 0 by omega), if_neg (show ¬ kind = 1 by omega)]; exact if_pos tk
                have q0 : (kind == 0) = false := by rw [tk]; rfl
                have q1 : (kind == 1) = false := by rw [tk]; rfl
                have q2 : (kind == 2) = true := by rw [tk]; rfl
                clear tk k2
                go_wp2_with fail
                generalize hw3 : World.alloc _ _ = w3 at *
                generalize hC : wr.heap.size = C at *
                go_region_held3 (fun w' => w'.cell? ⟨C, 1, none⟩ = some (.int .i64 i))
                  (first | exact c1 | exact (HQ.out.2.2.2.2.2.2.2.2.1 _ _ 1 ho4 HQ.out.2.1).trans c1 | exact (HQ.out.2.2.2.2.2.2.2.2.1 _ _ 1 ho5 (Nat.lt_of_lt_of_le HQ.out.2.1 ho4.size)).trans ((HQ.out.2.2.2.2.2.2.2.2.1 _ _ 1 ho4 HQ.out.2.1).trans c1))
                  (first
                    | (go_at_call 19; refine (two_arm (two_below HQ.out.1 (Below.refl _ _).drew) i HQ.out.2.2.2.2.2.2.1.1 HQ.out.2.2.2.2.2.2.1.2).mono ?_; rintro e w4 ⟨rfl, h4, ho4⟩)
                    | (go_at_call 20; refine (two_rarm h4 i HQ.out.2.2.2.2.2.2.1.1 HQ.out.2.2.2.2.2.2.1.2).mono ?_; rintro e w5 ⟨rfl, h5, ho5⟩))
                have H5 := Lib.hid (And.intro h5 (HQ.out.2.2.2.2.2.2.2.2.2 _ _ (HQ.out.2.2.2.2.2.2.2.2.2 _ _ HQ.out.2.2.1.drew ho4) ho5))
                clear h4 ho4 h5 ho5
                go_wp2_with fail
                refine (same6_any H5.out.1).mono ?_
                rintro e w8 ⟨rfl, hb8⟩
                have H8 := Lib.hid (And.intro (two_less (two_below H5.out.1 hb8) (Y := fun j => j < w.heap.size) fun _ h => .inl h) (H5.out.2.trans (hb8.mono H5.out.2.size)))
                clear hb8
                go_wp2_with fail
                exact ⟨⟨k + 1, by omega, by go_num, Lib.hid (by rw [HQ.out.2.2.2.2.1, e1]; exact H8.out.1), Lib.hid H8.out.2⟩, by simp [intOf]; omega⟩
              · skip
                by_cases k3 : kind = 3
                · have tk := k3
                  have e1 : stepB (stepsB (Dk.new 3) L k) ⟨kind, i, ⟨lt, lla, lh, ln⟩, raw, F⟩ = Dk.crash (stepsB (Dk.new 3) L k) F := by unfold stepB; rw [if_neg (show ¬ kind = 0 by omega), if_neg (show ¬ kind = 1 by omega), if_neg (show ¬ kind = 2 by omega)]; exact if_pos tk
                  have q0 : (kind == 0) = false := by rw [tk]; rfl
                  have q1 : (kind == 1) = false := by rw [tk]; rfl
                  have q2 : (kind == 2) = false := by rw [tk]; rfl
                  have q3 : (kind == 3) = true := by rw [tk]; rfl
                  clear tk k3
                  go_wp2_with fail
                  generalize hw3 : World.alloc _ _ = w3 at *
                  generalize hC : wr.heap.size = C at *
                  refine (two_rcrash HQ.out.1 fa F fc HQ.out.2.2.2.1 (fun a ha hne => .inl (HQ.out.2.2.2.2.2.2.2.1 a ha hne))).mono ?_
                  rintro e w4 ⟨rfl, h4, ho4⟩
                  have d7b := (HQ.out.2.2.2.2.2.2.2.2.1 _ _ 7 ho4 HQ.out.2.1).trans c7
                  have hF4 : ReadsI w4 fa F := readsI_only HQ.out.2.2.2.1 ho4 fun a ha hne hn => hn (.inl (HQ.out.2.2.2.2.2.2.2.1 a ha hne))
                  have H4 := Lib.hid (And.intro h4 (And.intro (HQ.out.2.2.2.2.2.2.2.2.2 _ _ HQ.out.2.2.1 ho4) hF4))
                  clear h4 ho4 hF4
                  go_wp2_with fail
                  refine (two_crash H4.out.1 fa F fc H4.out.2.2 (fun a ha hne => .inl (HQ.out.2.2.2.2.2.2.2.1 a ha hne))).mono ?_
                  rintro e w5 ⟨rfl, h5, ho5⟩
                  have H5 := Lib.hid (And.intro h5 (HQ.out.2.2.2.2.2.2.2.2.2 _ _ H4.out.2.1 ho5))
                  clear h5 ho5
                  go_wp2_with fail
                  refine (same6_any H5.out.1).mono ?_
                  rintro e w8 ⟨rfl, hb8⟩
                  have H8 := Lib.hid (And.intro (two_less (two_below H5.out.1 hb8) (Y := fun j => j < w.heap.size) fun _ h => .inl h) (H5.out.2.trans (hb8.mono H5.out.2.size)))
                  clear hb8
                  go_wp2_with fail
                  exact ⟨⟨k + 1, by omega, by go_num, Lib.hid (by rw [HQ.out.2.2.2.2.1, e1]; exact H8.out.1), Lib.hid H8.out.2⟩, by simp [intOf]; omega⟩
                · have e1 : stepB (stepsB (Dk.new 3) L k) ⟨kind, i, ⟨lt, lla, lh, ln⟩, raw, F⟩ = Dk.flush (stepsB (Dk.new 3) L k) := by unfold stepB; rw [if_neg k0, if_neg k1, if_neg k2, if_neg k3]
                  have q0 : (kind == 0) = false := by rw [beq_eq_false_iff_ne]; exact k0
                  have q1 : (kind == 1) = false := by rw [beq_eq_false_iff_ne]; exact k1
                  have q2 : (kind == 2) = false := by rw [beq_eq_false_iff_ne]; exact k2
                  have q3 : (kind == 3) = false := by rw [beq_eq_false_iff_ne]; exact k3
                  go_wp2_with fail
                  generalize hw3 : World.alloc _ _ = w3 at *
                  generalize hC : wr.heap.size = C at *
                  refine (two_flush HQ.out.1).mono ?_
                  rintro e w4 ⟨rfl, h4, ho4⟩
                  have H4 := Lib.hid (And.intro h4 (HQ.out.2.2.2.2.2.2.2.2.2 _ _ HQ.out.2.2.1 ho4))
                  clear h4 ho4
                  go_wp2_with fail
                  refine (two_rflush H4.out.1).mono ?_
                  rintro e w5 ⟨rfl, h5, ho5⟩
                  have H5 := Lib.hid (And.intro h5 (HQ.out.2.2.2.2.2.2.2.2.2 _ _ H4.out.2 ho5))
                  clear h5 ho5
                  go_wp2_with fail
                  refine (same6_any H5.out.1).mono ?_
                  rintro e w8 ⟨rfl, hb8⟩
                  have H8 := Lib.hid (And.intro (two_less (two_below H5.out.1 hb8) (Y := fun j => j < w.heap.size) fun _ h => .inl h) (H5.out.2.trans (hb8.mono H5.out.2.size)))
                  clear hb8
                  go_wp2_with fail
                  exact ⟨⟨k + 1, by omega, by go_num, Lib.hid (by rw [HQ.out.2.2.2.2.1, e1]; exact H8.out.1), Lib.hid H8.out.2⟩, by simp [intOf]; omega⟩
    · obtain rfl : k = L.length := by omega
      go_wp2_with fail
      refine (lives6_any _).mono ?_
      rintro e w7 ⟨rfl, hb7⟩
      have H7 := Lib.hid (HB.out.trans (hb7.mono HB.out.size)); clear hb7
      go_wp2_with fail
      go_ret
      exact ⟨rfl, H7.out⟩
end Go.Proofs.Ytedemehlccmkpaa
