/-
  Layer 6's laws: both disks, their labels the same.
-/
import Derived.Test.YtedemehlccmkpaaPk6
namespace Go.Proofs.Ytedemehlccmkpaa
open Go.RowKit
section
variable {w : World} {X : Nat → Prop} {p q : Nat} {d e : Dk.D}
theorem two_lwrite (h : Two w X p q d e) (l : Lb.Label) (hW : d.W.length ≤ 1000000) :
    Calls Try.prog 15 #[.pointer (some ⟨p, 0, none⟩), labV l] w fun en w' => en = .returned (.int .i64 (Lb.writeE d l)) ∧ Two w' X p q (Lb.write d l) e ∧ Only (fun k => ¬ X k) w w' :=
  two_prog h fun _ hd hS _ => lwrite_upL hd hS (fun _ h => h) l hW
theorem two_rlwrite (h : Two w X p q d e) (l : Lb.Label) (hW : e.W.length ≤ 1000000) :
    Calls Try.prog 16 #[.pointer (some ⟨q, 0, none⟩), labV l] w fun en w' => en = .returned (.int .i64 (Lb.writeE e l)) ∧ Two w' X p q d (Lb.write e l) ∧ Only (fun k => ¬ X k) w w' :=
  two_ref h fun _ hr hS _ => rlwrite_up hr hS l hW
theorem two_lread (h : Two w X p q d e) : Calls Try.prog 27 #[.pointer (some ⟨p, 0, none⟩)] w fun e w' => e = .returned (.tuple #[labV (Lb.read d).1, .int .i64 (Lb.read d).2]) ∧ Below w.heap.size w w' := by
  obtain ⟨_, _, h1, _⟩ := h
  exact lread_up h1
theorem two_rlread (h : Two w X p q d e) : Calls Try.prog 48 #[.pointer (some ⟨q, 0, none⟩)] w fun en w' => en = .returned (.tuple #[labV (Lb.read e).1, .int .i64 (Lb.read e).2]) ∧ Below w.heap.size w w' := by
  obtain ⟨_, _, _, h1, _⟩ := h
  exact rlread_up h1
theorem two_lnext (h : Two w X p q d e) : Calls Try.prog 26 #[.pointer (some ⟨p, 0, none⟩)] w fun e w' => e = .returned (.tuple #[.int .i64 (Lb.next d).1, .int .i64 (Lb.next d).2.1, .int .i64 (Lb.next d).2.2]) ∧ Below w.heap.size w w' := by
  obtain ⟨_, _, h1, _⟩ := h
  exact lnext_up h1
theorem two_rlnext (h : Two w X p q d e) : Calls Try.prog 38 #[.pointer (some ⟨q, 0, none⟩)] w fun en w' => en = .returned (.tuple #[.int .i64 (Lb.next e).1, .int .i64 (Lb.next e).2.1, .int .i64 (Lb.next e).2.2]) ∧ Below w.heap.size w w' := by
  obtain ⟨_, _, _, h1, _⟩ := h
  exact rlnext_up h1
set_option maxRecDepth 100000 in
set_option maxHeartbeats 1600000 in
theorem same6_any (h : Two w X p q d d) : Calls Try.prog 25 #[.pointer (some ⟨p, 0, none⟩), .pointer (some ⟨q, 0, none⟩)] w fun e w' => e = .returned (.bool true) ∧ Below w.heap.size w w' := by
  have cr : ∀ w', Below w.heap.size w w' → Two w' X p q d d := fun w' hb => two_below h hb
  have c1 := fun w' hb => two_lread (cr w' hb)
  have c2 := fun w' hb => two_rlread (cr w' hb)
  have c3 := fun w' hb => two_lnext (cr w' hb)
  have c4 := fun w' hb => two_rlnext (cr w' hb)
  have c5 := fun w' hb => two_read (cr w' hb) 0
  have c6 := fun w' hb => two_rread (cr w' hb) 0
  have c7 := fun w' hb => two_read (cr w' hb) 1
  have c8 := fun w' hb => two_rread (cr w' hb) 1
  clear cr h
  generalize Lb.read d = R at *
  generalize Lb.next d = N at *
  generalize Dk.readS d 0 = S0 at *
  generalize Dk.readE d 0 = E0 at *
  generalize Dk.readS d 1 = S1 at *
  generalize Dk.readE d 1 = E1 at *
  obtain ⟨⟨rt, ra, rh, rn⟩, F⟩ := R
  obtain ⟨n1, n2, n3⟩ := N
  have H := Lib.hid (And.intro c1 (And.intro c2 (And.intro c3 (And.intro c4 (And.intro c5 (And.intro c6 (And.intro c7 c8)))))))
  clear c1 c2 c3 c4 c5 c6 c7 c8
  go_enter Try.func25, Try.ntmps25
  go_wp2_with fail
  refine (H.out.1 _ (Below.refl _ _)).mono ?_
  rintro e w1 ⟨rfl, hb1⟩
  obtain ⟨bx, lx, rx⟩ := lab_box ⟨rt, ra, rh, rn⟩ w1
  have B1 := Lib.hid (And.intro (hb1.trans (bx.mono hb1.size)) rx); clear hb1 bx lx rx
  go_wp2_with fail
  generalize hw2 : World.alloc w1 _ = w2 at *
  have B2 : Hid (Below w.heap.size w w2 ∧ RowV w2 w1.heap.size 23 [.int .i64 rt, .int .i64 ra, .int .i64 rh, .string rn]) := Lib.hid B1.out
  clear B1 hw2
  refine (H.out.2.1 _ B2.out.1).mono ?_
  rintro e w3 ⟨rfl, hb3⟩
  have hB3 := B2.out.1.trans (hb3.mono B2.out.1.size)
  have hr3 := rowV_below B2.out.2 hb3 (rowV_lt B2.out.2)
  obtain ⟨bx, lx, rx⟩ := lab_box ⟨rt, ra, rh, rn⟩ w3
  have B3 := Lib.hid (And.intro (hB3.trans (bx.mono hB3.size)) (And.intro rx (rowV_below hr3 bx (rowV_lt hr3)))); clear hb3 hB3 hr3 bx lx rx
  go_wp2_with fail
  generalize hw4 : World.alloc w3 _ = w4 at *
  have B4 : Hid (Below w.heap.size w w4 ∧ RowV w4 w3.heap.size 23 [.int .i64 rt, .int .i64 ra, .int .i64 rh, .string rn] ∧ RowV w4 w1.heap.size 23 [.int .i64 rt, .int .i64 ra, .int .i64 rh, .string rn]) := Lib.hid B3.out
  clear B3 hw4
  refine (H.out.2.2.1 _ B4.out.1).mono ?_
  rintro e w5 ⟨rfl, hb5⟩
  have B5 := Lib.hid (And.intro (B4.out.1.trans (hb5.mono B4.out.1.size)) (And.intro (rowV_below B4.out.2.1 hb5 (rowV_lt B4.out.2.1)) (rowV_below B4.out.2.2 hb5 (rowV_lt B4.out.2.2)))); clear hb5 B4
  go_wp2_with fail
  refine (H.out.2.2.2.1 _ B5.out.1).mono ?_
  rintro e w6 ⟨rfl, hb6⟩
  have B6 := Lib.hid (And.intro (B5.out.1.trans (hb6.mono B5.out.1.size)) (And.intro (rowV_below B5.out.2.1 hb6 (rowV_lt B5.out.2.1)) (rowV_below B5.out.2.2 hb6 (rowV_lt B5.out.2.2)))); clear hb6 B5
  have a0 : w6.cell? ⟨w1.heap.size, 0, none⟩ = some (.int .i64 rt) := rowV_cell B6.out.2.2 0
  have a1 : w6.cell? ⟨w1.heap.size, 1, none⟩ = some (.int .i64 ra) := rowV_cell B6.out.2.2 1
  have a2 : w6.cell? ⟨w1.heap.size, 2, none⟩ = some (.int .i64 rh) := rowV_cell B6.out.2.2 2
  have a3 : w6.cell? ⟨w1.heap.size, 3, none⟩ = some (.string rn) := rowV_cell B6.out.2.2 3
  have b0 : w6.cell? ⟨w3.heap.size, 0, none⟩ = some (.int .i64 rt) := rowV_cell B6.out.2.1 0
  have b1 : w6.cell? ⟨w3.heap.size, 1, none⟩ = some (.int .i64 ra) := rowV_cell B6.out.2.1 1
  have b2 : w6.cell? ⟨w3.heap.size, 2, none⟩ = some (.int .i64 rh) := rowV_cell B6.out.2.1 2
  have b3 : w6.cell? ⟨w3.heap.size, 3, none⟩ = some (.string rn) := rowV_cell B6.out.2.1 3
  go_wp2_with fail
  refine (H.out.2.2.2.2.1 _ B6.out.1).mono ?_
  rintro e w7 ⟨rfl, hw7⟩
  obtain rfl := hw7.symm; clear hw7
  go_wp2_with fail
  refine (H.out.2.2.2.2.2.1 _ B6.out.1).mono ?_
  rintro e w7 ⟨rfl, hw7⟩
  obtain rfl := hw7.symm; clear hw7
  go_wp2_with fail
  refine (H.out.2.2.2.2.2.2.1 _ B6.out.1).mono ?_
  rintro e w7 ⟨rfl, hw7⟩
  obtain rfl := hw7.symm; clear hw7
  go_wp2_with fail
  refine (H.out.2.2.2.2.2.2.2 _ B6.out.1).mono ?_
  rintro e w7 ⟨rfl, hw7⟩
  obtain rfl := hw7.symm; clear hw7
  go_wp2_with fail
  go_ret
  exact ⟨rfl, B6.out.1⟩
end
end Go.Proofs.Ytedemehlccmkpaa
