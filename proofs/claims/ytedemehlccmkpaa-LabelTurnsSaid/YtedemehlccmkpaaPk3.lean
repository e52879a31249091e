/-
  Texts of the layers, part 3: LblRparse, DskMath, LabelTurn, LblIter, SealTake, LblKeep, LblLast, LblNum, LblLoad, LblOps.
-/
import Derived.Test.YtedemehlccmkpaaPk2
import Derived.Test.YtedemehlccmkpaaPk1
import Derived.RangeFuncNested
import Derived.RangeFuncBound
import Derived.RangeFuncCalls
import Derived.RangeFuncLeaves
import Derived.Shelf.Abstract
import Derived.Shelf.RegionOpen
import Derived.OwnWalkIn
import Derived.TacticsInMore
import Derived.LoopNIn
import Derived.LoopIn
import Derived.Laws.EntriesVeiled
/-
  Layer 6: what bytes are parsed as by the document.
-/
namespace Go.Proofs.Ytedemehlccmkpaa
open Go.RowKit
set_option maxRecDepth 100000 in
set_option maxHeartbeats 1600000 in
theorem rparse6_0 (t : Int) (s : ByteArray) (hs : s.size ≤ maxLen) (e1 : ¬ Oct.tE s = 0) (w : World) :
    Calls Try.prog 12 #[.int .i64 t, .string s] w fun e w' => e = .returned (.tuple #[labV (Lb.parse t s).1, .int .i64 (Lb.parse t s).2]) ∧ Below w.heap.size w w' := by
  have z1 := tR_size s
  have z2 := tR_size (Oct.tR s)
  have h1 := fun w => rtakeNum_any s w hs
  have h2 := fun w => rtakeNum_any (Oct.tR s) w (by omega)
  have h3 := fun w => rtakeText_any (Oct.tR (Oct.tR s)) 400 w (by omega)
  have h4 := fun w => rright6_any (Lb.told t s) w
  have eT : Lb.told t s = ⟨t, Oct.tN s, Oct.tN (Oct.tR s), (Oct.txt (Oct.tR (Oct.tR s)) 400).1⟩ := rfl
  obtain ⟨hb, hlt, hrow⟩ := lab_box Lb.no w
  have HB := Lib.hid (And.intro hb (And.intro hlt hrow))
  clear hb hlt hrow z1 z2
  have hP := parse6_bad (t := t) (s := s) (.inl e1)
  rw [hP]
  clear hP
  generalize Oct.tE s = E1 at *
  generalize Oct.tN s = N1 at *
  generalize Oct.tE (Oct.tR s) = E2 at *
  generalize Oct.tN (Oct.tR s) = N2 at *
  generalize (Oct.txt (Oct.tR (Oct.tR s)) 400).2.2 = E3 at *
  generalize (Oct.txt (Oct.tR (Oct.tR s)) 400).2.1 = R3 at *
  generalize (Oct.txt (Oct.tR (Oct.tR s)) 400).1 = T3 at *
  generalize Oct.tR (Oct.tR s) = R2 at *
  generalize Oct.tR s = R1 at *
  generalize Lb.told t s = TL at *
  subst eT
  have q1 : (E1 != 0) = true := by simpa using e1
  clear e1
  have H := Lib.hid (And.intro h1 (And.intro h2 (And.intro h3 h4)))
  clear h1 h2 h3 h4
  go_enter Try.func12, Try.ntmps12
  go_wp2_with fail
  refine (H.out.1 _).mono ?_
  rintro e _ ⟨rfl, n0, rfl⟩
  go_wp2_with fail
  refine (H.out.2.1 _).mono ?_
  rintro e _ ⟨rfl, n1, rfl⟩
  go_wp2_with fail
  refine (H.out.2.2.1 _).mono ?_
  rintro e w1 ⟨rfl, n2, hw1⟩
  have hrow1 : RowV w1 w.heap.size 23 (labC Lb.no).toList := by rw [hw1]; exact HB.out.2.2
  have hb1 : Below w.heap.size w w1 := by rw [hw1]; exact below_drewN (below_drewN HB.out.1 _) _
  have hlt1 := rowV_lt hrow1
  have hba := (Below.refl w1.heap.size w1).alloc (Nat.le_refl _) (.cells (labC ⟨t, N1, N2, T3⟩) 23)
  obtain ⟨a0, a1, a2, a3, b0, b1, b2, b3, hr⟩ := lab_below hrow1 hba hlt1
  have L := Lib.hid (And.intro (hb1.trans (hba.mono (Nat.le_of_lt hlt1))) hr)
  clear hw1 hrow1 hb1 hlt1 hba hr H
  generalize hN : w.heap.size = N at *
  go_wp2_with fail
  refine bodyPost_ret (v := .tuple #[labV Lb.no, .int .i64 4]) (results_lab (p := 4) (u := 5) rfl _ _ N Lb.no rfl (lab_put (l := Lb.no) ?_ 0 0 0 ⟨#[]⟩).1) rfl ⟨rfl, ?_⟩
  · exact L.out.2
  try rw [hN]
  exact L.out.1.trans ((lab_put L.out.2 0 0 0 ⟨#[]⟩).2 _ (Nat.le_refl _))
set_option maxRecDepth 100000 in
set_option maxHeartbeats 1600000 in
theorem rparse6_1 (t : Int) (s : ByteArray) (hs : s.size ≤ maxLen) (e1 : Oct.tE s = 0) (e2 : ¬ Oct.tE (Oct.tR s) = 0) (w : World) :
    Calls Try.prog 12 #[.int .i64 t, .string s] w fun e w' => e = .returned (.tuple #[labV (Lb.parse t s).1, .int .i64 (Lb.parse t s).2]) ∧ Below w.heap.size w w' := by
  have z1 := tR_size s
  have z2 := tR_size (Oct.tR s)
  have h1 := fun w => rtakeNum_any s w hs
  have h2 := fun w => rtakeNum_any (Oct.tR s) w (by omega)
  have h3 := fun w => rtakeText_any (Oct.tR (Oct.tR s)) 400 w (by omega)
  have h4 := fun w => rright6_any (Lb.told t s) w
  have eT : Lb.told t s = ⟨t, Oct.tN s, Oct.tN (Oct.tR s), (Oct.txt (Oct.tR (Oct.tR s)) 400).1⟩ := rfl
  obtain ⟨hb, hlt, hrow⟩ := lab_box Lb.no w
  have HB := Lib.hid (And.intro hb (And.intro hlt hrow))
  clear hb hlt hrow z1 z2
  have hP := parse6_bad (t := t) (s := s) (.inr (.inl e2))
  rw [hP]
  clear hP
  generalize Oct.tE s = E1 at *
  generalize Oct.tN s = N1 at *
  generalize Oct.tE (Oct.tR s) = E2 at *
  generalize Oct.tN (Oct.tR s) = N2 at *
  generalize (Oct.txt (Oct.tR (Oct.tR s)) 400).2.2 = E3 at *
  generalize (Oct.txt (Oct.tR (Oct.tR s)) 400).2.1 = R3 at *
  generalize (Oct.txt (Oct.tR (Oct.tR s)) 400).1 = T3 at *
  generalize Oct.tR (Oct.tR s) = R2 at *
  generalize Oct.tR s = R1 at *
  generalize Lb.told t s = TL at *
  subst eT
  subst e1
  have q2 : (E2 != 0) = true := by simpa using e2
  clear e2
  have H := Lib.hid (And.intro h1 (And.intro h2 (And.intro h3 h4)))
  clear h1 h2 h3 h4
  go_enter Try.func12, Try.ntmps12
  go_wp2_with fail
  refine (H.out.1 _).mono ?_
  rintro e _ ⟨rfl, n0, rfl⟩
  go_wp2_with fail
  refine (H.out.2.1 _).mono ?_
  rintro e _ ⟨rfl, n1, rfl⟩
  go_wp2_with fail
  refine (H.out.2.2.1 _).mono ?_
  rintro e w1 ⟨rfl, n2, hw1⟩
  have hrow1 : RowV w1 w.heap.size 23 (labC Lb.no).toList := by rw [hw1]; exact HB.out.2.2
  have hb1 : Below w.heap.size w w1 := by rw [hw1]; exact below_drewN (below_drewN HB.out.1 _) _
  have hlt1 := rowV_lt hrow1
  have hba := (Below.refl w1.heap.size w1).alloc (Nat.le_refl _) (.cells (labC ⟨t, N1, N2, T3⟩) 23)
  obtain ⟨a0, a1, a2, a3, b0, b1, b2, b3, hr⟩ := lab_below hrow1 hba hlt1
  have L := Lib.hid (And.intro (hb1.trans (hba.mono (Nat.le_of_lt hlt1))) hr)
  clear hw1 hrow1 hb1 hlt1 hba hr H
  generalize hN : w.heap.size = N at *
  go_wp2_with fail
  refine bodyPost_ret (v := .tuple #[labV Lb.no, .int .i64 4]) (results_lab (p := 4) (u := 5) rfl _ _ N Lb.no rfl (lab_put (l := Lb.no) ?_ 0 0 0 ⟨#[]⟩).1) rfl ⟨rfl, ?_⟩
  · exact L.out.2
  try rw [hN]
  exact L.out.1.trans ((lab_put L.out.2 0 0 0 ⟨#[]⟩).2 _ (Nat.le_refl _))
set_option maxRecDepth 100000 in
set_option maxHeartbeats 1600000 in
theorem rparse6_2 (t : Int) (s : ByteArray) (hs : s.size ≤ maxLen) (e1 : Oct.tE s = 0) (e2 : Oct.tE (Oct.tR s) = 0) (e3 : ¬ (Oct.txt (Oct.tR (Oct.tR s)) 400).2.2 = 0) (w : World) :
    Calls Try.prog 12 #[.int .i64 t, .string s] w fun e w' => e = .returned (.tuple #[labV (Lb.parse t s).1, .int .i64 (Lb.parse t s).2]) ∧ Below w.heap.size w w' := by
  have z1 := tR_size s
  have z2 := tR_size (Oct.tR s)
  have h1 := fun w => rtakeNum_any s w hs
  have h2 := fun w => rtakeNum_any (Oct.tR s) w (by omega)
  have h3 := fun w => rtakeText_any (Oct.tR (Oct.tR s)) 400 w (by omega)
  have h4 := fun w => rright6_any (Lb.told t s) w
  have eT : Lb.told t s = ⟨t, Oct.tN s, Oct.tN (Oct.tR s), (Oct.txt (Oct.tR (Oct.tR s)) 400).1⟩ := rfl
  obtain ⟨hb, hlt, hrow⟩ := lab_box Lb.no w
  have HB := Lib.hid (And.intro hb (And.intro hlt hrow))
  clear hb hlt hrow z1 z2
  have hP := parse6_bad (t := t) (s := s) (.inr (.inr (.inl e3)))
  rw [hP]
  clear hP
  generalize Oct.tE s = E1 at *
  generalize Oct.tN s = N1 at *
  generalize Oct.tE (Oct.tR s) = E2 at *
  generalize Oct.tN (Oct.tR s) = N2 at *
  generalize (Oct.txt (Oct.tR (Oct.tR s)) 400).2.2 = E3 at *
  generalize (Oct.txt (Oct.tR (Oct.tR s)) 400).2.1 = R3 at *
  generalize (Oct.txt (Oct.tR (Oct.tR s)) 400).1 = T3 at *
  generalize Oct.tR (Oct.tR s) = R2 at *
  generalize Oct.tR s = R1 at *
  generalize Lb.told t s = TL at *
  subst eT
  subst e1 e2
  have q3 : (E3 != 0) = true := by simpa using e3
  clear e3
  have H := Lib.hid (And.intro h1 (And.intro h2 (And.intro h3 h4)))
  clear h1 h2 h3 h4
  go_enter Try.func12, Try.ntmps12
  go_wp2_with fail
  refine (H.out.1 _).mono ?_
  rintro e _ ⟨rfl, n0, rfl⟩
  go_wp2_with fail
  refine (H.out.2.1 _).mono ?_
  rintro e _ ⟨rfl, n1, rfl⟩
  go_wp2_with fail
  refine (H.out.2.2.1 _).mono ?_
  rintro e w1 ⟨rfl, n2, hw1⟩
  have hrow1 : RowV w1 w.heap.size 23 (labC Lb.no).toList := by rw [hw1]; exact HB.out.2.2
  have hb1 : Below w.heap.size w w1 := by rw [hw1]; exact below_drewN (below_drewN HB.out.1 _) _
  have hlt1 := rowV_lt hrow1
  have hba := (Below.refl w1.heap.size w1).alloc (Nat.le_refl _) (.cells (labC ⟨t, N1, N2, T3⟩) 23)
  obtain ⟨a0, a1, a2, a3, b0, b1, b2, b3, hr⟩ := lab_below hrow1 hba hlt1
  have L := Lib.hid (And.intro (hb1.trans (hba.mono (Nat.le_of_lt hlt1))) hr)
  clear hw1 hrow1 hb1 hlt1 hba hr H
  generalize hN : w.heap.size = N at *
  go_wp2_with fail
  refine bodyPost_ret (v := .tuple #[labV Lb.no, .int .i64 4]) (results_lab (p := 4) (u := 5) rfl _ _ N Lb.no rfl (lab_put (l := Lb.no) ?_ 0 0 0 ⟨#[]⟩).1) rfl ⟨rfl, ?_⟩
  · exact L.out.2
  try rw [hN]
  exact L.out.1.trans ((lab_put L.out.2 0 0 0 ⟨#[]⟩).2 _ (Nat.le_refl _))
set_option maxRecDepth 100000 in
set_option maxHeartbeats 1600000 in
theorem rparse6_3 (t : Int) (s : ByteArray) (hs : s.size ≤ maxLen) (e1 : Oct.tE s = 0) (e2 : Oct.tE (Oct.tR s) = 0) (e3 : (Oct.txt (Oct.tR (Oct.tR s)) 400).2.2 = 0) (e4 : ¬ (Oct.txt (Oct.tR (Oct.tR s)) 400).2.1 = ⟨#[]⟩) (w : World) :
    Calls Try.prog 12 #[.int .i64 t, .string s] w fun e w' => e = .returned (.tuple #[labV (Lb.parse t s).1, .int .i64 (Lb.parse t s).2]) ∧ Below w.heap.size w w' := by
  have z1 := tR_size s
  have z2 := tR_size (Oct.tR s)
  have h1 := fun w => rtakeNum_any s w hs
  have h2 := fun w => rtakeNum_any (Oct.tR s) w (by omega)
  have h3 := fun w => rtakeText_any (Oct.tR (Oct.tR s)) 400 w (by omega)
  have h4 := fun w => rright6_any (Lb.told t s) w
  have eT : Lb.told t s = ⟨t, Oct.tN s, Oct.tN (Oct.tR s), (Oct.txt (Oct.tR (Oct.tR s)) 400).1⟩ := rfl
  obtain ⟨hb, hlt, hrow⟩ := lab_box Lb.no w
  have HB := Lib.hid (And.intro hb (And.intro hlt hrow))
  clear hb hlt hrow z1 z2
  have hP := parse6_bad (t := t) (s := s) (.inr (.inr (.inr (.inl e4))))
  rw [hP]
  clear hP
  generalize Oct.tE s = E1 at *
  generalize Oct.tN s = N1 at *
  generalize Oct.tE (Oct.tR s) = E2 at *
  generalize Oct.tN (Oct.tR s) = N2 at *
  generalize (Oct.txt (Oct.tR (Oct.tR s)) 400).2.2 = E3 at *
  generalize (Oct.txt (Oct.tR (Oct.tR s)) 400).2.1 = R3 at *
  generalize (Oct.txt (Oct.tR (Oct.tR s)) 400).1 = T3 at *
  generalize Oct.tR (Oct.tR s) = R2 at *
  generalize Oct.tR s = R1 at *
  generalize Lb.told t s = TL at *
  subst eT
  subst e1 e2 e3
  have q4 := str_ne R3 (Nat.pos_of_ne_zero fun h => e4 (ByteArray.size_eq_zero_iff.1 h))
  clear e4
  have H := Lib.hid (And.intro h1 (And.intro h2 (And.intro h3 h4)))
  clear h1 h2 h3 h4
  go_enter Try.func12, Try.ntmps12
  go_wp2_with fail
  refine (H.out.1 _).mono ?_
  rintro e _ ⟨rfl, n0, rfl⟩
  go_wp2_with fail
  refine (H.out.2.1 _).mono ?_
  rintro e _ ⟨rfl, n1, rfl⟩
  go_wp2_with fail
  refine (H.out.2.2.1 _).mono ?_
  rintro e w1 ⟨rfl, n2, hw1⟩
  have hrow1 : RowV w1 w.heap.size 23 (labC Lb.no).toList := by rw [hw1]; exact HB.out.2.2
  have hb1 : Below w.heap.size w w1 := by rw [hw1]; exact below_drewN (below_drewN HB.out.1 _) _
  have hlt1 := rowV_lt hrow1
  have hba := (Below.refl w1.heap.size w1).alloc (Nat.le_refl _) (.cells (labC ⟨t, N1, N2, T3⟩) 23)
  obtain ⟨a0, a1, a2, a3, b0, b1, b2, b3, hr⟩ := lab_below hrow1 hba hlt1
  have L := Lib.hid (And.intro (hb1.trans (hba.mono (Nat.le_of_lt hlt1))) hr)
  clear hw1 hrow1 hb1 hlt1 hba hr H
  generalize hN : w.heap.size = N at *
  go_wp2_with fail
  refine bodyPost_ret (v := .tuple #[labV Lb.no, .int .i64 4]) (results_lab (p := 4) (u := 5) rfl _ _ N Lb.no rfl (lab_put (l := Lb.no) ?_ 0 0 0 ⟨#[]⟩).1) rfl ⟨rfl, ?_⟩
  · exact L.out.2
  try rw [hN]
  exact L.out.1.trans ((lab_put L.out.2 0 0 0 ⟨#[]⟩).2 _ (Nat.le_refl _))
set_option maxRecDepth 100000 in
set_option maxHeartbeats 1600000 in
theorem rparse6_4 (t : Int) (s : ByteArray) (hs : s.size ≤ maxLen) (e1 : Oct.tE s = 0) (e2 : Oct.tE (Oct.tR s) = 0) (e3 : (Oct.txt (Oct.tR (Oct.tR s)) 400).2.2 = 0) (e4 : (Oct.txt (Oct.tR (Oct.tR s)) 400).2.1 = ⟨#[]⟩) (e5 : ¬ Lb.right (Lb.told t s)) (w : World) :
    Calls Try.prog 12 #[.int .i64 t, .string s] w fun e w' => e = .returned (.tuple #[labV (Lb.parse t s).1, .int .i64 (Lb.parse t s).2]) ∧ Below w.heap.size w w' := by
  have z1 := tR_size s
  have z2 := tR_size (Oct.tR s)
  have h1 := fun w => rtakeNum_any s w hs
  have h2 := fun w => rtakeNum_any (Oct.tR s) w (by omega)
  have h3 := fun w => rtakeText_any (Oct.tR (Oct.tR s)) 400 w (by omega)
  have h4 := fun w => rright6_any (Lb.told t s) w
  have eT : Lb.told t s = ⟨t, Oct.tN s, Oct.tN (Oct.tR s), (Oct.txt (Oct.tR (Oct.tR s)) 400).1⟩ := rfl
  obtain ⟨hb, hlt, hrow⟩ := lab_box Lb.no w
  have HB := Lib.hid (And.intro hb (And.intro hlt hrow))
  clear hb hlt hrow z1 z2
  have hP := parse6_bad (t := t) (s := s) (.inr (.inr (.inr (.inr e5))))
  rw [hP]
  clear hP
  rw [decide_eq_false e5] at h4
  clear e5
  generalize Oct.tE s = E1 at *
  generalize Oct.tN s = N1 at *
  generalize Oct.tE (Oct.tR s) = E2 at *
  generalize Oct.tN (Oct.tR s) = N2 at *
  generalize (Oct.txt (Oct.tR (Oct.tR s)) 400).2.2 = E3 at *
  generalize (Oct.txt (Oct.tR (Oct.tR s)) 400).2.1 = R3 at *
  generalize (Oct.txt (Oct.tR (Oct.tR s)) 400).1 = T3 at *
  generalize Oct.tR (Oct.tR s) = R2 at *
  generalize Oct.tR s = R1 at *
  generalize Lb.told t s = TL at *
  subst eT
  subst e1 e2 e3 e4
  have H := Lib.hid (And.intro h1 (And.intro h2 (And.intro h3 h4)))
  clear h1 h2 h3 h4
  go_enter Try.func12, Try.ntmps12
  go_wp2_with fail
  refine (H.out.1 _).mono ?_
  rintro e _ ⟨rfl, n0, rfl⟩
  go_wp2_with fail
  refine (H.out.2.1 _).mono ?_
  rintro e _ ⟨rfl, n1, rfl⟩
  go_wp2_with fail
  refine (H.out.2.2.1 _).mono ?_
  rintro e _ ⟨rfl, n2, rfl⟩
  go_wp2_with fail
  generalize hwa : World.alloc (World.drewN _ _) _ = w1 at *
  obtain ⟨hrow2, hrow1, hb1, hl2⟩ := lab_box2 w Lb.no ⟨t, N1, N2, T3⟩ (n0 + n1 + n2)
  rw [show ((w.alloc (.cells (labC Lb.no) 23)).drewN (n0 + n1 + n2)).alloc (.cells (labC ⟨t, N1, N2, T3⟩) 23) = w1 from hwa] at hrow2 hrow1 hb1 hl2
  have K := Lib.hid (And.intro hrow2 (And.intro hrow1 (And.intro hb1 hl2)))
  clear hrow2 hrow1 hb1 hl2
  generalize hN : w.heap.size = N at *
  refine (H.out.2.2.2 _).mono ?_
  rintro e w2 ⟨rfl, hb2⟩
  obtain ⟨a0, a1, a2, a3, b0, b1, b2, b3, hr⟩ := lab_below K.out.2.1 hb2 (Nat.lt_of_succ_lt K.out.2.2.2)
  obtain ⟨c0, c1, c2, c3, d0, d1, d2, d3, hr2⟩ := lab_below K.out.1 hb2 K.out.2.2.2
  have L := Lib.hid (And.intro (K.out.2.2.1.trans (hb2.mono (Nat.le_of_lt (Nat.lt_of_succ_lt K.out.2.2.2)))) (And.intro hr hr2))
  clear hb2 hr hr2
  go_wp2_with fail
  refine bodyPost_ret (v := .tuple #[labV Lb.no, .int .i64 4]) (results_lab (p := 4) (u := 5) rfl _ _ N Lb.no rfl (lab_put (l := Lb.no) ?_ 0 0 0 ⟨#[]⟩).1) rfl ⟨rfl, ?_⟩
  · exact L.out.2.1
  try rw [hN]
  exact L.out.1.trans ((lab_put L.out.2.1 0 0 0 ⟨#[]⟩).2 _ (Nat.le_refl _))
set_option maxRecDepth 100000 in
set_option maxHeartbeats 1600000 in
theorem rparse6_5 (t : Int) (s : ByteArray) (hs : s.size ≤ maxLen) (e1 : Oct.tE s = 0) (e2 : Oct.tE (Oct.tR s) = 0) (e3 : (Oct.txt (Oct.tR (Oct.tR s)) 400).2.2 = 0) (e4 : (Oct.txt (Oct.tR (Oct.tR s)) 400).2.1 = ⟨#[]⟩) (e5 : Lb.right (Lb.told t s)) (w : World) :
    Calls Try.prog 12 #[.int .i64 t, .string s] w fun e w' => e = .returned (.tuple #[labV (Lb.parse t s).1, .int .i64 (Lb.parse t s).2]) ∧ Below w.heap.size w w' := by
  have z1 := tR_size s
  have z2 := tR_size (Oct.tR s)
  have h1 := fun w => rtakeNum_any s w hs
  have h2 := fun w => rtakeNum_any (Oct.tR s) w (by omega)
  have h3 := fun w => rtakeText_any (Oct.tR (Oct.tR s)) 400 w (by omega)
  have h4 := fun w => rright6_any (Lb.told t s) w
  have eT : Lb.told t s = ⟨t, Oct.tN s, Oct.tN (Oct.tR s), (Oct.txt (Oct.tR (Oct.tR s)) 400).1⟩ := rfl
  obtain ⟨hb, hlt, hrow⟩ := lab_box Lb.no w
  have HB := Lib.hid (And.intro hb (And.intro hlt hrow))
  clear hb hlt hrow z1 z2
  have hP := parse6_good (t := t) (s := s) e1 e2 e3 e4 e5
  rw [hP]
  clear hP
  rw [decide_eq_true e5] at h4
  clear e5
  generalize Oct.tE s = E1 at *
  generalize Oct.tN s = N1 at *
  generalize Oct.tE (Oct.tR s) = E2 at *
  generalize Oct.tN (Oct.tR s) = N2 at *
  generalize (Oct.txt (Oct.tR (Oct.tR s)) 400).2.2 = E3 at *
  generalize (Oct.txt (Oct.tR (Oct.tR s)) 400).2.1 = R3 at *
  generalize (Oct.txt (Oct.tR (Oct.tR s)) 400).1 = T3 at *
  generalize Oct.tR (Oct.tR s) = R2 at *
  generalize Oct.tR s = R1 at *
  generalize Lb.told t s = TL at *
  subst eT
  subst e1 e2 e3 e4
  have H := Lib.hid (And.intro h1 (And.intro h2 (And.intro h3 h4)))
  clear h1 h2 h3 h4
  go_enter Try.func12, Try.ntmps12
  go_wp2_with fail
  refine (H.out.1 _).mono ?_
  rintro e _ ⟨rfl, n0, rfl⟩
  go_wp2_with fail
  refine (H.out.2.1 _).mono ?_
  rintro e _ ⟨rfl, n1, rfl⟩
  go_wp2_with fail
  refine (H.out.2.2.1 _).mono ?_
  rintro e _ ⟨rfl, n2, rfl⟩
  go_wp2_with fail
  generalize hwa : World.alloc (World.drewN _ _) _ = w1 at *
  obtain ⟨hrow2, hrow1, hb1, hl2⟩ := lab_box2 w Lb.no ⟨t, N1, N2, T3⟩ (n0 + n1 + n2)
  rw [show ((w.alloc (.cells (labC Lb.no) 23)).drewN (n0 + n1 + n2)).alloc (.cells (labC ⟨t, N1, N2, T3⟩) 23) = w1 from hwa] at hrow2 hrow1 hb1 hl2
  have K := Lib.hid (And.intro hrow2 (And.intro hrow1 (And.intro hb1 hl2)))
  clear hrow2 hrow1 hb1 hl2
  generalize hN : w.heap.size = N at *
  refine (H.out.2.2.2 _).mono ?_
  rintro e w2 ⟨rfl, hb2⟩
  obtain ⟨a0, a1, a2, a3, b0, b1, b2, b3, hr⟩ := lab_below K.out.2.1 hb2 (Nat.lt_of_succ_lt K.out.2.2.2)
  obtain ⟨c0, c1, c2, c3, d0, d1, d2, d3, hr2⟩ := lab_below K.out.1 hb2 K.out.2.2.2
  have L := Lib.hid (And.intro (K.out.2.2.1.trans (hb2.mono (Nat.le_of_lt (Nat.lt_of_succ_lt K.out.2.2.2)))) (And.intro hr hr2))
  clear hb2 hr hr2
  go_wp2_with fail
  refine bodyPost_ret (v := .tuple #[labV ⟨t, N1, N2, T3⟩, .int .i64 0]) (results_lab (p := 4) (u := 5) rfl _ _ N ⟨t, N1, N2, T3⟩ rfl (lab_put (l := Lb.no) ?_ t N1 N2 T3).1) rfl ⟨rfl, ?_⟩
  · exact L.out.2.1
  try rw [hN]
  exact L.out.1.trans ((lab_put L.out.2.1 t N1 N2 T3).2 _ (Nat.le_refl _))
theorem rparse6_any (t : Int) (s : ByteArray) (hs : s.size ≤ maxLen) (w : World) :
    Calls Try.prog 12 #[.int .i64 t, .string s] w fun e w' => e = .returned (.tuple #[labV (Lb.parse t s).1, .int .i64 (Lb.parse t s).2]) ∧ Below w.heap.size w w' := by
  by_cases e1 : Oct.tE s = 0
  · by_cases e2 : Oct.tE (Oct.tR s) = 0
    · by_cases e3 : (Oct.txt (Oct.tR (Oct.tR s)) 400).2.2 = 0
      · by_cases e4 : (Oct.txt (Oct.tR (Oct.tR s)) 400).2.1 = ⟨#[]⟩
        · by_cases e5 : Lb.right (Lb.told t s)
          · exact rparse6_5 t s hs e1 e2 e3 e4 e5 w
          · exact rparse6_4 t s hs e1 e2 e3 e4 e5 w
        · exact rparse6_3 t s hs e1 e2 e3 e4 w
      · exact rparse6_2 t s hs e1 e2 e3 w
    · exact rparse6_1 t s hs e1 e2 w
  · exact rparse6_0 t s hs e1 w
end Go.Proofs.Ytedemehlccmkpaa

/-
  Layer 4: the document's disk as plain lists: what was flushed, what is loose, when the power goes.
-/
namespace Go.Proofs.Ytedemehlccmkpaa
namespace Dk

/-- blocks, loose writes, how many writes and flushes are left, whether the power is gone -/
structure D where
  B : List ByteArray
  W : List (Nat × ByteArray)
  fuse : Int
  gone : Bool

abbrev blk (B : List ByteArray) (i : Nat) : ByteArray := B.getD i ByteArray.empty
/-- the first k loose writes, done -/
def overK (B : List ByteArray) (W : List (Nat × ByteArray)) : Nat → List ByteArray
  | 0 => B
  | k + 1 => (overK B W k).set (W.getD k (0, ByteArray.empty)).1 (W.getD k (0, ByteArray.empty)).2
def over (B : List ByteArray) (W : List (Nat × ByteArray)) : List ByteArray := overK B W W.length
/-- what a write's fate makes of a block -/
def falls (f : Int) (old s : ByteArray) : ByteArray :=
  if f = 1 then s else if f = 2 then s.extract 0 256 ++ old.extract 256 512 else if f = 3 then old.extract 0 256 ++ s.extract 256 512 else old
/-- the first k loose writes, done by their fates -/
def crashK (B : List ByteArray) (W : List (Nat × ByteArray)) (F : List Int) : Nat → List ByteArray
  | 0 => B
  | k + 1 => (crashK B W F k).set (W.getD k (0, ByteArray.empty)).1 (falls (F.getD k 0) (blk (crashK B W F k) (W.getD k (0, ByteArray.empty)).1) (W.getD k (0, ByteArray.empty)).2)
/-- the blocks of the first k loose writes of 'to' made like those of 'from' -/
def settleK (to fr : List ByteArray) (W : List (Nat × ByteArray)) : Nat → List ByteArray
  | 0 => to
  | k + 1 => (settleK to fr W k).set (W.getD k (0, ByteArray.empty)).1 (blk fr (W.getD k (0, ByteArray.empty)).1)

structure Ok (d : D) : Prop where
  pos : 1 ≤ d.B.length
  most : d.B.length ≤ 4096
  size : ∀ b ∈ d.B, b.size = 512
  loose : ∀ x ∈ d.W, x.1 < d.B.length ∧ x.2.size = 512
  low : -9223372036854775808 ≤ d.fuse
  high : d.fuse ≤ 9223372036854775807

/-- a block of zeros -/
def zeros : ByteArray := ⟨(List.replicate 512 (0 : UInt8)).toArray⟩
theorem zeros_size : zeros.size = 512 := by show (List.replicate 512 (0 : UInt8)).toArray.size = 512; rw [List.size_toArray, List.length_replicate]
def new (n : Nat) : D := ⟨List.replicate n zeros, [], -1, false⟩
def burn (f : Int) : Int := if f > 0 then f - 1 else f
/-- a write's error, and the disk behind it -/
def writeE (d : D) (i : Int) (s : ByteArray) : Int := if d.gone then 7 else if ¬ (0 ≤ i ∧ i < d.B.length) ∨ s.size ≠ 512 then 2 else if d.fuse = 0 then 7 else 0
def write (d : D) (i : Int) (s : ByteArray) : D := if d.gone then d else if ¬ (0 ≤ i ∧ i < d.B.length) ∨ s.size ≠ 512 then d else if d.fuse = 0 then { d with gone := true } else { d with W := d.W ++ [(i.toNat, s)], fuse := burn d.fuse }
def flushE (d : D) : Int := if d.gone then 7 else if d.fuse = 0 then 7 else 0
def flush (d : D) : D := if d.gone then d else if d.fuse = 0 then { d with gone := true } else { d with B := over d.B d.W, W := [], fuse := burn d.fuse }
def armE (d : D) : Int := if d.gone then 7 else 0
def arm (d : D) (n : Int) : D := if d.gone then d else { d with fuse := n }
def crash (d : D) (F : List Int) : D := ⟨crashK d.B d.W F d.W.length, [], -1, false⟩
def readE (d : D) (i : Int) : Int := if d.gone then 7 else if 0 ≤ i ∧ i < d.B.length then 0 else 2
def readS (d : D) (i : Int) : ByteArray := if d.gone then ByteArray.empty else if 0 ≤ i ∧ i < d.B.length then blk (over d.B d.W) i.toNat else ByteArray.empty

theorem overK_len (B : List ByteArray) (W : List (Nat × ByteArray)) (k : Nat) : (overK B W k).length = B.length := by
  induction k with
  | zero => rfl
  | succ k ih => rw [overK, List.length_set, ih]
theorem crashK_len (B : List ByteArray) (W : List (Nat × ByteArray)) (F : List Int) (k : Nat) : (crashK B W F k).length = B.length := by
  induction k with
  | zero => rfl
  | succ k ih => rw [crashK, List.length_set, ih]
theorem settleK_len (to fr : List ByteArray) (W : List (Nat × ByteArray)) (k : Nat) : (settleK to fr W k).length = to.length := by
  induction k with
  | zero => rfl
  | succ k ih => rw [settleK, List.length_set, ih]
theorem over_len (B : List ByteArray) (W : List (Nat × ByteArray)) : (over B W).length = B.length := overK_len _ _ _
theorem getD_mem {α : Type} (l : List α) (i : Nat) (d : α) (h : i < l.length) : l.getD i d ∈ l := by
  rw [List.getD_eq_getElem?_getD, List.getElem?_eq_getElem h]; exact List.getElem_mem h
theorem getD_get {α : Type} (l : List α) (i : Nat) (d : α) (h : i < l.length) : l.getD i d = l[i] := by
  rw [List.getD_eq_getElem?_getD, List.getElem?_eq_getElem h]; rfl
theorem all_set {B : List ByteArray} (h : ∀ b ∈ B, b.size = 512) (i : Nat) (x : ByteArray) (hx : x.size = 512) : ∀ b ∈ B.set i x, b.size = 512 := by
  intro b hb
  rcases List.mem_or_eq_of_mem_set hb with h1 | rfl
  · exact h b h1
  · exact hx
theorem blk_size {B : List ByteArray} (h : ∀ b ∈ B, b.size = 512) (i : Nat) (hi : i < B.length) : (blk B i).size = 512 := h _ (getD_mem B i _ hi)
theorem overK_ok {B : List ByteArray} {W : List (Nat × ByteArray)} (h : ∀ b ∈ B, b.size = 512) (hw : ∀ x ∈ W, x.1 < B.length ∧ x.2.size = 512) (k : Nat) (hk : k ≤ W.length) : ∀ b ∈ overK B W k, b.size = 512 := by
  induction k with
  | zero => exact h
  | succ k ih => rw [overK]; exact all_set (ih (by omega)) _ _ (hw _ (getD_mem W k _ (by omega))).2
theorem over_ok {B : List ByteArray} {W : List (Nat × ByteArray)} (h : ∀ b ∈ B, b.size = 512) (hw : ∀ x ∈ W, x.1 < B.length ∧ x.2.size = 512) : ∀ b ∈ over B W, b.size = 512 := overK_ok h hw _ (Nat.le_refl _)
theorem falls_size (f : Int) (old s : ByteArray) (h1 : old.size = 512) (h2 : s.size = 512) : (falls f old s).size = 512 := by
  unfold falls
  repeat' split
  · exact h2
  · rw [ByteArray.size_append, ByteArray.size_extract, ByteArray.size_extract]; omega
  · rw [ByteArray.size_append, ByteArray.size_extract, ByteArray.size_extract]; omega
  · exact h1
theorem crashK_ok {B : List ByteArray} {W : List (Nat × ByteArray)} (F : List Int) (h : ∀ b ∈ B, b.size = 512) (hw : ∀ x ∈ W, x.1 < B.length ∧ x.2.size = 512) (k : Nat) (hk : k ≤ W.length) : ∀ b ∈ crashK B W F k, b.size = 512 := by
  induction k with
  | zero => exact h
  | succ k ih =>
    have hm := hw _ (getD_mem W k (0, ByteArray.empty) (by omega))
    rw [crashK]
    exact all_set (ih (by omega)) _ _ (falls_size _ _ _ (blk_size (ih (by omega)) _ (by rw [crashK_len]; exact hm.1)) hm.2)
theorem getD_set (B : List ByteArray) (a i : Nat) (x : ByteArray) : blk (B.set a x) i = if i = a ∧ a < B.length then x else blk B i := by
  unfold blk
  rw [List.getD_eq_getElem?_getD, List.getD_eq_getElem?_getD, List.getElem?_set]
  by_cases h : a = i
  · subst h
    by_cases h2 : a < B.length
    · simp [h2]
    · simp [h2]
  · have h2 : ¬ i = a := fun e => h e.symm
    simp [h, h2]
/-- a block that no loose write is of is as it was -/
theorem overK_off (B : List ByteArray) (W : List (Nat × ByteArray)) (k i : Nat) (h : ∀ j, j < k → (W.getD j (0, ByteArray.empty)).1 ≠ i) : blk (overK B W k) i = blk B i := by
  induction k with
  | zero => rfl
  | succ k ih =>
    rw [overK, getD_set, if_neg (fun e => h k (by omega) e.1.symm)]
    exact ih fun j hj => h j (by omega)
theorem crashK_off (B : List ByteArray) (W : List (Nat × ByteArray)) (F : List Int) (k i : Nat) (h : ∀ j, j < k → (W.getD j (0, ByteArray.empty)).1 ≠ i) : blk (crashK B W F k) i = blk B i := by
  induction k with
  | zero => rfl
  | succ k ih =>
    rw [crashK, getD_set, if_neg (fun e => h k (by omega) e.1.symm)]
    exact ih fun j hj => h j (by omega)
/-- the last loose write of a block is what is read -/
theorem overK_last (B : List ByteArray) (W : List (Nat × ByteArray)) (k : Nat) (n : Nat) (hk : k < n) (hl : (W.getD k (0, ByteArray.empty)).1 < B.length) (h : ∀ j, k < j → j < n → (W.getD j (0, ByteArray.empty)).1 ≠ (W.getD k (0, ByteArray.empty)).1) :
    blk (overK B W n) (W.getD k (0, ByteArray.empty)).1 = (W.getD k (0, ByteArray.empty)).2 := by
  induction n with
  | zero => omega
  | succ n ih =>
    by_cases e : k = n
    · subst e
      rw [overK, getD_set, if_pos ⟨rfl, by rw [overK_len]; exact hl⟩]
    · rw [overK, getD_set, if_neg (fun e2 => h n (by omega) (by omega) e2.1.symm)]
      exact ih (by omega) fun j h1 h2 => h j h1 (by omega)
theorem overK_app (B : List ByteArray) (W V : List (Nat × ByteArray)) (k : Nat) (h : k ≤ W.length) : overK B (W ++ V) k = overK B W k := by
  induction k with
  | zero => rfl
  | succ k ih =>
    have e : (W ++ V).getD k (0, ByteArray.empty) = W.getD k (0, ByteArray.empty) := by
      rw [List.getD_eq_getElem?_getD, List.getD_eq_getElem?_getD, List.getElem?_append_left (by omega)]
    rw [overK, overK, ih (by omega), e]
theorem over_snoc (B : List ByteArray) (W : List (Nat × ByteArray)) (i : Nat) (s : ByteArray) : over B (W ++ [(i, s)]) = (over B W).set i s := by
  have e : (W ++ [(i, s)]).getD W.length (0, ByteArray.empty) = (i, s) := by
    rw [List.getD_eq_getElem?_getD, List.getElem?_append_right (Nat.le_refl _)]; simp
  unfold over
  rw [List.length_append, List.length_singleton, overK, e, overK_app _ _ _ _ (Nat.le_refl _)]
theorem blk_ext {A C : List ByteArray} (hl : A.length = C.length) (h : ∀ i, i < A.length → blk A i = blk C i) : A = C := by
  apply List.ext_getElem hl
  intro i h1 h2
  have := h i h1
  unfold blk at this
  rwa [getD_get _ _ _ h1, getD_get _ _ _ h2] at this
theorem settleK_at (to fr : List ByteArray) (W : List (Nat × ByteArray)) (k i : Nat) (hi : i < to.length) : blk (settleK to fr W k) i = if ∃ j, j < k ∧ (W.getD j (0, ByteArray.empty)).1 = i then blk fr i else blk to i := by
  induction k with
  | zero => simp [settleK]
  | succ k ih =>
    rw [settleK, getD_set, settleK_len]
    by_cases h : i = (W.getD k (0, ByteArray.empty)).1
    · rw [if_pos ⟨h, h ▸ hi⟩, if_pos ⟨k, by omega, h.symm⟩, ← h]
    · rw [if_neg (fun e => h e.1), ih]
      by_cases h2 : ∃ j, j < k ∧ (W.getD j (0, ByteArray.empty)).1 = i
      · rw [if_pos h2, if_pos]
        obtain ⟨j, h3, h4⟩ := h2
        exact ⟨j, by omega, h4⟩
      · rw [if_neg h2, if_neg]
        rintro ⟨j, h3, h4⟩
        by_cases e : j = k
        · subst e; exact h h4.symm
        · exact h2 ⟨j, by omega, h4⟩
theorem settle_all (to fr : List ByteArray) (W : List (Nat × ByteArray)) (n : Nat) (hl : to.length = fr.length) (h : ∀ i, (∀ j, j < n → (W.getD j (0, ByteArray.empty)).1 ≠ i) → blk to i = blk fr i) : settleK to fr W n = fr := by
  apply blk_ext (by rw [settleK_len, hl])
  intro i hi
  rw [settleK_len] at hi
  rw [settleK_at to fr W n i hi]
  by_cases h2 : ∃ j, j < n ∧ (W.getD j (0, ByteArray.empty)).1 = i
  · rw [if_pos h2]
  · rw [if_neg h2]
    exact h i fun j h3 h4 => h2 ⟨j, h3, h4⟩
theorem settle_flush (B : List ByteArray) (W : List (Nat × ByteArray)) : settleK B (over B W) W W.length = over B W :=
  settle_all _ _ _ _ (over_len _ _).symm fun i h => (overK_off B W W.length i h).symm
theorem settle_crash (B : List ByteArray) (W : List (Nat × ByteArray)) (F : List Int) : settleK (over B W) (crashK B W F W.length) W W.length = crashK B W F W.length :=
  settle_all _ _ _ _ (by rw [over_len, crashK_len]) fun i h => (overK_off B W W.length i h).trans (crashK_off B W F W.length i h).symm
/-- where the blocks are alike already nothing is to be done -/
theorem settleK_same (to fr : List ByteArray) (W : List (Nat × ByteArray)) (k : Nat) (h : blk (settleK to fr W k) (W.getD k (0, ByteArray.empty)).1 = blk fr (W.getD k (0, ByteArray.empty)).1) : settleK to fr W (k + 1) = settleK to fr W k := by
  rw [settleK, ← h]
  apply blk_ext (by rw [List.length_set])
  intro i hi
  rw [getD_set]
  split
  · rename_i h2; rw [h2.1]
  · rfl

theorem new_ok (n : Nat) (h1 : 1 ≤ n) (h2 : n ≤ 4096) : Ok (new n) :=
  ⟨by show 1 ≤ (List.replicate n zeros).length; rw [List.length_replicate]; exact h1, by show (List.replicate n zeros).length ≤ 4096; rw [List.length_replicate]; exact h2,
    fun b hb => by rw [(List.mem_replicate.1 hb).2]; exact zeros_size, (fun x hx => by cases hx), by show (-9223372036854775808 : Int) ≤ -1; omega, by show (-1 : Int) ≤ 9223372036854775807; omega⟩
theorem burn_low {f : Int} (h : -9223372036854775808 ≤ f) : -9223372036854775808 ≤ burn f := by unfold burn; split <;> omega
theorem burn_high {f : Int} (h : f ≤ 9223372036854775807) : burn f ≤ 9223372036854775807 := by unfold burn; split <;> omega
/-- what a write or a flush takes -/
def spent (d : D) : D := if d.fuse = 0 then { d with gone := true } else { d with fuse := burn d.fuse }
def spendE (d : D) : Int := if d.fuse = 0 then 7 else 0
theorem spent_ok {d : D} (h : Ok d) : Ok (spent d) := by
  unfold spent
  split
  · exact ⟨h.pos, h.most, h.size, h.loose, h.low, h.high⟩
  · exact ⟨h.pos, h.most, h.size, h.loose, burn_low h.low, burn_high h.high⟩
theorem write_ok {d : D} (h : Ok d) (i : Int) (s : ByteArray) : Ok (write d i s) := by
  unfold write
  split
  · exact h
  · split
    · exact h
    · rename_i h2
      split
      · exact ⟨h.pos, h.most, h.size, h.loose, h.low, h.high⟩
      · refine ⟨h.pos, h.most, h.size, fun x hx => ?_, burn_low h.low, burn_high h.high⟩
        rcases List.mem_append.1 hx with hx | hx
        · exact h.loose x hx
        · rw [List.mem_singleton] at hx; subst hx
          have h3 : (0 ≤ i ∧ i < d.B.length) ∧ s.size = 512 := by
            refine ⟨Classical.byContradiction fun hn => h2 (.inl hn), Classical.byContradiction fun hn => h2 (.inr hn)⟩
          exact ⟨by show i.toNat < d.B.length; omega, h3.2⟩
theorem flush_ok {d : D} (h : Ok d) : Ok (flush d) := by
  unfold flush
  split
  · exact h
  · split
    · exact ⟨h.pos, h.most, h.size, h.loose, h.low, h.high⟩
    · exact ⟨by rw [over_len]; exact h.pos, by rw [over_len]; exact h.most, over_ok h.size h.loose, (fun x hx => by cases hx), burn_low h.low, burn_high h.high⟩
theorem arm_ok {d : D} (h : Ok d) (n : Int) (h1 : -9223372036854775808 ≤ n) (h2 : n ≤ 9223372036854775807) : Ok (arm d n) := by
  unfold arm
  split
  · exact h
  · exact ⟨h.pos, h.most, h.size, h.loose, h1, h2⟩
theorem crash_ok {d : D} (h : Ok d) (F : List Int) : Ok (crash d F) :=
  ⟨by show 1 ≤ (crashK _ _ _ _).length; rw [crashK_len]; exact h.pos, by show (crashK _ _ _ _).length ≤ 4096; rw [crashK_len]; exact h.most, crashK_ok F h.size h.loose _ (Nat.le_refl _), (fun x hx => by cases hx), by show (-9223372036854775808 : Int) ≤ -1; omega, by show (-1 : Int) ≤ 9223372036854775807; omega⟩
end Dk
end Go.Proofs.Ytedemehlccmkpaa

/-
  The plain mathematics of layer 6 (label), second part: labels by turns on a disk of two blocks; nothing of any program.
-/
namespace Go.Proofs.Ytedemehlccmkpaa.Lb
open Oct (numB)
/-- a block's label -/
def ofB (b : ByteArray) : Option Label := if (Sl.take b).2.2 = 0 ∧ (parse (Sl.take b).1 (Sl.take b).2.1).2 = 0 then some (parse (Sl.take b).1 (Sl.take b).2.1).1 else none
/-- of two labels the greater, and where it stands -/
def pick2 : Option Label → Option Label → Label × Int
  | none, none => (no, -1)
  | some x, none => (x, 0)
  | none, some y => (y, 1)
  | some x, some y => if x.turn < y.turn then (y, 1) else (x, 0)
def pick (a b : ByteArray) : Label × Int := pick2 (ofB a) (ofB b)
def up (m h : Int) : Int := if m < h ∧ h < 4611686018427387904 then h else m
def most (a b : ByteArray) : Int := up (up (up (up 0 (Sl.halves a).1) (Sl.halves a).2) (Sl.halves b).1) (Sl.halves b).2
/-- what Read tells of two blocks -/
def readAB (a b : ByteArray) : Label × Int := if 0 ≤ (pick a b).2 then ((pick a b).1, 0) else if a = Sl.zeros ∨ b = Sl.zeros then (no, 6) else (no, 9)
def read (d : Dk.D) : Label × Int := if Dk.readE d 0 ≠ 0 then (no, Dk.readE d 0) else if Dk.readE d 1 ≠ 0 then (no, Dk.readE d 1) else readAB (Dk.readS d 0) (Dk.readS d 1)
def next (d : Dk.D) : Int × Int × Int := if (read d).2 ≠ 0 ∧ (read d).2 ≠ 6 then (0, 0, (read d).2) else (if (pick (Dk.readS d 0) (Dk.readS d 1)).2 = 0 then 1 else 0, most (Dk.readS d 0) (Dk.readS d 1) + 1, 0)
def at_ (l : Label) (n : Int) : Label := ⟨n, l.tail, l.head, l.note⟩
/-- the disk behind the write of the block -/
def wrote (d : Dk.D) (l : Label) : Dk.D := Dk.write d (next d).1 (Sl.putB (next d).2.1 (text l))
def wroteE (d : Dk.D) (l : Label) : Int := Dk.writeE d (next d).1 (Sl.putB (next d).2.1 (text l))
def writeE (d : Dk.D) (l : Label) : Int := if (next d).2.2 ≠ 0 then (next d).2.2 else if ¬ right (at_ l (next d).2.1) then 2 else if wroteE d l ≠ 0 then wroteE d l else Dk.flushE (wrote d l)
def write (d : Dk.D) (l : Label) : Dk.D := if (next d).2.2 ≠ 0 then d else if ¬ right (at_ l (next d).2.1) then d else if wroteE d l ≠ 0 then wrote d l else Dk.flush (wrote d l)
theorem text_size {l : Label} (h : right l) : (text l).size ≤ 490 := by
  obtain ⟨_, _, h3, h4, h5, h6⟩ := h
  have a1 := Oct.numB_len l.tail (by omega) (by omega)
  have a2 := Oct.numB_len l.head (by omega) (by omega)
  have a3 := Oct.numB_len (l.note.size : Int) (by omega) (by omega)
  unfold text
  rw [ByteArray.size_append, ByteArray.size_append, ByteArray.size_append]
  omega
theorem put_ok {l : Label} (h : right l) : Sl.putE l.turn (text l) = 0 := Sl.putE_ok.2 ⟨h.1, h.2.1, text_size h⟩
theorem ofB_put {l : Label} (h : right l) : ofB (Sl.putB l.turn (text l)) = some l := by
  unfold ofB
  rw [(Sl.take_put (put_ok h)).1]
  show (if (0 : Int) = 0 ∧ (parse l.turn (text l)).2 = 0 then some (parse l.turn (text l)).1 else none) = some l
  rw [parse_text h, if_pos ⟨rfl, rfl⟩]
theorem ofB_torn {b : ByteArray} (hs : b.size = 512) (h : Sl.one b ≠ Sl.two b) : ofB b = none := by
  unfold ofB
  rw [Sl.take_torn hs h, if_neg]
  rintro ⟨h1, _⟩
  exact absurd h1 (by decide)
theorem take_one {b : ByteArray} (h : (Sl.take b).2.2 = 0) : (Sl.take b).1 = Sl.one b := by
  obtain ⟨h1, h2⟩ := Sl.take_ok h
  have := Sl.put_one h1
  rw [h2] at this
  exact this.symm
/-- a block's label has the block's number as its turn, and is right -/
theorem ofB_turn {b : ByteArray} {l : Label} (h : ofB b = some l) : l.turn = Sl.one b ∧ right l := by
  unfold ofB at h
  split at h
  · rename_i hc
    obtain ⟨h1, h2⟩ := hc
    obtain ⟨p1, p2, _⟩ := parse_ok h2
    cases h
    exact ⟨by rw [p2, take_one h1], p1⟩
  · cases h
theorem ofB_zeros : ofB Sl.zeros = none := by
  unfold ofB
  have : Sl.take Sl.zeros = (0, ByteArray.empty, 6) := by unfold Sl.take; rw [if_neg (by simp [Sl.zeros_size]), if_pos rfl]
  rw [this, if_neg]
  rintro ⟨h1, _⟩
  exact absurd h1 (by decide)
/-- a block whose halves' numbers are at most N -/
def Low (b : ByteArray) (N : Int) : Prop := b.size = 512 ∧ 0 ≤ Sl.one b ∧ Sl.one b ≤ N ∧ 0 ≤ Sl.two b ∧ Sl.two b ≤ N
theorem low_zeros (N : Int) (h : 0 ≤ N) : Low Sl.zeros N := by
  have := Sl.one_zeros (b := Sl.zeros) rfl
  exact ⟨Sl.zeros_size, by omega, by omega, by omega, by omega⟩
theorem low_more {b : ByteArray} {N M : Int} (h : Low b N) (hm : N ≤ M) : Low b M := ⟨h.1, h.2.1, by have := h.2.2.1; omega, h.2.2.2.1, by have := h.2.2.2.2; omega⟩
/-- what a label's block comes to, by its fate -/
theorem falls_put {o : ByteArray} {N : Int} {x : Label} (ho : Low o N) (hx : right x) (hn : N < x.turn) (f : Int) :
    Low (Dk.falls f o (Sl.putB x.turn (text x))) x.turn ∧ (Dk.falls f o (Sl.putB x.turn (text x)) = o ∨ ofB (Dk.falls f o (Sl.putB x.turn (text x))) = some x ∨ ofB (Dk.falls f o (Sl.putB x.turn (text x))) = none) := by
  obtain ⟨s1, s2, s3, s4, s5⟩ := ho
  have p0 := put_ok hx
  have ps := Sl.put_size p0
  have p1 := Sl.put_one p0
  have p2 := Sl.put_two p0
  have hq := ofB_put hx
  have h1 := hx.1
  generalize Sl.putB x.turn (text x) = q at *
  unfold Dk.falls
  split
  · exact ⟨⟨ps, by omega, by omega, by omega, by omega⟩, .inr (.inl hq)⟩
  · split
    · have m1 : Sl.one (Sl.mix q o) = x.turn := by rw [Sl.mix_one ps, p1]
      have m2 : Sl.two (Sl.mix q o) = Sl.two o := Sl.mix_two ps
      have m3 := Sl.mix_size ps s1
      rw [show q.extract 0 256 ++ o.extract 256 512 = Sl.mix q o from rfl]
      exact ⟨⟨m3, by omega, by omega, by omega, by omega⟩, .inr (.inr (ofB_torn m3 (by omega)))⟩
    · split
      · have m1 : Sl.one (Sl.mix o q) = Sl.one o := Sl.mix_one s1
        have m2 : Sl.two (Sl.mix o q) = x.turn := by rw [Sl.mix_two s1, p2]
        have m3 := Sl.mix_size s1 ps
        rw [show o.extract 0 256 ++ q.extract 256 512 = Sl.mix o q from rfl]
        exact ⟨⟨m3, by omega, by omega, by omega, by omega⟩, .inr (.inr (ofB_torn m3 (by omega)))⟩
      · exact ⟨⟨s1, by omega, by omega, by omega, by omega⟩, .inl rfl⟩
/-- a disk of two blocks, with power and nothing loose, whose label is l -/
def Turns (d : Dk.D) (l : Label) (N : Int) : Prop := ∃ a b, d = ⟨[a, b], [], -1, false⟩ ∧ Low a N ∧ Low b N ∧ 0 ≤ N ∧ N < 4611686018427387904 ∧ (pick a b).1 = l ∧ ((pick a b).2 = -1 → b = Sl.zeros)
theorem turns_new : Turns (Dk.new 2) no 0 := by
  have hp : pick Sl.zeros Sl.zeros = (no, -1) := by unfold pick; rw [ofB_zeros]; rfl
  refine ⟨Sl.zeros, Sl.zeros, rfl, low_zeros 0 (Int.le_refl _), low_zeros 0 (Int.le_refl _), Int.le_refl _, by omega, by rw [hp], fun _ => rfl⟩
theorem pick_at (a b : ByteArray) : (pick a b).2 = -1 ∧ ofB a = none ∧ ofB b = none ∧ (pick a b).1 = no ∨ (pick a b).2 = 0 ∧ ofB a = some (pick a b).1 ∨ (pick a b).2 = 1 ∧ ofB b = some (pick a b).1 := by
  unfold pick
  cases ofB a with
  | none => cases ofB b with
    | none => exact .inl ⟨rfl, rfl, rfl, rfl⟩
    | some y => exact .inr (.inr ⟨rfl, rfl⟩)
  | some x => cases ofB b with
    | none => exact .inr (.inl ⟨rfl, rfl⟩)
    | some y =>
      by_cases ht : x.turn < y.turn
      · have e : pick2 (some x) (some y) = (y, 1) := if_pos ht
        rw [e]; exact .inr (.inr ⟨rfl, rfl⟩)
      · have e : pick2 (some x) (some y) = (x, 0) := if_neg ht
        rw [e]; exact .inr (.inl ⟨rfl, rfl⟩)
/-- the label's block is let be, the other one is written -/
theorem pick_put {a b : ByteArray} {N : Int} {x : Label} (ha : Low a N) (hb : Low b N) (hx : right x) (hn : N < x.turn) (hz : (pick a b).2 = -1 → b = Sl.zeros) (f : Int) :
    let q := Sl.putB x.turn (text x)
    let a' := if (pick a b).2 = 0 then a else Dk.falls f a q
    let b' := if (pick a b).2 = 0 then Dk.falls f b q else b
    Low a' x.turn ∧ Low b' x.turn ∧ ((pick a' b').1 = (pick a b).1 ∨ (pick a' b').1 = x) ∧ (f = 1 → (pick a' b').1 = x) ∧ ((pick a' b').2 = -1 → b' = Sl.zeros) := by
  intro q a' b'
  have hq : ofB q = some x := ofB_put hx
  rcases pick_at a b with ⟨h1, h2, h3, h4⟩ | ⟨h1, h2⟩ | ⟨h1, h2⟩
  · have e1 : a' = Dk.falls f a q := if_neg (by omega)
    have e2 : b' = b := if_neg (by omega)
    have hbz := hz h1
    obtain ⟨f1, f2⟩ := falls_put ha hx hn f
    rw [e1, e2]
    refine ⟨f1, low_more hb (by omega), ?_, ?_, fun _ => hbz⟩
    · rcases f2 with f2 | f2 | f2
      · left; show (pick (Dk.falls f a (Sl.putB x.turn (text x))) b).1 = _; rw [f2]
      · right; unfold pick; rw [f2, h3]; rfl
      · left; rw [h4]; unfold pick; rw [f2, h3]; rfl
    · rintro rfl
      have : Dk.falls 1 a q = q := if_pos rfl
      unfold pick; rw [this, hq, h3]; rfl
  · have e1 : a' = a := if_pos h1
    have e2 : b' = Dk.falls f b q := if_pos h1
    obtain ⟨f1, f2⟩ := falls_put hb hx hn f
    have ht := (ofB_turn h2).1
    have hat := ha.2.2.1
    have hlt : (pick a b).1.turn < x.turn := by omega
    rw [e1, e2]
    have hp : ∀ b2, ofB b2 = some x → pick a b2 = (x, 1) := fun b2 h => by
      show pick2 (ofB a) (ofB b2) = _
      rw [h2, h]; exact if_pos hlt
    refine ⟨low_more ha (by omega), f1, ?_, ?_, ?_⟩
    · rcases f2 with f2 | f2 | f2
      · left; show (pick a (Dk.falls f b (Sl.putB x.turn (text x)))).1 = _; rw [f2]
      · right; rw [hp _ f2]
      · left; show (pick2 (ofB a) (ofB (Dk.falls f b (Sl.putB x.turn (text x))))).1 = _; rw [f2, h2]; rfl
    · rintro rfl
      have : Dk.falls 1 b q = q := if_pos rfl
      rw [this, hp q hq]
    · intro h
      rcases pick_at a (Dk.falls f b q) with ⟨_, g, _⟩ | ⟨g, _⟩ | ⟨g, _⟩
      · rw [h2] at g; cases g
      · rw [g] at h; exact absurd h (by decide)
      · rw [g] at h; exact absurd h (by decide)
  · have e1 : a' = Dk.falls f a q := if_neg (by omega)
    have e2 : b' = b := if_neg (by omega)
    obtain ⟨f1, f2⟩ := falls_put ha hx hn f
    have ht := (ofB_turn h2).1
    have hbt := hb.2.2.1
    have hlt : ¬ x.turn < (pick a b).1.turn := by omega
    rw [e1, e2]
    have hp : ∀ a2, ofB a2 = some x → pick a2 b = (x, 0) := fun a2 h => by
      show pick2 (ofB a2) (ofB b) = _
      rw [h2, h]; exact if_neg hlt
    refine ⟨f1, low_more hb (by omega), ?_, ?_, ?_⟩
    · rcases f2 with f2 | f2 | f2
      · left; show (pick (Dk.falls f a (Sl.putB x.turn (text x))) b).1 = _; rw [f2]
      · right; rw [hp _ f2]
      · left; show (pick2 (ofB (Dk.falls f a (Sl.putB x.turn (text x)))) (ofB b)).1 = _; rw [f2, h2]; rfl
    · rintro rfl
      have : Dk.falls 1 a q = q := if_pos rfl
      rw [this, hp q hq]
    · intro h
      rcases pick_at (Dk.falls f a q) b with ⟨_, _, g, _⟩ | ⟨g, _⟩ | ⟨g, _⟩
      · rw [h2] at g; cases g
      · rw [g] at h; exact absurd h (by decide)
      · rw [g] at h; exact absurd h (by decide)
/-! ### a turn -/
theorem up_le (m h : Int) : m ≤ up m h := by unfold up; split <;> omega
theorem up_ge (m h : Int) (hh : h < 4611686018427387904) : h ≤ up m h := by unfold up; split <;> omega
theorem up_most {m h N : Int} (hm : m ≤ N) (hh : h ≤ N) : up m h ≤ N := by unfold up; split <;> omega
theorem most_low {a b : ByteArray} {N : Int} (ha : Low a N) (hb : Low b N) (hN : 0 ≤ N) (hN2 : N < 4611686018427387904) : 0 ≤ most a b ∧ most a b ≤ N ∧ Low a (most a b) ∧ Low b (most a b) := by
  obtain ⟨a1, a2, a3, a4, a5⟩ := ha
  obtain ⟨b1, b2, b3, b4, b5⟩ := hb
  have ea : Sl.halves a = (Sl.one a, Sl.two a) := if_pos a1
  have eb : Sl.halves b = (Sl.one b, Sl.two b) := if_pos b1
  have e : most a b = up (up (up (up 0 (Sl.one a)) (Sl.two a)) (Sl.one b)) (Sl.two b) := by unfold most; rw [ea, eb]
  have x1 := up_le 0 (Sl.one a)
  have y1 := up_ge 0 (Sl.one a) (by omega)
  have z1 := up_most (m := 0) hN a3
  generalize up 0 (Sl.one a) = m1 at *
  have x2 := up_le m1 (Sl.two a)
  have y2 := up_ge m1 (Sl.two a) (by omega)
  have z2 := up_most z1 a5
  generalize up m1 (Sl.two a) = m2 at *
  have x3 := up_le m2 (Sl.one b)
  have y3 := up_ge m2 (Sl.one b) (by omega)
  have z3 := up_most z2 b3
  generalize up m2 (Sl.one b) = m3 at *
  have x4 := up_le m3 (Sl.two b)
  have y4 := up_ge m3 (Sl.two b) (by omega)
  have z4 := up_most z3 b5
  generalize up m3 (Sl.two b) = m4 at *
  rw [e]
  exact ⟨by omega, z4, ⟨a1, a2, by omega, a4, by omega⟩, ⟨b1, b2, by omega, b4, by omega⟩⟩
/-- a disk of two blocks, with nothing loose -/
def two (a b : ByteArray) (f : Int) : Dk.D := ⟨[a, b], [], f, false⟩
theorem two_reads (a b : ByteArray) (f : Int) : Dk.readE (two a b f) 0 = 0 ∧ Dk.readE (two a b f) 1 = 0 ∧ Dk.readS (two a b f) 0 = a ∧ Dk.readS (two a b f) 1 = b := ⟨rfl, rfl, rfl, rfl⟩
theorem read_two (a b : ByteArray) (f : Int) : read (two a b f) = readAB a b := by
  obtain ⟨h1, h2, h3, h4⟩ := two_reads a b f
  unfold read
  rw [h1, h2, h3, h4, if_neg (by simp), if_neg (by simp)]
theorem readAB_ok {a b : ByteArray} (hz : (pick a b).2 = -1 → b = Sl.zeros) : (readAB a b).1 = (pick a b).1 ∧ ((readAB a b).2 = 0 ∧ 1 ≤ (pick a b).1.turn ∨ (readAB a b).2 = 6 ∧ (pick a b).1 = no) := by
  unfold readAB
  rcases pick_at a b with ⟨h1, h2, h3, h4⟩ | ⟨h1, h2⟩ | ⟨h1, h2⟩
  · rw [if_neg (by omega), if_pos (.inr (hz h1))]
    exact ⟨h4.symm, .inr ⟨rfl, h4⟩⟩
  · rw [if_pos (by omega)]
    exact ⟨rfl, .inl ⟨rfl, (ofB_turn h2).2.1⟩⟩
  · rw [if_pos (by omega)]
    exact ⟨rfl, .inl ⟨rfl, (ofB_turn h2).2.1⟩⟩
theorem next_two {a b : ByteArray} (hz : (pick a b).2 = -1 → b = Sl.zeros) (f : Int) : next (two a b f) = (if (pick a b).2 = 0 then 1 else 0, most a b + 1, 0) := by
  obtain ⟨_, _, h3, h4⟩ := two_reads a b f
  obtain ⟨_, h⟩ := readAB_ok hz
  unfold next
  rw [read_two, h3, h4, if_neg (by omega)]
/-- what is read of such a disk -/
theorem turns_read {d : Dk.D} {l : Label} {N : Int} (h : Turns d l N) : (read d).1 = l ∧ ((read d).2 = 0 ∧ 1 ≤ l.turn ∨ (read d).2 = 6 ∧ l = no) := by
  obtain ⟨a, b, rfl, _, _, _, _, rfl, hz⟩ := h
  have := readAB_ok hz
  rw [← read_two a b (-1)] at this
  exact this
/-- a write of a label when the power may go, and a crash -/
theorem turn_step {d : Dk.D} {l : Label} {N : Int} (h : Turns d l N) (hN1 : N + 1 < 4611686018427387904) (f : Int) (F : List Int) (x : Label) :
    (next d).2.2 = 0 ∧ next (Dk.arm d f) = next d ∧ 1 ≤ (next d).2.1 ∧ (next d).2.1 ≤ N + 1 ∧
    (¬ right (at_ x (next d).2.1) → writeE (Dk.arm d f) x = 2 ∧ Turns (Dk.crash (write (Dk.arm d f) x) F) l (N + 1)) ∧
    (right (at_ x (next d).2.1) → (writeE (Dk.arm d f) x = 0 ∧ Turns (Dk.crash (write (Dk.arm d f) x) F) (at_ x (next d).2.1) (N + 1)) ∨
      (writeE (Dk.arm d f) x = 7 ∧ (Turns (Dk.crash (write (Dk.arm d f) x) F) l (N + 1) ∨ Turns (Dk.crash (write (Dk.arm d f) x) F) (at_ x (next d).2.1) (N + 1)))) := by
  obtain ⟨a, b, rfl, ha, hb, h0, h1, rfl, hz⟩ := h
  obtain ⟨m0, m1, la, lb⟩ := most_low ha hb h0 h1
  have en := next_two hz (-1)
  have ef := next_two hz f
  have harm : Dk.arm ⟨[a, b], [], -1, false⟩ f = two a b f := rfl
  have hd : (⟨[a, b], [], -1, false⟩ : Dk.D) = two a b (-1) := rfl
  rw [harm, hd, en, ef]
  refine ⟨rfl, rfl, by show 1 ≤ most a b + 1; omega, by show most a b + 1 ≤ N + 1; omega, ?_, ?_⟩
  · intro hr
    have e1 : writeE (two a b f) x = 2 := by unfold writeE; rw [ef, if_neg (by simp), if_pos hr]
    have e2 : write (two a b f) x = two a b f := by unfold write; rw [ef, if_neg (by simp), if_pos hr]
    rw [e1, e2]
    exact ⟨rfl, a, b, rfl, low_more ha (by omega), low_more hb (by omega), by omega, hN1, rfl, hz⟩
  · intro hr
    have hq : (Sl.putB (most a b + 1) (text x)).size = 512 := Sl.put_size (put_ok hr)
    have hpp := fun g => pick_put la lb (x := at_ x (most a b + 1)) hr (by show most a b < most a b + 1; omega) hz g
    have htx : text (at_ x (most a b + 1)) = text x := rfl
    have htn : (at_ x (most a b + 1)).turn = most a b + 1 := rfl
    simp only [htx, htn] at hpp
    have eE : writeE (two a b f) x = if wroteE (two a b f) x ≠ 0 then wroteE (two a b f) x else Dk.flushE (wrote (two a b f) x) := by
      unfold writeE; rw [ef, if_neg (by simp), if_neg (by exact fun hn => hn hr)]
    have eW : write (two a b f) x = if wroteE (two a b f) x ≠ 0 then wrote (two a b f) x else Dk.flush (wrote (two a b f) x) := by
      unfold write; rw [ef, if_neg (by simp), if_neg (by exact fun hn => hn hr)]
    have wE : wroteE (two a b f) x = Dk.writeE (two a b f) (if (pick a b).2 = 0 then 1 else 0) (Sl.putB (most a b + 1) (text x)) := by unfold wroteE; rw [ef]
    have wW : wrote (two a b f) x = Dk.write (two a b f) (if (pick a b).2 = 0 then 1 else 0) (Sl.putB (most a b + 1) (text x)) := by unfold wrote; rw [ef]
    rw [eE, eW, wE, wW]
    generalize Sl.putB (most a b + 1) (text x) = q at *
    -- where it is written
    obtain ⟨j, hj, hset⟩ : ∃ j : Nat, (if (pick a b).2 = 0 then (1 : Int) else 0) = (j : Int) ∧ j < 2 ∧ ∀ g, [a, b].set j (Dk.falls g (Dk.blk [a, b] j) q) = [if (pick a b).2 = 0 then a else Dk.falls g a q, if (pick a b).2 = 0 then Dk.falls g b q else b] := by
      by_cases hp : (pick a b).2 = 0
      · refine ⟨1, by rw [if_pos hp]; rfl, by omega, fun g => ?_⟩
        rw [if_pos hp, if_pos hp]; rfl
      · refine ⟨0, by rw [if_neg hp]; rfl, by omega, fun g => ?_⟩
        rw [if_neg hp, if_neg hp]; rfl
    obtain ⟨hj2, hset⟩ := hset
    rw [hj]
    have hin : ¬ (¬ (0 ≤ (j : Int) ∧ (j : Int) < (two a b f).B.length) ∨ q.size ≠ 512) := by
      show ¬ (¬ (0 ≤ (j : Int) ∧ (j : Int) < (2 : Nat)) ∨ q.size ≠ 512)
      omega
    have kE : Dk.writeE (two a b f) j q = if f = 0 then 7 else 0 := by
      unfold Dk.writeE; rw [if_neg (by exact Bool.false_ne_true), if_neg hin]; rfl
    by_cases hf : f = 0
    · have kW : Dk.write (two a b f) j q = ⟨[a, b], [], f, true⟩ := by
        unfold Dk.write; rw [if_neg (by exact Bool.false_ne_true), if_neg hin]; exact if_pos hf
      rw [kE, if_pos hf, if_pos (by decide), if_pos (by decide), kW]
      exact .inr ⟨rfl, .inl ⟨a, b, rfl, low_more ha (by omega), low_more hb (by omega), by omega, hN1, rfl, hz⟩⟩
    · have kW : Dk.write (two a b f) j q = ⟨[a, b], [(j, q)], Dk.burn f, false⟩ := by
        unfold Dk.write; rw [if_neg (by exact Bool.false_ne_true), if_neg hin, Int.toNat_natCast]; exact if_neg hf
      rw [kE, if_neg hf, if_neg (by decide), if_neg (by decide), kW]
      have hT : ∀ g, Turns ⟨[a, b].set j (Dk.falls g (Dk.blk [a, b] j) q), [], -1, false⟩ (pick a b).1 (N + 1) ∨ Turns ⟨[a, b].set j (Dk.falls g (Dk.blk [a, b] j) q), [], -1, false⟩ (at_ x (most a b + 1)) (N + 1) := by
        intro g
        obtain ⟨p1, p2, p3, _, p5⟩ := hpp g
        rw [hset g]
        rcases p3 with p3 | p3
        · exact .inl ⟨_, _, rfl, low_more p1 (by omega), low_more p2 (by omega), by omega, hN1, p3, p5⟩
        · exact .inr ⟨_, _, rfl, low_more p1 (by omega), low_more p2 (by omega), by omega, hN1, p3, p5⟩
      by_cases hb0 : Dk.burn f = 0
      · have fE : Dk.flushE ⟨[a, b], [(j, q)], Dk.burn f, false⟩ = 7 := by unfold Dk.flushE; rw [if_neg (by exact Bool.false_ne_true)]; exact if_pos hb0
        have fW : Dk.flush ⟨[a, b], [(j, q)], Dk.burn f, false⟩ = ⟨[a, b], [(j, q)], Dk.burn f, true⟩ := by unfold Dk.flush; rw [if_neg (by exact Bool.false_ne_true)]; exact if_pos hb0
        rw [fE, fW]
        exact .inr ⟨rfl, hT (F.getD 0 0)⟩
      · have fE : Dk.flushE ⟨[a, b], [(j, q)], Dk.burn f, false⟩ = 0 := by unfold Dk.flushE; rw [if_neg (by exact Bool.false_ne_true)]; exact if_neg hb0
        have fW : Dk.flush ⟨[a, b], [(j, q)], Dk.burn f, false⟩ = ⟨[a, b].set j q, [], Dk.burn (Dk.burn f), false⟩ := by unfold Dk.flush; rw [if_neg (by exact Bool.false_ne_true)]; exact if_neg hb0
        rw [fE, fW]
        obtain ⟨p1, p2, _, p4, p5⟩ := hpp 1
        have e1 : [a, b].set j q = [if (pick a b).2 = 0 then a else Dk.falls 1 a q, if (pick a b).2 = 0 then Dk.falls 1 b q else b] := hset 1
        refine .inl ⟨rfl, ?_⟩
        show Turns ⟨[a, b].set j q, [], -1, false⟩ _ _
        rw [e1]
        exact ⟨_, _, rfl, low_more p1 (by omega), low_more p2 (by omega), by omega, hN1, p4 rfl, p5⟩
end Go.Proofs.Ytedemehlccmkpaa.Lb

/-
  Layer 6: the function that iterates over both blocks' labels.
-/
namespace Go.Proofs.Ytedemehlccmkpaa
open Go.RowKit Go.Shelf
attribute [local go_sem] Oper.semAt_some
/-- a block's label, with the block's number -/
def labs1 (c : ByteArray) (k : Int) : List (Int × Lb.Label) := match Lb.ofB c with
  | none => []
  | some l => [(k, l)]
def labs (a b : ByteArray) : List (Int × Lb.Label) := labs1 a 0 ++ labs1 b 1
def preOf (a b : ByteArray) (k : Nat) : List (Int × Lb.Label) := if k = 0 then [] else if k = 1 then labs1 a 0 else labs a b
abbrev encL (x : Int × Lb.Label) : Array Value := #[.int .i64 x.1, labV x.2]
theorem labs1_len (c : ByteArray) (k : Int) : (labs1 c k).length ≤ 1 := by unfold labs1; split <;> simp
theorem take5_size {c : ByteArray} (h : (Sl.take c).2.2 = 0) : (Sl.take c).2.1.size ≤ maxLen := by
  have := (Sl.putE_ok.1 (Sl.take_ok h).1).2.2
  unfold maxLen; omega
theorem labs1_bad {c : ByteArray} {k : Int} (h : ¬ (Sl.take c).2.2 = 0) : labs1 c k = [] := by
  unfold labs1 Lb.ofB; rw [if_neg (fun hh => h hh.1)]
theorem labs1_form {c : ByteArray} {k : Int} (h : ¬ (Lb.parse (Sl.take c).1 (Sl.take c).2.1).2 = 0) : labs1 c k = [] := by
  unfold labs1 Lb.ofB; rw [if_neg (fun hh => h hh.2)]
theorem labs1_ok {c : ByteArray} {k : Int} (h1 : (Sl.take c).2.2 = 0) (h2 : (Lb.parse (Sl.take c).1 (Sl.take c).2.1).2 = 0) : labs1 c k = [(k, (Lb.parse (Sl.take c).1 (Sl.take c).2.1).1)] := by
  unfold labs1 Lb.ofB; rw [if_pos ⟨h1, h2⟩]
theorem abides_below {β : Type} {B : Nat} {J : β → World → Prop} (hJ : AbidesFrom B J) {s : β} {w w' : World} (h : J s w) (hb : Below w.heap.size w w') : J s w' :=
  hJ s w w' none h ⟨hb.os, hb.tape, hb.output, hb.size, fun k hk _ => hb.block k hk⟩ fun _ e => by cases e
theorem info_str1 : (Try.prog.info? 9).map (·.size) = some 1 := by kernel_rfl
/-- one of a pair of texts -/
theorem run_index_pair (w : World) (k : IntKind) (a b : ByteArray) (i : Nat) (hi : i < 2) (v : ByteArray) (hv : (#[.string a, .string b] : Array Value)[i]? = some (.string v)) :
    (Instr.index 103 (.agg #[.string a, .string b]) (.int k (i : Int))).run Try.prog w = .ok (.string v) w := by
  obtain ⟨i0, hi0, hz⟩ := Option.map_eq_some_iff.1 info_str1
  have hi3 : 0 ≤ (i : Int) := by omega
  simp [Instr.index, run_underlying Try.underlying103, asIntOf, hi3, go_sem, sizeOf, typeInfo, hi0, hz, part, isAgg, run_underlying Try.underlying9]
  rw [if_pos hi]
  have hv2 : [Value.string a, Value.string b][i]? = some (Value.string v) := by simpa using hv
  rw [hv2]; rfl
theorem index_pair (a b : ByteArray) : (∀ w, (Instr.index 103 (.agg #[.string a, .string b]) (.int .i64 0)).run Try.prog w = .ok (.string a) w) ∧ ∀ w, (Instr.index 103 (.agg #[.string a, .string b]) (.int .i64 1)).run Try.prog w = .ok (.string b) w :=
  ⟨fun w => run_index_pair w .i64 a b 0 (by omega) a rfl, fun w => run_index_pair w .i64 a b 1 (by omega) b rfl⟩
set_option maxRecDepth 100000 in
set_option maxHeartbeats 4000000 in
theorem iter6_in (n : Nat) (hn : 1 ≤ n) (l Bn n₀ : Nat) (a b : ByteArray) (ha : a.size ≤ maxLen) (hb : b.size ≤ maxLen) (J Jx : List (Int × Lb.Label) → World → Prop)
    (hY : ∀ pre x W, J pre W → pre.length < 2 → YieldAt Fence.wide (n - 1) Try.prog l (encL x) W fun e W' =>
      (e = .returned (.bool true) ∧ J (pre ++ [x]) W' ∧ Below n₀ W W') ∨ (e = .returned (.bool false) ∧ Jx (pre ++ [x]) W'))
    (W : World) (hJ : AbidesFrom W.heap.size J) (h0c : W.cell? ⟨Bn, 0, none⟩ = some (.string a)) (h1c : W.cell? ⟨Bn, 1, none⟩ = some (.string b)) (h0 : J [] W) :
    CallsIn Fence.wide n Try.prog 80 #[.func (.yield l) #[] #[], .pointer (some ⟨Bn, 0, none⟩)] W fun e W' => (∃ v, e = .returned v) ∧
      ((∃ ys, ys = labs a b ∧ J ys W') ∨ (∃ pre, True ∧ Jx pre W')) := by
  refine callsIn_of_wp Try.func80 rfl trivial ?_
  simp only [Try.ntmps80, List.size_toArray, List.length_cons, List.length_nil, Nat.reduceAdd, Nat.reduceSub, Array.replicate_succ, Array.replicate_zero, List.push_toArray, List.append_toArray, List.nil_append, List.cons_append]
  gi_wp2
  gi_loopw [10] (fun i wr => ∃ k : Nat, k ≤ 2 ∧ i = .int .i64 k ∧ J (preOf a b k) wr) (fun i _ => 2 - (intOf i).toNat)
  case atStart => exact ⟨0, Nat.zero_le _, rfl, h0⟩
  case round =>
    obtain ⟨k, hk, rfl, hJs⟩ := hrel
    have hJ' : ∀ {s w1 w2}, J s w1 → Below w1.heap.size w1 w2 → J s w2 := fun h hb => abides_below hJ h hb
    have H0 := Lib.hid hJs
    clear hJs
    obtain ⟨x0, x1⟩ := index_pair a b
    by_cases hk0 : k = 0
    · subst hk0
      have cT := fun w => take5_any a ha w
      by_cases e1 : (Sl.take a).2.2 = 0
      · have cP := fun w => parse6_any (Sl.take a).1 (Sl.take a).2.1 (take5_size e1) w
        by_cases e2 : (Lb.parse (Sl.take a).1 (Sl.take a).2.1).2 = 0
        · have hp : preOf a b 1 = preOf a b 0 ++ [(0, (Lb.parse (Sl.take a).1 (Sl.take a).2.1).1)] := by show labs1 a 0 = _; exact labs1_ok e1 e2
          have hlen : (preOf a b 0).length < 2 := by show 0 < 2; omega
          rw [e1] at cT
          rw [e2] at cP
          generalize (Lb.parse (Sl.take a).1 (Sl.take a).2.1).1 = L at *
          generalize (Sl.take a).2.1 = S1 at *
          generalize (Sl.take a).1 = N1 at *
          have H := Lib.hid (And.intro cT (And.intro cP (And.intro hp hlen)))
          clear cT cP hp hlen e1 e2
          obtain ⟨lt, la, lh, ln⟩ := L
          gi_wp2_with (first | (refine ⟨trivial, ?_⟩; gi_at_call 81; refine (callsIn_wide.2 (H.out.1 _)).mono ?_; rintro e w1 ⟨rfl, hb1⟩; have B1 := Lib.hid hb1; clear hb1) | (refine ⟨trivial, ?_⟩; gi_at_call 11; refine (callsIn_wide.2 (H.out.2.1 _)).mono ?_; rintro e w2 ⟨rfl, hb2⟩; have B2 := Lib.hid (B1.out.trans (hb2.mono B1.out.size)); clear hb2; have B3 := B2.out.trans ((lab_box ⟨lt, la, lh, ln⟩ w2).1.mono B2.out.size); obtain ⟨fn, tmps, assign, body, hy, hR⟩ := hY (preOf a b 0) (0, ⟨lt, la, lh, ln⟩) (w2.alloc (.cells #[.int .i64 lt, .int .i64 la, .int .i64 lh, .string ln] 23)) (hJ' H0.out B3) H.out.2.2.2; dsimp only [encL, labV, labC] at hy; have K3 := Lib.hid B3; clear B3))
          refine hR.mono ?_
          rintro e w4 (⟨rfl, hJ4, hk4⟩ | ⟨rfl, hJ4⟩)
          · gi_wp2
            exact ⟨⟨1, by omega, rfl, by rw [H.out.2.2.1]; exact hJ4⟩, by simp [intOf]⟩
          · gi_wp2
            refine bodyPost_ret (results_none rfl _ _ _) rfl ?_
            exact ⟨⟨_, rfl⟩, .inr ⟨_, trivial, hJ4⟩⟩
        · have hp : preOf a b 1 = preOf a b 0 := by show labs1 a 0 = []; exact labs1_form e2
          have q2 : ((Lb.parse (Sl.take a).1 (Sl.take a).2.1).2 == 0) = false := by simpa using e2
          rw [e1] at cT
          generalize (Lb.parse (Sl.take a).1 (Sl.take a).2.1).2 = E2 at *
          generalize (Lb.parse (Sl.take a).1 (Sl.take a).2.1).1 = L at *
          generalize (Sl.take a).2.1 = S1 at *
          generalize (Sl.take a).1 = N1 at *
          have H := Lib.hid (And.intro cT (And.intro cP hp))
          clear cT cP hp e1 e2
          obtain ⟨lt, la, lh, ln⟩ := L
          gi_wp2_with (first | (refine ⟨trivial, ?_⟩; gi_at_call 81; refine (callsIn_wide.2 (H.out.1 _)).mono ?_; rintro e w1 ⟨rfl, hb1⟩; have B1 := Lib.hid hb1; clear hb1) | (refine ⟨trivial, ?_⟩; gi_at_call 11; refine (callsIn_wide.2 (H.out.2.1 _)).mono ?_; rintro e w2 ⟨rfl, hb2⟩; have B2 := Lib.hid (B1.out.trans (hb2.mono B1.out.size)); clear hb2))
          refine ⟨fun _ h => (by cases h), ?_⟩
          gi_wp2
          have B3 := B2.out.trans ((lab_box ⟨lt, la, lh, ln⟩ w2).1.mono B2.out.size)
          exact ⟨⟨1, by omega, rfl, by rw [H.out.2.2]; exact hJ' H0.out B3⟩, by simp [intOf]⟩
      · have hp : preOf a b 1 = preOf a b 0 := by show labs1 a 0 = []; exact labs1_bad e1
        have q1 : ((Sl.take a).2.2 != 0) = true := by simpa using e1
        generalize (Sl.take a).2.2 = E1 at *
        generalize (Sl.take a).2.1 = S1 at *
        generalize (Sl.take a).1 = N1 at *
        have H := Lib.hid (And.intro cT hp)
        clear cT hp e1
        gi_wp2_with (refine ⟨trivial, ?_⟩; gi_at_call 81; refine (callsIn_wide.2 (H.out.1 _)).mono ?_; rintro e w1 ⟨rfl, hb1⟩; have B1 := Lib.hid hb1; clear hb1)
        exact ⟨⟨1, by omega, rfl, by rw [H.out.2]; exact hJ' H0.out B1.out⟩, by simp [intOf]⟩
    · by_cases hk1 : k = 1
      · subst hk1
        have cT := fun w => take5_any b hb w
        by_cases e1 : (Sl.take b).2.2 = 0
        · have cP := fun w => parse6_any (Sl.take b).1 (Sl.take b).2.1 (take5_size e1) w
          by_cases e2 : (Lb.parse (Sl.take b).1 (Sl.take b).2.1).2 = 0
          · have hp : preOf a b 2 = preOf a b 1 ++ [(1, (Lb.parse (Sl.take b).1 (Sl.take b).2.1).1)] := by show labs1 a 0 ++ labs1 b 1 = labs1 a 0 ++ _; rw [labs1_ok e1 e2]
            have hlen : (preOf a b 1).length < 2 := by show (labs1 a 0).length < 2; have := labs1_len a 0; omega
            rw [e1] at cT
            rw [e2] at cP
            generalize (Lb.parse (Sl.take b).1 (Sl.take b).2.1).1 = L at *
            generalize (Sl.take b).2.1 = S1 at *
            generalize (Sl.take b).1 = N1 at *
            have H := Lib.hid (And.intro cT (And.intro cP (And.intro hp hlen)))
            clear cT cP hp hlen e1 e2
            obtain ⟨lt, la, lh, ln⟩ := L
            gi_wp2_with (first | (refine ⟨trivial, ?_⟩; gi_at_call 81; refine (callsIn_wide.2 (H.out.1 _)).mono ?_; rintro e w1 ⟨rfl, hb1⟩; have B1 := Lib.hid hb1; clear hb1) | (refine ⟨trivial, ?_⟩; gi_at_call 11; refine (callsIn_wide.2 (H.out.2.1 _)).mono ?_; rintro e w2 ⟨rfl, hb2⟩; have B2 := Lib.hid (B1.out.trans (hb2.mono B1.out.size)); clear hb2; have B3 := B2.out.trans ((lab_box ⟨lt, la, lh, ln⟩ w2).1.mono B2.out.size); obtain ⟨fn, tmps, assign, body, hy, hR⟩ := hY (preOf a b 1) (1, ⟨lt, la, lh, ln⟩) (w2.alloc (.cells #[.int .i64 lt, .int .i64 la, .int .i64 lh, .string ln] 23)) (hJ' H0.out B3) H.out.2.2.2; dsimp only [encL, labV, labC] at hy; have K3 := Lib.hid B3; clear B3))
            refine hR.mono ?_
            rintro e w4 (⟨rfl, hJ4, hk4⟩ | ⟨rfl, hJ4⟩)
            · gi_wp2
              exact ⟨⟨2, by omega, rfl, by rw [H.out.2.2.1]; exact hJ4⟩, by simp [intOf]⟩
            · gi_wp2
              refine bodyPost_ret (results_none rfl _ _ _) rfl ?_
              exact ⟨⟨_, rfl⟩, .inr ⟨_, trivial, hJ4⟩⟩
          · have hp : preOf a b 2 = preOf a b 1 := by show labs1 a 0 ++ labs1 b 1 = labs1 a 0; rw [labs1_form e2]; exact List.append_nil _
            have q2 : ((Lb.parse (Sl.take b).1 (Sl.take b).2.1).2 == 0) = false := by simpa using e2
            rw [e1] at cT
            generalize (Lb.parse (Sl.take b).1 (Sl.take b).2.1).2 = E2 at *
            generalize (Lb.parse (Sl.take b).1 (Sl.take b).2.1).1 = L at *
            generalize (Sl.take b).2.1 = S1 at *
            generalize (Sl.take b).1 = N1 at *
            have H := Lib.hid (And.intro cT (And.intro cP hp))
            clear cT cP hp e1 e2
            obtain ⟨lt, la, lh, ln⟩ := L
            gi_wp2_with (first | (refine ⟨trivial, ?_⟩; gi_at_call 81; refine (callsIn_wide.2 (H.out.1 _)).mono ?_; rintro e w1 ⟨rfl, hb1⟩; have B1 := Lib.hid hb1; clear hb1) | (refine ⟨trivial, ?_⟩; gi_at_call 11; refine (callsIn_wide.2 (H.out.2.1 _)).mono ?_; rintro e w2 ⟨rfl, hb2⟩; have B2 := Lib.hid (B1.out.trans (hb2.mono B1.out.size)); clear hb2))
            refine ⟨fun _ h => (by cases h), ?_⟩
            gi_wp2
            have B3 := B2.out.trans ((lab_box ⟨lt, la, lh, ln⟩ w2).1.mono B2.out.size)
            exact ⟨⟨2, by omega, rfl, by rw [H.out.2.2]; exact hJ' H0.out B3⟩, by simp [intOf]⟩
        · have hp : preOf a b 2 = preOf a b 1 := by show labs1 a 0 ++ labs1 b 1 = labs1 a 0; rw [labs1_bad e1]; exact List.append_nil _
          have q1 : ((Sl.take b).2.2 != 0) = true := by simpa using e1
          generalize (Sl.take b).2.2 = E1 at *
          generalize (Sl.take b).2.1 = S1 at *
          generalize (Sl.take b).1 = N1 at *
          have H := Lib.hid (And.intro cT hp)
          clear cT hp e1
          gi_wp2_with (refine ⟨trivial, ?_⟩; gi_at_call 81; refine (callsIn_wide.2 (H.out.1 _)).mono ?_; rintro e w1 ⟨rfl, hb1⟩; have B1 := Lib.hid hb1; clear hb1)
          exact ⟨⟨2, by omega, rfl, by rw [H.out.2]; exact hJ' H0.out B1.out⟩, by simp [intOf]⟩
      · obtain rfl : k = 2 := by omega
        gi_wp2
        go_end0
        exact ⟨⟨_, rfl⟩, .inl ⟨_, rfl, H0.out⟩⟩
end Go.Proofs.Ytedemehlccmkpaa

/-
  Layer 5: what the document's Take answers; the document's example.
-/
namespace Go.Proofs.Ytedemehlccmkpaa
open Go.RowKit

set_option maxRecDepth 100000 in
set_option maxHeartbeats 4000000 in
theorem rtake5_any (b : ByteArray) (hb : b.size ≤ maxLen) (w : World) :
    Calls Try.prog 86 #[.string b] w fun e w' => e = .returned (.tuple #[.int .i64 (Sl.take b).1, .string (Sl.take b).2.1, .int .i64 (Sl.take b).2.2]) ∧ Below w.heap.size w w' := by
  have ch := fun w => rhalves_any b hb w
  by_cases h1 : b.size = 512
  · have e : Sl.halves b = (Sl.one b, Sl.two b) := by unfold Sl.halves; rw [if_pos h1]
    rw [e] at ch
    have ce := fun w => zeros_any 512 (by omega) w
    have ez : Sl.zer 512 = Sl.zeros := rfl
    have ei : ((512 : Nat) : Int) = 512 := rfl
    rw [ez, ei] at ce
    have t1 : ((b.size : Int) != 512) = false := by rw [h1]; rfl
    by_cases h2 : b = Sl.zeros
    · rw [Sl.take_none h1 h2]
      rw [← h2] at ce
      have H := Lib.hid (And.intro ch ce)
      clear ch ce h2 e ez ei
      generalize Sl.one b = X at H
      generalize Sl.two b = Y at H
      go_enter Try.func86, Try.ntmps86
      go_wp2_with fail
      refine (H.out.1 _).mono ?_
      rintro e _ ⟨rfl, nq, rfl⟩
      go_wp2_with fail
      refine (H.out.2 _).mono ?_
      rintro e w2 ⟨rfl, hb2⟩
      have HB := Lib.hid (below_two (below_drewN (Below.refl _ _) nq) hb2); clear hb2
      go_wp2_with fail
      go_ret3
      exact ⟨rfl, HB.out⟩
    · have q1 : ¬ b.toList = Sl.zeros.toList := str_neq h2
      have q2 := str_beq q1
      generalize Sl.zeros = Z at q1 q2 ce
      by_cases h3 : Sl.one b = Sl.two b
      · rw [← h3] at ch
        have zl : (b.extract 8 10).size ≤ maxLen := by rw [ByteArray.size_extract]; unfold maxLen; omega
        have cl := fun w => roread_any (b.extract 8 10) w zl
        have el : Oct.rd (b.extract 8 10) = Sl.len b := rfl
        rw [el] at cl
        have t8 : (10 : Int) ≤ (b.size : Int) := by omega
        by_cases h5 : Sl.len b ≤ 490
        · obtain ⟨n, hn⟩ : ∃ n : Nat, Sl.len b = (n : Int) := ⟨_, (Int.toNat_of_nonneg (Sl.len_bound b).1).symm⟩
          have hnn : (Sl.len b).toNat = n := by rw [hn, Int.toNat_natCast]
          have z1 : (b.extract 10 256).size = 246 := by rw [ByteArray.size_extract]; omega
          have z2 : (b.extract 264 508).size = 244 := by rw [ByteArray.size_extract]; omega
          have zt : ((b.extract 10 256 ++ b.extract 264 508).extract 0 n).size ≤ maxLen := by rw [ByteArray.size_extract]; unfold maxLen; omega
          have cp := fun w => rput5_any (Sl.one b) ((b.extract 10 256 ++ b.extract 264 508).extract 0 n) zt w
          have et : Sl.take b = if Sl.putE (Sl.one b) ((b.extract 10 256 ++ b.extract 264 508).extract 0 n) = 0 ∧ Sl.putB (Sl.one b) ((b.extract 10 256 ++ b.extract 264 508).extract 0 n) = b then (Sl.one b, (b.extract 10 256 ++ b.extract 264 508).extract 0 n, 0) else (0, ByteArray.empty, 9) := by
            unfold Sl.take
            rw [if_neg (by omega), if_neg h2, if_neg (by simp [h3]), if_neg (by omega), hnn]; rfl
          rw [et]
          have n490 : n ≤ 490 := by omega
          rw [hn] at cl
          have t9 : ¬ (490 : Int) < (n : Int) := by omega
          have ta : (508 : Int) ≤ (b.size : Int) := by omega
          have tb : (256 : Int) ≤ (b.size : Int) := by omega
          generalize Sl.putB (Sl.one b) ((b.extract 10 256 ++ b.extract 264 508).extract 0 n) = P at *
          generalize Sl.putE (Sl.one b) ((b.extract 10 256 ++ b.extract 264 508).extract 0 n) = E at *
          generalize Sl.one b = X at *
          clear h3 et zt hn hnn el e h5 h2 ez ei
          by_cases h6 : E = 0
          · by_cases h7 : P = b
            · rw [if_pos ⟨h6, h7⟩]
              subst h6
              rw [h7] at cp
              clear h7
              have H := Lib.hid (And.intro ch (And.intro ce (And.intro cl cp)))
              clear ch ce cl cp
              go_enter Try.func86, Try.ntmps86
              go_wp2_with fail
              refine (H.out.1 _).mono ?_
              rintro e _ ⟨rfl, nq, rfl⟩
              go_wp2_with fail
              refine (H.out.2.1 _).mono ?_
              rintro e w2 ⟨rfl, hb2⟩
              have H2 := Lib.hid (below_two (below_drewN (Below.refl _ _) nq) hb2); clear hb2
              go_wp2_with fail
              refine (H.out.2.2.1 _).mono ?_
              rintro e _ ⟨rfl, rfl⟩
              go_wp2_with fail
              go_quiet (fail)
              go_wp2_with fail
              refine (H.out.2.2.2 _).mono ?_
              rintro e w3 ⟨rfl, hb3⟩
              have H3 := Lib.hid (below_two H2.out (below_two (below_drewN (Below.refl _ _) _) hb3)); clear hb3 H2
              go_wp2_with fail
              go_quiet (fail)
              go_wp2_with fail
              go_ret3
              exact ⟨rfl, H3.out.trans (below_drewN (Below.refl _ _) _)⟩
            · rw [if_neg (fun hh => h7 hh.2)]
              subst h6
              have q3 : ¬ P.toList = b.toList := str_neq h7
              have q4 := str_beq q3
              clear h7
              have H := Lib.hid (And.intro ch (And.intro ce (And.intro cl cp)))
              clear ch ce cl cp
              go_enter Try.func86, Try.ntmps86
              go_wp2_with fail
              refine (H.out.1 _).mono ?_
              rintro e _ ⟨rfl, nq, rfl⟩
              go_wp2_with fail
              refine (H.out.2.1 _).mono ?_
              rintro e w2 ⟨rfl, hb2⟩
              have H2 := Lib.hid (below_two (below_drewN (Below.refl _ _) nq) hb2); clear hb2
              go_wp2_with fail
              refine (H.out.2.2.1 _).mono ?_
              rintro e _ ⟨rfl, rfl⟩
              go_wp2_with fail
              go_quiet (fail)
              go_wp2_with fail
              refine (H.out.2.2.2 _).mono ?_
              rintro e w3 ⟨rfl, hb3⟩
              have H3 := Lib.hid (below_two H2.out (below_two (below_drewN (Below.refl _ _) _) hb3)); clear hb3 H2
              go_wp2_with fail
              go_ret3
              exact ⟨rfl, H3.out⟩
          · rw [if_neg (fun hh => h6 hh.1)]
            have q3 : (E != 0) = true := by simpa using h6
            clear h6
            have H := Lib.hid (And.intro ch (And.intro ce (And.intro cl cp)))
            clear ch ce cl cp
            go_enter Try.func86, Try.ntmps86
            go_wp2_with fail
            refine (H.out.1 _).mono ?_
            rintro e _ ⟨rfl, nq, rfl⟩
            go_wp2_with fail
            refine (H.out.2.1 _).mono ?_
            rintro e w2 ⟨rfl, hb2⟩
            have H2 := Lib.hid (below_two (below_drewN (Below.refl _ _) nq) hb2); clear hb2
            go_wp2_with fail
            refine (H.out.2.2.1 _).mono ?_
            rintro e _ ⟨rfl, rfl⟩
            go_wp2_with fail
            go_quiet (fail)
            go_wp2_with fail
            refine (H.out.2.2.2 _).mono ?_
            rintro e w3 ⟨rfl, hb3⟩
            have H3 := Lib.hid (below_two H2.out (below_two (below_drewN (Below.refl _ _) _) hb3)); clear hb3 H2
            go_wp2_with fail
            go_ret3
            exact ⟨rfl, H3.out⟩
        · have et : Sl.take b = (0, ByteArray.empty, 9) := by
            unfold Sl.take
            rw [if_neg (by omega), if_neg h2, if_neg (by simp [h3]), if_pos (by omega)]
          rw [et]
          have t3 : 490 < Sl.len b := by omega
          clear h2 h3 h5 e et el zl ez ei
          generalize Sl.one b = X at *
          generalize Sl.len b = L at *
          have H := Lib.hid (And.intro ch (And.intro ce cl))
          clear ch ce cl
          go_enter Try.func86, Try.ntmps86
          go_wp2_with fail
          refine (H.out.1 _).mono ?_
          rintro e _ ⟨rfl, nq, rfl⟩
          go_wp2_with fail
          refine (H.out.2.1 _).mono ?_
          rintro e w2 ⟨rfl, hb2⟩
          have H2 := Lib.hid (below_two (below_drewN (Below.refl _ _) nq) hb2); clear hb2
          go_wp2_with fail
          refine (H.out.2.2 _).mono ?_
          rintro e _ ⟨rfl, rfl⟩
          go_wp2_with fail
          go_ret3
          exact ⟨rfl, H2.out⟩
      · rw [Sl.take_torn h1 h3]
        have t2 : (Sl.one b != Sl.two b) = true := by simpa using h3
        clear h2 e ez ei
        generalize Sl.one b = X at *
        generalize Sl.two b = Y at *
        have H := Lib.hid (And.intro ch ce)
        clear ch ce
        go_enter Try.func86, Try.ntmps86
        go_wp2_with fail
        refine (H.out.1 _).mono ?_
        rintro e _ ⟨rfl, nq, rfl⟩
        go_wp2_with fail
        refine (H.out.2 _).mono ?_
        rintro e w2 ⟨rfl, hb2⟩
        have H2 := Lib.hid (below_two (below_drewN (Below.refl _ _) nq) hb2); clear hb2
        go_wp2_with fail
        go_ret3
        exact ⟨rfl, H2.out⟩
  · rw [Sl.take_form h1]
    have t1 : ((b.size : Int) != 512) = true := by simpa using (by omega : ¬ (b.size : Int) = 512)
    generalize (Sl.halves b).1 = X at ch
    generalize (Sl.halves b).2 = Y at ch
    have H := Lib.hid ch
    clear ch
    go_enter Try.func86, Try.ntmps86
    go_wp2_with fail
    refine (H.out _).mono ?_
    rintro e _ ⟨rfl, nq, rfl⟩
    go_wp2_with fail
    go_ret3
    exact ⟨rfl, below_drewN (Below.refl _ _) nq⟩
end Go.Proofs.Ytedemehlccmkpaa

/-
  Layer 6: the closure that keeps the greater label; what fresh tells; the labels' function.
-/
namespace Go.Proofs.Ytedemehlccmkpaa
open Go.RowKit Go.Shelf
theorem rowV_drew {w : World} {g T : Nat} {l : List Value} (h : RowV w g T l) : RowV w.drew g T l := h
/-- the greater one of labels, and its block -/
def best1 (s : Lb.Label × Int) (x : Int × Lb.Label) : Lb.Label × Int := if s.1.turn < x.2.turn then (x.2, x.1) else s
def best (l : List (Int × Lb.Label)) : Lb.Label × Int := l.foldl best1 (Lb.no, -1)
theorem best_snoc (l : List (Int × Lb.Label)) (x : Int × Lb.Label) : best (l ++ [x]) = best1 (best l) x := by unfold best; rw [List.foldl_append]; rfl
theorem best_labs (a b : ByteArray) : best (labs a b) = Lb.pick a b := by
  unfold labs labs1 Lb.pick
  have h0 : ∀ x : Lb.Label, 1 ≤ x.turn → Lb.no.turn < x.turn := fun x h => by show (0 : Int) < _; omega
  cases ha : Lb.ofB a with
  | none => cases hb : Lb.ofB b with
    | none => rfl
    | some y =>
      show best1 (Lb.no, -1) (1, y) = (y, 1)
      exact if_pos (h0 _ (Lb.ofB_turn hb).2.1)
  | some x =>
    have e1 : best1 (Lb.no, -1) (0, x) = (x, 0) := if_pos (h0 _ (Lb.ofB_turn ha).2.1)
    cases hb : Lb.ofB b with
    | none => exact e1
    | some y =>
      show best1 (best1 (Lb.no, -1) (0, x)) (1, y) = (if x.turn < y.turn then (y, 1) else (x, 0))
      rw [e1]; rfl
set_option maxRecDepth 100000 in
set_option maxHeartbeats 1600000 in
theorem keep6_any (i at_ : Int) (l cur : Lb.Label) (L A : Nat) (w : World) (hL : RowV w L 23 (labC cur).toList) (hA : RowV w A 3 [.int .i64 at_]) (hn : L ≠ A) :
    Calls Try.prog 68 #[.int .i64 i, labV l, .pointer (some ⟨L, 0, none⟩), .pointer (some ⟨A, 0, none⟩)] w fun e w' =>
      e = .returned (.tuple #[]) ∧ RowV w' L 23 (labC (best1 (cur, at_) (i, l)).1).toList ∧ RowV w' A 3 [.int .i64 (best1 (cur, at_) (i, l)).2] ∧ Only (fun k => k = L ∨ k = A) w w' := by
  obtain ⟨hb, hlt, hrow⟩ := lab_box l w
  have lL := rowV_lt hL
  have lA := rowV_lt hA
  obtain ⟨c0, c1, c2, c3, d0, d1, d2, d3, hL1⟩ := lab_below hL hb lL
  have hA1 := rowV_below hA hb lA
  have a0 := rowV_cell hA1 0
  have b0 := rowV_frozen hA1 0
  have ho : Only (fun k => k = L ∨ k = A) w (w.alloc (.cells (labC l) 23)) := Only.of_none hb
  by_cases h : cur.turn < l.turn
  · have e : best1 (cur, at_) (i, l) = (l, i) := if_pos h
    rw [e]
    have t1 : l.turn > cur.turn := h
    have b5 : ∀ j, (w.alloc (.cells (labC l) 23)).cell? ⟨w.heap.size, j, none⟩ = (labC l).toList[j]? := rowV_cell hrow
    have e0 := b5 0
    have e1 := b5 1
    have e2 := b5 2
    have e3 := b5 3
    have hnA : w.heap.size ≠ A := by omega
    have hnL : w.heap.size ≠ L := by omega
    have H := Lib.hid (And.intro hL1 (And.intro hA1 (And.intro ho hrow)))
    clear hb hL hA ho hL1 hA1 hrow e b5 h
    obtain ⟨t, a, hh, nn⟩ := l
    obtain ⟨t', a', hh', nn'⟩ := cur
    simp only [labC, List.getElem?_cons_zero, List.getElem?_cons_succ] at e0 e1 e2 e3 c0 c1 c2 c3
    go_enter Try.func68, Try.ntmps68
    go_wp2_with fail
    generalize hwa : World.alloc _ _ = w1 at *
    generalize hN : w.heap.size = N at *
    go_region
    go_end0
    have f0 := rowV_far (i := 0) H.out.1 hn (.int .i64 i)
    have f1 := rowV_stored H.out.2.1 0 (.int .i64 i)
    have f2 := rowV_far (i := 3) (rowV_far (i := 2) (rowV_far (i := 1) (rowV_far (i := 0) f1 hn.symm (.int .i64 t)) hn.symm (.int .i64 a)) hn.symm (.int .i64 hh)) hn.symm (.string nn)
    exact ⟨rfl, rowV_drew (lab_put (l := ⟨t', a', hh', nn'⟩) f0 t a hh nn).1, rowV_drew f2, (((((H.out.2.2.1.setCell (g := A) (i := 0) (fun _ => .inr rfl) _).setCell (g := L) (i := 0) (fun _ => .inl rfl) _).setCell (g := L) (i := 1) (fun _ => .inl rfl) _).setCell (g := L) (i := 2) (fun _ => .inl rfl) _).setCell (g := L) (i := 3) (fun _ => .inl rfl) _).drew⟩
  · have e : best1 (cur, at_) (i, l) = (cur, at_) := if_neg h
    rw [e]
    have t1 : ¬ l.turn > cur.turn := h
    have H := Lib.hid (And.intro hL1 (And.intro hA1 ho))
    clear hb hL hA ho hL1 hA1 hrow e h
    obtain ⟨t, a, hh, nn⟩ := l
    obtain ⟨t', a', hh', nn'⟩ := cur
    go_enter Try.func68, Try.ntmps68
    go_wp2_with fail
    go_end0
    exact ⟨rfl, H.out⟩
set_option maxRecDepth 100000 in
theorem labels6_any (a b : ByteArray) (w : World) :
    Calls Try.prog 69 #[.agg #[.string a, .string b]] w fun e w' => e = .returned (.func (.func 80) #[] #[.pointer (some ⟨w.heap.size, 0, none⟩)]) ∧ w' = w.alloc (.cells #[.string a, .string b] 103) := by
  go_enter Try.func69, Try.ntmps69
  go_wp2_with fail
  go_ret
  exact ⟨rfl, rfl⟩
theorem take_none6 (b : ByteArray) : (Sl.take b).2.2 = 6 ↔ b = Sl.zeros := by
  constructor
  · intro h
    by_cases h1 : b.size = 512
    · by_cases h2 : b = Sl.zeros
      · exact h2
      · exfalso
        unfold Sl.take at h
        rw [if_neg (by omega), if_neg h2] at h
        repeat' split at h
        all_goals first | exact absurd (show (0 : Int) = 6 from h) (by decide) | exact absurd (show (9 : Int) = 6 from h) (by decide) | exact absurd (show (10 : Int) = 6 from h) (by decide)
    · rw [Sl.take_form h1] at h; exact absurd h (by decide)
  · intro h
    rw [Sl.take_none (by rw [h]; exact Sl.zeros_size) h]
set_option maxRecDepth 100000 in
set_option maxHeartbeats 1600000 in
theorem fresh6_any (a b : ByteArray) (ha : a.size ≤ maxLen) (hb : b.size ≤ maxLen) (w : World) :
    Calls Try.prog 70 #[.agg #[.string a, .string b]] w fun e w' => e = .returned (.bool (decide (a = Sl.zeros ∨ b = Sl.zeros))) ∧ Below w.heap.size w w' := by
  have x := index_pair a b
  have cA := fun w => take5_any a ha w
  have cB := fun w => take5_any b hb w
  have nA := take_none6 a
  have nB := take_none6 b
  generalize (Sl.take a).1 = N1 at *
  generalize (Sl.take a).2.1 = S1 at *
  generalize (Sl.take a).2.2 = E1 at *
  generalize (Sl.take b).1 = N2 at *
  generalize (Sl.take b).2.1 = S2 at *
  generalize (Sl.take b).2.2 = E2 at *
  obtain ⟨x0, x1⟩ := x
  have hB0 : Below w.heap.size w (w.alloc (.cells #[.string a, .string b] 103)) := (Below.refl w.heap.size w).alloc (Nat.le_refl _) _
  generalize hR : decide (a = Sl.zeros ∨ b = Sl.zeros) = R
  have HR := Lib.hid hR
  clear hR
  have HC := Lib.hid (And.intro cA cB)
  have HN := Lib.hid (And.intro nA nB)
  have HB0 := Lib.hid hB0
  clear cA cB nA nB hB0
  go_enter Try.func70, Try.ntmps70
  go_wp2_with fail
  go_loopw [9] (fun i wr => ∃ k : Nat, k ≤ 2 ∧ i = .int .i64 (k : Int) ∧ (1 ≤ k → E1 ≠ 6) ∧ (2 ≤ k → E2 ≠ 6) ∧ Below w.heap.size w wr) (fun i _ => 2 - (intOf i).toNat)
  case atStart => exact ⟨0, Nat.zero_le _, rfl, fun h => absurd h (by omega), fun h => absurd h (by omega), HB0.out⟩
  case round =>
    obtain ⟨k, hk, rfl, hE1, hE2, hbw⟩ := hrel
    have HK := Lib.hid hbw
    clear hbw
    by_cases hk0 : k = 0
    · subst hk0
      by_cases e1 : E1 = 6
      · subst e1
        go_wp2_with fail
        refine (HC.out.1 _).mono ?_
        rintro e w1 ⟨rfl, hb1⟩
        have B1 := Lib.hid (HK.out.trans (hb1.mono HK.out.size))
        clear hb1
        go_wp2_with fail
        go_ret
        exact ⟨ret_bool (by rw [← HR.out]; exact (decide_eq_true (Or.inl (HN.out.1.1 (by first | exact trivial | rfl)))).symm), B1.out⟩
      · have q : (E1 == 6) = false := by rw [beq_eq_false_iff_ne]; exact e1
        go_wp2_with fail
        refine (HC.out.1 _).mono ?_
        rintro e w1 ⟨rfl, hb1⟩
        have B1 := Lib.hid (HK.out.trans (hb1.mono HK.out.size))
        clear hb1
        go_wp2_with fail
        exact ⟨⟨1, by omega, rfl, fun _ => e1, fun _ => by omega, B1.out⟩, by simp [intOf]⟩
    · by_cases hk1 : k = 1
      · subst hk1
        by_cases e2 : E2 = 6
        · subst e2
          go_wp2_with fail
          refine (HC.out.2 _).mono ?_
          rintro e w1 ⟨rfl, hb1⟩
          have B1 := Lib.hid (HK.out.trans (hb1.mono HK.out.size))
          clear hb1
          go_wp2_with fail
          go_ret
          exact ⟨ret_bool (by rw [← HR.out]; exact (decide_eq_true (Or.inr (HN.out.2.1 (by first | exact trivial | rfl)))).symm), B1.out⟩
        · have q : (E2 == 6) = false := by rw [beq_eq_false_iff_ne]; exact e2
          go_wp2_with fail
          refine (HC.out.2 _).mono ?_
          rintro e w1 ⟨rfl, hb1⟩
          have B1 := Lib.hid (HK.out.trans (hb1.mono HK.out.size))
          clear hb1
          go_wp2_with fail
          exact ⟨⟨2, by omega, rfl, fun _ => hE1 (by omega), fun _ => e2, B1.out⟩, by simp [intOf]⟩
      · obtain rfl : k = 2 := by omega
        have e1 := hE1 (by omega)
        have e2 := hE2 (by omega)
        go_wp2_with fail
        go_ret
        exact ⟨ret_bool (by rw [← HR.out]; exact (decide_eq_false (fun h => Or.elim h (fun h => e1 (HN.out.1.2 h)) fun h => e2 (HN.out.2.2 h))).symm), HK.out⟩
end Go.Proofs.Ytedemehlccmkpaa

/-
  Layer 6: which label was written last: the range over the labels' function.
-/
namespace Go.Proofs.Ytedemehlccmkpaa
open Go.RowKit Go.Shelf
attribute [local go_sem] Oper.semAt_some
theorem rowV_own {β : Type} (g T : Nat) (f : β → List Value) : Own (fun s W => RowV W g T (f s)) := fun s X Y row hs hg hr => by
  have hs : RowV X g T (f s) := hs
  refine (hg.block g (rowV_lt hs) fun e => ?_).trans hs
  obtain ⟨o, ho, hc⟩ := hr g e.symm
  rw [show X.heap[g]? = _ from hs] at ho; cases ho; cases hc
/-- what turns at most two blocks of cells keeps all that is none -/
theorem keeps_two {w w' : World} {L A T T' : Nat} {l l' : List Value} (ho : Only (fun k => k = L ∨ k = A) w w') (hL : RowV w L T l) (hA : RowV w A T' l') : KeepsOthers w w' :=
  ⟨ho.size, fun k o hk hc => (ho.block k (Array.getElem?_eq_some_iff.1 hk).1 fun e => by
    rcases e with rfl | rfl
    · rw [show w.heap[k]? = _ from hL] at hk; cases hk; cases hc
    · rw [show w.heap[k]? = _ from hA] at hk; cases hk; cases hc).trans hk⟩
theorem results_lab3 {fn : Func} {s p u : Tmp} (h : fn.results = #[.tmp s, .cell p 23, .tmp u]) (tmps : Array Value) (w : World) (g : Nat) (l : Lb.Label)
    (hp : tmps.getD p undef = .pointer (some ⟨g, 0, none⟩)) (hg : RowV w g 23 (labC l).toList) :
    (results fn tmps).run Try.prog w = .ok (.tuple #[tmps.getD s undef, labV l, tmps.getD u undef]) w := by
  have hl := run_loadVar_row (P := Try.prog) w g 23 23 (labC l) (0, 0) _ hg Try.underlying23 rfl info_lab
  have hp' : tmps[p]?.getD undef = .pointer (some ⟨g, 0, none⟩) := by simpa using hp
  simp [results, h, Result.andThen, asAddr, hp', hl]
theorem stops6 (n : Nat) (hn : 1 ≤ n) (Bn n₀ : Nat) (a b : ByteArray) (ha : a.size ≤ maxLen) (hb : b.size ≤ maxLen) (w : World) (hlt : Bn < w.heap.size) (h : RowV w Bn 103 [.string a, .string b]) :
    SeqStopsK Fence.wide n Try.prog 80 #[.pointer (some ⟨Bn, 0, none⟩)] encL (Below n₀) (fun ys => ys = labs a b) (fun _ => True) 2 w := fun l J Jx W hW hJ _ hY h0 =>
  iter6_in n hn l Bn n₀ a b ha hb J Jx hY W hJ ((hW.cell (p := ⟨Bn, 0, none⟩) hlt).trans (rowV_cell h 0)) ((hW.cell (p := ⟨Bn, 1, none⟩) hlt).trans (rowV_cell h 1)) h0
/-- six boxes behind one another -/
theorem six_boxes (w : World) (l0 l1 l2 l3 l4 l5 : List Value) (T0 T1 T2 T3 T4 T5 : Nat) (W0 : World)
    (h : (((((w.alloc (.cells l0.toArray T0)).alloc (.cells l1.toArray T1)).alloc (.cells l2.toArray T2)).alloc (.cells l3.toArray T3)).alloc (.cells l4.toArray T4)).alloc (.cells l5.toArray T5) = W0) :
    RowV W0 w.heap.size T0 l0 ∧ RowV W0 (w.heap.size + 1) T1 l1 ∧ RowV W0 (w.heap.size + 1 + 1) T2 l2 ∧ RowV W0 (w.heap.size + 1 + 1 + 1) T3 l3 ∧ RowV W0 (w.heap.size + 1 + 1 + 1 + 1) T4 l4 ∧ RowV W0 (w.heap.size + 1 + 1 + 1 + 1 + 1) T5 l5 ∧
    Below w.heap.size w W0 ∧ W0.heap.size = w.heap.size + 1 + 1 + 1 + 1 + 1 + 1 := by
  have r0 := rowV_new w T0 l0
  have b0 : Below w.heap.size w (w.alloc (.cells l0.toArray T0)) := (Below.refl w.heap.size w).alloc (Nat.le_refl _) _
  have s0 : (w.alloc (.cells l0.toArray T0)).heap.size = w.heap.size + 1 := by simp
  generalize w.alloc (.cells l0.toArray T0) = w0 at *
  have r1 := rowV_new w0 T1 l1
  have s1 : (w0.alloc (.cells l1.toArray T1)).heap.size = w.heap.size + 1 + 1 := by rw [World.size_alloc, s0]
  have b1 : Below w.heap.size w (w0.alloc (.cells l1.toArray T1)) := b0.alloc (by omega) _
  have q1 := rowV_alloc r0 (.cells l1.toArray T1)
  rw [s0] at r1
  generalize w0.alloc (.cells l1.toArray T1) = w1 at *
  have r2 := rowV_new w1 T2 l2
  have s2 : (w1.alloc (.cells l2.toArray T2)).heap.size = w.heap.size + 1 + 1 + 1 := by rw [World.size_alloc, s1]
  have b2 : Below w.heap.size w (w1.alloc (.cells l2.toArray T2)) := b1.alloc (by omega) _
  have q2 := rowV_alloc q1 (.cells l2.toArray T2)
  have q3 := rowV_alloc r1 (.cells l2.toArray T2)
  rw [s1] at r2
  generalize w1.alloc (.cells l2.toArray T2) = w2 at *
  have r3 := rowV_new w2 T3 l3
  have s3 : (w2.alloc (.cells l3.toArray T3)).heap.size = w.heap.size + 1 + 1 + 1 + 1 := by rw [World.size_alloc, s2]
  have b3 : Below w.heap.size w (w2.alloc (.cells l3.toArray T3)) := b2.alloc (by omega) _
  have q4 := rowV_alloc q2 (.cells l3.toArray T3)
  have q5 := rowV_alloc q3 (.cells l3.toArray T3)
  have q6 := rowV_alloc r2 (.cells l3.toArray T3)
  rw [s2] at r3
  generalize w2.alloc (.cells l3.toArray T3) = w3 at *
  have r4 := rowV_new w3 T4 l4
  have s4 : (w3.alloc (.cells l4.toArray T4)).heap.size = w.heap.size + 1 + 1 + 1 + 1 + 1 := by rw [World.size_alloc, s3]
  have b4 : Below w.heap.size w (w3.alloc (.cells l4.toArray T4)) := b3.alloc (by omega) _
  have q7 := rowV_alloc q4 (.cells l4.toArray T4)
  have q8 := rowV_alloc q5 (.cells l4.toArray T4)
  have q9 := rowV_alloc q6 (.cells l4.toArray T4)
  have q10 := rowV_alloc r3 (.cells l4.toArray T4)
  rw [s3] at r4
  generalize w3.alloc (.cells l4.toArray T4) = w4 at *
  have r5 := rowV_new w4 T5 l5
  rw [s4] at r5
  rw [← h]
  exact ⟨rowV_alloc q7 _, rowV_alloc q8 _, rowV_alloc q9 _, rowV_alloc q10 _, rowV_alloc r4 _, r5, b4.alloc (by omega) _, by rw [World.size_alloc, s4]⟩
theorem rowV_putObj {W : World} {g T D : Nat} {l : List Value} {o : Obj} (h : RowV W g T l) (hD : W.heap[D]? = some o) (ho : o.isCells = false) (o' : Obj) : RowV (W.putObj D o') g T l :=
  (rowV_own g T (fun (_ : Unit) => l)).putObj (s := ()) o' h hD ho
/-- the result's box behind the last store and the taking up of what was deferred -/
theorem last_end {w W : World} {N D : Nat} {l0 : Lb.Label} (hN : w.heap.size = N) (hD : N ≤ D) (hK : W.heap[D]? = some (.deferred (some []))) (hR : RowV W (N + 1) 23 (labC l0).toList) (hB : Below N w W) (t a h : Int) (n : ByteArray) :
    (((((W.setCell ⟨N + 1, 0, none⟩ (.int .i64 t)).setCell ⟨N + 1, 1, none⟩ (.int .i64 a)).setCell ⟨N + 1, 2, none⟩ (.int .i64 h)).setCell ⟨N + 1, 3, none⟩ (.string n)).heap[D]? = some (.deferred (some []))) ∧
    RowV (((((W.setCell ⟨N + 1, 0, none⟩ (.int .i64 t)).setCell ⟨N + 1, 1, none⟩ (.int .i64 a)).setCell ⟨N + 1, 2, none⟩ (.int .i64 h)).setCell ⟨N + 1, 3, none⟩ (.string n)).putObj D (.deferred none)) (N + 1) 23 (labC ⟨t, a, h, n⟩).toList ∧
    Below N w (((((W.setCell ⟨N + 1, 0, none⟩ (.int .i64 t)).setCell ⟨N + 1, 1, none⟩ (.int .i64 a)).setCell ⟨N + 1, 2, none⟩ (.int .i64 h)).setCell ⟨N + 1, 3, none⟩ (.string n)).putObj D (.deferred none)) := by
  have hne : D ≠ N + 1 := fun e => by subst e; rw [show W.heap[N + 1]? = _ from hR] at hK; cases hK
  have k1 : (((((W.setCell ⟨N + 1, 0, none⟩ (.int .i64 t)).setCell ⟨N + 1, 1, none⟩ (.int .i64 a)).setCell ⟨N + 1, 2, none⟩ (.int .i64 h)).setCell ⟨N + 1, 3, none⟩ (.string n)).heap[D]? = some (.deferred (some []))) := by
    rw [Below.heap_setCell _ _ _ _ hne, Below.heap_setCell _ _ _ _ hne, Below.heap_setCell _ _ _ _ hne, Below.heap_setCell _ _ _ _ hne]; exact hK
  obtain ⟨k2, k3⟩ := lab_put hR t a h n
  exact ⟨k1, rowV_putObj k2 k1 rfl _, (hB.trans (k3 N (by omega))).trans (belowK_b (n₀ := N) (w := w) (by omega) _ D _ _ (by omega) k1 rfl rfl)⟩
theorem last_end_drew {w W : World} {N D : Nat} {l0 : Lb.Label} (hN : w.heap.size = N) (hD : N ≤ D) (hK : W.heap[D]? = some (.deferred (some []))) (hR : RowV W (N + 1) 23 (labC l0).toList) (hB : Below N w W) (t a h : Int) (n : ByteArray) :
    (((((W.setCell ⟨N + 1, 0, none⟩ (.int .i64 t)).setCell ⟨N + 1, 1, none⟩ (.int .i64 a)).setCell ⟨N + 1, 2, none⟩ (.int .i64 h)).setCell ⟨N + 1, 3, none⟩ (.string n)).drew.heap[D]? = some (.deferred (some []))) ∧
    RowV (((((W.setCell ⟨N + 1, 0, none⟩ (.int .i64 t)).setCell ⟨N + 1, 1, none⟩ (.int .i64 a)).setCell ⟨N + 1, 2, none⟩ (.int .i64 h)).setCell ⟨N + 1, 3, none⟩ (.string n)).drew.putObj D (.deferred none)) (N + 1) 23 (labC ⟨t, a, h, n⟩).toList ∧
    Below N w (((((W.setCell ⟨N + 1, 0, none⟩ (.int .i64 t)).setCell ⟨N + 1, 1, none⟩ (.int .i64 a)).setCell ⟨N + 1, 2, none⟩ (.int .i64 h)).setCell ⟨N + 1, 3, none⟩ (.string n)).drew.putObj D (.deferred none)) := by
  obtain ⟨k1, -, -⟩ := last_end hN hD hK hR hB t a h n
  obtain ⟨k2, k3⟩ := lab_put hR t a h n
  generalize ((((W.setCell ⟨N + 1, 0, none⟩ (.int .i64 t)).setCell ⟨N + 1, 1, none⟩ (.int .i64 a)).setCell ⟨N + 1, 2, none⟩ (.int .i64 h)).setCell ⟨N + 1, 3, none⟩ (.string n)) = Y at *
  have k4 : Y.drew.heap[D]? = some (.deferred (some [])) := k1
  exact ⟨k4, rowV_putObj (rowV_drew k2) k4 rfl _, ((hB.trans (k3 N (by omega))).drew).trans (belowK_b (n₀ := N) (w := w) (by omega) _ D _ _ (by omega) k4 rfl rfl)⟩
set_option maxRecDepth 100000 in
set_option maxHeartbeats 4000000 in
theorem last6_any (a b : ByteArray) (ha : a.size ≤ maxLen) (hb : b.size ≤ maxLen) (w : World) :
    Calls Try.prog 52 #[.agg #[.string a, .string b]] w fun e w' => e = .returned (.tuple #[.int .i64 (Lb.pick a b).2, labV (Lb.readAB a b).1, .int .i64 (Lb.readAB a b).2]) ∧ Below w.heap.size w w' := by
  have cL := fun w => labels6_any a b w
  have cF := fun w => fresh6_any a b ha hb w
  generalize hP : Lb.pick a b = P
  generalize hR : Lb.readAB a b = R
  have HP := Lib.hid (And.intro hP hR)
  clear hP hR
  have HC := Lib.hid (And.intro cL cF)
  clear cL cF
  have HS := Lib.hid (And.intro ha hb)
  clear ha hb
  refine (callsIn_wide (n := 6)).1 ?_
  refine callsIn_of_wp_marks Try.func52 rfl trivial ?_ rfl
  simp only [Try.ntmps52, List.size_toArray, List.length_cons, List.length_nil, Nat.reduceAdd, Nat.reduceSub, Array.replicate_succ, Array.replicate_zero, List.push_toArray, List.append_toArray, List.nil_append, List.cons_append]
  gi_wp2_with (refine ⟨trivial, ?_⟩; gi_at_call 69; refine (callsIn_wide.2 (HC.out.1 _)).mono ?_; rintro e w1 ⟨rfl, rfl⟩)
  obtain ⟨rP, rR, rA, rL, rK, rQ, hB0, hsz⟩ := six_boxes w [.string a, .string b] (labC Lb.no).toList [.int .i64 (-1)] (labC Lb.no).toList [.func (.func 68) #[] #[.pointer (some ⟨w.heap.size + 1 + 1 + 1, 0, none⟩), .pointer (some ⟨w.heap.size + 1 + 1, 0, none⟩)]] [.string a, .string b] 103 23 3 23 119 103 _ rfl
  obtain ⟨W0, hW0⟩ : ∃ W0, (((((w.alloc (.cells #[.string a, .string b] 103)).alloc (.cells #[.int .i64 0, .int .i64 0, .int .i64 0, .string ⟨#[]⟩] 23)).alloc (.cells #[.int .i64 (-1)] 3)).alloc (.cells #[.int .i64 0, .int .i64 0, .int .i64 0, .string ⟨#[]⟩] 23)).alloc (.cells #[.func (.func 68) #[] #[.pointer (some ⟨w.heap.size + 1 + 1 + 1, 0, none⟩), .pointer (some ⟨w.heap.size + 1 + 1, 0, none⟩)]] 119)).alloc (.cells #[.string a, .string b] 103) = W0 := ⟨_, rfl⟩
  have hW1 : (((((w.alloc (.cells [Value.string a, .string b].toArray 103)).alloc (.cells (labC Lb.no).toList.toArray 23)).alloc (.cells [Value.int .i64 (-1)].toArray 3)).alloc (.cells (labC Lb.no).toList.toArray 23)).alloc (.cells [Value.func (.func 68) #[] #[.pointer (some ⟨w.heap.size + 1 + 1 + 1, 0, none⟩), .pointer (some ⟨w.heap.size + 1 + 1, 0, none⟩)]].toArray 119)).alloc (.cells [Value.string a, .string b].toArray 103) = W0 := hW0
  rw [hW1] at rP rR rA rL rK rQ hB0 hsz
  rw [hW0]
  clear hW0 hW1
  generalize hN : w.heap.size = N at *
  refine wpIn_rangeFunc_ownH rfl (by omega) (gf := 80) (lb := #[.pointer (some ⟨N + 1 + 1 + 1 + 1 + 1, 0, none⟩)]) rfl trivial (enters_of Try.func80 (by kernel_rfl) rfl)
    (stops6 (6 - 1) (by omega) (N + 1 + 1 + 1 + 1 + 1) N a b HS.out.1 HS.out.2 W0 (by omega) rQ) belowK_t (belowK_b (by omega)) (Below.refl _ _) (fun _ => rfl)
    (fun pre W => ((RowV W (N + 1 + 1 + 1) 23 (labC (best pre).1).toList ∧ RowV W (N + 1 + 1) 3 [.int .i64 (best pre).2]) ∧ (RowV W (N + 1 + 1 + 1 + 1) 119 [.func (.func 68) #[] #[.pointer (some ⟨N + 1 + 1 + 1, 0, none⟩), .pointer (some ⟨N + 1 + 1, 0, none⟩)]] ∧ (RowV W (N + 1) 23 (labC Lb.no).toList ∧ RowV W N 103 [.string a, .string b]))) ∧ Below N w W)
    (fun _ _ _ => False)
    (OwnFrom.and (OwnFrom.and (OwnFrom.and (Own.from (rowV_own _ _ _) _) (Own.from (rowV_own _ _ _) _)) (OwnFrom.and (Own.from (rowV_own _ _ _) _) (OwnFrom.and (Own.from (rowV_own _ _ _) _) (Own.from (rowV_own _ _ _) _)))) (ownFrom_below (by omega) (by omega)))
    (fun _ _ _ _ _ hs _ _ => hs)
    ⟨⟨⟨rL, rA⟩, rK, rR, rP⟩, hB0⟩
    (fun x a' W => ∃ Bx, N + 1 + 1 + 1 + 1 < Bx ∧ RowV W Bx 23 (labC x.2).toList ∧ a' = { tmps := #[.agg #[.string a, .string b], .pointer (some ⟨N, 0, none⟩), .int .i64 0, .pointer (some ⟨N + 1, 0, none⟩), .int .i64 0, .pointer (some ⟨N + 1 + 1, 0, none⟩), .pointer (some ⟨N + 1 + 1 + 1, 0, none⟩), .pointer (some ⟨N + 1 + 1 + 1 + 1, 0, none⟩), .int .i64 x.1, .pointer (some ⟨Bx, 0, none⟩), .agg #[.int .i64 0, .int .i64 0, .int .i64 0, .string ⟨#[]⟩], .func (.func 68) #[] #[.pointer (some ⟨N + 1 + 1 + 1, 0, none⟩), .pointer (some ⟨N + 1 + 1, 0, none⟩)], .agg #[.string a, .string b], .func (.func 80) #[] #[.pointer (some ⟨N + 1 + 1 + 1 + 1 + 1, 0, none⟩)], .int .i64 x.1, labV x.2, undef, undef, undef, undef, undef, undef, undef, undef, undef, undef, undef, undef, undef, undef], defers := [] })
    (fun x a' _ X Y row hs hg hr => by obtain ⟨Bx, h1, h2, h3⟩ := hs; exact ⟨Bx, h1, rowV_own Bx 23 (fun (_ : Unit) => (labC x.2).toList) () X Y row h2 hg (fun r e => (hr r e).2), h3⟩)
    ?assign ?body ?done ?stop
  case assign =>
    rintro l pre ⟨xi, lt, la, lh, ln⟩ W K ⟨⟨⟨bL, bA⟩, bK, bR, bP⟩, hB1⟩ hK
    have hs1 : N ≤ W.heap.size := by have := hB1.size; omega
    gi_wp2
    exact hK _ _ ((KeepsOthers.alloc _ _).from _) ((Below.refl _ W).alloc hs1 _) ⟨⟨⟨rowV_alloc bL _, rowV_alloc bA _⟩, rowV_alloc bK _, rowV_alloc bR _, rowV_alloc bP _⟩, hB1.alloc hs1 _⟩ ⟨W.heap.size, rowV_lt bK, rowV_new W _ [_, _, _, _], rfl⟩
  case body =>
    rintro l pre ⟨xi, lt, la, lh, ln⟩ a' W _ _ ⟨⟨⟨bL, bA⟩, bK, bR, bP⟩, hB1⟩ ⟨Bx, hBx, bX, rfl⟩ _
    have hs1 : N ≤ W.heap.size := by have := hB1.size; omega
    have cK := rowV_cell bK 0
    have c0 := rowV_cell bX 0
    have c1 := rowV_cell bX 1
    have c2 := rowV_cell bX 2
    have c3 := rowV_cell bX 3
    simp only [List.getElem?_cons_zero, List.getElem?_cons_succ] at cK c0 c1 c2 c3
    have H := Lib.hid (And.intro bL (And.intro bA (And.intro bK (And.intro bR (And.intro bP hB1)))))
    clear bL bA bK bR bP hB1 bX
    gi_wp2_with (refine ⟨trivial, ?_⟩; gi_at_call 68; refine (CallsIn.inRound l (callsIn_wide.2 (keep6_any xi (best pre).2 ⟨lt, la, lh, ln⟩ (best pre).1 _ _ _ H.out.1 H.out.2.1 (by omega)))).mono ?_; rintro e w2 ⟨rfl, h1, h2, ho⟩)
    have hbo : Below N W w2 := ho.below (fun k _ hk => by omega) hs1
    exact ⟨(keeps_two ho H.out.1 H.out.2.1).from _, hbo, ⟨⟨by rw [best_snoc]; exact h1, by rw [best_snoc]; exact h2⟩, rowV_only H.out.2.2.1 ho (by omega), rowV_only H.out.2.2.2.1 ho (by omega), rowV_only H.out.2.2.2.2.1 ho (by omega)⟩, H.out.2.2.2.2.2.trans hbo⟩
  case done =>
    rintro D zs W hD rfl ⟨⟨⟨bL, bA⟩, bK, bR, bP⟩, hB1⟩ hK
    rw [best_labs, HP.out.1] at bL bA
    obtain ⟨⟨pt, pa, ph, pn⟩, pi⟩ := P
    have cA := rowV_cell bA 0
    have c0 := rowV_cell bL 0
    have c1 := rowV_cell bL 1
    have c2 := rowV_cell bL 2
    have c3 := rowV_cell bL 3
    have e0 := rowV_cell bR 0
    have e1 := rowV_cell bR 1
    have e2 := rowV_cell bR 2
    have e3 := rowV_cell bR 3
    have f0 := rowV_frozen bR 0
    have f1 := rowV_frozen bR 1
    have f2 := rowV_frozen bR 2
    have f3 := rowV_frozen bR 3
    have p0 := rowV_cell bP 0
    have p1 := rowV_cell bP 1
    simp only [List.getElem?_cons_zero, List.getElem?_cons_succ] at cA c0 c1 c2 c3 e0 e1 e2 e3 p0 p1
    have hsD : N ≤ D := by omega
    have H := Lib.hid (And.intro bR (And.intro bP (And.intro hB1 hsD)))
    clear bL bA bK bR bP hB1 hsD
    have hpi : pi = -1 ∨ 0 ≤ pi := by
      have := Lb.pick_at a b
      rw [HP.out.1] at this
      rcases this with ⟨h, _⟩ | ⟨h, _⟩ | ⟨h, _⟩
      · exact .inl h
      · exact .inr (by show 0 ≤ pi; have h : pi = 0 := h; omega)
      · exact .inr (by show 0 ≤ pi; have h : pi = 1 := h; omega)
    by_cases hp : 0 ≤ pi
    · have hR : R = (⟨pt, pa, ph, pn⟩, 0) := by rw [← HP.out.2]; unfold Lb.readAB; rw [HP.out.1]; exact if_pos hp
      have q1 : (pi != -1) = true := by simp; omega
      have HR := Lib.hid hR
      clear hR hpi hp
      gi_wp2
      gi_region
      gi_wp2
      obtain ⟨k1, k2, k3⟩ := last_end_drew hN H.out.2.2.2 hK H.out.1 H.out.2.2.1 pt pa ph pn
      refine ⟨by simp, .inl ⟨_, _, rfl, run_takeDeferred k1, ?_⟩⟩
      refine ⟨_, results_lab3 (s := 2) (p := 3) (u := 4) rfl _ _ (N + 1) ⟨pt, pa, ph, pn⟩ rfl ?_, ?_, ?_⟩
      · exact k2
      · rw [HR.out]; rfl
      · exact k3
    · obtain rfl : pi = -1 := by omega
      have hR : R = (Lb.no, if a = Sl.zeros ∨ b = Sl.zeros then 6 else 9) := by rw [← HP.out.2]; unfold Lb.readAB; rw [HP.out.1, if_neg hp]; split <;> rfl
      by_cases hz : a = Sl.zeros ∨ b = Sl.zeros
      · rw [if_pos hz] at hR
        rw [decide_eq_true hz] at HC
        have HR := Lib.hid hR
        clear hR hpi hp hz e0 e1 e2 e3 f0 f1 f2 f3
        gi_wp2_with (refine ⟨trivial, ?_⟩; gi_at_call 70; refine (callsIn_wide.2 (HC.out.2 _)).mono ?_; rintro e w2 ⟨rfl, hb2⟩; obtain ⟨e0, e1, e2, e3, f0, f1, f2, f3, hr⟩ := lab_below H.out.1 hb2 (rowV_lt H.out.1); have hK2 := (hb2.block D (Array.getElem?_eq_some_iff.1 hK).1).trans hK; have L := Lib.hid (And.intro hr (H.out.2.2.1.trans (hb2.mono (by have := H.out.2.2.1.size; omega)))); clear hb2 hr)
        obtain ⟨k1, k2, k3⟩ := last_end hN H.out.2.2.2 hK2 L.out.1 L.out.2 0 0 0 ⟨#[]⟩
        refine ⟨by simp, .inl ⟨_, _, rfl, run_takeDeferred k1, ?_⟩⟩
        refine ⟨_, results_lab3 (s := 2) (p := 3) (u := 4) rfl _ _ (N + 1) Lb.no rfl ?_, ?_, ?_⟩
        · exact k2
        · rw [HR.out]; rfl
        · exact k3
      · rw [if_neg hz] at hR
        rw [decide_eq_false hz] at HC
        have HR := Lib.hid hR
        clear hR hpi hp hz e0 e1 e2 e3 f0 f1 f2 f3
        gi_wp2_with (refine ⟨trivial, ?_⟩; gi_at_call 70; refine (callsIn_wide.2 (HC.out.2 _)).mono ?_; rintro e w2 ⟨rfl, hb2⟩; obtain ⟨e0, e1, e2, e3, f0, f1, f2, f3, hr⟩ := lab_below H.out.1 hb2 (rowV_lt H.out.1); have hK2 := (hb2.block D (Array.getElem?_eq_some_iff.1 hK).1).trans hK; have L := Lib.hid (And.intro hr (H.out.2.2.1.trans (hb2.mono (by have := H.out.2.2.1.size; omega)))); clear hb2 hr)
        obtain ⟨k1, k2, k3⟩ := last_end hN H.out.2.2.2 hK2 L.out.1 L.out.2 0 0 0 ⟨#[]⟩
        refine ⟨by simp, .inl ⟨_, _, rfl, run_takeDeferred k1, ?_⟩⟩
        refine ⟨_, results_lab3 (s := 2) (p := 3) (u := 4) rfl _ _ (N + 1) Lb.no rfl ?_, ?_, ?_⟩
        · exact k2
        · rw [HR.out]; rfl
        · exact k3
  case stop =>
    rintro D c pre W _ _ h _
    exact h.elim
end Go.Proofs.Ytedemehlccmkpaa

/-
  Layer 6: the number of the label that is written next.
-/
namespace Go.Proofs.Ytedemehlccmkpaa
open Go.RowKit
theorem info_int1 : (Try.prog.info? 3).map (·.size) = some 1 := by kernel_rfl
theorem run_index_two (w : World) (k : IntKind) (a b : Int) (i : Nat) (hi : i < 2) (v : Int) (hv : (#[.int .i64 a, .int .i64 b] : Array Value)[i]? = some (.int .i64 v)) :
    (Instr.index 123 (.agg #[.int .i64 a, .int .i64 b]) (.int k (i : Int))).run Try.prog w = .ok (.int .i64 v) w := by
  obtain ⟨i0, hi0, hz⟩ := Option.map_eq_some_iff.1 info_int1
  have hi3 : 0 ≤ (i : Int) := by omega
  simp [Instr.index, run_underlying Try.underlying123, asIntOf, hi3, go_sem, sizeOf, typeInfo, hi0, hz, part, isAgg, run_underlying Try.underlying3]
  rw [if_pos hi]
  have hv2 : [Value.int .i64 a, Value.int .i64 b][i]? = some (Value.int .i64 v) := by simpa using hv
  rw [hv2]; rfl
theorem index_two (a b : Int) : (∀ w, (Instr.index 123 (.agg #[.int .i64 a, .int .i64 b]) (.int .i64 0)).run Try.prog w = .ok (.int .i64 a) w) ∧ ∀ w, (Instr.index 123 (.agg #[.int .i64 a, .int .i64 b]) (.int .i64 1)).run Try.prog w = .ok (.int .i64 b) w :=
  ⟨fun w => run_index_two w .i64 a b 0 (by omega) a rfl, fun w => run_index_two w .i64 a b 1 (by omega) b rfl⟩
theorem max_up {G x : Int} (ts : Array TypeId) (t : TypeId) (W : World) (h : x < 4611686018427387904) : (Builtin.max_ ts t #[.int .i64 G, .int .i64 x]).run Try.prog W = .ok (.int .i64 (Lb.up G x)) W := by
  rw [run_max_int2]
  unfold Lb.up
  by_cases hg : G < x
  · rw [if_pos hg, if_pos ⟨hg, h⟩]
  · rw [if_neg (show ¬ x > G from hg), if_neg (fun hh => hg hh.1)]
theorem up_far {G x : Int} (h : ¬ x < 4611686018427387904) : Lb.up G x = G := if_neg fun hh => h hh.2
theorem up_bound {G x : Int} (h0 : 0 ≤ G) (h : G < 4611686018427387904) : 0 ≤ Lb.up G x ∧ Lb.up G x < 4611686018427387904 := by unfold Lb.up; split <;> omega
theorem most_bound (a b : ByteArray) : 0 ≤ Lb.most a b ∧ Lb.most a b < 4611686018427387904 := by
  have h0 := up_bound (G := 0) (x := (Sl.halves a).1) (by omega) (by omega)
  have h1 := up_bound (x := (Sl.halves a).2) h0.1 h0.2
  have h2 := up_bound (x := (Sl.halves b).1) h1.1 h1.2
  exact up_bound h2.1 h2.2
/-- what the loop has of the halves of the first k blocks, and of the first j halves of a block -/
def gAt (a b : ByteArray) (k : Nat) : Int := if k = 0 then 0 else if k = 1 then Lb.up (Lb.up 0 (Sl.halves a).1) (Sl.halves a).2 else Lb.most a b
def hAt (G X Y : Int) (j : Nat) : Int := if j = 0 then G else if j = 1 then Lb.up G X else Lb.up (Lb.up G X) Y
theorem gAt_0 (a b : ByteArray) : gAt a b 0 = 0 := by unfold gAt; rw [if_pos rfl]
theorem gAt_1 (a b : ByteArray) : gAt a b 1 = Lb.up (Lb.up 0 (Sl.halves a).1) (Sl.halves a).2 := by unfold gAt; rw [if_neg (by decide), if_pos rfl]
theorem gAt_2 (a b : ByteArray) : gAt a b 2 = Lb.most a b := by unfold gAt; rw [if_neg (by decide), if_neg (by decide)]
theorem hAt_0 (G X Y : Int) : hAt G X Y 0 = G := by unfold hAt; rw [if_pos rfl]
theorem hAt_1 (G X Y : Int) : hAt G X Y 1 = Lb.up G X := by unfold hAt; rw [if_neg (by decide), if_pos rfl]
theorem hAt_2 (G X Y : Int) : hAt G X Y 2 = Lb.up (Lb.up G X) Y := by unfold hAt; rw [if_neg (by decide), if_neg (by decide)]
theorem pair_at (a b : ByteArray) (k : Nat) (hk : k < 2) : ∃ c, (c = a ∨ c = b) ∧ (∀ w, (Instr.index 103 (.agg #[.string a, .string b]) (.int .i64 (k : Int))).run Try.prog w = .ok (.string c) w) ∧ gAt a b (k + 1) = Lb.up (Lb.up (gAt a b k) (Sl.halves c).1) (Sl.halves c).2 := by
  by_cases h : k = 0
  · subst h; exact ⟨a, .inl rfl, fun w => run_index_pair w .i64 a b 0 (by omega) a rfl, by rw [gAt_1, gAt_0]⟩
  · obtain rfl : k = 1 := by omega
    exact ⟨b, .inr rfl, fun w => run_index_pair w .i64 a b 1 (by omega) b rfl, by rw [gAt_2, gAt_1]; unfold Lb.most; rfl⟩
theorem two_at (G X Y : Int) (j : Nat) (hj : j < 2) : ∃ v, (∀ w, (Instr.index 123 (.agg #[.int .i64 X, .int .i64 Y]) (.int .i64 (j : Int))).run Try.prog w = .ok (.int .i64 v) w) ∧ hAt G X Y (j + 1) = Lb.up (hAt G X Y j) v := by
  by_cases h : j = 0
  · subst h; exact ⟨X, fun w => run_index_two w .i64 X Y 0 (by omega) X rfl, by rw [hAt_1, hAt_0]⟩
  · obtain rfl : j = 1 := by omega
    exact ⟨Y, fun w => run_index_two w .i64 X Y 1 (by omega) Y rfl, by rw [hAt_2, hAt_1]⟩
set_option maxRecDepth 100000 in
set_option maxHeartbeats 4000000 in
theorem number6_any (a b : ByteArray) (ha : a.size ≤ maxLen) (hb : b.size ≤ maxLen) (w : World) :
    Calls Try.prog 53 #[.agg #[.string a, .string b]] w fun e w' => e = .returned (.int .i64 (Lb.most a b + 1)) ∧ Below w.heap.size w w' := by
  have hM := most_bound a b
  have HM : Hid (gAt a b 2 = Lb.most a b) := Lib.hid (gAt_2 a b)
  generalize Lb.most a b = M at *
  have hB0 : Below w.heap.size w (w.alloc (.cells #[.string a, .string b] 103)) := (Below.refl w.heap.size w).alloc (Nat.le_refl _) _
  have H := Lib.hid (And.intro ha (And.intro hb hB0))
  clear ha hb hB0
  go_enter Try.func53, Try.ntmps53
  go_wp2_with fail
  go_loopw [3, 11] (fun g i wr => ∃ k : Nat, k ≤ 2 ∧ i = .int .i64 (k : Int) ∧ (∃ G, g = .int .i64 G ∧ Hid (G = gAt a b k)) ∧ Hid (Below w.heap.size w wr)) (fun _ i _ => 2 - (intOf i).toNat)
  case atStart => exact ⟨0, Nat.zero_le _, rfl, ⟨_, rfl, Lib.hid (gAt_0 a b).symm⟩, Lib.hid H.out.2.2⟩
  case round =>
    obtain ⟨k, hk, rfl, ⟨G, rfl, hG⟩, HK⟩ := hrel
    by_cases hk2 : k < 2
    · obtain ⟨c, hc, hx, hg⟩ := pair_at a b k hk2
      have hcs : c.size ≤ maxLen := hc.elim (fun e => e ▸ H.out.1) fun e => e ▸ H.out.2.1
      have cH := fun w => halves_any c hcs w
      generalize (Sl.halves c).1 = X at *
      generalize (Sl.halves c).2 = Y at *
      have HC := Lib.hid (And.intro cH hg)
      clear cH hg hc hcs
      go_wp2_with fail
      refine (HC.out.1 _).mono ?_
      rintro e w1 ⟨rfl, nq, hw1⟩
      have HB : Hid (Below w.heap.size w w1) := Lib.hid (by rw [hw1]; exact below_drewN HK.out nq)
      clear hw1
      go_wp2_with fail
      go_loopw [3, 22] (fun g i wr => ∃ j : Nat, j ≤ 2 ∧ i = .int .i64 (j : Int) ∧ (∃ g', g = .int .i64 g' ∧ Hid (g' = hAt G X Y j)) ∧ Hid (Below w.heap.size w wr)) (fun _ i _ => 2 - (intOf i).toNat)
      case atStart => exact ⟨0, Nat.zero_le _, rfl, ⟨_, rfl, Lib.hid (hAt_0 G X Y).symm⟩, HB⟩
      case round =>
        obtain ⟨j, hj, rfl, ⟨g', rfl, hg'⟩, HJ⟩ := hrel
        by_cases hj2 : j < 2
        · obtain ⟨v, hy, hv⟩ := two_at G X Y j hj2
          have HV := Lib.hid hv
          clear hv
          by_cases ht : v < 4611686018427387904
          · have hm : ∀ (ts : Array TypeId) (t : TypeId) (W : World), (Builtin.max_ ts t #[.int .i64 g', .int .i64 v]).run Try.prog W = .ok (.int .i64 (Lb.up g' v)) W := fun ts t W => max_up ts t W ht
            go_wp2_with fail
            exact ⟨⟨j + 1, by omega, rfl, ⟨_, rfl, Lib.hid (by rw [HV.out, hg'.out])⟩, HJ⟩, by simp [intOf]; omega⟩
          · go_wp2_with fail
            exact ⟨⟨j + 1, by omega, rfl, ⟨_, rfl, Lib.hid (by rw [HV.out, ← hg'.out, up_far ht])⟩, HJ⟩, by simp [intOf]; omega⟩
        · obtain rfl : j = 2 := by omega
          have hgg : g' = gAt a b (k + 1) := by rw [hg'.out, HC.out.2, ← hG.out, hAt_2]
          have HG := Lib.hid hgg
          clear hgg
          go_wp2_with fail
          exact ⟨⟨k + 1, by omega, rfl, ⟨_, rfl, HG⟩, HJ⟩, by simp [intOf]; omega⟩
    · obtain rfl : k = 2 := by omega
      have hGM : G = M := by rw [hG.out]; exact HM.out
      subst hGM
      go_wp2_with fail
      go_ret
      exact ⟨rfl, HK.out⟩
end Go.Proofs.Ytedemehlccmkpaa

/-
  Layer 6: both blocks as they are loaded.
-/
namespace Go.Proofs.Ytedemehlccmkpaa
open Go.RowKit
/-- a disk that is read so, from a world on -/
def ReadsD (w : World) (v : Value) (S : Int → ByteArray) (E : Int → Int) : Prop := ∀ w', Below w.heap.size w w' → ∀ i, Calls Try.prog 49 #[v, .int .i64 i] w' fun e w'' => e = .returned (.tuple #[.string (S i), .int .i64 (E i)]) ∧ w'' = w'
theorem readsD_below {w w' : World} {v : Value} {S : Int → ByteArray} {E : Int → Int} (h : ReadsD w v S E) (hb : Below w.heap.size w w') : ReadsD w' v S E := fun w'' hb' => h w'' (hb.trans (hb'.mono hb.size))
def loadG (S : Int → ByteArray) (E : Int → Int) : ByteArray × ByteArray × Int := if E 0 ≠ 0 then (⟨#[]⟩, ⟨#[]⟩, E 0) else if E 1 ≠ 0 then (⟨#[]⟩, ⟨#[]⟩, E 1) else (S 0, S 1, 0)
theorem info_pair2 : (Try.prog.info? 103).map (·.size) = some 2 := by kernel_rfl
theorem results_pair {fn : Func} {p u : Tmp} (h : fn.results = #[.cell p 103, .tmp u]) (tmps : Array Value) (w : World) (g : Nat) (a b : ByteArray)
    (hp : tmps.getD p undef = .pointer (some ⟨g, 0, none⟩)) (hg : RowV w g 103 [.string a, .string b]) :
    (results fn tmps).run Try.prog w = .ok (.tuple #[.agg #[.string a, .string b], tmps.getD u undef]) w := by
  have hl := run_loadVar_row (P := Try.prog) w g 103 103 #[.string a, .string b] (0, 0) _ hg Try.underlying103 rfl info_pair2
  rw [results_cell_tmp h, hp]
  simp only [asAddr, Sem.run_pure, Result.andThen]
  rw [hl]
theorem pair_box2 (w : World) (T : Nat) (a b c d : ByteArray) :
    RowV ((w.alloc (.cells #[.string a, .string b] T)).alloc (.cells #[.string c, .string d] T)) w.heap.size T [.string a, .string b] ∧ RowV ((w.alloc (.cells #[.string a, .string b] T)).alloc (.cells #[.string c, .string d] T)) (w.heap.size + 1) T [.string c, .string d] ∧ Below w.heap.size w ((w.alloc (.cells #[.string a, .string b] T)).alloc (.cells #[.string c, .string d] T)) := by
  have r0 := rowV_new w T [.string a, .string b]
  have s0 : (w.alloc (.cells #[.string a, .string b] T)).heap.size = w.heap.size + 1 := by simp
  have r1 := rowV_new (w.alloc (.cells #[.string a, .string b] T)) T [.string c, .string d]
  rw [s0] at r1
  exact ⟨rowV_alloc r0 _, r1, ((Below.refl w.heap.size w).alloc (Nat.le_refl _) _).alloc (by omega) _⟩
set_option maxRecDepth 100000 in
set_option maxHeartbeats 4000000 in
theorem load6_any {w : World} {v : Value} {S : Int → ByteArray} {E : Int → Int} (hd : ReadsD w v S E) :
    Calls Try.prog 51 #[v] w fun e w' => e = .returned (.tuple #[.agg #[.string (loadG S E).1, .string (loadG S E).2.1], .int .i64 (loadG S E).2.2]) ∧ Below w.heap.size w w' := by
  have hb2 := pair_box2 w 103 ⟨#[]⟩ ⟨#[]⟩ ⟨#[]⟩ ⟨#[]⟩
  have H := Lib.hid hb2
  have HK := Lib.hid hd
  clear hb2 hd
  unfold ReadsD at HK
  go_enter Try.func51, Try.ntmps51
  go_wp2_with fail
  generalize hN : w.heap.size = N at *
  go_loopw [7] (fun i wr => ∃ k : Nat, k ≤ 2 ∧ i = .int .i64 (k : Int) ∧ (1 ≤ k → E 0 = 0) ∧ (2 ≤ k → E 1 = 0) ∧ Hid (RowV wr N 103 [.string ⟨#[]⟩, .string ⟨#[]⟩] ∧ RowV wr (N + 1) 103 [.string (if 1 ≤ k then S 0 else ⟨#[]⟩), .string (if 2 ≤ k then S 1 else ⟨#[]⟩)] ∧ Below N w wr)) (fun i _ => 2 - (intOf i).toNat)
  case atStart => exact ⟨0, Nat.zero_le _, rfl, fun h => absurd h (by omega), fun h => absurd h (by omega), Lib.hid H.out⟩
  case round =>
    obtain ⟨k, hk, rfl, h1, h2, HR⟩ := hrel
    by_cases hk0 : k = 0
    · subst hk0
      have hrow : RowV wr (N + 1) 103 [.string ⟨#[]⟩, .string ⟨#[]⟩] := HR.out.2.1
      have c0 := rowV_cell hrow 0
      have c1 := rowV_cell hrow 1
      have f0 := rowV_frozen hrow 0
      have f1 := rowV_frozen hrow 1
      have d0 := rowV_cell HR.out.1 0
      have d1 := rowV_cell HR.out.1 1
      have g0 := rowV_frozen HR.out.1 0
      have g1 := rowV_frozen HR.out.1 1
      simp only [List.getElem?_cons_zero, List.getElem?_cons_succ] at c0 c1 d0 d1
      have cr := HK.out wr HR.out.2.2
      have hrow2 := rowV_stored hrow 0 (.string (S 0))
      have HQ := Lib.hid (And.intro (cr 0) hrow2)
      clear hrow hrow2 cr
      by_cases e0 : E 0 = 0
      · have q : (E 0 != 0) = false := by rw [e0]; rfl
        go_wp2_with fail
        refine (HQ.out.1).mono ?_
        rintro e w1 ⟨rfl, hw1⟩
        obtain rfl := hw1.symm; clear hw1
        go_wp2_with fail
        exact ⟨⟨1, by omega, rfl, fun _ => e0, fun h => absurd h (by omega), Lib.hid ⟨rowV_far HR.out.1 (by omega) _, HQ.out.2, HR.out.2.2.setCell (p := ⟨N + 1, 0, none⟩) (Nat.le_succ N) _⟩⟩, by simp [intOf]⟩
      · have q : (E 0 != 0) = true := by simpa using e0
        have hP : loadG S E = (⟨#[]⟩, ⟨#[]⟩, E 0) := by unfold loadG; rw [if_pos e0]
        have HPP := Lib.hid hP
        clear hP
        go_wp2_with fail
        refine (HQ.out.1).mono ?_
        rintro e w1 ⟨rfl, hw1⟩
        obtain rfl := hw1.symm; clear hw1
        go_wp2_with fail
        refine bodyPost_ret (v := .tuple #[.agg #[.string ⟨#[]⟩, .string ⟨#[]⟩], .int .i64 (E 0)]) (results_pair (p := 2) (u := 3) rfl _ _ N ⟨#[]⟩ ⟨#[]⟩ rfl ?_) rfl ⟨by rw [HPP.out], ?_⟩
        · exact rowV_stored (rowV_stored (rowV_far HR.out.1 (by omega) (.string (S 0))) 0 (.string ⟨#[]⟩)) 1 (.string ⟨#[]⟩)
        · rw [hN]; exact ((HR.out.2.2.setCell (p := ⟨N + 1, 0, none⟩) (Nat.le_succ N) _).setCell (p := ⟨N, 0, none⟩) (Nat.le_refl _) _).setCell (p := ⟨N, 1, none⟩) (Nat.le_refl _) _
    · by_cases hk1 : k = 1
      · subst hk1
        have hrow : RowV wr (N + 1) 103 [.string (S 0), .string ⟨#[]⟩] := HR.out.2.1
        have c0 := rowV_cell hrow 0
        have c1 := rowV_cell hrow 1
        have f0 := rowV_frozen hrow 0
        have f1 := rowV_frozen hrow 1
        have d0 := rowV_cell HR.out.1 0
        have d1 := rowV_cell HR.out.1 1
        have g0 := rowV_frozen HR.out.1 0
        have g1 := rowV_frozen HR.out.1 1
        simp only [List.getElem?_cons_zero, List.getElem?_cons_succ] at c0 c1 d0 d1
        have cr := HK.out wr HR.out.2.2
        have hrow2 := rowV_stored hrow 1 (.string (S 1))
        have HQ := Lib.hid (And.intro (cr 1) hrow2)
        clear hrow hrow2 cr
        by_cases e1 : E 1 = 0
        · have q : (E 1 != 0) = false := by rw [e1]; rfl
          go_wp2_with fail
          refine (HQ.out.1).mono ?_
          rintro e w1 ⟨rfl, hw1⟩
          obtain rfl := hw1.symm; clear hw1
          go_wp2_with fail
          exact ⟨⟨2, by omega, rfl, fun _ => h1 (by omega), fun h => e1, Lib.hid ⟨rowV_far HR.out.1 (by omega) _, HQ.out.2, HR.out.2.2.setCell (p := ⟨N + 1, 1, none⟩) (Nat.le_succ N) _⟩⟩, by simp [intOf]⟩
        · have q : (E 1 != 0) = true := by simpa using e1
          have hP : loadG S E = (⟨#[]⟩, ⟨#[]⟩, E 1) := by unfold loadG; rw [if_neg (fun hn => hn (h1 (by omega))), if_pos e1]
          have HPP := Lib.hid hP
          clear hP
          go_wp2_with fail
          refine (HQ.out.1).mono ?_
          rintro e w1 ⟨rfl, hw1⟩
          obtain rfl := hw1.symm; clear hw1
          go_wp2_with fail
          refine bodyPost_ret (v := .tuple #[.agg #[.string ⟨#[]⟩, .string ⟨#[]⟩], .int .i64 (E 1)]) (results_pair (p := 2) (u := 3) rfl _ _ N ⟨#[]⟩ ⟨#[]⟩ rfl ?_) rfl ⟨by rw [HPP.out], ?_⟩
          · exact rowV_stored (rowV_stored (rowV_far HR.out.1 (by omega) (.string (S 1))) 0 (.string ⟨#[]⟩)) 1 (.string ⟨#[]⟩)
          · rw [hN]; exact ((HR.out.2.2.setCell (p := ⟨N + 1, 1, none⟩) (Nat.le_succ N) _).setCell (p := ⟨N, 0, none⟩) (Nat.le_refl _) _).setCell (p := ⟨N, 1, none⟩) (Nat.le_refl _) _
      · obtain rfl : k = 2 := by omega
        have hrow : RowV wr (N + 1) 103 [.string (S 0), .string (S 1)] := HR.out.2.1
        have c0 := rowV_cell hrow 0
        have c1 := rowV_cell hrow 1
        have d0 := rowV_cell HR.out.1 0
        have d1 := rowV_cell HR.out.1 1
        have g0 := rowV_frozen HR.out.1 0
        have g1 := rowV_frozen HR.out.1 1
        simp only [List.getElem?_cons_zero, List.getElem?_cons_succ] at c0 c1 d0 d1
        have hP : loadG S E = (S 0, S 1, 0) := by unfold loadG; rw [if_neg (fun hn => hn (h1 (by omega))), if_neg (fun hn => hn (h2 (by omega)))]
        have HPP := Lib.hid hP
        clear hP hrow
        go_wp2_with fail
        refine bodyPost_ret (v := .tuple #[.agg #[.string (S 0), .string (S 1)], .int .i64 0]) (results_pair (p := 2) (u := 3) rfl _ _ N (S 0) (S 1) rfl ?_) rfl ⟨by rw [HPP.out], ?_⟩
        · exact rowV_stored (rowV_stored HR.out.1 0 (.string (S 0))) 1 (.string (S 1))
        · rw [hN]; exact (HR.out.2.2.setCell (p := ⟨N, 0, none⟩) (Nat.le_refl _) _).setCell (p := ⟨N, 1, none⟩) (Nat.le_refl _) _
end Go.Proofs.Ytedemehlccmkpaa

/-
  Layer 6: what Read and Next tell of a disk that is read so.
-/
namespace Go.Proofs.Ytedemehlccmkpaa
open Go.RowKit
def readG (S : Int → ByteArray) (E : Int → Int) : Lb.Label × Int := if E 0 ≠ 0 then (Lb.no, E 0) else if E 1 ≠ 0 then (Lb.no, E 1) else Lb.readAB (S 0) (S 1)
def nextG (S : Int → ByteArray) (E : Int → Int) : Int × Int × Int := if (readG S E).2 ≠ 0 ∧ (readG S E).2 ≠ 6 then (0, 0, (readG S E).2) else (if (Lb.pick (S 0) (S 1)).2 = 0 then 1 else 0, Lb.most (S 0) (S 1) + 1, 0)
theorem readG_load (S : Int → ByteArray) (E : Int → Int) : ((loadG S E).2.2 ≠ 0 → readG S E = (Lb.no, (loadG S E).2.2)) ∧ ((loadG S E).2.2 = 0 → (loadG S E).1 = S 0 ∧ (loadG S E).2.1 = S 1 ∧ readG S E = Lb.readAB (S 0) (S 1)) := by
  unfold readG loadG
  by_cases e0 : E 0 = 0
  · by_cases e1 : E 1 = 0
    · rw [if_neg (fun h => h e0), if_neg (fun h => h e1), if_neg (fun h => h e0), if_neg (fun h => h e1)]
      exact ⟨fun h => absurd rfl h, fun _ => ⟨rfl, rfl, rfl⟩⟩
    · rw [if_neg (fun h => h e0), if_pos e1, if_neg (fun h => h e0), if_pos e1]
      exact ⟨fun _ => rfl, fun h => absurd h e1⟩
  · rw [if_pos e0, if_pos e0]
    exact ⟨fun _ => rfl, fun h => absurd h e0⟩
set_option maxRecDepth 100000 in
set_option maxHeartbeats 4000000 in
theorem read6_any {w : World} {v : Value} {S : Int → ByteArray} {E : Int → Int} (hd : ReadsD w v S E) (h0 : (S 0).size ≤ maxLen) (h1 : (S 1).size ≤ maxLen) :
    Calls Try.prog 27 #[v] w fun e w' => e = .returned (.tuple #[labV (readG S E).1, .int .i64 (readG S E).2]) ∧ Below w.heap.size w w' := by
  obtain ⟨hb, hlt, hrow⟩ := lab_box Lb.no w
  have cL := load6_any (readsD_below hd hb)
  have cQ := fun w => last6_any (S 0) (S 1) h0 h1 w
  obtain ⟨hg1, hg2⟩ := readG_load S E
  clear hd
  by_cases e1 : (loadG S E).2.2 = 0
  · obtain ⟨ga, gb, gr⟩ := hg2 e1
    rw [ga, gb, e1] at cL
    rw [gr]
    clear hg1 hg2 ga gb gr e1
    generalize S 0 = A at *
    generalize S 1 = B at *
    generalize Lb.readAB A B = R at *
    generalize (Lb.pick A B).2 = P at *
    obtain ⟨⟨rt, ra, rh, rn⟩, re⟩ := R
    have H := Lib.hid (And.intro cL (And.intro cQ (And.intro hb (And.intro hlt hrow))))
    clear cL cQ hb hlt hrow h0 h1
    go_enter Try.func27, Try.ntmps27
    go_wp2_with fail
    refine H.out.1.mono ?_
    rintro e w1 ⟨rfl, hb1⟩
    have hr1 := rowV_below H.out.2.2.2.2 hb1 H.out.2.2.2.1
    have hB1 : Below w.heap.size w w1 := H.out.2.2.1.trans (hb1.mono (Nat.le_of_lt H.out.2.2.2.1))
    have hb2 : Below w1.heap.size w1 (w1.alloc (.cells #[.string A, .string B] 103)) := (Below.refl w1.heap.size w1).alloc (Nat.le_refl _) _
    have hr2 := rowV_below hr1 hb2 (rowV_lt hr1)
    have K := Lib.hid (And.intro hr2 (hB1.trans (hb2.mono hB1.size)))
    clear hb1 hr1 hB1 hb2 hr2
    go_wp2_with fail
    generalize hw2 : World.alloc w1 _ = w2 at *
    refine (H.out.2.1 _).mono ?_
    rintro e w3 ⟨rfl, hb3⟩
    have hr3 := rowV_below K.out.1 hb3 (rowV_lt K.out.1)
    have hB3 : Below w.heap.size w w3 := K.out.2.trans (hb3.mono K.out.2.size)
    have hb4 : Below w3.heap.size w3 (w3.alloc (.cells (labC ⟨rt, ra, rh, rn⟩) 23)) := (Below.refl w3.heap.size w3).alloc (Nat.le_refl _) _
    obtain ⟨a0, a1, a2, a3, b0, b1, b2, b3, hr4⟩ := lab_below hr3 hb4 (rowV_lt hr3)
    have L := Lib.hid (And.intro hr4 (hB3.trans (hb4.mono hB3.size)))
    clear hb3 hr3 hB3 hb4 hr4 hw2
    go_wp2_with fail
    generalize hN : w.heap.size = N at *
    refine bodyPost_ret (v := .tuple #[labV ⟨rt, ra, rh, rn⟩, .int .i64 re]) (results_lab (p := 2) (u := 3) rfl _ _ N ⟨rt, ra, rh, rn⟩ rfl (lab_put (l := Lb.no) ?_ rt ra rh rn).1) rfl ⟨rfl, ?_⟩
    · exact L.out.1
    · exact L.out.2.trans ((lab_put L.out.1 rt ra rh rn).2 _ (Nat.le_refl _))
  · rw [hg1 e1]
    have q : ((loadG S E).2.2 != 0) = true := by simpa using e1
    clear hg1 hg2 e1 cQ h0 h1
    generalize (loadG S E).1 = A at *
    generalize (loadG S E).2.1 = B at *
    generalize (loadG S E).2.2 = F at *
    have H := Lib.hid (And.intro cL (And.intro hb (And.intro hlt hrow)))
    clear cL hb hlt hrow
    go_enter Try.func27, Try.ntmps27
    go_wp2_with fail
    refine H.out.1.mono ?_
    rintro e w1 ⟨rfl, hb1⟩
    have hr1 := rowV_below H.out.2.2.2 hb1 H.out.2.2.1
    have hB1 : Below w.heap.size w w1 := H.out.2.1.trans (hb1.mono (Nat.le_of_lt H.out.2.2.1))
    have hb2 : Below w1.heap.size w1 (w1.alloc (.cells #[.string A, .string B] 103)) := (Below.refl w1.heap.size w1).alloc (Nat.le_refl _) _
    obtain ⟨a0, a1, a2, a3, b0, b1, b2, b3, hr4⟩ := lab_below hr1 hb2 (rowV_lt hr1)
    have L := Lib.hid (And.intro hr4 (hB1.trans (hb2.mono hB1.size)))
    clear hb1 hr1 hB1 hb2 hr4
    go_wp2_with fail
    generalize hN : w.heap.size = N at *
    refine bodyPost_ret (v := .tuple #[labV Lb.no, .int .i64 F]) (results_lab (p := 2) (u := 3) rfl _ _ N Lb.no rfl (lab_put (l := Lb.no) ?_ 0 0 0 ⟨#[]⟩).1) rfl ⟨rfl, ?_⟩
    · exact L.out.1
    · exact L.out.2.trans ((lab_put L.out.1 0 0 0 ⟨#[]⟩).2 _ (Nat.le_refl _))
theorem loadG_six {S : Int → ByteArray} {E : Int → Int} (h0 : E 0 ≠ 6) (h1 : E 1 ≠ 6) : (loadG S E).2.2 ≠ 6 := by
  unfold loadG
  split
  · exact h0
  · split
    · exact h1
    · show (0 : Int) ≠ 6; decide
/-- the ways of two blocks: a label in block 0, one in block 1, none and a fresh block, none -/
theorem ways_AB (A B : ByteArray) : ((Lb.pick A B).2 = 0 ∧ (Lb.readAB A B).2 = 0) ∨ ((Lb.pick A B).2 = 1 ∧ (Lb.readAB A B).2 = 0) ∨ ((Lb.pick A B).2 = -1 ∧ (Lb.readAB A B).2 = 6) ∨ ((Lb.pick A B).2 = -1 ∧ (Lb.readAB A B).2 = 9) := by
  unfold Lb.readAB
  rcases Lb.pick_at A B with ⟨h, _⟩ | ⟨h, _⟩ | ⟨h, _⟩
  · rw [h, if_neg (by omega)]
    split
    · exact .inr (.inr (.inl ⟨rfl, rfl⟩))
    · exact .inr (.inr (.inr ⟨rfl, rfl⟩))
  · rw [h, if_pos (by omega)]; exact .inl ⟨rfl, rfl⟩
  · rw [h, if_pos (by omega)]; exact .inr (.inl ⟨rfl, rfl⟩)
set_option maxRecDepth 100000 in
set_option maxHeartbeats 1600000 in
theorem next6_a {w : World} {v : Value} {A B : ByteArray} {n : Int} {r : Lb.Label} (cL : Calls Try.prog 51 #[v] w fun e w' => e = .returned (.tuple #[.agg #[.string A, .string B], .int .i64 0]) ∧ Below w.heap.size w w')
    (cQ : ∀ w, Calls Try.prog 52 #[.agg #[.string A, .string B]] w fun e w' => e = .returned (.tuple #[.int .i64 0, labV r, .int .i64 0]) ∧ Below w.heap.size w w')
    (cN : ∀ w, Calls Try.prog 53 #[.agg #[.string A, .string B]] w fun e w' => e = .returned (.int .i64 n) ∧ Below w.heap.size w w') :
    Calls Try.prog 26 #[v] w fun e w' => e = .returned (.tuple #[.int .i64 1, .int .i64 n, .int .i64 0]) ∧ Below w.heap.size w w' := by
  obtain ⟨rt, ra, rh, rn⟩ := r
  have H := Lib.hid (And.intro cL (And.intro cQ cN))
  clear cL cQ cN
  go_enter Try.func26, Try.ntmps26
  go_wp2_with fail
  refine H.out.1.mono ?_
  rintro e w1 ⟨rfl, hb1⟩
  have hrow := rowV_new w1 103 [.string A, .string B]
  have hb2 : Below w1.heap.size w1 (w1.alloc (.cells #[.string A, .string B] 103)) := (Below.refl w1.heap.size w1).alloc (Nat.le_refl _) _
  have K := Lib.hid (And.intro hrow (hb1.trans (hb2.mono hb1.size)))
  clear hb1 hb2 hrow
  go_wp2_with fail
  generalize hw2 : World.alloc w1 _ = w2 at *
  refine (H.out.2.1 _).mono ?_
  rintro e w3 ⟨rfl, hb3⟩
  have hK : RowV w2 w1.heap.size 103 [.string A, .string B] := K.out.1
  have hB2 : Below w.heap.size w w2 := K.out.2
  have hr3 := rowV_below hK hb3 (rowV_lt hK)
  have hB3 : Below w.heap.size w w3 := hB2.trans (hb3.mono hB2.size)
  have hb4 : Below w3.heap.size w3 (w3.alloc (.cells (labC ⟨rt, ra, rh, rn⟩) 23)) := (Below.refl w3.heap.size w3).alloc (Nat.le_refl _) _
  have hr4 := rowV_below hr3 hb4 (rowV_lt hr3)
  have p0 := rowV_cell hr4 0
  have p1 := rowV_cell hr4 1
  simp only [List.getElem?_cons_zero, List.getElem?_cons_succ] at p0 p1
  have L := Lib.hid (hB3.trans (hb4.mono hB3.size))
  clear hb3 hr3 hB3 hb4 hr4 hw2 hK hB2 K
  go_wp2_with fail
  refine (H.out.2.2 _).mono ?_
  rintro e w5 ⟨rfl, hb5⟩
  have M := Lib.hid (L.out.trans (hb5.mono L.out.size))
  clear hb5
  go_wp2_with fail
  go_ret3
  exact ⟨rfl, M.out⟩
set_option maxRecDepth 100000 in
set_option maxHeartbeats 1600000 in
theorem next6_b {w : World} {v : Value} {A B : ByteArray} {n : Int} {r : Lb.Label} (cL : Calls Try.prog 51 #[v] w fun e w' => e = .returned (.tuple #[.agg #[.string A, .string B], .int .i64 0]) ∧ Below w.heap.size w w')
    (cQ : ∀ w, Calls Try.prog 52 #[.agg #[.string A, .string B]] w fun e w' => e = .returned (.tuple #[.int .i64 1, labV r, .int .i64 0]) ∧ Below w.heap.size w w')
    (cN : ∀ w, Calls Try.prog 53 #[.agg #[.string A, .string B]] w fun e w' => e = .returned (.int .i64 n) ∧ Below w.heap.size w w') :
    Calls Try.prog 26 #[v] w fun e w' => e = .returned (.tuple #[.int .i64 0, .int .i64 n, .int .i64 0]) ∧ Below w.heap.size w w' := by
  obtain ⟨rt, ra, rh, rn⟩ := r
  have H := Lib.hid (And.intro cL (And.intro cQ cN))
  clear cL cQ cN
  go_enter Try.func26, Try.ntmps26
  go_wp2_with fail
  refine H.out.1.mono ?_
  rintro e w1 ⟨rfl, hb1⟩
  have hrow := rowV_new w1 103 [.string A, .string B]
  have hb2 : Below w1.heap.size w1 (w1.alloc (.cells #[.string A, .string B] 103)) := (Below.refl w1.heap.size w1).alloc (Nat.le_refl _) _
  have K := Lib.hid (And.intro hrow (hb1.trans (hb2.mono hb1.size)))
  clear hb1 hb2 hrow
  go_wp2_with fail
  generalize hw2 : World.alloc w1 _ = w2 at *
  refine (H.out.2.1 _).mono ?_
  rintro e w3 ⟨rfl, hb3⟩
  have hK : RowV w2 w1.heap.size 103 [.string A, .string B] := K.out.1
  have hB2 : Below w.heap.size w w2 := K.out.2
  have hr3 := rowV_below hK hb3 (rowV_lt hK)
  have hB3 : Below w.heap.size w w3 := hB2.trans (hb3.mono hB2.size)
  have hb4 : Below w3.heap.size w3 (w3.alloc (.cells (labC ⟨rt, ra, rh, rn⟩) 23)) := (Below.refl w3.heap.size w3).alloc (Nat.le_refl _) _
  have hr4 := rowV_below hr3 hb4 (rowV_lt hr3)
  have p0 := rowV_cell hr4 0
  have p1 := rowV_cell hr4 1
  simp only [List.getElem?_cons_zero, List.getElem?_cons_succ] at p0 p1
  have L := Lib.hid (hB3.trans (hb4.mono hB3.size))
  clear hb3 hr3 hB3 hb4 hr4 hw2 hK hB2 K
  go_wp2_with fail
  refine (H.out.2.2 _).mono ?_
  rintro e w5 ⟨rfl, hb5⟩
  have M := Lib.hid (L.out.trans (hb5.mono L.out.size))
  clear hb5
  go_wp2_with fail
  go_ret3
  exact ⟨rfl, M.out⟩
set_option maxRecDepth 100000 in
set_option maxHeartbeats 1600000 in
theorem next6_c {w : World} {v : Value} {A B : ByteArray} {n : Int} {r : Lb.Label} (cL : Calls Try.prog 51 #[v] w fun e w' => e = .returned (.tuple #[.agg #[.string A, .string B], .int .i64 0]) ∧ Below w.heap.size w w')
    (cQ : ∀ w, Calls Try.prog 52 #[.agg #[.string A, .string B]] w fun e w' => e = .returned (.tuple #[.int .i64 (-1), labV r, .int .i64 6]) ∧ Below w.heap.size w w')
    (cN : ∀ w, Calls Try.prog 53 #[.agg #[.string A, .string B]] w fun e w' => e = .returned (.int .i64 n) ∧ Below w.heap.size w w') :
    Calls Try.prog 26 #[v] w fun e w' => e = .returned (.tuple #[.int .i64 0, .int .i64 n, .int .i64 0]) ∧ Below w.heap.size w w' := by
  obtain ⟨rt, ra, rh, rn⟩ := r
  have H := Lib.hid (And.intro cL (And.intro cQ cN))
  clear cL cQ cN
  go_enter Try.func26, Try.ntmps26
  go_wp2_with fail
  refine H.out.1.mono ?_
  rintro e w1 ⟨rfl, hb1⟩
  have hrow := rowV_new w1 103 [.string A, .string B]
  have hb2 : Below w1.heap.size w1 (w1.alloc (.cells #[.string A, .string B] 103)) := (Below.refl w1.heap.size w1).alloc (Nat.le_refl _) _
  have K := Lib.hid (And.intro hrow (hb1.trans (hb2.mono hb1.size)))
  clear hb1 hb2 hrow
  go_wp2_with fail
  generalize hw2 : World.alloc w1 _ = w2 at *
  refine (H.out.2.1 _).mono ?_
  rintro e w3 ⟨rfl, hb3⟩
  have hK : RowV w2 w1.heap.size 103 [.string A, .string B] := K.out.1
  have hB2 : Below w.heap.size w w2 := K.out.2
  have hr3 := rowV_below hK hb3 (rowV_lt hK)
  have hB3 : Below w.heap.size w w3 := hB2.trans (hb3.mono hB2.size)
  have hb4 : Below w3.heap.size w3 (w3.alloc (.cells (labC ⟨rt, ra, rh, rn⟩) 23)) := (Below.refl w3.heap.size w3).alloc (Nat.le_refl _) _
  have hr4 := rowV_below hr3 hb4 (rowV_lt hr3)
  have p0 := rowV_cell hr4 0
  have p1 := rowV_cell hr4 1
  simp only [List.getElem?_cons_zero, List.getElem?_cons_succ] at p0 p1
  have L := Lib.hid (hB3.trans (hb4.mono hB3.size))
  clear hb3 hr3 hB3 hb4 hr4 hw2 hK hB2 K
  go_wp2_with fail
  refine (H.out.2.2 _).mono ?_
  rintro e w5 ⟨rfl, hb5⟩
  have M := Lib.hid (L.out.trans (hb5.mono L.out.size))
  clear hb5
  go_wp2_with fail
  go_ret3
  exact ⟨rfl, M.out⟩
set_option maxRecDepth 100000 in
set_option maxHeartbeats 1600000 in
theorem next6_d {w : World} {v : Value} {A B : ByteArray} {n : Int} {r : Lb.Label} (cL : Calls Try.prog 51 #[v] w fun e w' => e = .returned (.tuple #[.agg #[.string A, .string B], .int .i64 0]) ∧ Below w.heap.size w w')
    (cQ : ∀ w, Calls Try.prog 52 #[.agg #[.string A, .string B]] w fun e w' => e = .returned (.tuple #[.int .i64 (-1), labV r, .int .i64 9]) ∧ Below w.heap.size w w')
    (cN : ∀ w, Calls Try.prog 53 #[.agg #[.string A, .string B]] w fun e w' => e = .returned (.int .i64 n) ∧ Below w.heap.size w w') :
    Calls Try.prog 26 #[v] w fun e w' => e = .returned (.tuple #[.int .i64 0, .int .i64 0, .int .i64 9]) ∧ Below w.heap.size w w' := by
  obtain ⟨rt, ra, rh, rn⟩ := r
  have H := Lib.hid (And.intro cL (And.intro cQ cN))
  clear cL cQ cN
  go_enter Try.func26, Try.ntmps26
  go_wp2_with fail
  refine H.out.1.mono ?_
  rintro e w1 ⟨rfl, hb1⟩
  have hrow := rowV_new w1 103 [.string A, .string B]
  have hb2 : Below w1.heap.size w1 (w1.alloc (.cells #[.string A, .string B] 103)) := (Below.refl w1.heap.size w1).alloc (Nat.le_refl _) _
  have K := Lib.hid (And.intro hrow (hb1.trans (hb2.mono hb1.size)))
  clear hb1 hb2 hrow
  go_wp2_with fail
  generalize hw2 : World.alloc w1 _ = w2 at *
  refine (H.out.2.1 _).mono ?_
  rintro e w3 ⟨rfl, hb3⟩
  have hK : RowV w2 w1.heap.size 103 [.string A, .string B] := K.out.1
  have hB2 : Below w.heap.size w w2 := K.out.2
  have hr3 := rowV_below hK hb3 (rowV_lt hK)
  have hB3 : Below w.heap.size w w3 := hB2.trans (hb3.mono hB2.size)
  have hb4 : Below w3.heap.size w3 (w3.alloc (.cells (labC ⟨rt, ra, rh, rn⟩) 23)) := (Below.refl w3.heap.size w3).alloc (Nat.le_refl _) _
  have hr4 := rowV_below hr3 hb4 (rowV_lt hr3)
  have p0 := rowV_cell hr4 0
  have p1 := rowV_cell hr4 1
  simp only [List.getElem?_cons_zero, List.getElem?_cons_succ] at p0 p1
  have L := Lib.hid (hB3.trans (hb4.mono hB3.size))
  clear hb3 hr3 hB3 hb4 hr4 hw2 hK hB2 K
  go_wp2_with fail
  go_ret3
  exact ⟨rfl, L.out⟩
set_option maxRecDepth 100000 in
set_option maxHeartbeats 1600000 in
theorem next6_e {w : World} {v : Value} {A B : ByteArray} {F : Int} (hF : F ≠ 0) (cL : Calls Try.prog 51 #[v] w fun e w' => e = .returned (.tuple #[.agg #[.string A, .string B], .int .i64 F]) ∧ Below w.heap.size w w') :
    Calls Try.prog 26 #[v] w fun e w' => e = .returned (.tuple #[.int .i64 0, .int .i64 0, .int .i64 F]) ∧ Below w.heap.size w w' := by
  have q : (F != 0) = true := by simpa using hF
  have H := Lib.hid cL
  clear cL hF
  go_enter Try.func26, Try.ntmps26
  go_wp2_with fail
  refine H.out.mono ?_
  rintro e w1 ⟨rfl, hb1⟩
  have hb2 : Below w1.heap.size w1 (w1.alloc (.cells #[.string A, .string B] 103)) := (Below.refl w1.heap.size w1).alloc (Nat.le_refl _) _
  have K := Lib.hid (hb1.trans (hb2.mono hb1.size))
  clear hb1 hb2
  go_wp2_with fail
  go_ret3
  exact ⟨rfl, K.out⟩
theorem next6_any {w : World} {v : Value} {S : Int → ByteArray} {E : Int → Int} (hd : ReadsD w v S E) (h0 : (S 0).size ≤ maxLen) (h1 : (S 1).size ≤ maxLen) (k0 : E 0 ≠ 6) (k1 : E 1 ≠ 6) :
    Calls Try.prog 26 #[v] w fun e w' => e = .returned (.tuple #[.int .i64 (nextG S E).1, .int .i64 (nextG S E).2.1, .int .i64 (nextG S E).2.2]) ∧ Below w.heap.size w w' := by
  have cL := load6_any hd
  have cQ := fun w => last6_any (S 0) (S 1) h0 h1 w
  have cN := fun w => number6_any (S 0) (S 1) h0 h1 w
  obtain ⟨hg1, hg2⟩ := readG_load S E
  have h6 := loadG_six (S := S) k0 k1
  by_cases e1 : (loadG S E).2.2 = 0
  · obtain ⟨ga, gb, gr⟩ := hg2 e1
    rw [ga, gb, e1] at cL
    rcases ways_AB (S 0) (S 1) with ⟨a, b⟩ | ⟨a, b⟩ | ⟨a, b⟩ | ⟨a, b⟩
    · have e : nextG S E = (1, Lb.most (S 0) (S 1) + 1, 0) := by unfold nextG; rw [gr, b, a]; rfl
      rw [a, b] at cQ; rw [e]
      exact next6_a cL cQ cN
    · have e : nextG S E = (0, Lb.most (S 0) (S 1) + 1, 0) := by unfold nextG; rw [gr, b, a]; rfl
      rw [a, b] at cQ; rw [e]
      exact next6_b cL cQ cN
    · have e : nextG S E = (0, Lb.most (S 0) (S 1) + 1, 0) := by unfold nextG; rw [gr, b, a]; rfl
      rw [a, b] at cQ; rw [e]
      exact next6_c cL cQ cN
    · have e : nextG S E = (0, 0, 9) := by unfold nextG; rw [gr, b]; rfl
      rw [a, b] at cQ; rw [e]
      exact next6_d cL cQ cN
  · have e : nextG S E = (0, 0, (loadG S E).2.2) := by unfold nextG; rw [hg1 e1]; exact if_pos ⟨e1, h6⟩
    rw [e]
    exact next6_e e1 cL
end Go.Proofs.Ytedemehlccmkpaa
