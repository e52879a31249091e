/-
  Texts of the layers, part 4: LblRef, LblRead, LblNext, DskObj, DskSet, DskFall, DskOps, DskCrash, DskBuild, DskNew.
-/
import Derived.Test.YtedemehlccmkpaaPk3
import Derived.Great.BuildSlice
import Derived.Test.YtedemehlccmkpaaPk1
import Derived.Deep.RegionHeld3
import Derived.BigQuiet
import Derived.Laws.CopyOwn
import Derived.BigRegion
import Derived.Deep.WholeRow
import Derived.Test.YtedemehlccmkpaaPk2
import Derived.StillTailTactics
import Derived.Sort.AtCall
import Derived.Great.FillDense
import Derived.Deep.AppendSrc
import Derived.Deep.DeepAppendWide
import Derived.ArgAppend
/-
  Layer 6: the document's label of a block, both blocks, and which is picked.
-/
namespace Go.Proofs.Ytedemehlccmkpaa
open Go.RowKit
def labG (c : ByteArray) : Lb.Label × Bool := match Lb.ofB c with
  | some l => (l, true)
  | none => (Lb.no, false)
theorem labG_bad {c : ByteArray} (h : ¬ (Sl.take c).2.2 = 0) : labG c = (Lb.no, false) := by
  unfold labG Lb.ofB; rw [if_neg (fun hh => h hh.1)]
theorem labG_form {c : ByteArray} (h : ¬ (Lb.parse (Sl.take c).1 (Sl.take c).2.1).2 = 0) : labG c = (Lb.no, false) := by
  unfold labG Lb.ofB; rw [if_neg (fun hh => h hh.2)]
theorem labG_ok {c : ByteArray} (h1 : (Sl.take c).2.2 = 0) (h2 : (Lb.parse (Sl.take c).1 (Sl.take c).2.1).2 = 0) : labG c = ((Lb.parse (Sl.take c).1 (Sl.take c).2.1).1, true) := by
  unfold labG Lb.ofB; rw [if_pos ⟨h1, h2⟩]
set_option maxRecDepth 100000 in
set_option maxHeartbeats 1600000 in
theorem rlabel6_a {c S1 : ByteArray} {N1 E2 : Int} {r : Lb.Label} (cT : ∀ w, Calls Try.prog 86 #[.string c] w fun e w' => e = .returned (.tuple #[.int .i64 N1, .string S1, .int .i64 0]) ∧ Below w.heap.size w w')
    (cP : ∀ w, Calls Try.prog 12 #[.int .i64 N1, .string S1] w fun e w' => e = .returned (.tuple #[labV r, .int .i64 E2]) ∧ Below w.heap.size w w') (hE : E2 = 0) (w : World) :
    Calls Try.prog 75 #[.string c] w fun e w' => e = .returned (.tuple #[labV r, .bool true]) ∧ Below w.heap.size w w' := by
  obtain ⟨hb, hlt, hrow⟩ := lab_box Lb.no w
  obtain ⟨rt, ra, rh, rn⟩ := r
  subst hE
  have H := Lib.hid (And.intro cT (And.intro cP (And.intro hb (And.intro hlt hrow))))
  clear cT cP hb hlt hrow
  go_enter Try.func75, Try.ntmps75
  go_wp2_with fail
  refine (H.out.1 _).mono ?_
  rintro e w1 ⟨rfl, hb1⟩
  have K := Lib.hid (And.intro (rowV_below H.out.2.2.2.2 hb1 H.out.2.2.2.1) (H.out.2.2.1.trans (hb1.mono (Nat.le_of_lt H.out.2.2.2.1))))
  clear hb1
  go_wp2_with fail
  refine (H.out.2.1 _).mono ?_
  rintro e w2 ⟨rfl, hb2⟩
  have hr2 := rowV_below K.out.1 hb2 (rowV_lt K.out.1)
  have hB2 : Below w.heap.size w w2 := K.out.2.trans (hb2.mono K.out.2.size)
  have hb4 : Below w2.heap.size w2 (w2.alloc (.cells (labC ⟨rt, ra, rh, rn⟩) 23)) := (Below.refl w2.heap.size w2).alloc (Nat.le_refl _) _
  obtain ⟨a0, a1, a2, a3, b0, b1, b2, b3, hr4⟩ := lab_below (l := Lb.no) hr2 hb4 (rowV_lt hr2)
  have L := Lib.hid (And.intro hr4 (hB2.trans (hb4.mono hB2.size)))
  clear hb2 hr2 hB2 hb4 hr4
  go_wp2_with fail
  generalize hN : w.heap.size = N at *
  refine bodyPost_ret (v := .tuple #[labV ⟨rt, ra, rh, rn⟩, .bool true]) (results_lab (p := 2) (u := 3) rfl _ _ N ⟨rt, ra, rh, rn⟩ rfl (lab_put (l := Lb.no) ?_ rt ra rh rn).1) rfl ⟨rfl, ?_⟩
  · exact L.out.1
  · exact L.out.2.trans ((lab_put L.out.1 rt ra rh rn).2 _ (Nat.le_refl _))
set_option maxRecDepth 100000 in
set_option maxHeartbeats 1600000 in
theorem rlabel6_b {c S1 : ByteArray} {N1 E2 : Int} {r : Lb.Label} (cT : ∀ w, Calls Try.prog 86 #[.string c] w fun e w' => e = .returned (.tuple #[.int .i64 N1, .string S1, .int .i64 0]) ∧ Below w.heap.size w w')
    (cP : ∀ w, Calls Try.prog 12 #[.int .i64 N1, .string S1] w fun e w' => e = .returned (.tuple #[labV r, .int .i64 E2]) ∧ Below w.heap.size w w') (hE : E2 ≠ 0) (w : World) :
    Calls Try.prog 75 #[.string c] w fun e w' => e = .returned (.tuple #[labV r, .bool false]) ∧ Below w.heap.size w w' := by
  obtain ⟨hb, hlt, hrow⟩ := lab_box Lb.no w
  obtain ⟨rt, ra, rh, rn⟩ := r
  have q : (E2 == 0) = false := by rw [beq_eq_false_iff_ne]; exact hE
  clear hE
  have H := Lib.hid (And.intro cT (And.intro cP (And.intro hb (And.intro hlt hrow))))
  clear cT cP hb hlt hrow
  go_enter Try.func75, Try.ntmps75
  go_wp2_with fail
  refine (H.out.1 _).mono ?_
  rintro e w1 ⟨rfl, hb1⟩
  have K := Lib.hid (And.intro (rowV_below H.out.2.2.2.2 hb1 H.out.2.2.2.1) (H.out.2.2.1.trans (hb1.mono (Nat.le_of_lt H.out.2.2.2.1))))
  clear hb1
  go_wp2_with fail
  refine (H.out.2.1 _).mono ?_
  rintro e w2 ⟨rfl, hb2⟩
  have hr2 := rowV_below K.out.1 hb2 (rowV_lt K.out.1)
  have hB2 : Below w.heap.size w w2 := K.out.2.trans (hb2.mono K.out.2.size)
  have hb4 : Below w2.heap.size w2 (w2.alloc (.cells (labC ⟨rt, ra, rh, rn⟩) 23)) := (Below.refl w2.heap.size w2).alloc (Nat.le_refl _) _
  obtain ⟨a0, a1, a2, a3, b0, b1, b2, b3, hr4⟩ := lab_below (l := Lb.no) hr2 hb4 (rowV_lt hr2)
  have L := Lib.hid (And.intro hr4 (hB2.trans (hb4.mono hB2.size)))
  clear hb2 hr2 hB2 hb4 hr4
  go_wp2_with fail
  generalize hN : w.heap.size = N at *
  refine bodyPost_ret (v := .tuple #[labV ⟨rt, ra, rh, rn⟩, .bool false]) (results_lab (p := 2) (u := 3) rfl _ _ N ⟨rt, ra, rh, rn⟩ rfl (lab_put (l := Lb.no) ?_ rt ra rh rn).1) rfl ⟨rfl, ?_⟩
  · exact L.out.1
  · exact L.out.2.trans ((lab_put L.out.1 rt ra rh rn).2 _ (Nat.le_refl _))
set_option maxRecDepth 100000 in
set_option maxHeartbeats 1600000 in
theorem rlabel6_c {c S1 : ByteArray} {N1 E1 : Int} (hE : E1 ≠ 0) (cT : ∀ w, Calls Try.prog 86 #[.string c] w fun e w' => e = .returned (.tuple #[.int .i64 N1, .string S1, .int .i64 E1]) ∧ Below w.heap.size w w') (w : World) :
    Calls Try.prog 75 #[.string c] w fun e w' => e = .returned (.tuple #[labV Lb.no, .bool false]) ∧ Below w.heap.size w w' := by
  obtain ⟨hb, hlt, hrow⟩ := lab_box Lb.no w
  have q : (E1 != 0) = true := by simpa using hE
  clear hE
  have H := Lib.hid (And.intro cT (And.intro hb (And.intro hlt hrow)))
  clear cT hb hlt hrow
  go_enter Try.func75, Try.ntmps75
  go_wp2_with fail
  refine (H.out.1 _).mono ?_
  rintro e w1 ⟨rfl, hb1⟩
  obtain ⟨a0, a1, a2, a3, b0, b1, b2, b3, hr1⟩ := lab_below (l := Lb.no) H.out.2.2.2 hb1 H.out.2.2.1
  have K := Lib.hid (And.intro hr1 (H.out.2.1.trans (hb1.mono (Nat.le_of_lt H.out.2.2.1))))
  clear hb1 hr1
  go_wp2_with fail
  generalize hN : w.heap.size = N at *
  refine bodyPost_ret (v := .tuple #[labV Lb.no, .bool false]) (results_lab (p := 2) (u := 3) rfl _ _ N Lb.no rfl (lab_put (l := Lb.no) ?_ 0 0 0 ⟨#[]⟩).1) rfl ⟨rfl, ?_⟩
  · exact K.out.1
  · exact K.out.2.trans ((lab_put K.out.1 0 0 0 ⟨#[]⟩).2 _ (Nat.le_refl _))
theorem rlabel6_any (c : ByteArray) (hc : c.size ≤ maxLen) (w : World) :
    Calls Try.prog 75 #[.string c] w fun e w' => e = .returned (.tuple #[labV (labG c).1, .bool (labG c).2]) ∧ Below w.heap.size w w' := by
  have cT := fun w => rtake5_any c hc w
  by_cases e1 : (Sl.take c).2.2 = 0
  · have cP := fun w => rparse6_any (Sl.take c).1 (Sl.take c).2.1 (take5_size e1) w
    rw [e1] at cT
    by_cases e2 : (Lb.parse (Sl.take c).1 (Sl.take c).2.1).2 = 0
    · rw [labG_ok e1 e2]; exact rlabel6_a cT cP e2 w
    · have h := rlabel6_b cT cP e2 w
      rw [Lb.parse_err e2] at h
      rw [labG_form e2]; exact h
  · rw [labG_bad e1]; exact rlabel6_c e1 cT w
set_option maxRecDepth 100000 in
set_option maxHeartbeats 1600000 in
theorem rpick6_a {a b : ByteArray} {x y : Lb.Label} (cA : ∀ w, Calls Try.prog 75 #[.string a] w fun e w' => e = .returned (.tuple #[labV x, .bool false]) ∧ Below w.heap.size w w')
    (cB : ∀ w, Calls Try.prog 75 #[.string b] w fun e w' => e = .returned (.tuple #[labV y, .bool false]) ∧ Below w.heap.size w w') (w : World) :
    Calls Try.prog 65 #[.string a, .string b] w fun e w' => e = .returned (.tuple #[labV Lb.no, .int .i64 (-1)]) ∧ Below w.heap.size w w' := by
  obtain ⟨hb, hlt, hrow⟩ := lab_box Lb.no w
  obtain ⟨xt, xa, xh, xn⟩ := x
  obtain ⟨yt, ya, yh, yn⟩ := y
  have H := Lib.hid (And.intro cA (And.intro cB (And.intro hb (And.intro hlt hrow))))
  clear cA cB hb hlt hrow
  go_enter Try.func65, Try.ntmps65
  go_wp2_with fail
  refine (H.out.1 _).mono ?_
  rintro e w1 ⟨rfl, hb1⟩
  have hr1 := rowV_below H.out.2.2.2.2 hb1 H.out.2.2.2.1
  have hB1 : Below w.heap.size w w1 := H.out.2.2.1.trans (hb1.mono (Nat.le_of_lt H.out.2.2.2.1))
  obtain ⟨hbx, hltx, hrx⟩ := lab_box ⟨xt, xa, xh, xn⟩ w1
  have K := Lib.hid (And.intro hrx (And.intro (rowV_below hr1 hbx (rowV_lt hr1)) (hB1.trans (hbx.mono hB1.size))))
  clear hb1 hr1 hB1 hbx hltx hrx
  go_wp2_with fail
  generalize hw2 : World.alloc w1 _ = w2 at *
  refine (H.out.2.1 _).mono ?_
  rintro e w3 ⟨rfl, hb3⟩
  have hrx := rowV_below K.out.1 hb3 (rowV_lt K.out.1)
  have hr3 := rowV_below K.out.2.1 hb3 (rowV_lt K.out.2.1)
  have hB3 : Below w.heap.size w w3 := K.out.2.2.trans (hb3.mono K.out.2.2.size)
  obtain ⟨hby, -, -⟩ := lab_box ⟨yt, ya, yh, yn⟩ w3
  obtain ⟨a0, a1, a2, a3, b0, b1, b2, b3, hr4⟩ := lab_below (l := Lb.no) hr3 hby (rowV_lt hr3)
  obtain ⟨c0, c1, c2, c3, -, -, -, -, -⟩ := lab_below (l := ⟨xt, xa, xh, xn⟩) hrx hby (rowV_lt hrx)
  have L := Lib.hid (And.intro hr4 (hB3.trans (hby.mono hB3.size)))
  clear hb3 hr3 hB3 hby hr4 hrx hw2
  go_wp2_with fail
  generalize hN : w.heap.size = N at *
  refine bodyPost_ret (v := .tuple #[labV Lb.no, .int .i64 (-1)]) (results_lab (p := 4) (u := 5) rfl _ _ N Lb.no rfl (lab_put (l := Lb.no) ?_ 0 0 0 ⟨#[]⟩).1) rfl ⟨rfl, ?_⟩
  · exact L.out.1
  · exact L.out.2.trans ((lab_put L.out.1 0 0 0 ⟨#[]⟩).2 _ (Nat.le_refl _))
set_option maxRecDepth 100000 in
set_option maxHeartbeats 1600000 in
theorem rpick6_b {a b : ByteArray} {x y : Lb.Label} (cA : ∀ w, Calls Try.prog 75 #[.string a] w fun e w' => e = .returned (.tuple #[labV x, .bool true]) ∧ Below w.heap.size w w')
    (cB : ∀ w, Calls Try.prog 75 #[.string b] w fun e w' => e = .returned (.tuple #[labV y, .bool false]) ∧ Below w.heap.size w w') (w : World) :
    Calls Try.prog 65 #[.string a, .string b] w fun e w' => e = .returned (.tuple #[labV x, .int .i64 0]) ∧ Below w.heap.size w w' := by
  obtain ⟨hb, hlt, hrow⟩ := lab_box Lb.no w
  obtain ⟨xt, xa, xh, xn⟩ := x
  obtain ⟨yt, ya, yh, yn⟩ := y
  have H := Lib.hid (And.intro cA (And.intro cB (And.intro hb (And.intro hlt hrow))))
  clear cA cB hb hlt hrow
  go_enter Try.func65, Try.ntmps65
  go_wp2_with fail
  refine (H.out.1 _).mono ?_
  rintro e w1 ⟨rfl, hb1⟩
  have hr1 := rowV_below H.out.2.2.2.2 hb1 H.out.2.2.2.1
  have hB1 : Below w.heap.size w w1 := H.out.2.2.1.trans (hb1.mono (Nat.le_of_lt H.out.2.2.2.1))
  obtain ⟨hbx, hltx, hrx⟩ := lab_box ⟨xt, xa, xh, xn⟩ w1
  have K := Lib.hid (And.intro hrx (And.intro (rowV_below hr1 hbx (rowV_lt hr1)) (hB1.trans (hbx.mono hB1.size))))
  clear hb1 hr1 hB1 hbx hltx hrx
  go_wp2_with fail
  generalize hw2 : World.alloc w1 _ = w2 at *
  refine (H.out.2.1 _).mono ?_
  rintro e w3 ⟨rfl, hb3⟩
  have hrx := rowV_below K.out.1 hb3 (rowV_lt K.out.1)
  have hr3 := rowV_below K.out.2.1 hb3 (rowV_lt K.out.2.1)
  have hB3 : Below w.heap.size w w3 := K.out.2.2.trans (hb3.mono K.out.2.2.size)
  obtain ⟨hby, -, -⟩ := lab_box ⟨yt, ya, yh, yn⟩ w3
  obtain ⟨a0, a1, a2, a3, b0, b1, b2, b3, hr4⟩ := lab_below (l := Lb.no) hr3 hby (rowV_lt hr3)
  obtain ⟨c0, c1, c2, c3, -, -, -, -, -⟩ := lab_below (l := ⟨xt, xa, xh, xn⟩) hrx hby (rowV_lt hrx)
  have L := Lib.hid (And.intro hr4 (hB3.trans (hby.mono hB3.size)))
  clear hb3 hr3 hB3 hby hr4 hrx hw2
  go_wp2_with fail
  generalize hN : w.heap.size = N at *
  refine bodyPost_ret (v := .tuple #[labV ⟨xt, xa, xh, xn⟩, .int .i64 0]) (results_lab (p := 4) (u := 5) rfl _ _ N ⟨xt, xa, xh, xn⟩ rfl (lab_put (l := Lb.no) ?_ xt xa xh xn).1) rfl ⟨rfl, ?_⟩
  · exact L.out.1
  · exact L.out.2.trans ((lab_put L.out.1 xt xa xh xn).2 _ (Nat.le_refl _))
set_option maxRecDepth 100000 in
set_option maxHeartbeats 1600000 in
theorem rpick6_c {a b : ByteArray} {x y : Lb.Label} (cA : ∀ w, Calls Try.prog 75 #[.string a] w fun e w' => e = .returned (.tuple #[labV x, .bool false]) ∧ Below w.heap.size w w')
    (cB : ∀ w, Calls Try.prog 75 #[.string b] w fun e w' => e = .returned (.tuple #[labV y, .bool true]) ∧ Below w.heap.size w w') (w : World) :
    Calls Try.prog 65 #[.string a, .string b] w fun e w' => e = .returned (.tuple #[labV y, .int .i64 1]) ∧ Below w.heap.size w w' := by
  obtain ⟨hb, hlt, hrow⟩ := lab_box Lb.no w
  obtain ⟨xt, xa, xh, xn⟩ := x
  obtain ⟨yt, ya, yh, yn⟩ := y
  have H := Lib.hid (And.intro cA (And.intro cB (And.intro hb (And.intro hlt hrow))))
  clear cA cB hb hlt hrow
  go_enter Try.func65, Try.ntmps65
  go_wp2_with fail
  refine (H.out.1 _).mono ?_
  rintro e w1 ⟨rfl, hb1⟩
  have hr1 := rowV_below H.out.2.2.2.2 hb1 H.out.2.2.2.1
  have hB1 : Below w.heap.size w w1 := H.out.2.2.1.trans (hb1.mono (Nat.le_of_lt H.out.2.2.2.1))
  obtain ⟨hbx, hltx, hrx⟩ := lab_box ⟨xt, xa, xh, xn⟩ w1
  have K := Lib.hid (And.intro hrx (And.intro (rowV_below hr1 hbx (rowV_lt hr1)) (hB1.trans (hbx.mono hB1.size))))
  clear hb1 hr1 hB1 hbx hltx hrx
  go_wp2_with fail
  generalize hw2 : World.alloc w1 _ = w2 at *
  refine (H.out.2.1 _).mono ?_
  rintro e w3 ⟨rfl, hb3⟩
  have hrx := rowV_below K.out.1 hb3 (rowV_lt K.out.1)
  have hr3 := rowV_below K.out.2.1 hb3 (rowV_lt K.out.2.1)
  have hB3 : Below w.heap.size w w3 := K.out.2.2.trans (hb3.mono K.out.2.2.size)
  obtain ⟨hby, -, -⟩ := lab_box ⟨yt, ya, yh, yn⟩ w3
  obtain ⟨a0, a1, a2, a3, b0, b1, b2, b3, hr4⟩ := lab_below (l := Lb.no) hr3 hby (rowV_lt hr3)
  obtain ⟨c0, c1, c2, c3, -, -, -, -, -⟩ := lab_below (l := ⟨xt, xa, xh, xn⟩) hrx hby (rowV_lt hrx)
  have L := Lib.hid (And.intro hr4 (hB3.trans (hby.mono hB3.size)))
  clear hb3 hr3 hB3 hby hr4 hrx hw2
  go_wp2_with fail
  generalize hN : w.heap.size = N at *
  refine bodyPost_ret (v := .tuple #[labV ⟨yt, ya, yh, yn⟩, .int .i64 1]) (results_lab (p := 4) (u := 5) rfl _ _ N ⟨yt, ya, yh, yn⟩ rfl (lab_put (l := Lb.no) ?_ yt ya yh yn).1) rfl ⟨rfl, ?_⟩
  · exact L.out.1
  · exact L.out.2.trans ((lab_put L.out.1 yt ya yh yn).2 _ (Nat.le_refl _))
set_option maxRecDepth 100000 in
set_option maxHeartbeats 1600000 in
theorem rpick6_d {a b : ByteArray} {x y : Lb.Label} (cA : ∀ w, Calls Try.prog 75 #[.string a] w fun e w' => e = .returned (.tuple #[labV x, .bool true]) ∧ Below w.heap.size w w')
    (cB : ∀ w, Calls Try.prog 75 #[.string b] w fun e w' => e = .returned (.tuple #[labV y, .bool true]) ∧ Below w.heap.size w w') (h : x.turn < y.turn) (w : World) :
    Calls Try.prog 65 #[.string a, .string b] w fun e w' => e = .returned (.tuple #[labV y, .int .i64 1]) ∧ Below w.heap.size w w' := by
  obtain ⟨hb, hlt, hrow⟩ := lab_box Lb.no w
  obtain ⟨xt, xa, xh, xn⟩ := x
  obtain ⟨yt, ya, yh, yn⟩ := y
  have t1 : yt > xt := h
  have H := Lib.hid (And.intro cA (And.intro cB (And.intro hb (And.intro hlt hrow))))
  clear cA cB hb hlt hrow
  go_enter Try.func65, Try.ntmps65
  go_wp2_with fail
  refine (H.out.1 _).mono ?_
  rintro e w1 ⟨rfl, hb1⟩
  have hr1 := rowV_below H.out.2.2.2.2 hb1 H.out.2.2.2.1
  have hB1 : Below w.heap.size w w1 := H.out.2.2.1.trans (hb1.mono (Nat.le_of_lt H.out.2.2.2.1))
  obtain ⟨hbx, hltx, hrx⟩ := lab_box ⟨xt, xa, xh, xn⟩ w1
  have K := Lib.hid (And.intro hrx (And.intro (rowV_below hr1 hbx (rowV_lt hr1)) (hB1.trans (hbx.mono hB1.size))))
  clear hb1 hr1 hB1 hbx hltx hrx
  go_wp2_with fail
  generalize hw2 : World.alloc w1 _ = w2 at *
  refine (H.out.2.1 _).mono ?_
  rintro e w3 ⟨rfl, hb3⟩
  have hrx := rowV_below K.out.1 hb3 (rowV_lt K.out.1)
  have hr3 := rowV_below K.out.2.1 hb3 (rowV_lt K.out.2.1)
  have hB3 : Below w.heap.size w w3 := K.out.2.2.trans (hb3.mono K.out.2.2.size)
  obtain ⟨hby, -, -⟩ := lab_box ⟨yt, ya, yh, yn⟩ w3
  obtain ⟨a0, a1, a2, a3, b0, b1, b2, b3, hr4⟩ := lab_below (l := Lb.no) hr3 hby (rowV_lt hr3)
  obtain ⟨c0, c1, c2, c3, -, -, -, -, -⟩ := lab_below (l := ⟨xt, xa, xh, xn⟩) hrx hby (rowV_lt hrx)
  have L := Lib.hid (And.intro hr4 (hB3.trans (hby.mono hB3.size)))
  clear hb3 hr3 hB3 hby hr4 hrx hw2
  go_wp2_with fail
  generalize hN : w.heap.size = N at *
  refine bodyPost_ret (v := .tuple #[labV ⟨yt, ya, yh, yn⟩, .int .i64 1]) (results_lab (p := 4) (u := 5) rfl _ _ N ⟨yt, ya, yh, yn⟩ rfl (lab_put (l := Lb.no) ?_ yt ya yh yn).1) rfl ⟨rfl, ?_⟩
  · exact L.out.1
  · exact L.out.2.trans ((lab_put L.out.1 yt ya yh yn).2 _ (Nat.le_refl _))
set_option maxRecDepth 100000 in
set_option maxHeartbeats 1600000 in
theorem rpick6_e {a b : ByteArray} {x y : Lb.Label} (cA : ∀ w, Calls Try.prog 75 #[.string a] w fun e w' => e = .returned (.tuple #[labV x, .bool true]) ∧ Below w.heap.size w w')
    (cB : ∀ w, Calls Try.prog 75 #[.string b] w fun e w' => e = .returned (.tuple #[labV y, .bool true]) ∧ Below w.heap.size w w') (h : ¬ x.turn < y.turn) (w : World) :
    Calls Try.prog 65 #[.string a, .string b] w fun e w' => e = .returned (.tuple #[labV x, .int .i64 0]) ∧ Below w.heap.size w w' := by
  obtain ⟨hb, hlt, hrow⟩ := lab_box Lb.no w
  obtain ⟨xt, xa, xh, xn⟩ := x
  obtain ⟨yt, ya, yh, yn⟩ := y
  have t1 : ¬ yt > xt := h
  have H := Lib.hid (And.intro cA (And.intro cB (And.intro hb (And.intro hlt hrow))))
  clear cA cB hb hlt hrow
  go_enter Try.func65, Try.ntmps65
  go_wp2_with fail
  refine (H.out.1 _).mono ?_
  rintro e w1 ⟨rfl, hb1⟩
  have hr1 := rowV_below H.out.2.2.2.2 hb1 H.out.2.2.2.1
  have hB1 : Below w.heap.size w w1 := H.out.2.2.1.trans (hb1.mono (Nat.le_of_lt H.out.2.2.2.1))
  obtain ⟨hbx, hltx, hrx⟩ := lab_box ⟨xt, xa, xh, xn⟩ w1
  have K := Lib.hid (And.intro hrx (And.intro (rowV_below hr1 hbx (rowV_lt hr1)) (hB1.trans (hbx.mono hB1.size))))
  clear hb1 hr1 hB1 hbx hltx hrx
  go_wp2_with fail
  generalize hw2 : World.alloc w1 _ = w2 at *
  refine (H.out.2.1 _).mono ?_
  rintro e w3 ⟨rfl, hb3⟩
  have hrx := rowV_below K.out.1 hb3 (rowV_lt K.out.1)
  have hr3 := rowV_below K.out.2.1 hb3 (rowV_lt K.out.2.1)
  have hB3 : Below w.heap.size w w3 := K.out.2.2.trans (hb3.mono K.out.2.2.size)
  obtain ⟨hby, -, -⟩ := lab_box ⟨yt, ya, yh, yn⟩ w3
  obtain ⟨a0, a1, a2, a3, b0, b1, b2, b3, hr4⟩ := lab_below (l := Lb.no) hr3 hby (rowV_lt hr3)
  obtain ⟨c0, c1, c2, c3, -, -, -, -, -⟩ := lab_below (l := ⟨xt, xa, xh, xn⟩) hrx hby (rowV_lt hrx)
  have L := Lib.hid (And.intro hr4 (hB3.trans (hby.mono hB3.size)))
  clear hb3 hr3 hB3 hby hr4 hrx hw2
  go_wp2_with fail
  generalize hN : w.heap.size = N at *
  refine bodyPost_ret (v := .tuple #[labV ⟨xt, xa, xh, xn⟩, .int .i64 0]) (results_lab (p := 4) (u := 5) rfl _ _ N ⟨xt, xa, xh, xn⟩ rfl (lab_put (l := Lb.no) ?_ xt xa xh xn).1) rfl ⟨rfl, ?_⟩
  · exact L.out.1
  · exact L.out.2.trans ((lab_put L.out.1 xt xa xh xn).2 _ (Nat.le_refl _))
theorem rpick6_any (a b : ByteArray) (ha : a.size ≤ maxLen) (hb : b.size ≤ maxLen) (w : World) :
    Calls Try.prog 65 #[.string a, .string b] w fun e w' => e = .returned (.tuple #[labV (Lb.pick a b).1, .int .i64 (Lb.pick a b).2]) ∧ Below w.heap.size w w' := by
  have cA := fun w => rlabel6_any a ha w
  have cB := fun w => rlabel6_any b hb w
  unfold labG at cA cB
  unfold Lb.pick
  cases hx : Lb.ofB a with
  | none =>
    rw [hx] at cA
    cases hy : Lb.ofB b with
    | none => rw [hy] at cB; exact rpick6_a cA cB w
    | some y => rw [hy] at cB; exact rpick6_c cA cB w
  | some x =>
    rw [hx] at cA
    cases hy : Lb.ofB b with
    | none => rw [hy] at cB; exact rpick6_b cA cB w
    | some y =>
      rw [hy] at cB
      by_cases h : x.turn < y.turn
      · rw [show Lb.pick2 (some x) (some y) = (y, 1) from if_pos h]; exact rpick6_d cA cB h w
      · rw [show Lb.pick2 (some x) (some y) = (x, 0) from if_neg h]; exact rpick6_e cA cB h w
end Go.Proofs.Ytedemehlccmkpaa

/-
  Layer 6: what the document's Read tells of a disk that is read so.
-/
namespace Go.Proofs.Ytedemehlccmkpaa
open Go.RowKit
def ReadsR (w : World) (v : Value) (S : Int → ByteArray) (E : Int → Int) : Prop := ∀ w', Below w.heap.size w w' → ∀ i, Calls Try.prog 50 #[v, .int .i64 i] w' fun e w'' => e = .returned (.tuple #[.string (S i), .int .i64 (E i)]) ∧ w'' = w'
theorem readsR_below {w w' : World} {v : Value} {S : Int → ByteArray} {E : Int → Int} (h : ReadsR w v S E) (hb : Below w.heap.size w w') : ReadsR w' v S E := fun w'' hb' => h w'' (hb.trans (hb'.mono hb.size))
set_option maxRecDepth 100000 in
set_option maxHeartbeats 800000 in
theorem both6_any {w : World} {v : Value} {S : Int → ByteArray} {E : Int → Int} (hd : ReadsR w v S E) :
    Calls Try.prog 64 #[v] w fun e w' => e = .returned (.tuple #[.string (loadG S E).1, .string (loadG S E).2.1, .int .i64 (loadG S E).2.2]) ∧ w' = w := by
  have cr := hd w (Below.refl _ _)
  have c0 := cr 0
  have c1 := cr 1
  clear cr hd
  unfold loadG
  by_cases e0 : E 0 = 0
  · have q0 : (E 0 != 0) = false := by rw [e0]; rfl
    by_cases e1 : E 1 = 0
    · have q1 : (E 1 != 0) = false := by rw [e1]; rfl
      rw [if_neg (fun h => h e0), if_neg (fun h => h e1)]
      have H := Lib.hid (And.intro c0 c1)
      clear c0 c1 e0 e1
      generalize E 0 = E0 at *
      generalize E 1 = E1 at *
      generalize S 0 = S0 at *
      generalize S 1 = S1 at *
      go_enter Try.func64, Try.ntmps64
      go_wp2_with fail
      refine H.out.1.mono ?_
      rintro e w1 ⟨rfl, hw1⟩
      obtain rfl := hw1.symm; clear hw1
      go_wp2_with fail
      refine H.out.2.mono ?_
      rintro e w1 ⟨rfl, hw1⟩
      obtain rfl := hw1.symm; clear hw1
      go_wp2_with fail
      go_ret3
      exact ⟨rfl, rfl⟩
    · have q1 : (E 1 != 0) = true := by simpa using e1
      rw [if_neg (fun h => h e0), if_pos e1]
      have H := Lib.hid (And.intro c0 c1)
      clear c0 c1 e0 e1
      generalize E 0 = E0 at *
      generalize E 1 = E1 at *
      generalize S 0 = S0 at *
      generalize S 1 = S1 at *
      go_enter Try.func64, Try.ntmps64
      go_wp2_with fail
      refine H.out.1.mono ?_
      rintro e w1 ⟨rfl, hw1⟩
      obtain rfl := hw1.symm; clear hw1
      go_wp2_with fail
      refine H.out.2.mono ?_
      rintro e w1 ⟨rfl, hw1⟩
      obtain rfl := hw1.symm; clear hw1
      go_wp2_with fail
      go_ret3
      exact ⟨rfl, rfl⟩
  · have q0 : (E 0 != 0) = true := by simpa using e0
    rw [if_pos e0]
    have H := Lib.hid (And.intro c0 c1)
    clear c0 c1 e0
    generalize E 0 = E0 at *
    generalize E 1 = E1 at *
    generalize S 0 = S0 at *
    generalize S 1 = S1 at *
    go_enter Try.func64, Try.ntmps64
    go_wp2_with fail
    refine H.out.1.mono ?_
    rintro e w1 ⟨rfl, hw1⟩
    obtain rfl := hw1.symm; clear hw1
    go_wp2_with fail
    refine H.out.2.mono ?_
    rintro e w1 ⟨rfl, hw1⟩
    obtain rfl := hw1.symm; clear hw1
    go_wp2_with fail
    go_ret3
    exact ⟨rfl, rfl⟩
set_option maxRecDepth 100000 in
set_option maxHeartbeats 1600000 in
theorem rread6_a {p : Int} {w : World} {v : Value} {A B : ByteArray} {r : Lb.Label} (cB : ∀ w', Below w.heap.size w w' → Calls Try.prog 64 #[v] w' fun e w'' => e = .returned (.tuple #[.string A, .string B, .int .i64 0]) ∧ w'' = w')
    (cQ : ∀ w, Calls Try.prog 65 #[.string A, .string B] w fun e w' => e = .returned (.tuple #[labV r, .int .i64 p]) ∧ Below w.heap.size w w') (hp : 0 ≤ p) :
    Calls Try.prog 48 #[v] w fun e w' => e = .returned (.tuple #[labV r, .int .i64 0]) ∧ Below w.heap.size w w' := by
  obtain ⟨i0, hi, hz0, hz1, hz2⟩ := info_parts Try.info5
  have hmb : i0.bytes * 512 ≤ 281474976710656 := by rw [hz2]; omega
  have hml : 512 ≤ maxLen := by unfold maxLen; omega
  have HI := Lib.hid (And.intro hi (And.intro hz0 (And.intro hz1 (And.intro hmb hml))))
  clear hi hz0 hz1 hz2 hmb hml
  obtain ⟨hb, hlt, hrow⟩ := lab_box Lb.no w
  obtain ⟨rt, ra, rh, rn⟩ := r
  have hZ : (⟨(List.replicate 512 (0 : UInt8)).toArray⟩ : ByteArray) = Sl.zeros := rfl
  generalize Sl.zeros = Z at *
  have HZ := Lib.hid hZ
  clear hZ
  have H := Lib.hid (And.intro cB (And.intro cQ (And.intro hb (And.intro hlt hrow))))
  clear cB cQ hb hlt hrow
  go_enter Try.func48, Try.ntmps48
  go_wp2_with fail
  refine (H.out.1 _ H.out.2.2.1).mono ?_
  rintro e w1 ⟨rfl, hw1⟩
  have K := Lib.hid (show Below w.heap.size w w1 ∧ RowV w1 w.heap.size 23 (labC Lb.no).toList by rw [hw1]; exact ⟨H.out.2.2.1, H.out.2.2.2.2⟩)
  clear hw1
  go_wp2_with fail
  refine (H.out.2.1 _).mono ?_
  rintro e w2 ⟨rfl, hb2⟩
  have hr2 := rowV_below K.out.2 hb2 (rowV_lt K.out.2)
  have hB2 : Below w.heap.size w w2 := K.out.1.trans (hb2.mono K.out.1.size)
  obtain ⟨hby, hly, hry⟩ := lab_box ⟨rt, ra, rh, rn⟩ w2
  have L := Lib.hid (And.intro hry (And.intro (rowV_below hr2 hby (rowV_lt hr2)) (hB2.trans (hby.mono hB2.size))))
  have hsz : w.heap.size ≤ (w2.alloc (.cells #[.int .i64 rt, .int .i64 ra, .int .i64 rh, .string rn] 23)).heap.size := L.out.2.2.size
  clear hb2 hr2 hB2 hby hly hry
  go_wp2_with (at_make; go_loud (refine wpList_make_full _ rfl _ _ 84 rfl w.heap.size 5 i0 (.int .u8 0) 1 Try.underlying84 HI.out.1 HI.out.2.1 HI.out.2.2.1 .i64 .i64 _ _ 512 rfl rfl (by omega) (by omega) HI.out.2.2.2.1 HI.out.2.2.2.2 hsz ?_))
  generalize hw3 : World.alloc w2 _ = w3 at *
  intro w4 hown hgrow
  have ho : OwnsB w4 w.heap.size 5 _ (List.replicate 512 0) := ownsB_made hown
  have hb4 : Below w3.heap.size w3 w4 := (Below.refl _ w3).grown hgrow (Nat.le_refl _) (by simp)
  have hconv := ownsB_conv (P := Try.prog) (src := 84) (dst := 9) ho Try.underlying84 Try.underlying5 Try.underlying9
  rw [HZ.out] at hconv
  obtain ⟨a0, a1, a2, a3, b0, b1, b2, b3, hr4⟩ := lab_below (l := Lb.no) L.out.2.1 hb4 (rowV_lt L.out.2.1)
  obtain ⟨c0, c1, c2, c3, -, -, -, -, -⟩ := lab_below (l := ⟨rt, ra, rh, rn⟩) L.out.1 hb4 (rowV_lt L.out.1)
  have M := Lib.hid (And.intro hr4 (L.out.2.2.trans (hb4.mono L.out.2.2.size)))
  clear ho hb4 hown hgrow hr4 hw3
  go_wp2_with fail
  generalize hN : w.heap.size = N at *
  refine bodyPost_ret (v := .tuple #[labV ⟨rt, ra, rh, rn⟩, .int .i64 0]) (results_lab (p := 2) (u := 3) rfl _ _ N ⟨rt, ra, rh, rn⟩ rfl (lab_put (l := Lb.no) ?_ rt ra rh rn).1) rfl ⟨rfl, ?_⟩
  · exact M.out.1
  · exact M.out.2.trans ((lab_put M.out.1 rt ra rh rn).2 _ (Nat.le_refl _))
set_option maxRecDepth 100000 in
set_option maxHeartbeats 1600000 in
theorem rread6_b {w : World} {v : Value} {A B : ByteArray} {r : Lb.Label} (cB : ∀ w', Below w.heap.size w w' → Calls Try.prog 64 #[v] w' fun e w'' => e = .returned (.tuple #[.string A, .string B, .int .i64 0]) ∧ w'' = w')
    (cQ : ∀ w, Calls Try.prog 65 #[.string A, .string B] w fun e w' => e = .returned (.tuple #[labV r, .int .i64 (-1)]) ∧ Below w.heap.size w w') (h : A = Sl.zeros) :
    Calls Try.prog 48 #[v] w fun e w' => e = .returned (.tuple #[labV Lb.no, .int .i64 6]) ∧ Below w.heap.size w w' := by
  obtain ⟨i0, hi, hz0, hz1, hz2⟩ := info_parts Try.info5
  have hmb : i0.bytes * 512 ≤ 281474976710656 := by rw [hz2]; omega
  have hml : 512 ≤ maxLen := by unfold maxLen; omega
  have HI := Lib.hid (And.intro hi (And.intro hz0 (And.intro hz1 (And.intro hmb hml))))
  clear hi hz0 hz1 hz2 hmb hml
  obtain ⟨hb, hlt, hrow⟩ := lab_box Lb.no w
  obtain ⟨rt, ra, rh, rn⟩ := r
  have hZ : (⟨(List.replicate 512 (0 : UInt8)).toArray⟩ : ByteArray) = Sl.zeros := rfl
  rw [← h] at hZ
  clear h
  have HZ := Lib.hid hZ
  clear hZ
  have H := Lib.hid (And.intro cB (And.intro cQ (And.intro hb (And.intro hlt hrow))))
  clear cB cQ hb hlt hrow
  go_enter Try.func48, Try.ntmps48
  go_wp2_with fail
  refine (H.out.1 _ H.out.2.2.1).mono ?_
  rintro e w1 ⟨rfl, hw1⟩
  have K := Lib.hid (show Below w.heap.size w w1 ∧ RowV w1 w.heap.size 23 (labC Lb.no).toList by rw [hw1]; exact ⟨H.out.2.2.1, H.out.2.2.2.2⟩)
  clear hw1
  go_wp2_with fail
  refine (H.out.2.1 _).mono ?_
  rintro e w2 ⟨rfl, hb2⟩
  have hr2 := rowV_below K.out.2 hb2 (rowV_lt K.out.2)
  have hB2 : Below w.heap.size w w2 := K.out.1.trans (hb2.mono K.out.1.size)
  obtain ⟨hby, hly, hry⟩ := lab_box ⟨rt, ra, rh, rn⟩ w2
  have L := Lib.hid (And.intro hry (And.intro (rowV_below hr2 hby (rowV_lt hr2)) (hB2.trans (hby.mono hB2.size))))
  have hsz : w.heap.size ≤ (w2.alloc (.cells #[.int .i64 rt, .int .i64 ra, .int .i64 rh, .string rn] 23)).heap.size := L.out.2.2.size
  clear hb2 hr2 hB2 hby hly hry
  go_wp2_with (at_make; go_loud (refine wpList_make_full _ rfl _ _ 84 rfl w.heap.size 5 i0 (.int .u8 0) 1 Try.underlying84 HI.out.1 HI.out.2.1 HI.out.2.2.1 .i64 .i64 _ _ 512 rfl rfl (by omega) (by omega) HI.out.2.2.2.1 HI.out.2.2.2.2 hsz ?_))
  generalize hw3 : World.alloc w2 _ = w3 at *
  intro w4 hown hgrow
  have ho : OwnsB w4 w.heap.size 5 _ (List.replicate 512 0) := ownsB_made hown
  have hb4 : Below w3.heap.size w3 w4 := (Below.refl _ w3).grown hgrow (Nat.le_refl _) (by simp)
  have hconv := ownsB_conv (P := Try.prog) (src := 84) (dst := 9) ho Try.underlying84 Try.underlying5 Try.underlying9
  rw [HZ.out] at hconv
  obtain ⟨a0, a1, a2, a3, b0, b1, b2, b3, hr4⟩ := lab_below (l := Lb.no) L.out.2.1 hb4 (rowV_lt L.out.2.1)
  obtain ⟨c0, c1, c2, c3, -, -, -, -, -⟩ := lab_below (l := ⟨rt, ra, rh, rn⟩) L.out.1 hb4 (rowV_lt L.out.1)
  have M := Lib.hid (And.intro hr4 (L.out.2.2.trans (hb4.mono L.out.2.2.size)))
  clear ho hb4 hown hgrow hr4 hw3
  go_wp2_with fail
  generalize hN : w.heap.size = N at *
  refine bodyPost_ret (v := .tuple #[labV Lb.no, .int .i64 6]) (results_lab (p := 2) (u := 3) rfl _ _ N Lb.no rfl (lab_put (l := Lb.no) ?_ 0 0 0 ⟨#[]⟩).1) rfl ⟨rfl, ?_⟩
  · exact M.out.1
  · exact M.out.2.trans ((lab_put M.out.1 0 0 0 ⟨#[]⟩).2 _ (Nat.le_refl _))
set_option maxRecDepth 100000 in
set_option maxHeartbeats 1600000 in
theorem rread6_c {w : World} {v : Value} {A B : ByteArray} {r : Lb.Label} (cB : ∀ w', Below w.heap.size w w' → Calls Try.prog 64 #[v] w' fun e w'' => e = .returned (.tuple #[.string A, .string B, .int .i64 0]) ∧ w'' = w')
    (cQ : ∀ w, Calls Try.prog 65 #[.string A, .string B] w fun e w' => e = .returned (.tuple #[labV r, .int .i64 (-1)]) ∧ Below w.heap.size w w') (h : A ≠ Sl.zeros) (h2 : B = Sl.zeros) :
    Calls Try.prog 48 #[v] w fun e w' => e = .returned (.tuple #[labV Lb.no, .int .i64 6]) ∧ Below w.heap.size w w' := by
  obtain ⟨i0, hi, hz0, hz1, hz2⟩ := info_parts Try.info5
  have hmb : i0.bytes * 512 ≤ 281474976710656 := by rw [hz2]; omega
  have hml : 512 ≤ maxLen := by unfold maxLen; omega
  have HI := Lib.hid (And.intro hi (And.intro hz0 (And.intro hz1 (And.intro hmb hml))))
  clear hi hz0 hz1 hz2 hmb hml
  obtain ⟨hb, hlt, hrow⟩ := lab_box Lb.no w
  obtain ⟨rt, ra, rh, rn⟩ := r
  have hZ : (⟨(List.replicate 512 (0 : UInt8)).toArray⟩ : ByteArray) = Sl.zeros := rfl
  have q1 := str_neq h
  rw [← h2] at hZ q1
  have q2 := str_beq q1
  clear h h2
  have HZ := Lib.hid hZ
  clear hZ
  have H := Lib.hid (And.intro cB (And.intro cQ (And.intro hb (And.intro hlt hrow))))
  clear cB cQ hb hlt hrow
  go_enter Try.func48, Try.ntmps48
  go_wp2_with fail
  refine (H.out.1 _ H.out.2.2.1).mono ?_
  rintro e w1 ⟨rfl, hw1⟩
  have K := Lib.hid (show Below w.heap.size w w1 ∧ RowV w1 w.heap.size 23 (labC Lb.no).toList by rw [hw1]; exact ⟨H.out.2.2.1, H.out.2.2.2.2⟩)
  clear hw1
  go_wp2_with fail
  refine (H.out.2.1 _).mono ?_
  rintro e w2 ⟨rfl, hb2⟩
  have hr2 := rowV_below K.out.2 hb2 (rowV_lt K.out.2)
  have hB2 : Below w.heap.size w w2 := K.out.1.trans (hb2.mono K.out.1.size)
  obtain ⟨hby, hly, hry⟩ := lab_box ⟨rt, ra, rh, rn⟩ w2
  have L := Lib.hid (And.intro hry (And.intro (rowV_below hr2 hby (rowV_lt hr2)) (hB2.trans (hby.mono hB2.size))))
  have hsz : w.heap.size ≤ (w2.alloc (.cells #[.int .i64 rt, .int .i64 ra, .int .i64 rh, .string rn] 23)).heap.size := L.out.2.2.size
  clear hb2 hr2 hB2 hby hly hry
  go_wp2_with (at_make; go_loud (refine wpList_make_full _ rfl _ _ 84 rfl w.heap.size 5 i0 (.int .u8 0) 1 Try.underlying84 HI.out.1 HI.out.2.1 HI.out.2.2.1 .i64 .i64 _ _ 512 rfl rfl (by omega) (by omega) HI.out.2.2.2.1 HI.out.2.2.2.2 hsz ?_))
  generalize hw3 : World.alloc w2 _ = w3 at *
  intro w4 hown hgrow
  have ho : OwnsB w4 w.heap.size 5 _ (List.replicate 512 0) := ownsB_made hown
  have hb4 : Below w3.heap.size w3 w4 := (Below.refl _ w3).grown hgrow (Nat.le_refl _) (by simp)
  have hconv := ownsB_conv (P := Try.prog) (src := 84) (dst := 9) ho Try.underlying84 Try.underlying5 Try.underlying9
  rw [HZ.out] at hconv
  obtain ⟨a0, a1, a2, a3, b0, b1, b2, b3, hr4⟩ := lab_below (l := Lb.no) L.out.2.1 hb4 (rowV_lt L.out.2.1)
  obtain ⟨c0, c1, c2, c3, -, -, -, -, -⟩ := lab_below (l := ⟨rt, ra, rh, rn⟩) L.out.1 hb4 (rowV_lt L.out.1)
  have M := Lib.hid (And.intro hr4 (L.out.2.2.trans (hb4.mono L.out.2.2.size)))
  clear ho hb4 hown hgrow hr4 hw3
  go_wp2_with fail
  generalize hN : w.heap.size = N at *
  refine bodyPost_ret (v := .tuple #[labV Lb.no, .int .i64 6]) (results_lab (p := 2) (u := 3) rfl _ _ N Lb.no rfl (lab_put (l := Lb.no) ?_ 0 0 0 ⟨#[]⟩).1) rfl ⟨rfl, ?_⟩
  · exact M.out.1
  · exact M.out.2.trans ((lab_put M.out.1 0 0 0 ⟨#[]⟩).2 _ (Nat.le_refl _))
set_option maxRecDepth 100000 in
set_option maxHeartbeats 1600000 in
theorem rread6_d {w : World} {v : Value} {A B : ByteArray} {r : Lb.Label} (cB : ∀ w', Below w.heap.size w w' → Calls Try.prog 64 #[v] w' fun e w'' => e = .returned (.tuple #[.string A, .string B, .int .i64 0]) ∧ w'' = w')
    (cQ : ∀ w, Calls Try.prog 65 #[.string A, .string B] w fun e w' => e = .returned (.tuple #[labV r, .int .i64 (-1)]) ∧ Below w.heap.size w w') (h : A ≠ Sl.zeros) (h2 : B ≠ Sl.zeros) :
    Calls Try.prog 48 #[v] w fun e w' => e = .returned (.tuple #[labV Lb.no, .int .i64 9]) ∧ Below w.heap.size w w' := by
  obtain ⟨i0, hi, hz0, hz1, hz2⟩ := info_parts Try.info5
  have hmb : i0.bytes * 512 ≤ 281474976710656 := by rw [hz2]; omega
  have hml : 512 ≤ maxLen := by unfold maxLen; omega
  have HI := Lib.hid (And.intro hi (And.intro hz0 (And.intro hz1 (And.intro hmb hml))))
  clear hi hz0 hz1 hz2 hmb hml
  obtain ⟨hb, hlt, hrow⟩ := lab_box Lb.no w
  obtain ⟨rt, ra, rh, rn⟩ := r
  have hZ : (⟨(List.replicate 512 (0 : UInt8)).toArray⟩ : ByteArray) = Sl.zeros := rfl
  have q1 := str_neq h
  have q2 := str_beq q1
  have q3 := str_neq h2
  have q4 := str_beq q3
  clear h h2
  generalize Sl.zeros = Z at *
  have HZ := Lib.hid hZ
  clear hZ
  have H := Lib.hid (And.intro cB (And.intro cQ (And.intro hb (And.intro hlt hrow))))
  clear cB cQ hb hlt hrow
  go_enter Try.func48, Try.ntmps48
  go_wp2_with fail
  refine (H.out.1 _ H.out.2.2.1).mono ?_
  rintro e w1 ⟨rfl, hw1⟩
  have K := Lib.hid (show Below w.heap.size w w1 ∧ RowV w1 w.heap.size 23 (labC Lb.no).toList by rw [hw1]; exact ⟨H.out.2.2.1, H.out.2.2.2.2⟩)
  clear hw1
  go_wp2_with fail
  refine (H.out.2.1 _).mono ?_
  rintro e w2 ⟨rfl, hb2⟩
  have hr2 := rowV_below K.out.2 hb2 (rowV_lt K.out.2)
  have hB2 : Below w.heap.size w w2 := K.out.1.trans (hb2.mono K.out.1.size)
  obtain ⟨hby, hly, hry⟩ := lab_box ⟨rt, ra, rh, rn⟩ w2
  have L := Lib.hid (And.intro hry (And.intro (rowV_below hr2 hby (rowV_lt hr2)) (hB2.trans (hby.mono hB2.size))))
  have hsz : w.heap.size ≤ (w2.alloc (.cells #[.int .i64 rt, .int .i64 ra, .int .i64 rh, .string rn] 23)).heap.size := L.out.2.2.size
  clear hb2 hr2 hB2 hby hly hry
  go_wp2_with (at_make; go_loud (refine wpList_make_full _ rfl _ _ 84 rfl w.heap.size 5 i0 (.int .u8 0) 1 Try.underlying84 HI.out.1 HI.out.2.1 HI.out.2.2.1 .i64 .i64 _ _ 512 rfl rfl (by omega) (by omega) HI.out.2.2.2.1 HI.out.2.2.2.2 hsz ?_))
  generalize hw3 : World.alloc w2 _ = w3 at *
  intro w4 hown hgrow
  have ho : OwnsB w4 w.heap.size 5 _ (List.replicate 512 0) := ownsB_made hown
  have hb4 : Below w3.heap.size w3 w4 := (Below.refl _ w3).grown hgrow (Nat.le_refl _) (by simp)
  have hconv := ownsB_conv (P := Try.prog) (src := 84) (dst := 9) ho Try.underlying84 Try.underlying5 Try.underlying9
  rw [HZ.out] at hconv
  obtain ⟨a0, a1, a2, a3, b0, b1, b2, b3, hr4⟩ := lab_below (l := Lb.no) L.out.2.1 hb4 (rowV_lt L.out.2.1)
  obtain ⟨c0, c1, c2, c3, -, -, -, -, -⟩ := lab_below (l := ⟨rt, ra, rh, rn⟩) L.out.1 hb4 (rowV_lt L.out.1)
  have M := Lib.hid (And.intro hr4 (L.out.2.2.trans (hb4.mono L.out.2.2.size)))
  clear ho hb4 hown hgrow hr4 hw3
  go_wp2_with fail
  generalize hN : w.heap.size = N at *
  refine bodyPost_ret (v := .tuple #[labV Lb.no, .int .i64 9]) (results_lab (p := 2) (u := 3) rfl _ _ N Lb.no rfl (lab_put (l := Lb.no) ?_ 0 0 0 ⟨#[]⟩).1) rfl ⟨rfl, ?_⟩
  · exact M.out.1
  · exact M.out.2.trans ((lab_put M.out.1 0 0 0 ⟨#[]⟩).2 _ (Nat.le_refl _))
set_option maxRecDepth 100000 in
set_option maxHeartbeats 1600000 in
theorem rread6_e {w : World} {v : Value} {A B : ByteArray} {F : Int} (hF : F ≠ 0) (cB : ∀ w', Below w.heap.size w w' → Calls Try.prog 64 #[v] w' fun e w'' => e = .returned (.tuple #[.string A, .string B, .int .i64 F]) ∧ w'' = w') :
    Calls Try.prog 48 #[v] w fun e w' => e = .returned (.tuple #[labV Lb.no, .int .i64 F]) ∧ Below w.heap.size w w' := by
  obtain ⟨hb, hlt, hrow⟩ := lab_box Lb.no w
  have q : (F != 0) = true := by simpa using hF
  clear hF
  have H := Lib.hid (And.intro cB (And.intro hb (And.intro hlt hrow)))
  clear cB hb hlt hrow
  go_enter Try.func48, Try.ntmps48
  go_wp2_with fail
  refine (H.out.1 _ H.out.2.1).mono ?_
  rintro e w1 ⟨rfl, hw1⟩
  obtain ⟨a0, a1, a2, a3, b0, b1, b2, b3, hr⟩ := lab_below (l := Lb.no) (w := w1) (w' := w1) (B := w1.heap.size) (g := w.heap.size) (by rw [hw1]; exact H.out.2.2.2) (Below.refl _ _) (by rw [hw1]; exact H.out.2.2.1)
  have K := Lib.hid (And.intro hr (show Below w.heap.size w w1 by rw [hw1]; exact H.out.2.1))
  clear hw1 hr
  go_wp2_with fail
  generalize hN : w.heap.size = N at *
  refine bodyPost_ret (v := .tuple #[labV Lb.no, .int .i64 F]) (results_lab (p := 2) (u := 3) rfl _ _ N Lb.no rfl (lab_put (l := Lb.no) ?_ 0 0 0 ⟨#[]⟩).1) rfl ⟨rfl, ?_⟩
  · exact K.out.1
  · exact K.out.2.trans ((lab_put K.out.1 0 0 0 ⟨#[]⟩).2 _ (Nat.le_refl _))
theorem rread6_any {w : World} {v : Value} {S : Int → ByteArray} {E : Int → Int} (hd : ReadsR w v S E) (h0 : (S 0).size ≤ maxLen) (h1 : (S 1).size ≤ maxLen) :
    Calls Try.prog 48 #[v] w fun e w' => e = .returned (.tuple #[labV (readG S E).1, .int .i64 (readG S E).2]) ∧ Below w.heap.size w w' := by
  have cB := fun w' (hb : Below w.heap.size w w') => both6_any (readsR_below hd hb)
  have cQ := fun w => rpick6_any (S 0) (S 1) h0 h1 w
  obtain ⟨hg1, hg2⟩ := readG_load S E
  by_cases e1 : (loadG S E).2.2 = 0
  · obtain ⟨ga, gb, gr⟩ := hg2 e1
    rw [ga, gb, e1] at cB
    rw [gr]
    unfold Lb.readAB
    by_cases hp : 0 ≤ (Lb.pick (S 0) (S 1)).2
    · rw [if_pos hp]; exact rread6_a cB cQ hp
    · rw [if_neg hp]
      have hpi : (Lb.pick (S 0) (S 1)).2 = -1 := by rcases Lb.pick_at (S 0) (S 1) with ⟨h, _⟩ | ⟨h, _⟩ | ⟨h, _⟩ <;> omega
      rw [hpi] at cQ
      by_cases z0 : S 0 = Sl.zeros
      · rw [if_pos (.inl z0)]; exact rread6_b cB cQ z0
      · by_cases z1 : S 1 = Sl.zeros
        · rw [if_pos (.inr z1)]; exact rread6_c cB cQ z0 z1
        · rw [if_neg (fun h => h.elim z0 z1)]; exact rread6_d cB cQ z0 z1
  · rw [hg1 e1]; exact rread6_e e1 cB
end Go.Proofs.Ytedemehlccmkpaa

/-
  Layer 6: which block is written next, by the document.
-/
namespace Go.Proofs.Ytedemehlccmkpaa
open Go.RowKit
theorem info_int4 : (Try.prog.info? 3).map (fun i => (i.zero, i.size)) = some (some (.int .i64 0), 1) := by kernel_rfl
theorem run_slice4 (w : World) (a b c d : Int) : (Instr.buildSlice 42 4 #[(0, .int .i64 a), (1, .int .i64 b), (2, .int .i64 c), (3, .int .i64 d)]).run Try.prog w = .ok (.slice (some ⟨w.heap.size, 0, none⟩) 4 4) (w.alloc (.cells #[.int .i64 a, .int .i64 b, .int .i64 c, .int .i64 d] 3)) := by
  obtain ⟨iw, hi, hi2⟩ := Option.map_eq_some_iff.1 info_int4
  simp only [Prod.mk.injEq] at hi2
  refine run_buildSlice w _ _ 4 _ _ iw _ Try.underlying42 hi hi2.1 (by rw [hi2.2]; omega) (by rw [hi2.2]; omega) ?_
  have e := Great.fill_whole (s := iw.size) (by rw [hi2.2]; omega) [.int .i64 a, .int .i64 b, .int .i64 c, .int .i64 d] ((Array.range (4 * iw.size)).map ((Value.int .i64 0).cells[· % (Value.int .i64 0).cells.size]!)) (by intro v hv; rw [hi2.2]; simp at hv; rcases hv with rfl | rfl | rfl | rfl <;> rfl) (by simp)
  simp only [List.zipIdx_cons, List.zipIdx_nil, List.map_cons, List.map_nil, List.flatMap_cons, List.flatMap_nil, List.append_nil, Value.cells] at e
  exact e
def fAt (X Y Z W : Int) (j : Nat) : Int := if j = 0 then X else if j = 1 then Y else if j = 2 then Z else W
def uAt (X Y Z W : Int) (j : Nat) : Int := if j = 0 then 0 else if j = 1 then Lb.up 0 X else if j = 2 then Lb.up (Lb.up 0 X) Y else if j = 3 then Lb.up (Lb.up (Lb.up 0 X) Y) Z else Lb.up (Lb.up (Lb.up (Lb.up 0 X) Y) Z) W
theorem uAt_0 (X Y Z W : Int) : uAt X Y Z W 0 = 0 := by unfold uAt; rw [if_pos rfl]
theorem uAt_4 (X Y Z W : Int) : uAt X Y Z W 4 = Lb.up (Lb.up (Lb.up (Lb.up 0 X) Y) Z) W := by unfold uAt; rw [if_neg (by decide), if_neg (by decide), if_neg (by decide), if_neg (by decide)]
theorem uAt_succ (X Y Z W : Int) (j : Nat) (hj : j < 4) : uAt X Y Z W (j + 1) = Lb.up (uAt X Y Z W j) (fAt X Y Z W j) := by
  unfold uAt fAt
  by_cases h0 : j = 0
  · subst h0; rw [if_neg (by decide), if_pos rfl, if_pos rfl, if_pos rfl]
  · by_cases h1 : j = 1
    · subst h1; rw [if_neg (by decide), if_neg (by decide), if_pos rfl, if_neg (by decide), if_pos rfl, if_neg (by decide), if_pos rfl]
    · by_cases h2 : j = 2
      · subst h2; rw [if_neg (by decide), if_neg (by decide), if_neg (by decide), if_pos rfl, if_neg (by decide), if_neg (by decide), if_pos rfl, if_neg (by decide), if_neg (by decide), if_pos rfl]
      · obtain rfl : j = 3 := by omega
        rw [if_neg (by decide), if_neg (by decide), if_neg (by decide), if_neg (by decide), if_neg (by decide), if_neg (by decide), if_neg (by decide), if_pos rfl, if_neg (by decide), if_neg (by decide), if_neg (by decide)]
theorem four_at {w : World} {g : Nat} {X Y Z W : Int} (h : RowV w g 3 [.int .i64 X, .int .i64 Y, .int .i64 Z, .int .i64 W]) (j : Nat) (hj : j < 4) : w.cell? ⟨g, j, none⟩ = some (.int .i64 (fAt X Y Z W j)) := by
  rw [rowV_cell h]
  unfold fAt
  by_cases h0 : j = 0
  · subst h0; rfl
  · by_cases h1 : j = 1
    · subst h1; rfl
    · by_cases h2 : j = 2
      · subst h2; rfl
      · obtain rfl : j = 3 := by omega
        rfl
theorem up_no {G x : Int} (h : ¬ G < x) : Lb.up G x = G := if_neg fun hh => h hh.1
theorem up_yes {G x : Int} (h : G < x) (h2 : x < 4611686018427387904) : Lb.up G x = x := if_pos ⟨h, h2⟩
set_option maxRecDepth 100000 in
set_option maxHeartbeats 2000000 in
theorem rnext6_a {w : World} {v : Value} {A B : ByteArray} {r r2 : Lb.Label} {X Y Z W M : Int} (cR : Calls Try.prog 48 #[v] w fun e w' => e = .returned (.tuple #[labV r, .int .i64 0]) ∧ Below w.heap.size w w')
    (cB : ∀ w', Below w.heap.size w w' → Calls Try.prog 64 #[v] w' fun e w'' => e = .returned (.tuple #[.string A, .string B, .int .i64 0]) ∧ w'' = w')
    (cQ : ∀ w, Calls Try.prog 65 #[.string A, .string B] w fun e w' => e = .returned (.tuple #[labV r2, .int .i64 0]) ∧ Below w.heap.size w w')
    (cH1 : ∀ w, Calls Try.prog 66 #[.string A] w fun e w' => e = .returned (.tuple #[.int .i64 X, .int .i64 Y]) ∧ ∃ n, w' = w.drewN n)
    (cH2 : ∀ w, Calls Try.prog 66 #[.string B] w fun e w' => e = .returned (.tuple #[.int .i64 Z, .int .i64 W]) ∧ ∃ n, w' = w.drewN n) (hM : uAt X Y Z W 4 = M) (hM0 : 0 ≤ M) (hM1 : M < 4611686018427387904) :
    Calls Try.prog 38 #[v] w fun e w' => e = .returned (.tuple #[.int .i64 1, .int .i64 (M + 1), .int .i64 0]) ∧ Below w.heap.size w w' := by
  obtain ⟨rt, ra, rh, rn⟩ := r
  obtain ⟨st, sa, sh, sn⟩ := r2
  have hsl := fun W0 => run_slice4 W0 X Y Z W
  have HM := Lib.hid hM
  have H := Lib.hid (And.intro cR (And.intro cB (And.intro cQ (And.intro cH1 cH2))))
  clear cR cB cQ cH1 cH2 hM
  go_enter Try.func38, Try.ntmps38
  go_wp2_with fail
  refine H.out.1.mono ?_
  rintro e w1 ⟨rfl, hb1⟩
  obtain ⟨hbx, -, -⟩ := lab_box ⟨rt, ra, rh, rn⟩ w1
  have K := Lib.hid (hb1.trans (hbx.mono hb1.size))
  clear hb1 hbx
  go_wp2_with fail
  generalize hw2 : World.alloc w1 _ = w2 at *
  clear hw2
  refine (H.out.2.1 _ K.out).mono ?_
  rintro e w3 ⟨rfl, hw3⟩
  obtain rfl := hw3.symm; clear hw3
  go_wp2_with fail
  refine (H.out.2.2.1 _).mono ?_
  rintro e w4 ⟨rfl, hb4⟩
  have hB4 : Below w.heap.size w w4 := K.out.trans (hb4.mono K.out.size)
  obtain ⟨hby, -, -⟩ := lab_box ⟨st, sa, sh, sn⟩ w4
  have L := Lib.hid (hB4.trans (hby.mono hB4.size))
  clear hb4 hB4 hby
  go_wp2_with fail
  generalize hw5 : World.alloc w4 _ = w5 at *
  clear hw5
  refine (H.out.2.2.2.1 _).mono ?_
  rintro e w6 ⟨rfl, n1, hw6⟩
  have L6 : Hid (Below w.heap.size w w6) := Lib.hid (by rw [hw6]; exact below_drewN L.out n1)
  clear hw6
  go_wp2_with fail
  refine (H.out.2.2.2.2 _).mono ?_
  rintro e w7 ⟨rfl, n2, hw7⟩
  have L7 : Hid (Below w.heap.size w w7) := Lib.hid (by rw [hw7]; exact below_drewN L6.out n2)
  clear hw7
  have hrw := rowV_new w7 3 [.int .i64 X, .int .i64 Y, .int .i64 Z, .int .i64 W]
  have hb8 : Below w.heap.size w (w7.alloc (.cells #[.int .i64 X, .int .i64 Y, .int .i64 Z, .int .i64 W] 3)) := L7.out.trans ((Below.refl w.heap.size w7).alloc L7.out.size _)
  have N8 := Lib.hid (And.intro hrw hb8)
  clear hrw hb8
  go_wp2_with fail
  generalize hw8 : World.alloc w7 _ = w8 at *
  have N9 : Hid (RowV w8 w7.heap.size 3 [.int .i64 X, .int .i64 Y, .int .i64 Z, .int .i64 W] ∧ Below w.heap.size w w8) := Lib.hid N8.out
  clear N8 hw8
  go_loop [12, 18] (fun m i => ∃ j : Nat, j ≤ 4 ∧ i = .int .i64 (j : Int) ∧ ∃ G, m = .int .i64 G ∧ Hid (G = uAt X Y Z W j)) (fun _ i => 4 - (intOf i).toNat)
  case atStart => exact ⟨0, Nat.zero_le _, rfl, _, rfl, Lib.hid (uAt_0 X Y Z W).symm⟩
  case round =>
    obtain ⟨j, hj, rfl, G, rfl, hG⟩ := hrel
    by_cases hj4 : j < 4
    · have hc := four_at N9.out.1 j hj4
      have hu := uAt_succ X Y Z W j hj4
      generalize fAt X Y Z W j = h at *
      have HU := Lib.hid hu
      clear hu
      by_cases t1 : G < h
      · have t1' : h > G := t1
        by_cases t2 : h < 4611686018427387904
        · go_wp2_with fail
          exact ⟨⟨j + 1, by omega, rfl, _, rfl, Lib.hid (by rw [HU.out, ← hG.out, up_yes t1 t2])⟩, by simp [intOf]; omega⟩
        · go_wp2_with fail
          exact ⟨⟨j + 1, by omega, rfl, _, rfl, Lib.hid (by rw [HU.out, ← hG.out, up_far t2])⟩, by simp [intOf]; omega⟩
      · have t1' : ¬ h > G := t1
        go_wp2_with fail
        exact ⟨⟨j + 1, by omega, rfl, _, rfl, Lib.hid (by rw [HU.out, ← hG.out, up_no t1])⟩, by simp [intOf]; omega⟩
    · obtain rfl : j = 4 := by omega
      have hGM : G = M := by rw [hG.out]; exact HM.out
      subst hGM
      go_wp2_with fail
      go_ret3
      exact ⟨rfl, N9.out.2⟩
set_option maxRecDepth 100000 in
set_option maxHeartbeats 2000000 in
theorem rnext6_b {w : World} {v : Value} {A B : ByteArray} {r r2 : Lb.Label} {X Y Z W M : Int} (cR : Calls Try.prog 48 #[v] w fun e w' => e = .returned (.tuple #[labV r, .int .i64 0]) ∧ Below w.heap.size w w')
    (cB : ∀ w', Below w.heap.size w w' → Calls Try.prog 64 #[v] w' fun e w'' => e = .returned (.tuple #[.string A, .string B, .int .i64 0]) ∧ w'' = w')
    (cQ : ∀ w, Calls Try.prog 65 #[.string A, .string B] w fun e w' => e = .returned (.tuple #[labV r2, .int .i64 1]) ∧ Below w.heap.size w w')
    (cH1 : ∀ w, Calls Try.prog 66 #[.string A] w fun e w' => e = .returned (.tuple #[.int .i64 X, .int .i64 Y]) ∧ ∃ n, w' = w.drewN n)
    (cH2 : ∀ w, Calls Try.prog 66 #[.string B] w fun e w' => e = .returned (.tuple #[.int .i64 Z, .int .i64 W]) ∧ ∃ n, w' = w.drewN n) (hM : uAt X Y Z W 4 = M) (hM0 : 0 ≤ M) (hM1 : M < 4611686018427387904) :
    Calls Try.prog 38 #[v] w fun e w' => e = .returned (.tuple #[.int .i64 0, .int .i64 (M + 1), .int .i64 0]) ∧ Below w.heap.size w w' := by
  obtain ⟨rt, ra, rh, rn⟩ := r
  obtain ⟨st, sa, sh, sn⟩ := r2
  have hsl := fun W0 => run_slice4 W0 X Y Z W
  have HM := Lib.hid hM
  have H := Lib.hid (And.intro cR (And.intro cB (And.intro cQ (And.intro cH1 cH2))))
  clear cR cB cQ cH1 cH2 hM
  go_enter Try.func38, Try.ntmps38
  go_wp2_with fail
  refine H.out.1.mono ?_
  rintro e w1 ⟨rfl, hb1⟩
  obtain ⟨hbx, -, -⟩ := lab_box ⟨rt, ra, rh, rn⟩ w1
  have K := Lib.hid (hb1.trans (hbx.mono hb1.size))
  clear hb1 hbx
  go_wp2_with fail
  generalize hw2 : World.alloc w1 _ = w2 at *
  clear hw2
  refine (H.out.2.1 _ K.out).mono ?_
  rintro e w3 ⟨rfl, hw3⟩
  obtain rfl := hw3.symm; clear hw3
  go_wp2_with fail
  refine (H.out.2.2.1 _).mono ?_
  rintro e w4 ⟨rfl, hb4⟩
  have hB4 : Below w.heap.size w w4 := K.out.trans (hb4.mono K.out.size)
  obtain ⟨hby, -, -⟩ := lab_box ⟨st, sa, sh, sn⟩ w4
  have L := Lib.hid (hB4.trans (hby.mono hB4.size))
  clear hb4 hB4 hby
  go_wp2_with fail
  generalize hw5 : World.alloc w4 _ = w5 at *
  clear hw5
  refine (H.out.2.2.2.1 _).mono ?_
  rintro e w6 ⟨rfl, n1, hw6⟩
  have L6 : Hid (Below w.heap.size w w6) := Lib.hid (by rw [hw6]; exact below_drewN L.out n1)
  clear hw6
  go_wp2_with fail
  refine (H.out.2.2.2.2 _).mono ?_
  rintro e w7 ⟨rfl, n2, hw7⟩
  have L7 : Hid (Below w.heap.size w w7) := Lib.hid (by rw [hw7]; exact below_drewN L6.out n2)
  clear hw7
  have hrw := rowV_new w7 3 [.int .i64 X, .int .i64 Y, .int .i64 Z, .int .i64 W]
  have hb8 : Below w.heap.size w (w7.alloc (.cells #[.int .i64 X, .int .i64 Y, .int .i64 Z, .int .i64 W] 3)) := L7.out.trans ((Below.refl w.heap.size w7).alloc L7.out.size _)
  have N8 := Lib.hid (And.intro hrw hb8)
  clear hrw hb8
  go_wp2_with fail
  generalize hw8 : World.alloc w7 _ = w8 at *
  have N9 : Hid (RowV w8 w7.heap.size 3 [.int .i64 X, .int .i64 Y, .int .i64 Z, .int .i64 W] ∧ Below w.heap.size w w8) := Lib.hid N8.out
  clear N8 hw8
  go_loop [12, 18] (fun m i => ∃ j : Nat, j ≤ 4 ∧ i = .int .i64 (j : Int) ∧ ∃ G, m = .int .i64 G ∧ Hid (G = uAt X Y Z W j)) (fun _ i => 4 - (intOf i).toNat)
  case atStart => exact ⟨0, Nat.zero_le _, rfl, _, rfl, Lib.hid (uAt_0 X Y Z W).symm⟩
  case round =>
    obtain ⟨j, hj, rfl, G, rfl, hG⟩ := hrel
    by_cases hj4 : j < 4
    · have hc := four_at N9.out.1 j hj4
      have hu := uAt_succ X Y Z W j hj4
      generalize fAt X Y Z W j = h at *
      have HU := Lib.hid hu
      clear hu
      by_cases t1 : G < h
      · have t1' : h > G := t1
        by_cases t2 : h < 4611686018427387904
        · go_wp2_with fail
          exact ⟨⟨j + 1, by omega, rfl, _, rfl, Lib.hid (by rw [HU.out, ← hG.out, up_yes t1 t2])⟩, by simp [intOf]; omega⟩
        · go_wp2_with fail
          exact ⟨⟨j + 1, by omega, rfl, _, rfl, Lib.hid (by rw [HU.out, ← hG.out, up_far t2])⟩, by simp [intOf]; omega⟩
      · have t1' : ¬ h > G := t1
        go_wp2_with fail
        exact ⟨⟨j + 1, by omega, rfl, _, rfl, Lib.hid (by rw [HU.out, ← hG.out, up_no t1])⟩, by simp [intOf]; omega⟩
    · obtain rfl : j = 4 := by omega
      have hGM : G = M := by rw [hG.out]; exact HM.out
      subst hGM
      go_wp2_with fail
      go_ret3
      exact ⟨rfl, N9.out.2⟩
set_option maxRecDepth 100000 in
set_option maxHeartbeats 2000000 in
theorem rnext6_c {w : World} {v : Value} {A B : ByteArray} {r r2 : Lb.Label} {X Y Z W M : Int} (cR : Calls Try.prog 48 #[v] w fun e w' => e = .returned (.tuple #[labV r, .int .i64 6]) ∧ Below w.heap.size w w')
    (cB : ∀ w', Below w.heap.size w w' → Calls Try.prog 64 #[v] w' fun e w'' => e = .returned (.tuple #[.string A, .string B, .int .i64 0]) ∧ w'' = w')
    (cQ : ∀ w, Calls Try.prog 65 #[.string A, .string B] w fun e w' => e = .returned (.tuple #[labV r2, .int .i64 (-1)]) ∧ Below w.heap.size w w')
    (cH1 : ∀ w, Calls Try.prog 66 #[.string A] w fun e w' => e = .returned (.tuple #[.int .i64 X, .int .i64 Y]) ∧ ∃ n, w' = w.drewN n)
    (cH2 : ∀ w, Calls Try.prog 66 #[.string B] w fun e w' => e = .returned (.tuple #[.int .i64 Z, .int .i64 W]) ∧ ∃ n, w' = w.drewN n) (hM : uAt X Y Z W 4 = M) (hM0 : 0 ≤ M) (hM1 : M < 4611686018427387904) :
    Calls Try.prog 38 #[v] w fun e w' => e = .returned (.tuple #[.int .i64 0, .int .i64 (M + 1), .int .i64 0]) ∧ Below w.heap.size w w' := by
  obtain ⟨rt, ra, rh, rn⟩ := r
  obtain ⟨st, sa, sh, sn⟩ := r2
  have hsl := fun W0 => run_slice4 W0 X Y Z W
  have HM := Lib.hid hM
  have H := Lib.hid (And.intro cR (And.intro cB (And.intro cQ (And.intro cH1 cH2))))
  clear cR cB cQ cH1 cH2 hM
  go_enter Try.func38, Try.ntmps38
  go_wp2_with fail
  refine H.out.1.mono ?_
  rintro e w1 ⟨rfl, hb1⟩
  obtain ⟨hbx, -, -⟩ := lab_box ⟨rt, ra, rh, rn⟩ w1
  have K := Lib.hid (hb1.trans (hbx.mono hb1.size))
  clear hb1 hbx
  go_wp2_with fail
  generalize hw2 : World.alloc w1 _ = w2 at *
  clear hw2
  refine (H.out.2.1 _ K.out).mono ?_
  rintro e w3 ⟨rfl, hw3⟩
  obtain rfl := hw3.symm; clear hw3
  go_wp2_with fail
  refine (H.out.2.2.1 _).mono ?_
  rintro e w4 ⟨rfl, hb4⟩
  have hB4 : Below w.heap.size w w4 := K.out.trans (hb4.mono K.out.size)
  obtain ⟨hby, -, -⟩ := lab_box ⟨st, sa, sh, sn⟩ w4
  have L := Lib.hid (hB4.trans (hby.mono hB4.size))
  clear hb4 hB4 hby
  go_wp2_with fail
  generalize hw5 : World.alloc w4 _ = w5 at *
  clear hw5
  refine (H.out.2.2.2.1 _).mono ?_
  rintro e w6 ⟨rfl, n1, hw6⟩
  have L6 : Hid (Below w.heap.size w w6) := Lib.hid (by rw [hw6]; exact below_drewN L.out n1)
  clear hw6
  go_wp2_with fail
  refine (H.out.2.2.2.2 _).mono ?_
  rintro e w7 ⟨rfl, n2, hw7⟩
  have L7 : Hid (Below w.heap.size w w7) := Lib.hid (by rw [hw7]; exact below_drewN L6.out n2)
  clear hw7
  have hrw := rowV_new w7 3 [.int .i64 X, .int .i64 Y, .int .i64 Z, .int .i64 W]
  have hb8 : Below w.heap.size w (w7.alloc (.cells #[.int .i64 X, .int .i64 Y, .int .i64 Z, .int .i64 W] 3)) := L7.out.trans ((Below.refl w.heap.size w7).alloc L7.out.size _)
  have N8 := Lib.hid (And.intro hrw hb8)
  clear hrw hb8
  go_wp2_with fail
  generalize hw8 : World.alloc w7 _ = w8 at *
  have N9 : Hid (RowV w8 w7.heap.size 3 [.int .i64 X, .int .i64 Y, .int .i64 Z, .int .i64 W] ∧ Below w.heap.size w w8) := Lib.hid N8.out
  clear N8 hw8
  go_loop [12, 18] (fun m i => ∃ j : Nat, j ≤ 4 ∧ i = .int .i64 (j : Int) ∧ ∃ G, m = .int .i64 G ∧ Hid (G = uAt X Y Z W j)) (fun _ i => 4 - (intOf i).toNat)
  case atStart => exact ⟨0, Nat.zero_le _, rfl, _, rfl, Lib.hid (uAt_0 X Y Z W).symm⟩
  case round =>
    obtain ⟨j, hj, rfl, G, rfl, hG⟩ := hrel
    by_cases hj4 : j < 4
    · have hc := four_at N9.out.1 j hj4
      have hu := uAt_succ X Y Z W j hj4
      generalize fAt X Y Z W j = h at *
      have HU := Lib.hid hu
      clear hu
      by_cases t1 : G < h
      · have t1' : h > G := t1
        by_cases t2 : h < 4611686018427387904
        · go_wp2_with fail
          exact ⟨⟨j + 1, by omega, rfl, _, rfl, Lib.hid (by rw [HU.out, ← hG.out, up_yes t1 t2])⟩, by simp [intOf]; omega⟩
        · go_wp2_with fail
          exact ⟨⟨j + 1, by omega, rfl, _, rfl, Lib.hid (by rw [HU.out, ← hG.out, up_far t2])⟩, by simp [intOf]; omega⟩
      · have t1' : ¬ h > G := t1
        go_wp2_with fail
        exact ⟨⟨j + 1, by omega, rfl, _, rfl, Lib.hid (by rw [HU.out, ← hG.out, up_no t1])⟩, by simp [intOf]; omega⟩
    · obtain rfl : j = 4 := by omega
      have hGM : G = M := by rw [hG.out]; exact HM.out
      subst hGM
      go_wp2_with fail
      go_ret3
      exact ⟨rfl, N9.out.2⟩
set_option maxRecDepth 100000 in
set_option maxHeartbeats 2000000 in
theorem rnext6_d {w : World} {v : Value} {r : Lb.Label} {E : Int} (cR : Calls Try.prog 48 #[v] w fun e w' => e = .returned (.tuple #[labV r, .int .i64 E]) ∧ Below w.heap.size w w') (h0 : E ≠ 0) (h6 : E ≠ 6) :
    Calls Try.prog 38 #[v] w fun e w' => e = .returned (.tuple #[.int .i64 0, .int .i64 0, .int .i64 E]) ∧ Below w.heap.size w w' := by
  obtain ⟨rt, ra, rh, rn⟩ := r
  have q1 : (E != 0) = true := by simpa using h0
  have q2 : (E != 6) = true := by simpa using h6
  have H := Lib.hid cR
  clear cR h0 h6
  go_enter Try.func38, Try.ntmps38
  go_wp2_with fail
  refine H.out.mono ?_
  rintro e w1 ⟨rfl, hb1⟩
  obtain ⟨hbx, -, -⟩ := lab_box ⟨rt, ra, rh, rn⟩ w1
  have K := Lib.hid (hb1.trans (hbx.mono hb1.size))
  clear hb1 hbx
  go_wp2_with fail
  go_ret3
  exact ⟨rfl, K.out⟩
theorem rnext6_any {w : World} {v : Value} {S : Int → ByteArray} {E : Int → Int} (hd : ReadsR w v S E) (h0 : (S 0).size ≤ maxLen) (h1 : (S 1).size ≤ maxLen) (k0 : E 0 ≠ 6) (k1 : E 1 ≠ 6) :
    Calls Try.prog 38 #[v] w fun e w' => e = .returned (.tuple #[.int .i64 (nextG S E).1, .int .i64 (nextG S E).2.1, .int .i64 (nextG S E).2.2]) ∧ Below w.heap.size w w' := by
  have cR := rread6_any hd h0 h1
  have cB := fun w' (hb : Below w.heap.size w w') => both6_any (readsR_below hd hb)
  have cQ := fun w => rpick6_any (S 0) (S 1) h0 h1 w
  have cH1 := fun w => rhalves_any (S 0) h0 w
  have cH2 := fun w => rhalves_any (S 1) h1 w
  have hM : uAt (Sl.halves (S 0)).1 (Sl.halves (S 0)).2 (Sl.halves (S 1)).1 (Sl.halves (S 1)).2 4 = Lb.most (S 0) (S 1) := by rw [uAt_4]; unfold Lb.most; rfl
  have hb := most_bound (S 0) (S 1)
  obtain ⟨hg1, hg2⟩ := readG_load S E
  have h6 := loadG_six (S := S) k0 k1
  by_cases e1 : (loadG S E).2.2 = 0
  · obtain ⟨ga, gb, gr⟩ := hg2 e1
    rw [ga, gb, e1] at cB
    rcases ways_AB (S 0) (S 1) with ⟨a, b⟩ | ⟨a, b⟩ | ⟨a, b⟩ | ⟨a, b⟩
    · have e : nextG S E = (1, Lb.most (S 0) (S 1) + 1, 0) := by unfold nextG; rw [gr, b, a]; rfl
      rw [a] at cQ; rw [gr, b] at cR; rw [e]
      exact rnext6_a cR cB cQ cH1 cH2 hM hb.1 hb.2
    · have e : nextG S E = (0, Lb.most (S 0) (S 1) + 1, 0) := by unfold nextG; rw [gr, b, a]; rfl
      rw [a] at cQ; rw [gr, b] at cR; rw [e]
      exact rnext6_b cR cB cQ cH1 cH2 hM hb.1 hb.2
    · have e : nextG S E = (0, Lb.most (S 0) (S 1) + 1, 0) := by unfold nextG; rw [gr, b, a]; rfl
      rw [a] at cQ; rw [gr, b] at cR; rw [e]
      exact rnext6_c cR cB cQ cH1 cH2 hM hb.1 hb.2
    · have e : nextG S E = (0, 0, 9) := by unfold nextG; rw [gr, b]; rfl
      rw [gr, b] at cR; rw [e]
      exact rnext6_d cR (by decide) (by decide)
  · have e : nextG S E = (0, 0, (loadG S E).2.2) := by unfold nextG; rw [hg1 e1]; exact if_pos ⟨e1, h6⟩
    rw [hg1 e1] at cR
    rw [e]
    exact rnext6_d cR e1 h6
end Go.Proofs.Ytedemehlccmkpaa

/-
  Layer 4: the program's disk in memory, and what its small calls do.
-/
namespace Go.Proofs.Ytedemehlccmkpaa
open Go.RowKit

/-- a loose write's cells -/
def wv (x : Nat × ByteArray) : List Value := .int .i64 (x.1 : Int) :: bv x.2
/-- a disk's own cells -/
def HeadAt (w : World) (p gn gk cn ck : Nat) (la : Option Addr) (cap : Nat) (d : Dk.D) : Prop :=
  RowV w p 79 [.slice (some ⟨gn, 0, none⟩) d.B.length cn, .slice (some ⟨gk, 0, none⟩) d.B.length ck, .slice la d.W.length cap, .int .i64 d.fuse, .bool d.gone]
/-- a loose list in memory: what lies behind its length is the disk's own, where there is room -/
def LooseAt (w : World) (S : Nat → Prop) (p gn gk : Nat) (la : Option Addr) (cap : Nat) (W : List (Nat × ByteArray)) : Prop :=
  (la = none ∧ cap = 0 ∧ W = []) ∨ ∃ g r, la = some ⟨g, 0, none⟩ ∧ RowV w g 93 (W.flatMap wv ++ r) ∧ W.length ≤ cap ∧ cap ≤ maxLen ∧ g ≠ p ∧ g ≠ gn ∧ g ≠ gk ∧ (W.length < cap → S g ∧ W.length * 513 + r.length = cap * 513)
/-- a slice of blocks in memory -/
def BlocksAt (w : World) (g c : Nat) (B : List ByteArray) : Prop := ∃ r, RowV w g 91 (B.flatMap bv ++ r) ∧ B.length ≤ c ∧ c ≤ maxLen
/-- the program's disk at block p, told by its blocks' numbers -/
structure DiskIn (w : World) (S : Nat → Prop) (p gn gk cn ck : Nat) (la : Option Addr) (cap : Nat) (d : Dk.D) : Prop where
  ok : Dk.Ok d
  head : HeadAt w p gn gk cn ck la cap d
  now : BlocksAt w gn cn (Dk.over d.B d.W)
  kept : BlocksAt w gk ck d.B
  loose : LooseAt w S p gn gk la cap d.W
  pn : gn ≠ p
  pk : gk ≠ p
  nk : gk ≠ gn
  sp : S p
  sn : S gn
  sk : S gk
def DiskAt (w : World) (S : Nat → Prop) (p : Nat) (d : Dk.D) : Prop := ∃ gn gk cn ck la cap, DiskIn w S p gn gk cn ck la cap d

/-- a disk behind a call: its loose list lies where it lay, or in what is its own -/
def DiskNext (w : World) (S : Nat → Prop) (p : Nat) (d : Dk.D) (la : Option Addr) : Prop := ∃ gn gk cn ck la' cap, DiskIn w S p gn gk cn ck la' cap d ∧ (la' = none ∨ la' = la ∨ ∃ g, la' = some ⟨g, 0, none⟩ ∧ S g)
/-- a disk whose loose list, too, lies in L -/
def DiskAtL (w : World) (S L : Nat → Prop) (p : Nat) (d : Dk.D) : Prop := ∃ gn gk cn ck la cap, DiskIn w S p gn gk cn ck la cap d ∧ ∀ a, la = some a → L a.block
theorem looseAt_lt {w : World} {S : Nat → Prop} {p gn gk cap : Nat} {la : Option Addr} {W : List (Nat × ByteArray)} (h : LooseAt w S p gn gk la cap W) : ∀ a, la = some a → a.block < w.heap.size := by
  rintro a rfl
  rcases h with ⟨h1, _⟩ | ⟨g, r, h1, h2, _⟩
  · cases h1
  · cases h1; exact rowV_lt h2
/-- what happens elsewhere does not touch a disk -/
theorem looseAt_only {F S : Nat → Prop} {w w' : World} {p gn gk cap : Nat} {la : Option Addr} {W : List (Nat × ByteArray)} (h : LooseAt w S p gn gk la cap W) (ho : Only F w w') (hn : ∀ a, la = some a → ¬ F a.block) : LooseAt w' S p gn gk la cap W := by
  rcases h with h | ⟨g, r, h1, h2, h3⟩
  · exact .inl h
  · exact .inr ⟨g, r, h1, rowV_only h2 ho (hn _ h1), h3⟩
theorem looseAt_mono {S S' : Nat → Prop} {w : World} {p gn gk cap : Nat} {la : Option Addr} {W : List (Nat × ByteArray)} (h : LooseAt w S p gn gk la cap W) (hs : ∀ k, k < w.heap.size → S k → S' k) : LooseAt w S' p gn gk la cap W := by
  rcases h with h | ⟨g, r, h1, h2, h3, h4, h5, h6, h7, h8⟩
  · exact .inl h
  · exact .inr ⟨g, r, h1, h2, h3, h4, h5, h6, h7, fun hc => ⟨hs _ (rowV_lt h2) (h8 hc).1, (h8 hc).2⟩⟩
theorem blocksAt_only {F : Nat → Prop} {w w' : World} {g c : Nat} {B : List ByteArray} (h : BlocksAt w g c B) (ho : Only F w w') (hn : ¬ F g) : BlocksAt w' g c B := by
  obtain ⟨r, h1, h2⟩ := h
  exact ⟨r, rowV_only h1 ho hn, h2⟩
theorem diskIn_only {F S : Nat → Prop} {w w' : World} {p gn gk cn ck cap : Nat} {la : Option Addr} {d : Dk.D} (h : DiskIn w S p gn gk cn ck la cap d) (ho : Only F w w') (h1 : ¬ F p) (h2 : ¬ F gn) (h3 : ¬ F gk) (h4 : ∀ a, la = some a → ¬ F a.block) : DiskIn w' S p gn gk cn ck la cap d :=
  ⟨h.ok, rowV_only h.head ho h1, blocksAt_only h.now ho h2, blocksAt_only h.kept ho h3, looseAt_only h.loose ho h4, h.pn, h.pk, h.nk, h.sp, h.sn, h.sk⟩
theorem diskIn_below {S : Nat → Prop} {w w' : World} {p gn gk cn ck cap : Nat} {la : Option Addr} {d : Dk.D} (h : DiskIn w S p gn gk cn ck la cap d) (hb : Below w.heap.size w w') : DiskIn w' S p gn gk cn ck la cap d := by
  obtain ⟨r1, h1, _⟩ := h.now
  obtain ⟨r2, h2, _⟩ := h.kept
  have l0 := rowV_lt h.head
  have l1 := rowV_lt h1
  have l2 := rowV_lt h2
  exact diskIn_only h (Only.of_below hb) (by omega) (by omega) (by omega) fun a ha => by have := looseAt_lt h.loose a ha; omega
theorem diskIn_mono {S S' : Nat → Prop} {w : World} {p gn gk cn ck cap : Nat} {la : Option Addr} {d : Dk.D} (h : DiskIn w S p gn gk cn ck la cap d) (hs : ∀ k, k < w.heap.size → S k → S' k) : DiskIn w S' p gn gk cn ck la cap d := by
  obtain ⟨r1, h1, _⟩ := h.now
  obtain ⟨r2, h2, _⟩ := h.kept
  exact ⟨h.ok, h.head, h.now, h.kept, looseAt_mono h.loose hs, h.pn, h.pk, h.nk, hs _ (rowV_lt h.head) h.sp, hs _ (rowV_lt h1) h.sn, hs _ (rowV_lt h2) h.sk⟩

section
variable {w : World} {p gn gk cn ck cap : Nat} {la : Option Addr} {d : Dk.D}
theorem head_now (h : HeadAt w p gn gk cn ck la cap d) : w.cell? ⟨p, 0, none⟩ = some (.slice (some ⟨gn, 0, none⟩) d.B.length cn) := rowV_cell h 0
theorem head_kept (h : HeadAt w p gn gk cn ck la cap d) : w.cell? ⟨p, 1, none⟩ = some (.slice (some ⟨gk, 0, none⟩) d.B.length ck) := rowV_cell h 1
theorem head_loose (h : HeadAt w p gn gk cn ck la cap d) : w.cell? ⟨p, 2, none⟩ = some (.slice la d.W.length cap) := rowV_cell h 2
theorem head_left (h : HeadAt w p gn gk cn ck la cap d) : w.cell? ⟨p, 3, none⟩ = some (.int .i64 d.fuse) := rowV_cell h 3
theorem head_gone (h : HeadAt w p gn gk cn ck la cap d) : w.cell? ⟨p, 4, none⟩ = some (.bool d.gone) := rowV_cell h 4

set_option maxRecDepth 100000 in
theorem none_any (h : HeadAt w p gn gk cn ck la cap d) (hd : Dk.Ok d) : Calls Try.prog 45 #[.pointer (some ⟨p, 0, none⟩)] w fun e w' => e = .returned (.bool false) ∧ w' = w := by
  have c0 := head_now h
  have h0 : ((d.B.length : Int) == 0) = false := by rw [beq_eq_false_iff_ne]; have := hd.pos; omega
  have HH := Lib.hid h; clear h
  go_enter Try.func45, Try.ntmps45
  go_wp2_with fail
  go_ret
  exact ⟨rfl, rfl⟩
set_option maxRecDepth 100000 in
theorem asked_any (h : HeadAt w p gn gk cn ck la cap d) (hd : Dk.Ok d) : Calls Try.prog 40 #[.pointer (some ⟨p, 0, none⟩)] w fun e w' => e = .returned (.int .i64 (if d.gone then 7 else 0)) ∧ w' = w := by
  have c4 := head_gone h
  have cn := none_any h hd
  have HH := Lib.hid (And.intro h cn); clear h cn
  cases hg : d.gone with
  | true =>
    rw [hg] at c4
    go_enter Try.func40, Try.ntmps40
    go_wp2_with fail
    refine HH.out.2.mono ?_
    rintro e _ ⟨rfl, rfl⟩
    go_wp2_with fail
    go_ret
    exact ⟨rfl, rfl⟩
  | false =>
    rw [hg] at c4
    go_enter Try.func40, Try.ntmps40
    go_wp2_with fail
    refine HH.out.2.mono ?_
    rintro e _ ⟨rfl, rfl⟩
    go_wp2_with fail
    go_ret
    exact ⟨rfl, rfl⟩
set_option maxRecDepth 100000 in
theorem has_any (h : HeadAt w p gn gk cn ck la cap d) (i : Int) : Calls Try.prog 41 #[.pointer (some ⟨p, 0, none⟩), .int .i64 i] w fun e w' => e = .returned (.bool (decide (0 ≤ i ∧ i < d.B.length))) ∧ w' = w := by
  have c0 := head_now h
  have HH := Lib.hid h; clear h
  by_cases h1 : 0 ≤ i
  · by_cases h2 : i < d.B.length
    · go_enter Try.func41, Try.ntmps41
      go_wp2_with fail
      go_ret
      exact ⟨ret_bool (by simp [h1, h2]), rfl⟩
    · go_enter Try.func41, Try.ntmps41
      go_wp2_with fail
      go_ret
      exact ⟨ret_bool (by simp [h2]), rfl⟩
  · go_enter Try.func41, Try.ntmps41
    go_wp2_with fail
    go_ret
    exact ⟨ret_bool (by simp; omega), rfl⟩
set_option maxRecDepth 100000 in
theorem spend_any (h : HeadAt w p gn gk cn ck la cap d) (hd : Dk.Ok d) : Calls Try.prog 42 #[.pointer (some ⟨p, 0, none⟩)] w fun e w' => e = .returned (.int .i64 (Dk.spendE d)) ∧ HeadAt w' p gn gk cn ck la cap (Dk.spent d) ∧ Only (fun k => k = p) w w' := by
  have c3 := head_left h
  have f3 := rowV_frozen h 3
  have c4 := head_gone h
  have f4 := rowV_frozen h 4
  have hh := hd.high
  by_cases h0 : d.fuse = 0
  · have hst := rowV_stored h 4 (.bool true)
    have ho := (Only.refl (fun k => k = p) w).setCell (g := p) (i := 4) (fun _ => rfl) (.bool true)
    have e1 : Dk.spent d = { d with gone := true } := by unfold Dk.spent; rw [if_pos h0]
    have e2 : Dk.spendE d = 7 := by unfold Dk.spendE; rw [if_pos h0]
    rw [h0] at c3
    have HH := Lib.hid (And.intro hst (And.intro ho (And.intro e1 (And.intro e2 h0)))); clear h hst ho e1 e2 h0 hd hh
    go_enter Try.func42, Try.ntmps42
    go_wp2_with fail
    go_ret
    exact ⟨by rw [HH.out.2.2.2.1]; rfl, by rw [HH.out.2.2.1]; exact HH.out.1, HH.out.2.1⟩
  · have t0 : (d.fuse == 0) = false := by rw [beq_eq_false_iff_ne]; exact h0
    have e2 : Dk.spendE d = 0 := by unfold Dk.spendE; rw [if_neg h0]
    by_cases h1 : 0 < d.fuse
    · have hst := rowV_stored h 3 (.int .i64 (d.fuse - 1))
      have ho := (Only.refl (fun k => k = p) w).setCell (g := p) (i := 3) (fun _ => rfl) (.int .i64 (d.fuse - 1))
      have e1 : Dk.spent d = { d with fuse := d.fuse - 1 } := by unfold Dk.spent Dk.burn; rw [if_neg h0, if_pos h1]
      have HH := Lib.hid (And.intro hst (And.intro ho (And.intro e1 (And.intro e2 h0)))); clear h hst ho e1 e2 h0 hd
      go_enter Try.func42, Try.ntmps42
      go_wp2_with fail
      go_ret
      exact ⟨by rw [HH.out.2.2.2.1]; rfl, by rw [HH.out.2.2.1]; exact HH.out.1, HH.out.2.1⟩
    · have e1 : Dk.spent d = { d with fuse := d.fuse } := by unfold Dk.spent Dk.burn; rw [if_neg h0, if_neg h1]
      have HH := Lib.hid (And.intro h (And.intro e1 (And.intro e2 h0))); clear h e1 e2 h0 hd
      go_enter Try.func42, Try.ntmps42
      go_wp2_with fail
      go_ret
      exact ⟨by rw [HH.out.2.2.1]; rfl, by rw [HH.out.2.1]; exact HH.out.1, Only.refl _ _⟩
set_option maxRecDepth 100000 in
theorem arm_any (h : HeadAt w p gn gk cn ck la cap d) (hd : Dk.Ok d) (n : Int) : Calls Try.prog 19 #[.pointer (some ⟨p, 0, none⟩), .int .i64 n] w fun e w' => e = .returned (.int .i64 (Dk.armE d)) ∧ HeadAt w' p gn gk cn ck la cap (Dk.arm d n) ∧ Only (fun k => k = p) w w' := by
  have c3 := head_left h
  have f3 := rowV_frozen h 3
  have ca := asked_any h hd
  have hst := rowV_stored h 3 (.int .i64 n)
  have ho := (Only.refl (fun k => k = p) w).setCell (g := p) (i := 3) (fun _ => rfl) (.int .i64 n)
  have HH := Lib.hid (And.intro h (And.intro ca (And.intro hst ho))); clear h ca hst ho hd
  cases hg : d.gone with
  | true =>
    have e1 : Dk.arm d n = d := by unfold Dk.arm; rw [if_pos hg]
    have e2 : Dk.armE d = 7 := by unfold Dk.armE; rw [if_pos hg]
    have ca := HH.out.2.1
    rw [hg] at ca
    have HE := Lib.hid (And.intro e1 (And.intro e2 ca)); clear e1 e2 ca hg
    go_enter Try.func19, Try.ntmps19
    go_wp2_with fail
    refine HE.out.2.2.mono ?_
    rintro e _ ⟨rfl, rfl⟩
    go_wp2_with fail
    go_ret
    exact ⟨by rw [HE.out.2.1]; rfl, by rw [HE.out.1]; exact HH.out.1, Only.refl _ _⟩
  | false =>
    have e1 : Dk.arm d n = { d with fuse := n } := by unfold Dk.arm; rw [if_neg (by rw [hg]; simp)]
    have e2 : Dk.armE d = 0 := by unfold Dk.armE; rw [if_neg (by rw [hg]; simp)]
    have ca := HH.out.2.1
    rw [hg] at ca
    have HE := Lib.hid (And.intro e1 (And.intro e2 ca)); clear e1 e2 ca hg
    go_enter Try.func19, Try.ntmps19
    go_wp2_with fail
    refine HE.out.2.2.mono ?_
    rintro e _ ⟨rfl, rfl⟩
    go_wp2_with fail
    go_ret
    exact ⟨by rw [HE.out.2.1]; rfl, by rw [HE.out.1]; exact HH.out.2.2.1, HH.out.2.2.2⟩
end
end Go.Proofs.Ytedemehlccmkpaa

/-
  Layer 4: what settle does: blocks that a loose write is of made like others, and nothing loose any more.
-/
namespace Go.Proofs.Ytedemehlccmkpaa
open Go.RowKit

/-- a load of an array or a struct, in a region that only reads -/
theorem wpQuiet_load_mid {P : Program} {ops : Array Oper} {w : World} {Q : Act → Prop} {op : Oper} {rest : List Oper} {a : Act} (hgd : op.guard = none) (ty : TypeId) (x : Operand) (ho : op.op = .load ty x)
    (b o : Nat) (hx : a.eval x = .pointer (some ⟨b, o, none⟩)) (cs : List Value) (d : TypeDesc) (hc : w.rangeAt b o cs) (hu : P.underlying ty = some d) (hd : d.isRow = true) (hi : (P.info? ty).map (·.size) = some cs.length)
    (h : wpQuiet P ops (fun w' => ∃ n, w' = w.drewN n) Q rest (a.put op.dst (.agg cs.toArray))) : wpQuiet P ops (fun w' => ∃ n, w' = w.drewN n) Q (op :: rest) a := by
  refine wpQuiet_step fun K hK => ?_
  have hw : Region.wanted op (yielded ops a.tmps) = true := by simp [Region.wanted, hgd]
  rw [if_pos hw]
  refine ⟨.agg cs.toArray, ?_, hK _ h⟩
  rintro w' ⟨n, rfl⟩
  unfold Oper.quietAt execOp
  have hc2 : (w.drewN n).rangeAt b o cs := hc
  simp only [ho, hx, Instr.loadAt, Instr.sureAddr, Sem.run_bind, Sem.run_pure, Result.andThen_ok, run_loadVar_mid (w.drewN n) b o ty cs d hc2 hu hd hi]
  exact ⟨rfl, rfl⟩
theorem setCells_drewN (g : Nat) (vs : List Value) (n : Nat) : ∀ (o : Nat) (w : World), (w.drewN n).setCells g o vs = (w.setCells g o vs).drewN n := by
  induction vs with
  | nil => intro o w; rfl
  | cons v r ih =>
    intro o w
    rw [World.setCells, World.setCells, ← ih]
    rfl
theorem block_under : Try.prog.underlying 91 = some (.array 512 5) := Try.underlying91
theorem block_size (b : ByteArray) (h : b.size = 512) : (Try.prog.info? 91).map (·.size) = some (bv b).length := by
  rw [bv_len, h]
  obtain ⟨i, hi, hi2⟩ := Option.map_eq_some_iff.1 info_block
  simp only [Prod.mk.injEq] at hi2
  rw [hi, Option.map_some, hi2.2.1]
theorem guard_block (w : World) (x y : Operand) (X Y : Array Value) : (eqGuard .neq 91 x y (.agg X) (.agg Y)).run Try.prog w = .ok () w := by
  have h : Try.prog.eqGuardType Try.prog.depth 91 = false := by kernel_rfl
  simp [eqGuard, h]
theorem wv_len (x : Nat × ByteArray) (h : x.2.size = 512) : (wv x).length = 513 := by unfold wv; rw [List.length_cons, bv_len, h]
theorem neq_block (w : World) (a b : ByteArray) (ha : a.size = 512) (hb : b.size = 512) : (binOp .neq 91 (.agg (bv a).toArray) (.agg (bv b).toArray)).run Try.prog w = .ok (.bool (!decide (a = b))) w := by
  simp only [binOp, Sem.run_bind, run_equal_bv w a b ha hb, Result.andThen_ok, Sem.run_pure]
/-- block i of a row of blocks -/
theorem blocks_range {w : World} {g c : Nat} {B : List ByteArray} (h : BlocksAt w g c B) (hs : ∀ b ∈ B, b.size = 512) (i : Nat) (hi : i < B.length) : w.rangeAt g (i * 512) (bv (Dk.blk B i)) := by
  obtain ⟨r, h1, _⟩ := h
  have hk : ∀ b ∈ B, (bv b).length = 512 := fun b hb => by rw [bv_len]; exact hs b hb
  refine rowV_range h1 _ _ fun j hj => ?_
  rw [bv_len, Dk.blk_size hs i hi] at hj
  rw [List.getElem?_append_left (by
    rw [flat_len bv 512 B hk]
    have := Nat.mul_le_mul_right 512 (show i + 1 ≤ B.length from hi)
    omega), flat_at bv 512 B hk i hi j hj, ← Dk.getD_get B i ByteArray.empty hi]
theorem blocks_there {w : World} {g c : Nat} {B : List ByteArray} (h : BlocksAt w g c B) (hs : ∀ b ∈ B, b.size = 512) (i : Nat) (hi : i < B.length) : w.there g (i * 512) 512 := by
  obtain ⟨r, h1, _⟩ := h
  have hk : ∀ b ∈ B, (bv b).length = 512 := fun b hb => by rw [bv_len]; exact hs b hb
  refine rowV_there h1 _ _ ?_
  rw [List.length_append, flat_len bv 512 B hk]
  have := Nat.mul_le_mul_right 512 (show i + 1 ≤ B.length from hi)
  omega
theorem blocks_set {w : World} {g c : Nat} {B : List ByteArray} (h : BlocksAt w g c B) (hs : ∀ b ∈ B, b.size = 512) (i : Nat) (hi : i < B.length) (x : ByteArray) (hx : x.size = 512) : BlocksAt (w.setCells g (i * 512) (bv x)) g c (B.set i x) := by
  obtain ⟨r, h1, h2, h3⟩ := h
  have hk : ∀ b ∈ B, (bv b).length = 512 := fun b hb => by rw [bv_len]; exact hs b hb
  have hle := Nat.mul_le_mul_right 512 (show i + 1 ≤ B.length from hi)
  have hl : (B.flatMap bv ++ r).length = B.length * 512 + r.length := by rw [List.length_append, flat_len bv 512 B hk]
  have h4 := rowV_setCells (bv x) (i * 512) h1 (by rw [bv_len, hx, hl]; omega)
  rw [bv_len, hx, flat_set bv 512 B hk i hi x r] at h4
  exact ⟨r, h4, by rw [List.length_set]; exact h2, h3⟩
theorem blocksAt_cells {w : World} {g c g' : Nat} {B : List ByteArray} (h : BlocksAt w g c B) (hg : g ≠ g') (o : Nat) (vs : List Value) : BlocksAt (w.setCells g' o vs) g c B := by
  obtain ⟨r, h1, h2⟩ := h
  exact ⟨r, rowV_cellsFar h1 hg o vs, h2⟩
/-- loose write k's block number and bytes -/
theorem loose_at {w : World} {g : Nat} {W : List (Nat × ByteArray)} {r : List Value} (h : RowV w g 93 (W.flatMap wv ++ r)) (hs : ∀ x ∈ W, x.2.size = 512) (k : Nat) (hk : k < W.length) :
    w.cell? ⟨g, k * 513, none⟩ = some (.int .i64 ((W.getD k (0, ByteArray.empty)).1 : Int)) ∧ w.rangeAt g (k * 513 + 1) (bv (W.getD k (0, ByteArray.empty)).2) := by
  have hl : ∀ x ∈ W, (wv x).length = 513 := fun x hx => wv_len x (hs x hx)
  have hlen := flat_len wv 513 W hl
  have hle := Nat.mul_le_mul_right 513 (show k + 1 ≤ W.length from hk)
  have e := Dk.getD_get W k (0, ByteArray.empty) hk
  have hz : (W.getD k (0, ByteArray.empty)).2.size = 512 := hs _ (Dk.getD_mem W k _ hk)
  constructor
  · have h0 := flat_at wv 513 W hl k hk 0 (by omega)
    rw [rowV_cell h, List.getElem?_append_left (by rw [hlen]; omega)]
    rw [Nat.add_zero] at h0
    rw [h0, ← e]; rfl
  · refine rowV_range h _ _ fun j hj => ?_
    rw [bv_len, hz] at hj
    have h0 := flat_at wv 513 W hl k hk (1 + j) (by omega)
    rw [List.getElem?_append_left (by rw [hlen]; omega), show k * 513 + 1 + j = k * 513 + (1 + j) by omega, h0, ← e]
    show (_ :: bv _)[1 + j]? = _
    rw [Nat.add_comm, List.getElem?_cons_succ]

set_option maxRecDepth 100000 in
set_option maxHeartbeats 1600000 in
theorem settle_any {w : World} {S : Nat → Prop} {p gn gk cn ck cap : Nat} {la : Option Addr} {d : Dk.D} (gt ct gf cf : Nat) (T F : List ByteArray)
    (hd : Dk.Ok d) (hh : HeadAt w p gn gk cn ck la cap d) (hl : LooseAt w S p gn gk la cap d.W) (hT : BlocksAt w gt ct T) (hF : BlocksAt w gf cf F) (zT : ∀ b ∈ T, b.size = 512) (zF : ∀ b ∈ F, b.size = 512)
    (lT : T.length = d.B.length) (lF : F.length = d.B.length) (n1 : gt ≠ p) (n2 : gt ≠ gf) (n3 : gf ≠ p) (n4 : ∀ a, la = some a → a.block ≠ gt) :
    Calls Try.prog 47 #[.pointer (some ⟨p, 0, none⟩), .slice (some ⟨gt, 0, none⟩) d.B.length ct, .slice (some ⟨gf, 0, none⟩) d.B.length cf] w fun e w' => e = .returned (.tuple #[]) ∧
      HeadAt w' p gn gk cn ck none 0 { d with W := [] } ∧ BlocksAt w' gt ct (Dk.settleK T F d.W d.W.length) ∧ Only (fun k => k = p ∨ k = gt) w w' := by
  have c2 := head_loose hh
  have hmost := hd.most
  have HH := Lib.hid (And.intro hd (And.intro hh (And.intro hl (And.intro hT (And.intro hF (And.intro zT (And.intro zF (And.intro lT (And.intro lF (And.intro n1 (And.intro n2 (And.intro n3 n4))))))))))))
  clear hd hh hl hT hF zT zF lT lF n1 n2 n3 n4
  go_enter Try.func47, Try.ntmps47
  go_wp2_with fail
  go_loopw [6, 7, 13] (fun _ _ i wr => ∃ k : Nat, k ≤ d.W.length ∧ i = .int .i64 (k : Int) ∧ Hid (BlocksAt wr gt ct (Dk.settleK T F d.W k)) ∧ Hid (Only (fun k => k = gt) w wr))
    (fun _ _ i _ => d.W.length - (intOf i).toNat)
  case atStart => exact ⟨0, by omega, rfl, Lib.hid HH.out.2.2.2.1, Lib.hid (Only.refl _ _)⟩
  case round =>
    obtain ⟨k, hk, rfl, HR, HO⟩ := hrel
    by_cases hlt : k < d.W.length
    · obtain ⟨hd, hh, hl, hT, hF, zT, zF, lT, lF, n1, n2, n3, n4⟩ := HH.out
      obtain ⟨g, r, rfl, hg, hcap, hmax, g1, g2, g3, hown⟩ : ∃ g r, la = some ⟨g, 0, none⟩ ∧ RowV w g 93 (d.W.flatMap wv ++ r) ∧ d.W.length ≤ cap ∧ cap ≤ maxLen ∧ g ≠ p ∧ g ≠ gn ∧ g ≠ gk ∧ (d.W.length < cap → S g ∧ d.W.length * 513 + r.length = cap * 513) := by
        rcases hl with ⟨_, _, h⟩ | h
        · rw [h] at hlt; simp at hlt
        · exact h
      have hgt : g ≠ gt := n4 _ rfl
      have hm := hd.loose _ (Dk.getD_mem d.W k (0, ByteArray.empty) hlt)
      have hr2 := rowV_only hg HO.out (fun e => hgt e)
      have hh2 : HeadAt wr p gn gk cn ck (some ⟨g, 0, none⟩) cap d := rowV_only hh HO.out (fun e => n1 e.symm)
      have cl := head_loose hh2
      have ca := (loose_at hr2 (fun x hx => (hd.loose x hx).2) k hlt).1
      have zK : ∀ b ∈ Dk.settleK T F d.W k, b.size = 512 := by
        intro b hb
        have : ∀ m, m ≤ d.W.length → ∀ b ∈ Dk.settleK T F d.W m, b.size = 512 := by
          intro m
          induction m with
          | zero => intro _; exact zT
          | succ m ih => intro hm2; exact Dk.all_set (ih (by omega)) _ _ (Dk.blk_size zF _ (by rw [lF]; exact (hd.loose _ (Dk.getD_mem d.W m _ (by omega))).1))
        exact this k hk b hb
      have hat : (d.W.getD k (0, ByteArray.empty)).1 < (Dk.settleK T F d.W k).length := by rw [Dk.settleK_len, lT]; exact hm.1
      have r1 := blocks_range HR.out zK _ hat
      have t1 := blocks_there HR.out zK _ hat
      have hF2 : BlocksAt wr gf cf F := blocksAt_only hF HO.out (fun e => n2 e.symm)
      have haf : (d.W.getD k (0, ByteArray.empty)).1 < F.length := by rw [lF]; exact hm.1
      have r2 := blocks_range hF2 zF _ haf
      have s1 := Dk.blk_size zK _ hat
      have s2 := Dk.blk_size zF _ haf
      have hset := blocks_set HR.out zK _ hat _ s2
      have hsame := Dk.settleK_same T F d.W k
      have hsucc : (Dk.settleK T F d.W k).set (d.W.getD k (0, ByteArray.empty)).1 (Dk.blk F (d.W.getD k (0, ByteArray.empty)).1) = Dk.settleK T F d.W (k + 1) := rfl
      rw [hsucc] at hset
      have honly := HO.out.setCells (g := gt) (fun _ => rfl) ((d.W.getD k (0, ByteArray.empty)).1 * 512) (bv (Dk.blk F (d.W.getD k (0, ByteArray.empty)).1))
      have hmB := hm.1
      have hWm : d.W.length ≤ maxLen := Nat.le_trans hcap hmax
      unfold maxLen at hWm
      clear hsucc hF2 haf hat zK hh2 hr2 hm hown g1 g2 g3 hgt hg hh hl hT hF zT zF lT lF n1 n2 n3 n4 hd hcap hmax
      obtain ⟨TK2, hTK2⟩ : ∃ A, Dk.settleK T F d.W (k + 1) = A := ⟨_, rfl⟩
      have hTK := Lib.hid hTK2
      rw [hTK2] at hset hsame
      clear hTK2
      have hsm : Dk.blk (Dk.settleK T F d.W k) (d.W.getD k (0, ByteArray.empty)).1 = Dk.blk F (d.W.getD k (0, ByteArray.empty)).1 → BlocksAt wr gt ct TK2 := fun h => by rw [hsame h]; exact HR.out
      have honly0 := HO.out
      clear hsame
      generalize Dk.blk (Dk.settleK T F d.W k) (d.W.getD k (0, ByteArray.empty)).1 = X at *
      generalize Dk.blk F (d.W.getD k (0, ByteArray.empty)).1 = Y at *
      generalize (d.W.getD k (0, ByteArray.empty)).1 = at_ at *
      have hneq := fun w0 => neq_block w0 X Y s1 s2
      have hgd := fun w0 x y => guard_block w0 x y (bv X).toArray (bv Y).toArray
      have hu := block_under
      have i1 := block_size X s1
      have i2 := block_size Y s2
      have l1 : (bv X).length = 512 := by rw [bv_len, s1]
      have l2 : (bv Y).length = 512 := by rw [bv_len, s2]
      have o1 := bv_one X
      have o2 := bv_one Y
      by_cases hXY : X = Y
      · have HF := Lib.hid (And.intro (hsm hXY) honly0)
        have t : (!decide (X = Y)) = false := by simp [hXY]
        simp only [t] at hneq
        clear hXY t hsm hset honly honly0 s1 s2 HR HO
        generalize bv X = LX at *
        generalize bv Y = LY at *
        go_wp2_with fail
        refine wp_region_quiet_lit (by kernel_rfl) (by kernel_rfl) ?_
        iterate 3 (go_big_quiet_step (fail))
        refine wpQuiet_load_mid rfl _ _ rfl _ _ rfl LX _ r1 hu rfl i1 ?_
        simp only [Act.put, List.setIfInBounds_toArray, List.set_cons_zero, List.set_cons_succ]
        iterate 3 (go_big_quiet_step (fail))
        refine wpQuiet_load_mid rfl _ _ rfl _ _ rfl LY _ r2 hu rfl i2 ?_
        simp only [Act.put, List.setIfInBounds_toArray, List.set_cons_zero, List.set_cons_succ]
        go_big_quiet_step (fail)
        refine wpQuiet_nil ?_
        rintro _ ⟨nq, rfl⟩
        go_wp2_with fail
        go_roundw
        case rel => exact ⟨k + 1, by omega, by go_num, Lib.hid (by rw [hTK.out]; exact HF.out.1), Lib.hid (HF.out.2.drewN _)⟩
        case measure => simp [intOf]; omega
      · have t : (!decide (X = Y)) = true := by simp [hXY]
        simp only [t] at hneq
        clear t hsm hXY s1 s2 honly0 HR HO
        have HF := Lib.hid (And.intro hset honly)
        clear hset honly
        generalize bv X = LX at *
        generalize bv Y = LY at *
        go_wp2_with fail
        refine wp_region_quiet_lit (by kernel_rfl) (by kernel_rfl) ?_
        iterate 3 (go_big_quiet_step (fail))
        refine wpQuiet_load_mid rfl _ _ rfl _ _ rfl LX _ r1 hu rfl i1 ?_
        simp only [Act.put, List.setIfInBounds_toArray, List.set_cons_zero, List.set_cons_succ]
        iterate 3 (go_big_quiet_step (fail))
        refine wpQuiet_load_mid rfl _ _ rfl _ _ rfl LY _ r2 hu rfl i2 ?_
        simp only [Act.put, List.setIfInBounds_toArray, List.set_cons_zero, List.set_cons_succ]
        go_big_quiet_step (fail)
        refine wpQuiet_nil ?_
        rintro _ ⟨nq, rfl⟩
        generalize hwq : wr.drewN nq = wq
        have r2q : wq.rangeAt gf (at_ * 512) LY := by rw [← hwq]; exact r2
        have t1q : wq.there gt (at_ * 512) LY.toArray.size := by rw [← hwq, List.size_toArray, l2]; exact t1
        have HQ : Hid (BlocksAt (wq.setCells gt (at_ * 512) LY.toArray.toList) gt ct TK2 ∧ Only (fun k => k = gt) w (wq.setCells gt (at_ * 512) LY.toArray.toList)) := Lib.hid (by
          rw [← hwq, setCells_drewN]
          exact ⟨HF.out.1, HF.out.2.drewN _⟩)
        clear hwq HF r2 t1
        go_wp2_with (first
          | (refine wpList_load_mid rfl _ _ rfl _ _ rfl LY _ r2q hu rfl i2 ?_)
          | (refine wpList_store_mid rfl _ _ _ rfl gt (at_ * 512) LY.toArray rfl rfl t1q (by rw [List.size_toArray]; exact i2) (all_oneCell_toArray o2) ?_))
        go_roundw
        case rel => exact ⟨k + 1, by omega, by go_num, Lib.hid (by rw [hTK.out]; exact HQ.out.1), Lib.hid HQ.out.2⟩
        case measure => simp [intOf]; omega
    · obtain rfl : k = d.W.length := by omega
      obtain ⟨hd, hh, hl, hT, hF, zT, zF, lT, lF, n1, n2, n3, n4⟩ := HH.out
      have hh2 : HeadAt wr p gn gk cn ck la cap d := rowV_only hh HO.out (fun e => n1 e.symm)
      have f2 := rowV_frozen hh2 2
      have c2' := head_loose hh2
      have hst := rowV_stored hh2 2 (.slice none 0 0)
      have hb := blocksAt_only HR.out ((Only.refl (fun k => k = p) wr).setCell (g := p) (i := 2) (fun _ => rfl) (.slice none 0 0)) (fun e => n1 e)
      have ho := (HO.out.mono (G := fun k => k = p ∨ k = gt) fun k _ h => .inr h).setCell (g := p) (i := 2) (fun _ => .inl rfl) (.slice none 0 0)
      have HE := Lib.hid (And.intro hst (And.intro hb ho))
      clear hd hh hl hT hF zT zF lT lF n1 n2 n3 n4 hh2 hst hb ho HR HO
      go_wp2_with fail
      go_end0
      exact ⟨rfl, HE.out.1, HE.out.2.1, HE.out.2.2⟩
end Go.Proofs.Ytedemehlccmkpaa

/-
  Layer 4: what the fate of a write makes of a block.
-/
namespace Go.Proofs.Ytedemehlccmkpaa
open Go.RowKit

theorem block_zero : (Try.prog.info? 91).map (fun i => (i.zero, i.size)) = some (some (.agg (bv Dk.zeros).toArray), 512) := by kernel_rfl
theorem byte_one : (Try.prog.info? 5).map (·.size) = some 1 := by kernel_rfl
theorem bv_app (a b : ByteArray) : bv (a ++ b) = bv a ++ bv b := by
  unfold bv valB
  rw [show (a ++ b).data = a.data ++ b.data from ByteArray.data_append .., Array.toList_append, List.map_append]
theorem bv_cut (a : ByteArray) (i j : Nat) : bv (a.extract i j) = ((bv a).take j).drop i := by
  unfold bv valB
  rw [show (a.extract i j).data = a.data.extract i j from ByteArray.data_extract .., Array.toList_extract, List.extract_eq_take_drop, ← List.drop_take, List.map_drop, List.map_take]
theorem splice_front (old s : ByteArray) (h1 : old.size = 512) (h2 : s.size = 512) : splice (bv old) 0 (bv (s.extract 0 256)) = bv (s.extract 0 256 ++ old.extract 256 512) := by
  have e1 : (bv (s.extract 0 256)).length = 256 := by rw [bv_len, ByteArray.size_extract]; omega
  have e2 : (bv old).take 512 = bv old := List.take_of_length_le (by rw [bv_len]; omega)
  unfold splice
  rw [bv_app, e1, bv_cut old, e2]; rfl
theorem splice_back (old s : ByteArray) (h1 : old.size = 512) (h2 : s.size = 512) : splice (bv old) 256 (bv (s.extract 256 512)) = bv (old.extract 0 256 ++ s.extract 256 512) := by
  have e1 : (bv (s.extract 256 512)).length = 256 := by rw [bv_len, ByteArray.size_extract]; omega
  have e2 : (bv old).drop (256 + 256) = [] := List.drop_of_length_le (by rw [bv_len]; omega)
  unfold splice
  rw [bv_app, e1, e2, List.append_nil, bv_cut old, List.drop_zero]
/-- copy into a row that is known whole, as one step of a region that draws its order; the source a slice -/
theorem step_copy_row {P : Program} {ops : Array Oper} {o : Oper} {a : Act} {w : World} {K : Act → World → Prop} {Q : Exit → Act → World → Prop} {E : Prop} (hgd : o.guard = none) (d s : Operand) (dT sT : TypeId)
    (ho : o.op = .call { callee := .builtin .copy, args := #[d, s], argTypes := #[dT, sT] }) (elem : TypeId) (hu : P.underlying dT = some (.slice elem)) (hsz : (P.info? elem).map (·.size) = some 1)
    (g off dLen dCap : Nat) (ad : Addr) (sLen sCap : Nat) (hd : a.eval d = .slice (some ⟨g, off, none⟩) dLen dCap) (hs : a.eval s = .slice (some ad) sLen sCap)
    (cur : List Value) (t : TypeId) (hg : w.heap[g]? = some (.cells cur.toArray t (0, 0))) (cs : List Value) (hn : cs.length = Nat.min sLen dLen)
    (hsrc : ∀ j v, cs[j]? = some v → w.cell? (ad.add j) = some v) (hfit : off + cs.length ≤ cur.length) (h1 : ∀ v ∈ cs, v.oneCell' = true) (R : List Value) (hR : splice cur off cs = R)
    (h : K (a.put o.dst (goInt cs.length)) (w.setRow g R.toArray)) : if Region.wanted o (yielded ops a.tmps) = true then Oper.wp P o a w K Q else E := by
  have hw : Region.wanted o (yielded ops a.tmps) = true := by simp [Region.wanted, hgd]
  rw [if_pos hw]
  have hrun := run_copy_row (P := P) w dT sT o.type elem g off dLen dCap ad sLen sCap cur.toArray t cs hu hsz hg hn hsrc (by simpa using hfit) h1
  have e : cur.toArray.toList.take off ++ cs ++ cur.toArray.toList.drop (off + cs.length) = R := by rw [← hR]; simp [splice]
  rw [e] at hrun
  unfold Oper.wp
  simp [execOp, ho, resolve, invoke, builtin, hd, hs, hrun, Result.andThen]
  exact h
theorem below_alloc2 (w : World) (o1 o2 : Obj) : Below w.heap.size w ((w.alloc o1).alloc o2) := ((Below.refl _ w).alloc (Nat.le_refl _) _).alloc (by simp) _

set_option maxRecDepth 100000 in
set_option maxHeartbeats 1600000 in
theorem falls_any (w : World) (g o : Nat) (old s : ByteArray) (f : Int) (h1 : old.size = 512) (h2 : s.size = 512) (hs : w.rangeAt g (o + 1) (bv s)) :
    Calls Try.prog 46 #[.pointer (some ⟨g, o, none⟩), .agg (bv old).toArray, .int .i64 f] w fun e w' => e = .returned (.agg (bv (Dk.falls f old s)).toArray) ∧ Below w.heap.size w w' := by
  have hz := (zero_of_info (P := Try.prog) block_zero).1
  have hu := block_under
  have k1 : (bv old).toArray.size = 512 := by rw [List.size_toArray, bv_len, h1]
  have k2 : (bv s).toArray.size = 512 := by rw [List.size_toArray, bv_len, h2]
  have k3 : (bv Dk.zeros).toArray.size = 512 := by rw [List.size_toArray, bv_len, Dk.zeros_size]
  have i0 : (Try.prog.info? 91).map (·.size) = some 512 := (zero_of_info (P := Try.prog) block_zero).2
  have o2 := bv_one s
  have i2 := block_size s h2
  have hlen : ∀ X : Array Value, X.size = 512 → (Try.prog.info? 91).map (·.size) = some X.size := fun X h => by rw [h]; exact i0
  have hZ1 : (bv Dk.zeros).toArray.all (·.oneCell') = true := all_oneCell_toArray (bv_one _)
  have hO1 : (bv old).toArray.all (·.oneCell') = true := all_oneCell_toArray (bv_one _)
  have ga := heap_alloc2_old w (.cells (bv old).toArray 91) (.cells (bv Dk.zeros).toArray 91)
  have gb := heap_alloc2_new w (.cells (bv old).toArray 91) (.cells (bv Dk.zeros).toArray 91)
  have hb := below_alloc2 w (.cells (bv old).toArray 91) (.cells (bv Dk.zeros).toArray 91)
  have hs2 : ((w.alloc (.cells (bv old).toArray 91)).alloc (.cells (bv Dk.zeros).toArray 91)).rangeAt g (o + 1) (bv s) := World.rangeAt_alloc (World.rangeAt_alloc hs _) _
  by_cases f1 : f = 1
  · have eF : Dk.falls f old s = s := by unfold Dk.falls; rw [if_pos f1]
    generalize Dk.falls f old s = R at *
    subst eF
    have hsR : (bv R).toArray.all (·.oneCell') = true := all_oneCell_toArray o2
    subst f1
    generalize bv Dk.zeros = LZ at *
    generalize bv old = LO at *
    generalize bv R = LS at *
    have HH := Lib.hid (And.intro hb (And.intro gb (And.intro hlen (And.intro k2 (And.intro k3 (And.intro hsR i2))))))
    clear hb ga gb hlen k1 k2 k3 i0 i2 o2 hZ1 hO1 h1 h2 hs hsR
    go_enter Try.func46, Try.ntmps46
    go_wp2_with (first
      | (refine wpList_load_mid rfl _ _ rfl _ _ rfl LS _ hs2 hu rfl HH.out.2.2.2.2.2.2 ?_)
      | (refine wpList_store_row rfl 91 _ _ rfl (w.heap.size + 1) LS.toArray rfl rfl 91 LZ.toArray HH.out.2.1 (HH.out.2.2.1 _ HH.out.2.2.2.1) (by rw [HH.out.2.2.2.2.1, HH.out.2.2.2.1]) HH.out.2.2.2.2.2.1 ?_))
    have hr := setRow_heap _ (w.heap.size + 1) LZ.toArray LS.toArray 91 (0, 0) HH.out.2.1
    refine bodyPost_ret (v := .agg LS.toArray) (results_cell_row rfl _ _ (w.heap.size + 1) _ _ _ _ rfl hr Try.underlying91 rfl (HH.out.2.2.1 _ HH.out.2.2.2.1)) rfl ⟨rfl, ?_⟩
    exact below_setRow HH.out.1 (by omega) _
  · by_cases f2 : f = 2
    · have eF : Dk.falls f old s = s.extract 0 256 ++ old.extract 256 512 := by unfold Dk.falls; rw [if_neg f1, if_pos f2]
      have hsp := splice_front old s h1 h2
      rw [← eF] at hsp
      have cl : (bv (s.extract 0 256)).length = 256 := by rw [bv_len, ByteArray.size_extract]; omega
      have co := bv_one (s.extract 0 256)
      have csrc : ∀ (j : Nat) (v : Value), (bv (s.extract 0 256))[j]? = some v → (bv s)[j]? = some v := by
        intro j v hv
        have hj : j < 256 := by have := (List.getElem?_eq_some_iff.1 hv).1; omega
        rw [bv_cut, List.drop_zero, List.getElem?_take, if_pos hj] at hv
        exact hv
      have hR : (bv (Dk.falls f old s)).toArray.size = 512 := by rw [List.size_toArray, bv_len, Dk.falls_size _ _ _ h1 h2]
      have hR1 : (bv (Dk.falls f old s)).toArray.all (·.oneCell') = true := all_oneCell_toArray (bv_one _)
      have kO : (bv old).length = 512 := by rw [bv_len, h1]
      generalize Dk.falls f old s = R at *
      generalize s.extract 0 256 = H at *
      subst f2
      generalize bv Dk.zeros = LZ at *
      generalize bv old = LO at *
      generalize bv R = LR at *
      generalize bv H = LH at *
      have hsrc : ∀ (j : Nat) (v : Value), LH[j]? = some v → ((w.alloc (.cells LO.toArray 91)).alloc (.cells LZ.toArray 91)).cell? ⟨g, o + 1 + j, none⟩ = some v := fun j v hv => hs2 j v (csrc j v hv)
      have HH := Lib.hid (And.intro hb (And.intro gb (And.intro hlen (And.intro hR (And.intro k3 (And.intro hR1 (And.intro ga (And.intro hsp (And.intro cl (And.intro co (And.intro hsrc kO)))))))))))
      clear hb ga gb hlen k1 k2 k3 i0 i2 o2 hZ1 hO1 h1 h2 hs hs2 hR hR1 hsp cl co csrc hsrc eF kO
      go_enter Try.func46, Try.ntmps46
      go_wp2_with fail
      go_region_law (refine step_copy_row rfl (.tmp 16) (.tmp 20) 84 84 rfl 5 Try.underlying84 byte_one w.heap.size 0 256 512 ⟨g, o + 1, none⟩ 256 512 (by simp [Act.eval, Act.put]) (by simp [Act.eval, Act.put]) LO 91 HH.out.2.2.2.2.2.2.1 LH (by rw [HH.out.2.2.2.2.2.2.2.2.1]; rfl) (fun j v hv => by rw [Addr.add_mid]; exact HH.out.2.2.2.2.2.2.2.2.2.2.1 j v hv) (by rw [HH.out.2.2.2.2.2.2.2.2.1, HH.out.2.2.2.2.2.2.2.2.2.2.2]; omega) HH.out.2.2.2.2.2.2.2.2.2.1 LR HH.out.2.2.2.2.2.2.2.1 ?_)
      generalize hwa : World.setRow _ _ _ = wa
      have hga : wa.heap[w.heap.size]? = some (.cells LR.toArray 91 (0, 0)) := by rw [← hwa]; exact setRow_heap _ w.heap.size LO.toArray LR.toArray 91 (0, 0) HH.out.2.2.2.2.2.2.1
      have hgb : wa.heap[w.heap.size + 1]? = some (.cells LZ.toArray 91 (0, 0)) := by rw [← hwa, setRow_far _ _ _ _ (by omega)]; exact HH.out.2.1
      have hbb : Below w.heap.size w wa := by rw [← hwa]; exact below_setRow HH.out.1.drew (Nat.le_refl _) _
      have HA := Lib.hid (And.intro hga (And.intro hgb hbb))
      clear hwa hga hgb hbb
      go_wp2_with (first
        | (refine wpList_load_row rfl 91 _ rfl w.heap.size rfl _ _ _ _ HA.out.1 Try.underlying91 rfl (HH.out.2.2.1 _ HH.out.2.2.2.1) ?_)
        | (refine wpList_store_row rfl 91 _ _ rfl (w.heap.size + 1) LR.toArray rfl rfl 91 LZ.toArray HA.out.2.1 (HH.out.2.2.1 _ HH.out.2.2.2.1) (by rw [HH.out.2.2.2.2.1, HH.out.2.2.2.1]) HH.out.2.2.2.2.2.1 ?_))
      have hr := setRow_heap _ (w.heap.size + 1) LZ.toArray LR.toArray 91 (0, 0) HA.out.2.1
      refine bodyPost_ret (v := .agg LR.toArray) (results_cell_row rfl _ _ (w.heap.size + 1) _ _ _ _ rfl hr Try.underlying91 rfl (HH.out.2.2.1 _ HH.out.2.2.2.1)) rfl ⟨rfl, ?_⟩
      exact below_setRow HA.out.2.2 (by omega) _
    · by_cases f3 : f = 3
      · have eF : Dk.falls f old s = old.extract 0 256 ++ s.extract 256 512 := by unfold Dk.falls; rw [if_neg f1, if_neg f2, if_pos f3]
        have hsp := splice_back old s h1 h2
        rw [← eF] at hsp
        have cl : (bv (s.extract 256 512)).length = 256 := by rw [bv_len, ByteArray.size_extract]; omega
        have co := bv_one (s.extract 256 512)
        have csrc : ∀ (j : Nat) (v : Value), (bv (s.extract 256 512))[j]? = some v → (bv s)[256 + j]? = some v := by
          intro j v hv
          have hj : j < 256 := by have := (List.getElem?_eq_some_iff.1 hv).1; omega
          rw [bv_cut, List.getElem?_drop, List.getElem?_take, if_pos (by omega)] at hv
          exact hv
        have hR : (bv (Dk.falls f old s)).toArray.size = 512 := by rw [List.size_toArray, bv_len, Dk.falls_size _ _ _ h1 h2]
        have hR1 : (bv (Dk.falls f old s)).toArray.all (·.oneCell') = true := all_oneCell_toArray (bv_one _)
        have kO : (bv old).length = 512 := by rw [bv_len, h1]
        generalize Dk.falls f old s = R at *
        generalize s.extract 256 512 = H at *
        subst f3
        generalize bv Dk.zeros = LZ at *
        generalize bv old = LO at *
        generalize bv R = LR at *
        generalize bv H = LH at *
        have hsrc : ∀ (j : Nat) (v : Value), LH[j]? = some v → ((w.alloc (.cells LO.toArray 91)).alloc (.cells LZ.toArray 91)).cell? ⟨g, o + 1 + 256 + j, none⟩ = some v := fun j v hv => by rw [Nat.add_assoc (o + 1)]; exact hs2 _ v (csrc j v hv)
        have HH := Lib.hid (And.intro hb (And.intro gb (And.intro hlen (And.intro hR (And.intro k3 (And.intro hR1 (And.intro ga (And.intro hsp (And.intro cl (And.intro co (And.intro hsrc kO)))))))))))
        clear hb ga gb hlen k1 k2 k3 i0 i2 o2 hZ1 hO1 h1 h2 hs hs2 hR hR1 hsp cl co csrc hsrc eF kO
        go_enter Try.func46, Try.ntmps46
        go_wp2_with fail
        go_region_law (refine step_copy_row rfl (.tmp 24) (.tmp 28) 84 84 rfl 5 Try.underlying84 byte_one w.heap.size 256 256 256 ⟨g, o + 1 + 256, none⟩ 256 256 (by simp [Act.eval, Act.put]) (by simp [Act.eval, Act.put]) LO 91 HH.out.2.2.2.2.2.2.1 LH (by rw [HH.out.2.2.2.2.2.2.2.2.1]; rfl) (fun j v hv => by rw [Addr.add_mid]; exact HH.out.2.2.2.2.2.2.2.2.2.2.1 j v hv) (by rw [HH.out.2.2.2.2.2.2.2.2.1, HH.out.2.2.2.2.2.2.2.2.2.2.2]; omega) HH.out.2.2.2.2.2.2.2.2.2.1 LR HH.out.2.2.2.2.2.2.2.1 ?_)
        generalize hwa : World.setRow _ _ _ = wa
        have hga : wa.heap[w.heap.size]? = some (.cells LR.toArray 91 (0, 0)) := by rw [← hwa]; exact setRow_heap _ w.heap.size LO.toArray LR.toArray 91 (0, 0) HH.out.2.2.2.2.2.2.1
        have hgb : wa.heap[w.heap.size + 1]? = some (.cells LZ.toArray 91 (0, 0)) := by rw [← hwa, setRow_far _ _ _ _ (by omega)]; exact HH.out.2.1
        have hbb : Below w.heap.size w wa := by rw [← hwa]; exact below_setRow HH.out.1.drew (Nat.le_refl _) _
        have HA := Lib.hid (And.intro hga (And.intro hgb hbb))
        clear hwa hga hgb hbb
        go_wp2_with (first
          | (refine wpList_load_row rfl 91 _ rfl w.heap.size rfl _ _ _ _ HA.out.1 Try.underlying91 rfl (HH.out.2.2.1 _ HH.out.2.2.2.1) ?_)
          | (refine wpList_store_row rfl 91 _ _ rfl (w.heap.size + 1) LR.toArray rfl rfl 91 LZ.toArray HA.out.2.1 (HH.out.2.2.1 _ HH.out.2.2.2.1) (by rw [HH.out.2.2.2.2.1, HH.out.2.2.2.1]) HH.out.2.2.2.2.2.1 ?_))
        have hr := setRow_heap _ (w.heap.size + 1) LZ.toArray LR.toArray 91 (0, 0) HA.out.2.1
        refine bodyPost_ret (v := .agg LR.toArray) (results_cell_row rfl _ _ (w.heap.size + 1) _ _ _ _ rfl hr Try.underlying91 rfl (HH.out.2.2.1 _ HH.out.2.2.2.1)) rfl ⟨rfl, ?_⟩
        exact below_setRow HA.out.2.2 (by omega) _
      · have eF : Dk.falls f old s = old := by unfold Dk.falls; rw [if_neg f1, if_neg f2, if_neg f3]
        rw [eF]
        generalize bv Dk.zeros = LZ at *
        generalize bv old = LO at *
        have HH := Lib.hid (And.intro hb (And.intro gb (And.intro hlen (And.intro k1 (And.intro k3 (And.intro hO1 ga))))))
        clear hb ga gb hlen k1 k2 k3 i0 i2 o2 hZ1 hO1 h1 h2 hs eF hs2
        go_enter Try.func46, Try.ntmps46
        go_wp2_with (first
          | (refine wpList_load_row rfl 91 _ rfl w.heap.size rfl _ _ _ _ HH.out.2.2.2.2.2.2 Try.underlying91 rfl (HH.out.2.2.1 _ HH.out.2.2.2.1) ?_)
          | (refine wpList_store_row rfl 91 _ _ rfl (w.heap.size + 1) LO.toArray rfl rfl 91 LZ.toArray HH.out.2.1 (HH.out.2.2.1 _ HH.out.2.2.2.1) (by rw [HH.out.2.2.2.2.1, HH.out.2.2.2.1]) HH.out.2.2.2.2.2.1 ?_))
        have hr := setRow_heap _ (w.heap.size + 1) LZ.toArray LO.toArray 91 (0, 0) HH.out.2.1
        refine bodyPost_ret (v := .agg LO.toArray) (results_cell_row rfl _ _ (w.heap.size + 1) _ _ _ _ rfl hr Try.underlying91 rfl (HH.out.2.2.1 _ HH.out.2.2.2.1)) rfl ⟨rfl, ?_⟩
        exact below_setRow HH.out.1 (by omega) _
end Go.Proofs.Ytedemehlccmkpaa

/-
  Layer 4: what Read and Flush do.
-/
namespace Go.Proofs.Ytedemehlccmkpaa
open Go.RowKit

theorem Only.of_drew {F : Nat → Prop} {w w' : World} (h : Only F w.drew w') : Only F w w' := ⟨h.os, h.tape, h.output, h.size, h.block⟩
set_option maxRecDepth 100000 in
theorem conv_block (w : World) (g o cap : Nat) (b : ByteArray) (hz : b.size = 512) (h : w.rangeAt g o (bv b)) : (convert 84 9 (.slice (some ⟨g, o, none⟩) 512 cap)).run Try.prog w = .ok (.string b) w := by
  have hl : b.data.toList.length = 512 := by rw [ba_len, hz]
  have hc := run_convert_bytes_arg w 84 5 Try.underlying84 Try.underlying5 g o 512 cap (b.data.toList.map fun x => (x.toNat : Int)) (by rw [List.length_map, hl]) (fun i hi => by
    have hlt : i < b.data.toList.length := by omega
    rw [h i _ (by unfold bv valB; rw [List.getElem?_map, List.getElem?_eq_getElem hlt]; rfl)]
    rw [List.getD_eq_getElem?_getD, List.getElem?_map, List.getElem?_eq_getElem hlt]; rfl) 9 Try.underlying9
  rw [hc]
  congr 2
  unfold strOfNums
  rw [List.map_map]
  have e : (List.map ((fun n => UInt8.ofNat n.toNat) ∘ fun x : UInt8 => (x.toNat : Int)) b.data.toList) = b.data.toList := by
    conv => rhs; rw [← List.map_id b.data.toList]
    apply List.map_congr_left
    intro x _
    simp
  rw [e]

set_option maxRecDepth 100000 in
theorem read_any {w : World} {p gn gk cn ck cap : Nat} {la : Option Addr} {d : Dk.D} (hd : Dk.Ok d) (hh : HeadAt w p gn gk cn ck la cap d) (hn : BlocksAt w gn cn (Dk.over d.B d.W)) (i : Int) :
    Calls Try.prog 49 #[.pointer (some ⟨p, 0, none⟩), .int .i64 i] w fun e w' => e = .returned (.tuple #[.string (Dk.readS d i), .int .i64 (Dk.readE d i)]) ∧ w' = w := by
  have ca := asked_any hh hd
  have ch := has_any hh i
  have c0 := head_now hh
  cases hg : d.gone with
  | true =>
    have e1 : Dk.readS d i = ByteArray.empty := by unfold Dk.readS; rw [if_pos hg]
    have e2 : Dk.readE d i = 7 := by unfold Dk.readE; rw [if_pos hg]
    rw [hg] at ca
    rw [e1, e2]
    have HH := Lib.hid ca; clear ca ch hh hn e1 e2 hg hd
    go_enter Try.func49, Try.ntmps49
    go_wp2_with fail
    refine HH.out.mono ?_
    rintro e _ ⟨rfl, rfl⟩
    go_wp2_with fail
    go_ret2
    exact ⟨rfl, rfl⟩
  | false =>
    rw [hg] at ca
    by_cases hi : 0 ≤ i ∧ i < d.B.length
    · have e1 : Dk.readS d i = Dk.blk (Dk.over d.B d.W) i.toNat := by unfold Dk.readS; rw [if_neg (by rw [hg]; simp), if_pos hi]
      have e2 : Dk.readE d i = 0 := by unfold Dk.readE; rw [if_neg (by rw [hg]; simp), if_pos hi]
      rw [e1, e2]
      obtain ⟨j, rfl⟩ : ∃ j : Nat, i = (j : Int) := ⟨i.toNat, by omega⟩
      have hj : j < d.B.length := by omega
      have hz := Dk.over_ok hd.size hd.loose
      have r1 := blocks_range hn hz j (by rw [Dk.over_len]; exact hj)
      have hcv := conv_block w gn (j * 512) 512 _ (Dk.blk_size hz j (by rw [Dk.over_len]; exact hj)) r1
      rw [decide_eq_true hi] at ch
      rw [show ((j : Int)).toNat = j from by omega]
      have HH := Lib.hid (And.intro ca ch); clear ca ch hh hn e1 e2 hg hd hz r1 hi
      generalize Dk.blk (Dk.over d.B d.W) j = b at *
      go_enter Try.func49, Try.ntmps49
      go_wp2_with fail
      refine HH.out.1.mono ?_
      rintro e _ ⟨rfl, rfl⟩
      go_wp2_with fail
      refine HH.out.2.mono ?_
      rintro e _ ⟨rfl, rfl⟩
      go_wp2_with fail
      go_ret2
      exact ⟨rfl, rfl⟩
    · have e1 : Dk.readS d i = ByteArray.empty := by unfold Dk.readS; rw [if_neg (by rw [hg]; simp), if_neg hi]
      have e2 : Dk.readE d i = 2 := by unfold Dk.readE; rw [if_neg (by rw [hg]; simp), if_neg hi]
      rw [e1, e2]
      rw [decide_eq_false hi] at ch
      have HH := Lib.hid (And.intro ca ch); clear ca ch hh hn e1 e2 hg hd hi
      go_enter Try.func49, Try.ntmps49
      go_wp2_with fail
      refine HH.out.1.mono ?_
      rintro e _ ⟨rfl, rfl⟩
      go_wp2_with fail
      refine HH.out.2.mono ?_
      rintro e _ ⟨rfl, rfl⟩
      go_wp2_with fail
      go_ret2
      exact ⟨rfl, rfl⟩

theorem headAt_size {w : World} {p gn gk cn ck cap : Nat} {la : Option Addr} {d d' : Dk.D} (h : HeadAt w p gn gk cn ck la cap d) (h1 : d'.B.length = d.B.length) (h2 : d'.W.length = d.W.length) (h3 : d'.fuse = d.fuse) (h4 : d'.gone = d.gone) : HeadAt w p gn gk cn ck la cap d' := by
  unfold HeadAt
  rw [h1, h2, h3, h4]; exact h
theorem spent_B (d : Dk.D) : (Dk.spent d).B = d.B := by unfold Dk.spent; split <;> rfl
theorem spent_W (d : Dk.D) : (Dk.spent d).W = d.W := by unfold Dk.spent; split <;> rfl
/-- behind spend -/
theorem diskIn_spent {w w' : World} {S : Nat → Prop} {p gn gk cn ck cap : Nat} {la : Option Addr} {d : Dk.D} (h : DiskIn w S p gn gk cn ck la cap d) (hh : HeadAt w' p gn gk cn ck la cap (Dk.spent d)) (ho : Only (fun k => k = p) w w') : DiskIn w' S p gn gk cn ck la cap (Dk.spent d) := by
  refine ⟨Dk.spent_ok h.ok, hh, ?_, ?_, ?_, h.pn, h.pk, h.nk, h.sp, h.sn, h.sk⟩
  · rw [spent_B, spent_W]; exact blocksAt_only h.now ho (fun e => h.pn e)
  · rw [spent_B]; exact blocksAt_only h.kept ho (fun e => h.pk e)
  · rw [spent_W]
    refine looseAt_only h.loose ho ?_
    rintro a rfl
    rcases h.loose with ⟨h1, _⟩ | ⟨g, r, h1, _, _, _, h5, _⟩
    · cases h1
    · cases h1; exact h5

set_option maxRecDepth 100000 in
set_option maxHeartbeats 800000 in
theorem flush_any {w : World} {S : Nat → Prop} {p gn gk cn ck cap : Nat} {la : Option Addr} {d : Dk.D} (h : DiskIn w S p gn gk cn ck la cap d) :
    Calls Try.prog 23 #[.pointer (some ⟨p, 0, none⟩)] w fun e w' => e = .returned (.int .i64 (Dk.flushE d)) ∧ DiskNext w' S p (Dk.flush d) la ∧ Only S w w' := by
  have ca := asked_any h.head h.ok
  cases hg : d.gone with
  | true =>
    have e1 : Dk.flush d = d := by unfold Dk.flush; rw [if_pos hg]
    have e2 : Dk.flushE d = 7 := by unfold Dk.flushE; rw [if_pos hg]
    rw [hg] at ca
    rw [e1, e2]
    have HH := Lib.hid (And.intro ca h); clear ca h e1 e2 hg
    go_enter Try.func23, Try.ntmps23
    go_wp2_with fail
    refine HH.out.1.mono ?_
    rintro e _ ⟨rfl, rfl⟩
    go_wp2_with fail
    go_ret
    exact ⟨rfl, ⟨_, _, _, _, _, _, HH.out.2, .inr (.inl rfl)⟩, Only.refl _ _⟩
  | false =>
    rw [hg] at ca
    have cs := spend_any h.head h.ok
    by_cases h0 : d.fuse = 0
    · have e1 : Dk.flush d = Dk.spent d := by unfold Dk.flush Dk.spent; rw [if_neg (by rw [hg]; simp), if_pos h0, if_pos h0]
      have e2 : Dk.flushE d = 7 := by unfold Dk.flushE; rw [if_neg (by rw [hg]; simp), if_pos h0]
      have e3 : Dk.spendE d = 7 := by unfold Dk.spendE; rw [if_pos h0]
      rw [e1, e2]
      rw [e3] at cs
      have HH := Lib.hid (And.intro ca (And.intro cs h)); clear ca cs h e1 e2 e3 hg h0
      go_enter Try.func23, Try.ntmps23
      go_wp2_with fail
      refine HH.out.1.mono ?_
      rintro e _ ⟨rfl, rfl⟩
      go_wp2_with fail
      refine HH.out.2.1.mono ?_
      rintro e w1 ⟨rfl, hh1, ho1⟩
      have H1 := Lib.hid (And.intro hh1 ho1); clear hh1 ho1
      go_wp2_with fail
      go_ret
      exact ⟨rfl, ⟨_, _, _, _, _, _, diskIn_spent HH.out.2.2 H1.out.1 H1.out.2, .inr (.inl rfl)⟩, H1.out.2.mono fun k _ e => e ▸ HH.out.2.2.sp⟩
    · have e1 : Dk.flush d = ⟨Dk.over d.B d.W, [], Dk.burn d.fuse, d.gone⟩ := by unfold Dk.flush; rw [if_neg (by rw [hg]; simp), if_neg h0]
      have e2 : Dk.flushE d = 0 := by unfold Dk.flushE; rw [if_neg (by rw [hg]; simp), if_neg h0]
      have e3 : Dk.spendE d = 0 := by unfold Dk.spendE; rw [if_neg h0]
      have e4 : Dk.spent d = ⟨d.B, d.W, Dk.burn d.fuse, d.gone⟩ := by unfold Dk.spent; rw [if_neg h0]
      have hok := Dk.flush_ok h.ok
      rw [e1] at hok
      rw [e1, e2]
      rw [e3] at cs
      have HH := Lib.hid (And.intro ca (And.intro cs (And.intro h (And.intro e4 hok)))); clear ca cs h e1 e2 e3 e4 hg h0 hok
      go_enter Try.func23, Try.ntmps23
      go_wp2_with fail
      refine HH.out.1.mono ?_
      rintro e _ ⟨rfl, rfl⟩
      go_wp2_with fail
      refine HH.out.2.1.mono ?_
      rintro e w1 ⟨rfl, hh1, ho1⟩
      have hin := diskIn_spent HH.out.2.2.1 hh1 ho1
      rw [HH.out.2.2.2.1] at hin
      have c0 := head_now hin.head
      have c1 := head_kept hin.head
      have H1 := Lib.hid (And.intro hin ho1); clear hh1 ho1 hin
      go_wp2_with fail
      go_still_tail 9, (by kernel_rfl)
      change wpList _ _ _ _ _ w1.drew
      clear c0 c1
      go_wp2_with fail
      have hin := H1.out.1
      have hs := settle_any (w := w1.drew) (d := ⟨d.B, d.W, Dk.burn d.fuse, d.gone⟩) gk ck gn cn d.B (Dk.over d.B d.W) hin.ok hin.head hin.loose hin.kept hin.now hin.ok.size (Dk.over_ok hin.ok.size hin.ok.loose) rfl (Dk.over_len _ _) hin.pk hin.nk hin.pn
        (by
          rintro a rfl
          rcases hin.loose with ⟨h1, _⟩ | ⟨g, r, h1, _, _, _, _, _, h7, _⟩
          · cases h1
          · cases h1; exact h7)
      clear hin
      refine hs.mono ?_
      rintro e w2 ⟨rfl, hh2, hk2, ho2⟩
      have H2 := Lib.hid (And.intro hh2 (And.intro hk2 ho2)); clear hh2 hk2 ho2 hs
      go_wp2_with fail
      go_ret
      have hin := H1.out.1
      have ho2 : Only (fun k => k = p ∨ k = gk) w1 w2 := H2.out.2.2.of_drew
      refine ⟨rfl, ⟨gn, gk, cn, ck, none, 0, ⟨HH.out.2.2.2.2, headAt_size H2.out.1 (Dk.over_len _ _) rfl rfl rfl, ?_, ?_, .inl ⟨rfl, rfl, rfl⟩, hin.pn, hin.pk, hin.nk, hin.sp, hin.sn, hin.sk⟩, .inl rfl⟩, ?_⟩
      · exact blocksAt_only hin.now ho2 (fun e => by rcases e with e | e; exact hin.pn e; exact hin.nk e.symm)
      · have := H2.out.2.1
        rw [Dk.settle_flush] at this
        exact this
      · exact (H1.out.2.mono (G := S) fun k _ e => e ▸ hin.sp).trans (ho2.mono (G := S) fun k _ e => by rcases e with e | e; exact e ▸ hin.sp; exact e ▸ hin.sk) fun _ _ x => x
end Go.Proofs.Ytedemehlccmkpaa

/-
  Layer 4: what Crash does.
-/
namespace Go.Proofs.Ytedemehlccmkpaa
open Go.RowKit

/-- the slice at a reads as the integers l -/
def ReadsI (w : World) (a : Option Addr) (l : List Int) : Prop := ∀ i (h : i < l.length), ∃ b off, a = some ⟨b, off, none⟩ ∧ w.cell? ⟨b, off + i, none⟩ = some (.int .i64 (l[i]))
theorem readsI_none (w : World) (a : Option Addr) : ReadsI w a [] := by intro i hi; simp at hi
theorem ne_nil {α : Type} {l : List α} {i : Nat} (h : i < l.length) : l ≠ [] := by rintro rfl; simp at h
theorem readsI_only {F : Nat → Prop} {w w' : World} {a : Option Addr} {l : List Int} (h : ReadsI w a l) (ho : Only F w w') (hn : ∀ b, a = some b → l ≠ [] → ¬ F b.block) : ReadsI w' a l := by
  intro i hi
  obtain ⟨b, off, h1, h2⟩ := h i hi
  exact ⟨b, off, h1, (ho.cell (World.block_lt_of_cell? w _ h2) (show ¬ F b from hn _ h1 (ne_nil hi))).trans h2⟩
theorem readsI_lt {w : World} {a : Option Addr} {l : List Int} (h : ReadsI w a l) : ∀ b, a = some b → l ≠ [] → b.block < w.heap.size := by
  intro b hb hl
  obtain ⟨c, off, h1, h2⟩ := h 0 (List.length_pos_iff.2 hl)
  have := World.block_lt_of_cell? w _ h2
  rw [hb] at h1
  cases h1
  exact this
theorem readsI_below {w w' : World} {a : Option Addr} {l : List Int} (h : ReadsI w a l) (hb : Below w.heap.size w w') : ReadsI w' a l :=
  readsI_only h (Only.of_below hb) fun b e hl => by have := readsI_lt h b e hl; omega

set_option maxRecDepth 100000 in
set_option maxHeartbeats 3200000 in
theorem crash_any {w : World} {S : Nat → Prop} {p gn gk cn ck cap : Nat} {la : Option Addr} {d : Dk.D} (h : DiskIn w S p gn gk cn ck la cap d) (fa : Option Addr) (F : List Int) (fc : Nat) (hF : ReadsI w fa F) (hfa : ∀ a, fa = some a → F ≠ [] → ¬ S a.block) :
    Calls Try.prog 22 #[.pointer (some ⟨p, 0, none⟩), .slice fa F.length fc] w fun e w' => e = .returned (.int .i64 0) ∧ DiskNext w' (fun k => S k ∨ w.heap.size ≤ k) p (Dk.crash d F) la ∧ Only S w w' := by
  have cn0 := none_any h.head h.ok
  have cl := head_loose h.head
  have HH := Lib.hid (And.intro h (And.intro hF (And.intro hfa cn0))); clear h hF hfa cn0
  go_enter Try.func22, Try.ntmps22
  go_wp2_with fail
  refine HH.out.2.2.2.mono ?_
  rintro e w0 ⟨rfl, hw0⟩
  obtain rfl := hw0.symm
  clear hw0
  go_wp2_with fail
  go_loopw [5, 6, 7, 15] (fun _ _ _ i wr => ∃ k : Nat, k ≤ d.W.length ∧ i = .int .i64 (k : Int) ∧ Hid (BlocksAt wr gk ck (Dk.crashK d.B d.W F k)) ∧ Hid (Only (fun x => x = gk) w wr))
    (fun _ _ _ i _ => d.W.length - (intOf i).toNat)
  case atStart => exact ⟨0, by omega, rfl, Lib.hid HH.out.1.kept, Lib.hid (Only.refl _ _)⟩
  case round =>
    obtain ⟨k, hk, rfl, HR, HO⟩ := hrel
    by_cases hlt : k < d.W.length
    · obtain ⟨hin, hF, hfa, _⟩ := HH.out
      obtain ⟨g, r, rfl, hg, hcap, hmax, g1, g2, g3, hown⟩ : ∃ g r, la = some ⟨g, 0, none⟩ ∧ RowV w g 93 (d.W.flatMap wv ++ r) ∧ d.W.length ≤ cap ∧ cap ≤ maxLen ∧ g ≠ p ∧ g ≠ gn ∧ g ≠ gk ∧ (d.W.length < cap → S g ∧ d.W.length * 513 + r.length = cap * 513) := by
        rcases hin.loose with ⟨_, _, h⟩ | h
        · rw [h] at hlt; simp at hlt
        · exact h
      have hm := hin.ok.loose _ (Dk.getD_mem d.W k (0, ByteArray.empty) hlt)
      have hr2 := rowV_only hg HO.out (fun e => g3 e)
      have hh2 : HeadAt wr p gn gk cn ck (some ⟨g, 0, none⟩) cap d := rowV_only hin.head HO.out (fun e => hin.pk e.symm)
      have cl2 := head_loose hh2
      have c1 := head_kept hh2
      obtain ⟨ca, rd⟩ := loose_at hr2 (fun x hx => (hin.ok.loose x hx).2) k hlt
      have zK := Dk.crashK_ok F hin.ok.size hin.ok.loose k hk
      have hat : (d.W.getD k (0, ByteArray.empty)).1 < (Dk.crashK d.B d.W F k).length := by rw [Dk.crashK_len]; exact hm.1
      have r1 := blocks_range HR.out zK _ hat
      have t1 := blocks_there HR.out zK _ hat
      have s1 := Dk.blk_size zK _ hat
      have hf : ∃ f : Int, F.getD k 0 = f ∧ (k < F.length → ∃ b off, fa = some ⟨b, off, none⟩ ∧ wr.cell? ⟨b, off + k, none⟩ = some (.int .i64 f)) ∧ (¬ k < F.length → f = 0) := by
        refine ⟨_, rfl, fun hkF => ?_, fun hkF => by rw [List.getD_eq_getElem?_getD, List.getElem?_eq_none (by omega)]; rfl⟩
        obtain ⟨b, off, e1, e2⟩ := hF k hkF
        refine ⟨b, off, e1, ?_⟩
        rw [HO.out.cell (p := ⟨b, off + k, none⟩) (World.block_lt_of_cell? w _ e2) (fun e => hfa _ e1 (ne_nil hkF) (by rw [show b = gk from e]; exact hin.sk)), e2, List.getD_eq_getElem?_getD, List.getElem?_eq_getElem hkF]
        rfl
      obtain ⟨f, hfk, hfc, hf0⟩ := hf
      have hset : ∀ w', BlocksAt w' gk ck (Dk.crashK d.B d.W F k) → BlocksAt (w'.setCells gk ((d.W.getD k (0, ByteArray.empty)).1 * 512) (bv (Dk.falls f (Dk.blk (Dk.crashK d.B d.W F k) (d.W.getD k (0, ByteArray.empty)).1) (d.W.getD k (0, ByteArray.empty)).2))) gk ck (Dk.crashK d.B d.W F (k + 1)) := fun w' hw' => by
        rw [Dk.crashK, hfk]
        exact blocks_set hw' zK _ hat _ (Dk.falls_size _ _ _ s1 hm.2)
      have zf := Dk.falls_size f _ _ s1 hm.2
      have hWm : d.W.length ≤ maxLen := Nat.le_trans hcap hmax
      unfold maxLen at hWm
      have atB : (d.W.getD k (0, ByteArray.empty)).1 < d.B.length := hm.1
      have s2 := hm.2
      have hmost := hin.ok.most
      have HX := Lib.hid (And.intro hset (And.intro s1 (And.intro s2 (And.intro zf (And.intro rd (And.intro hh2 (And.intro hr2 (And.intro g3 hin.pk))))))))
      clear hset s1 s2 zf rd hh2 hr2 g1 g2 g3 hown hm hg zK hat hin hF hfa hfk hcap hmax
      have HX2 := Lib.hid t1
      have HX3 := Lib.hid r1
      clear t1 r1
      obtain ⟨CK2, hCK⟩ : ∃ A, Dk.crashK d.B d.W F (k + 1) = A := ⟨_, rfl⟩
      have HCK := Lib.hid hCK
      rw [hCK] at HX
      clear hCK
      generalize Dk.blk (Dk.crashK d.B d.W F k) (d.W.getD k (0, ByteArray.empty)).1 = X at *
      generalize Dk.crashK d.B d.W F k = CK at *
      generalize (d.W.getD k (0, ByteArray.empty)).1 = at_ at *
      generalize (d.W.getD k (0, ByteArray.empty)).2 = sd at *
      have HC : Hid ((∀ wx, Below wr.heap.size wr wx → wx.rangeAt gk (at_ * 512) (bv X)) ∧ (∀ wx, (wx.cell? ⟨p, 1, none⟩ = some (.slice (some ⟨gk, 0, none⟩) d.B.length ck) ∧ wx.cell? ⟨g, k * 513, none⟩ = some (.int .i64 (at_ : Int)) ∧ Hid (Below wr.heap.size wr wx)) → Calls Try.prog 46 #[.pointer (some ⟨g, k * 513, none⟩), .agg (bv X).toArray, .int .i64 f] wx fun e w' => e = .returned (.agg (bv (Dk.falls f X sd)).toArray) ∧ (w'.cell? ⟨p, 1, none⟩ = some (.slice (some ⟨gk, 0, none⟩) d.B.length ck) ∧ w'.cell? ⟨g, k * 513, none⟩ = some (.int .i64 (at_ : Int)) ∧ Hid (Below wr.heap.size wr w')))) := Lib.hid ⟨fun wx hb j v hv => by
          have e := HX3.out j v hv
          rw [hb.cell (p := ⟨gk, at_ * 512 + j, none⟩) (World.block_lt_of_cell? wr _ e)]; exact e, fun wx hSx => (falls_any wx g (k * 513) X sd f HX.out.2.1 HX.out.2.2.1 (fun j v hv => by
            have e := HX.out.2.2.2.2.1 j v hv
            rw [hSx.2.2.out.cell (p := ⟨g, k * 513 + 1 + j, none⟩) (World.block_lt_of_cell? wr _ e)]; exact e)).mono fun e w' hh => by
          have hb := hSx.2.2.out.trans (hh.2.mono hSx.2.2.out.size)
          exact ⟨hh.1, (hb.cell (p := ⟨p, 1, none⟩) (World.block_lt_of_cell? wr _ c1)).trans c1, (hb.cell (p := ⟨g, k * 513, none⟩) (World.block_lt_of_cell? wr _ ca)).trans ca, Lib.hid hb⟩⟩
      by_cases hkF : k < F.length
      · obtain ⟨b, off, rfl, hfcell⟩ := hfc hkF
        clear hfc hf0
        go_wp2_with fail
        clear hfcell
        refine wp_region_quiet_tail (C := fun w' => w'.cell? ⟨p, 1, none⟩ = some (.slice (some ⟨gk, 0, none⟩) d.B.length ck) ∧ w'.cell? ⟨g, k * 513, none⟩ = some (.int .i64 (at_ : Int)) ∧ Hid (Below wr.heap.size wr w')) 22 (by kernel_rfl) (by kernel_rfl) ⟨c1, ca, Lib.hid ((Below.refl _ wr).drew)⟩ ?_
        simp only [List.take_succ_cons, List.take_zero, List.drop_succ_cons, List.drop_zero]
        iterate 18
          refine wpQuiet_read ?_
          apply Exists.intro
          refine ⟨⟨by rfl, fun wx hSx => ?_⟩, ?_⟩
          · go_simp
            with_reducible rfl
          simp only [Act.put, List.setIfInBounds_toArray, List.set_cons_zero, List.set_cons_succ]
        refine wpQuiet_load_rows rfl _ _ rfl gk (at_ * 512) rfl (bv X).toArray (fun wx hSx => run_loadVar_mid wx gk (at_ * 512) _ (bv X) _ (HC.out.1 wx hSx.2.2.out) block_under rfl (block_size X HX.out.2.1)) ?_
        simp only [Act.put, List.setIfInBounds_toArray, List.set_cons_zero, List.set_cons_succ]
        refine wpQuiet_read ?_
        apply Exists.intro
        refine ⟨⟨by rfl, fun wx hSx => ?_⟩, ?_⟩
        · go_simp
          with_reducible rfl
        simp only [Act.put, List.setIfInBounds_toArray, List.set_cons_zero, List.set_cons_succ]
        refine wpQuiet_call rfl 46 #[.pointer (some ⟨g, k * 513, none⟩), .agg (bv X).toArray, .int .i64 f] (.agg (bv (Dk.falls f X sd)).toArray) (fun wx hSx => by go_simp) (fun wx hSx => HC.out.2 wx hSx) ?_
        simp only [Act.put, List.setIfInBounds_toArray, List.set_cons_zero, List.set_cons_succ]
        refine wpQuiet_read ?_
        apply Exists.intro
        refine ⟨⟨by rfl, fun wx hSx => ?_⟩, ?_⟩
        · go_simp
          with_reducible rfl
        simp only [Act.put, List.setIfInBounds_toArray, List.set_cons_zero, List.set_cons_succ]
        refine wpQuiet_nil ?_
        rintro w4 ⟨_, _, hb4⟩
        have HE : Hid (BlocksAt (w4.setCells gk (at_ * 512) (bv (Dk.falls f X sd)).toArray.toList) gk ck CK2 ∧ Only (fun x => x = gk) w (w4.setCells gk (at_ * 512) (bv (Dk.falls f X sd)).toArray.toList)) := Lib.hid ⟨HX.out.1 w4 (blocksAt_only HR.out (Only.of_none (F := fun _ => False) hb4.out) (fun h => h)), (HO.out.more (Only.of_none hb4.out)).setCells (fun _ => rfl) _ _⟩
        have t4 : w4.there gk (at_ * 512) (bv (Dk.falls f X sd)).toArray.size := by
          rw [List.size_toArray, bv_len, HX.out.2.2.2.1]
          intro j hj
          obtain ⟨u1, u2⟩ := HX2.out j hj
          obtain ⟨u, hu⟩ := Option.isSome_iff_exists.1 u1
          have hlt := World.block_lt_of_cell? wr _ hu
          exact ⟨by rw [hb4.out.cell hlt]; exact u1, by rw [hb4.out.frozen hlt]; exact u2⟩
        clear hb4
        go_wp2_with (refine wpList_store_mid rfl _ _ _ rfl gk (at_ * 512) (bv (Dk.falls f X sd)).toArray rfl rfl t4 (by rw [List.size_toArray]; exact block_size _ HX.out.2.2.2.1) (all_oneCell_toArray (bv_one _)) ?_)
        go_roundw
        case rel => exact ⟨k + 1, by omega, by go_num, Lib.hid (by rw [HCK.out]; exact HE.out.1), Lib.hid HE.out.2⟩
        case measure => simp [intOf]; omega
      · obtain rfl := hf0 hkF
        clear hfc hf0
        go_wp2_with fail
        refine wp_region_quiet_tail (C := fun w' => w'.cell? ⟨p, 1, none⟩ = some (.slice (some ⟨gk, 0, none⟩) d.B.length ck) ∧ w'.cell? ⟨g, k * 513, none⟩ = some (.int .i64 (at_ : Int)) ∧ Hid (Below wr.heap.size wr w')) 22 (by kernel_rfl) (by kernel_rfl) ⟨c1, ca, Lib.hid ((Below.refl _ wr).drew)⟩ ?_
        simp only [List.take_succ_cons, List.take_zero, List.drop_succ_cons, List.drop_zero]
        iterate 18
          refine wpQuiet_read ?_
          apply Exists.intro
          refine ⟨⟨by rfl, fun wx hSx => ?_⟩, ?_⟩
          · go_simp
            with_reducible rfl
          simp only [Act.put, List.setIfInBounds_toArray, List.set_cons_zero, List.set_cons_succ]
        refine wpQuiet_load_rows rfl _ _ rfl gk (at_ * 512) rfl (bv X).toArray (fun wx hSx => run_loadVar_mid wx gk (at_ * 512) _ (bv X) _ (HC.out.1 wx hSx.2.2.out) block_under rfl (block_size X HX.out.2.1)) ?_
        simp only [Act.put, List.setIfInBounds_toArray, List.set_cons_zero, List.set_cons_succ]
        refine wpQuiet_read ?_
        apply Exists.intro
        refine ⟨⟨by rfl, fun wx hSx => ?_⟩, ?_⟩
        · go_simp
          with_reducible rfl
        simp only [Act.put, List.setIfInBounds_toArray, List.set_cons_zero, List.set_cons_succ]
        refine wpQuiet_call rfl 46 #[.pointer (some ⟨g, k * 513, none⟩), .agg (bv X).toArray, .int .i64 0] (.agg (bv (Dk.falls 0 X sd)).toArray) (fun wx hSx => by go_simp) (fun wx hSx => HC.out.2 wx hSx) ?_
        simp only [Act.put, List.setIfInBounds_toArray, List.set_cons_zero, List.set_cons_succ]
        refine wpQuiet_read ?_
        apply Exists.intro
        refine ⟨⟨by rfl, fun wx hSx => ?_⟩, ?_⟩
        · go_simp
          with_reducible rfl
        simp only [Act.put, List.setIfInBounds_toArray, List.set_cons_zero, List.set_cons_succ]
        refine wpQuiet_nil ?_
        rintro w4 ⟨_, _, hb4⟩
        have HE : Hid (BlocksAt (w4.setCells gk (at_ * 512) (bv (Dk.falls 0 X sd)).toArray.toList) gk ck CK2 ∧ Only (fun x => x = gk) w (w4.setCells gk (at_ * 512) (bv (Dk.falls 0 X sd)).toArray.toList)) := Lib.hid ⟨HX.out.1 w4 (blocksAt_only HR.out (Only.of_none (F := fun _ => False) hb4.out) (fun h => h)), (HO.out.more (Only.of_none hb4.out)).setCells (fun _ => rfl) _ _⟩
        have t4 : w4.there gk (at_ * 512) (bv (Dk.falls 0 X sd)).toArray.size := by
          rw [List.size_toArray, bv_len, HX.out.2.2.2.1]
          intro j hj
          obtain ⟨u1, u2⟩ := HX2.out j hj
          obtain ⟨u, hu⟩ := Option.isSome_iff_exists.1 u1
          have hlt := World.block_lt_of_cell? wr _ hu
          exact ⟨by rw [hb4.out.cell hlt]; exact u1, by rw [hb4.out.frozen hlt]; exact u2⟩
        clear hb4
        go_wp2_with (refine wpList_store_mid rfl _ _ _ rfl gk (at_ * 512) (bv (Dk.falls 0 X sd)).toArray rfl rfl t4 (by rw [List.size_toArray]; exact block_size _ HX.out.2.2.2.1) (all_oneCell_toArray (bv_one _)) ?_)
        go_roundw
        case rel => exact ⟨k + 1, by omega, by go_num, Lib.hid (by rw [HCK.out]; exact HE.out.1), Lib.hid HE.out.2⟩
        case measure => simp [intOf]; omega
    · obtain rfl : k = d.W.length := by omega
      have hin := HH.out.1
      have hh2 : HeadAt wr p gn gk cn ck la cap d := rowV_only hin.head HO.out (fun e => hin.pk e.symm)
      have c0 := head_now hh2
      have c1 := head_kept hh2
      have hlo : ∀ a, la = some a → a.block ≠ p ∧ a.block ≠ gn ∧ a.block ≠ gk := by
        rintro a rfl
        rcases hin.loose with ⟨h1, _⟩ | ⟨g, r, h1, _, _, _, h5, h6, h7, _⟩
        · cases h1
        · cases h1; exact ⟨h5, h6, h7⟩
      have hs := settle_any (w := wr.drew) (d := d) gn cn gk ck (Dk.over d.B d.W) (Dk.crashK d.B d.W F d.W.length) hin.ok hh2 (looseAt_only hin.loose HO.out.drew (fun a ha => (hlo a ha).2.2)) (blocksAt_only hin.now HO.out.drew (fun e => hin.nk e.symm)) HR.out (Dk.over_ok hin.ok.size hin.ok.loose) (Dk.crashK_ok F hin.ok.size hin.ok.loose _ (Nat.le_refl _))
        (Dk.over_len _ _) (Dk.crashK_len _ _ _ _) hin.pn (fun e => hin.nk e.symm) hin.pk (fun a ha => (hlo a ha).2.1)
      rw [Dk.settle_crash] at hs
      have HS := Lib.hid hs
      clear hs hlo hin hh2
      go_wp2_with fail
      go_still_tail 9, (by kernel_rfl)
      change wpList _ _ _ _ _ wr.drew
      clear c0 c1
      go_wp2_with fail
      refine HS.out.mono ?_
      rintro e w2 ⟨rfl, hh2, hn2, ho2⟩
      have f3 := rowV_frozen hh2 3
      have f4 := rowV_frozen hh2 4
      have c3 := head_left hh2
      have c4 := head_gone hh2
      have hst := rowV_stored (rowV_stored hh2 4 (.bool false)) 3 (.int .i64 (-1))
      have hp : Only (fun k => k = p) w2 ((w2.setCell ⟨p, 4, none⟩ (.bool false)).setCell ⟨p, 3, none⟩ (.int .i64 (-1))) := ((Only.refl (fun k => k = p) w2).setCell (g := p) (i := 4) (fun _ => rfl) _).setCell (g := p) (i := 3) (fun _ => rfl) _
      have H2 := Lib.hid (And.intro hst (And.intro hn2 (And.intro ho2.of_drew hp)))
      clear hst hn2 ho2 hp hh2 HS
      go_wp2_with fail
      go_ret
      obtain ⟨hst, hn2, ho2, hp⟩ := H2.out
      have hin := HH.out.1
      have hall : Only S w w2 := (HO.out.mono (G := S) fun k _ e => e ▸ hin.sk).trans (ho2.mono (G := S) fun k _ e => by rcases e with e | e; exact e ▸ hin.sp; exact e ▸ hin.sn) fun _ _ h => h
      refine ⟨rfl, ⟨gn, gk, cn, ck, none, 0, ⟨Dk.crash_ok hin.ok F, ?_, ?_, ?_, .inl ⟨rfl, rfl, rfl⟩, hin.pn, hin.pk, hin.nk, .inl hin.sp, .inl hin.sn, .inl hin.sk⟩, .inl rfl⟩, hall.trans (hp.mono (G := S) fun k _ e => e ▸ hin.sp) fun _ _ h => h⟩
      · unfold HeadAt Dk.crash
        rw [Dk.crashK_len]
        exact hst
      · exact blocksAt_only hn2 hp (fun e => hin.pn e)
      · exact blocksAt_only (blocksAt_only HR.out ho2 (fun e => by rcases e with e | e; exact hin.pk e; exact hin.nk e)) hp (fun e => hin.pk e)
end Go.Proofs.Ytedemehlccmkpaa

/-
  Layer 4: a loose write as a value, put behind the loose list; a text copied into a block.
-/
namespace Go.Proofs.Ytedemehlccmkpaa
open Go.RowKit

theorem info_write : (Try.prog.info? 93).map (fun i => (i.zero, i.size, i.bytes)) = some (some (.agg (wv (0, Dk.zeros)).toArray), 513, 520) := by kernel_rfl
theorem wv_one (x : Nat × ByteArray) : ∀ v ∈ wv x, v.oneCell' = true := by
  intro v hv
  rcases List.mem_cons.1 hv with rfl | hv
  · rfl
  · exact bv_one _ v hv
theorem fold_arr (off : Nat) (X cs : Array Value) : X.zipIdx.foldl (fun cs (x : Value × Nat) => cs.setIfInBounds (off + x.2) x.1) cs = (X.toList.zipIdx 0).foldl (fun cs (x : Value × Nat) => cs.setIfInBounds (off + x.2) x.1) cs := by
  rw [← Array.foldl_toList, Array.toList_zipIdx]
theorem fill_step (places : Nat → Option (Nat × Nat)) (z : Array Value) (i : Nat) (v : Value) (rest : List (Nat × Value)) (off : Nat) (hp : places i = some (off, v.cells.size)) (hf : off + v.cells.size ≤ z.size) :
    Instr.fill places z ((i, v) :: rest) = Instr.fill places ((v.cells.toList.zipIdx 0).foldl (fun cs (x : Value × Nat) => cs.setIfInBounds (off + x.2) x.1) z) rest := by
  rw [← fold_arr]
  simp only [Instr.fill, hp]
  rw [if_neg (by simp; omega)]
theorem fill_two (z : Array Value) (hz : z.size = 513) (v : Value) (hv : v.cells = #[v]) (X : Array Value) (hX : X.size = 512) (places : Nat → Option (Nat × Nat)) (h0 : places 0 = some (0, 1)) (h1 : places 1 = some (1, 512)) :
    Instr.fill places z [(0, v), (1, .agg X)] = some (v :: X.toList).toArray := by
  have hc : (Value.agg X).cells = X := rfl
  rw [fill_step places z 0 v _ 0 (by rw [h0, hv]; rfl) (by rw [hv, hz]; simp), hv]
  obtain ⟨s1, k1⟩ := Great.foldl_set 0 [v] 0 z
  have e1 : (#[v] : Array Value).toList = [v] := rfl
  rw [e1]
  generalize ([v].zipIdx 0).foldl (fun cs (x : Value × Nat) => cs.setIfInBounds (0 + x.2) x.1) z = z1 at *
  rw [fill_step places z1 1 (.agg X) _ 1 (by rw [h1, hc, hX]) (by rw [hc, s1, hz, hX]; omega), hc]
  obtain ⟨s2, k2⟩ := Great.foldl_set 1 X.toList 0 z1
  show some _ = some _
  congr 1
  apply Array.ext_getElem?
  intro k
  have hlX : X.toList.length = 512 := by rw [Array.length_toList, hX]
  have eR : (v :: X.toList).toArray[k]? = (v :: X.toList)[k]? := List.getElem?_toArray ..
  rw [k2 k, k1 k, hlX, s1, hz, eR]
  by_cases hk0 : k = 0
  · subst hk0; simp
  · by_cases hk : k < 513
    · rw [if_pos (by omega)]
      obtain ⟨j, rfl⟩ : ∃ j, k = j + 1 := ⟨k - 1, by omega⟩
      rw [List.getElem?_cons_succ]; congr 1
    · rw [if_neg (by omega), if_neg (by simp; omega), Array.getElem?_eq_none (by omega), List.getElem?_eq_none (by rw [List.length_cons, hlX]; omega)]
theorem built_write (i : Nat) (b : ByteArray) (hb : b.size = 512) : Try.prog.built 93 [(0, .int .i64 (i : Int)), (1, .agg (bv b).toArray)] = some (wv (i, b)).toArray := by
  obtain ⟨iw, hi, hi2⟩ := Option.map_eq_some_iff.1 info_write
  simp only [Prod.mk.injEq] at hi2
  have p0 : (Try.prog.info? 3).map (·.size) = some 1 := by kernel_rfl
  have p1 : (Try.prog.info? 91).map (·.size) = some 512 := by kernel_rfl
  obtain ⟨i0, hi0, hs0⟩ := Option.map_eq_some_iff.1 p0
  obtain ⟨i1, hi1, hs1⟩ := Option.map_eq_some_iff.1 p1
  unfold Program.built
  rw [hi, Try.underlying93]
  simp only [hi2.1, List.mapM_cons, List.mapM_nil, hi0, hi1, hs0, hs1, Option.map_some, Option.bind_eq_bind, Option.bind_some, Option.pure_def, Value.cells]
  rw [fill_two _ (by rw [List.size_toArray, wv_len _ Dk.zeros_size]) _ rfl _ (by rw [List.size_toArray, bv_len, hb]) _ rfl rfl]
  rfl
theorem run_build_write (w : World) (i : Nat) (b : ByteArray) (hb : b.size = 512) : (Instr.build 93 #[(0, .int .i64 (i : Int)), (1, .agg (bv b).toArray)]).run Try.prog w = .ok (.agg (wv (i, b)).toArray) w :=
  run_build w _ _ _ (built_write i b hb)
theorem run_slice_write (w : World) (X : Array Value) (hX : X.size = 513) : (Instr.buildSlice 77 1 #[(0, .agg X)]).run Try.prog w = .ok (.slice (some ⟨w.heap.size, 0, none⟩) 1 1) (w.alloc (.cells X 93)) := by
  obtain ⟨iw, hi, hi2⟩ := Option.map_eq_some_iff.1 info_write
  simp only [Prod.mk.injEq] at hi2
  refine run_buildSlice w _ _ 1 _ X iw _ Try.underlying77 hi hi2.1 (by rw [hi2.2.1]; omega) (by rw [hi2.2.1]; omega) ?_
  have e := Great.fill_whole (s := iw.size) (by rw [hi2.2.1]; omega) [.agg X] ((Array.range (1 * iw.size)).map ((Value.agg (wv (0, Dk.zeros)).toArray).cells[· % (Value.agg (wv (0, Dk.zeros)).toArray).cells.size]!)) (by intro v hv; rw [List.mem_singleton] at hv; subst hv; rw [hi2.2.1]; exact hX) (by simp)
  simp only [List.zipIdx_cons, List.zipIdx_nil, List.map_cons, List.map_nil, List.flatMap_cons, List.flatMap_nil, List.append_nil, Value.cells, Array.toArray_toList] at e
  exact e
/-- a text copied into a block -/
theorem wpList_copy_text {P : Program} {w : World} {ops : Array Oper} {rest : List Oper} {o : Oper} {a : Act} {Q : Exit → Act → World → Prop} (hgd : o.guard = none) (d s : Operand) (dT sT : TypeId)
    (ho : o.op = .call { callee := .builtin .copy, args := #[d, s], argTypes := #[dT, sT] }) (elem : TypeId) (hu : P.underlying dT = some (.slice elem)) (hsz : (P.info? elem).map (·.size) = some 1)
    (g off dLen dCap : Nat) (hd : a.eval d = .slice (some ⟨g, off, none⟩) dLen dCap) (str : ByteArray) (hs : a.eval s = .string str) (hn : str.size = dLen) (ht : w.there g off dLen)
    (h : wpList P ops Q rest (a.put o.dst (goInt dLen)) (w.setCells g off (bv str))) : wpList P ops Q (o :: rest) a w := by
  refine wpList_plain hgd fun K hK => ?_
  have hst := run_storeCells_cells (P := P) g off (bv str) 0 w (fun j hj => by rw [bv_len, hn] at hj; simpa using (ht j hj).1) (fun j hj => by rw [bv_len, hn] at hj; simpa using (ht j hj).2) (bv_one str)
  obtain ⟨i, hi, hi2⟩ := Option.map_eq_some_iff.1 hsz
  have hf := firstCells_string (P := P) str w
  have hrun : (Builtin.copy_ #[dT, sT] o.type #[.slice (some ⟨g, off, none⟩) dLen dCap, .string str]).run P w = .ok (goInt dLen) (w.setCells g off (bv str)) := by
    rw [Nat.add_zero] at hst
    have e : (byteCells str) = bv str := rfl
    rw [e] at hf
    subst hn
    simp [Builtin.copy_, run_underlying hu, Builtin.lenOf, sizeOf, typeInfo, hi, hi2, hf, hst]
  unfold Oper.wp
  simp [execOp, ho, resolve, invoke, builtin, hd, hs, hrun, Result.andThen]
  exact hK _ _ h

theorem room_left (k n r c : Nat) (h : n * k + r = c * k) (h2 : (n + 1) * k ≤ c * k) : (n + 1) * k + (r - k) = c * k := by
  rw [Nat.add_mul, Nat.one_mul] at h2 ⊢
  generalize n * k = a at *
  generalize c * k = b at *
  omega
/-- one loose write more -/
theorem append_loose {w : World} {S : Nat → Prop} {p gn gk cap : Nat} {la : Option Addr} {W : List (Nat × ByteArray)} (h : LooseAt w S p gn gk la cap W) (hz : ∀ x ∈ W, x.2.size = 512) (x : Nat × ByteArray) (hx : x.2.size = 512)
    (N : Nat) (hN : RowV w N 93 (wv x)) (hW : W.length ≤ 1000000) (ty : TypeId) (hp : p < w.heap.size) (hgn : gn < w.heap.size) (hgk : gk < w.heap.size) :
    ∃ g' cap' r' w', (Builtin.append_ #[77, 77] ty #[.slice la W.length cap, .slice (some ⟨N, 0, none⟩) 1 1]).run Try.prog w = .ok (.slice (some ⟨g', 0, none⟩) (W.length + 1) cap') w' ∧
      RowV w' g' 93 ((W ++ [x]).flatMap wv ++ r') ∧ W.length + 1 ≤ cap' ∧ cap' ≤ maxLen ∧ g' ≠ p ∧ g' ≠ gn ∧ g' ≠ gk ∧ (S g' ∨ w.heap.size ≤ g') ∧ (W.length + 1) * 513 + r'.length = cap' * 513 ∧ Only (fun k => S k ∧ k ≠ p ∧ k ≠ gn ∧ k ≠ gk) w w' := by
  obtain ⟨iw, hi, hi2⟩ := Option.map_eq_some_iff.1 info_write
  simp only [Prod.mk.injEq] at hi2
  have hl : ∀ y ∈ W, (wv y).length = 513 := fun y hy => wv_len y (hz y hy)
  have hlen := flat_len wv 513 W hl
  have hxl := wv_len x hx
  have hnews : ∀ j u, (wv x)[j]? = some u → w.cell? ((⟨N, 0, none⟩ : Addr).add j) = some u := fun j u hj => by
    rw [Addr.add_mid, Nat.zero_add, rowV_cell hN]; exact hj
  have hsnoc : (W ++ [x]).flatMap wv = W.flatMap wv ++ wv x := by rw [List.flatMap_append]; simp
  have hcs : (Value.agg (wv (0, Dk.zeros)).toArray).cells.size = 513 := by show (wv (0, Dk.zeros)).toArray.size = 513; rw [List.size_toArray, wv_len _ Dk.zeros_size]
  have fin : ∀ (v' : Value) (w' : World), w'.ownsRow w.heap.size 93 513 v' (W.length + 1) (W.flatMap wv ++ wv x) → w.grownBy w' none →
      ∃ g' cap' r', v' = .slice (some ⟨g', 0, none⟩) (W.length + 1) cap' ∧ RowV w' g' 93 ((W ++ [x]).flatMap wv ++ r') ∧ W.length + 1 ≤ cap' ∧ cap' ≤ maxLen ∧ g' ≠ p ∧ g' ≠ gn ∧ g' ≠ gk ∧ (S g' ∨ w.heap.size ≤ g') ∧ (W.length + 1) * 513 + r'.length = cap' * 513 ∧ Only (fun k => S k ∧ k ≠ p ∧ k ≠ gn ∧ k ≠ gk) w w' := by
    intro v' w' ho hg
    rcases ho.2 with ⟨_, h0⟩ | ⟨g', cap', cur, rfl, hb, hh, h1, h2, h3, h4⟩
    · omega
    · refine ⟨g', cap', cur.toList.drop ((W.length + 1) * 513), rfl, ?_, h1, h2, by omega, by omega, by omega, .inr hb, ?_, (Only.refl _ w).grown hg (by intro k _ e; cases e)⟩
      · rw [hsnoc, ← h4, List.take_append_drop]
        exact hh
      · have hcl : cur.toList.length = cur.size := Array.length_toList
        rw [List.length_drop, hcl, h3]
        have := Nat.mul_le_mul_right 513 h1
        omega
  rcases h with ⟨rfl, rfl, rfl⟩ | ⟨g, r, rfl, hg, hcap, hmax, n1, n2, n3, hown⟩
  · obtain ⟨v', w', hr, ho, hgr, _⟩ := run_append_own_wide (P := Try.prog) w w.heap.size 77 ty 93 iw _ 513 520 Try.underlying77 hi hi2.1 hi2.2.1 hi2.2.2 hcs (by omega) _ 0 [] (World.ownsRow_nil w w.heap.size 93 513)
      ⟨N, 0, none⟩ 1 1 (wv x) (by rw [hxl]) hnews (wv_one x) (by unfold maxLen; omega) (by omega) (Nat.le_refl _)
    obtain ⟨g', cap', r', rfl, rest⟩ := fin v' w' (by simpa using ho) (by simpa [Value.ownBlock] using hgr)
    exact ⟨g', cap', r', w', hr, rest⟩
  · by_cases hroom : W.length < cap
    · obtain ⟨hS, hsz⟩ := hown hroom
      have hle := Nat.mul_le_mul_right 513 (show W.length + 1 ≤ cap from hroom)
      have hth := rowV_there hg (W.length * 513) 513 (by rw [List.length_append, hlen]; omega)
      have hr := run_append_room_cells (P := Try.prog) w 77 ty 93 iw Try.underlying77 hi g 0 W.length cap ⟨N, 0, none⟩ 1 1 (wv x) (by rw [hi2.2.1, hxl]) hnews (wv_one x) hroom
        (fun j hj => by rw [hi2.2.1, Nat.zero_add]; exact (hth j (by omega)).1) (fun j hj => by rw [hi2.2.1, Nat.zero_add]; exact (hth j (by omega)).2)
      rw [hi2.2.1, Nat.zero_add] at hr
      have hst := rowV_setCells (wv x) (W.length * 513) hg (by rw [hxl, List.length_append, hlen]; omega)
      refine ⟨g, cap, r.drop 513, _, hr, ?_, hroom, hmax, n1, n2, n3, .inl hS, ?_, (Only.refl _ w).setCells (fun _ => ⟨hS, n1, n2, n3⟩) _ _⟩
      · have e : (W.flatMap wv ++ r).take (W.length * 513) ++ wv x ++ (W.flatMap wv ++ r).drop (W.length * 513 + (wv x).length) = (W ++ [x]).flatMap wv ++ r.drop 513 := by
          rw [hsnoc, ← hlen, List.take_left', List.drop_append, hxl, List.drop_of_length_le (by omega), List.nil_append, show (W.flatMap wv).length + 513 - (W.flatMap wv).length = 513 by omega]
          rfl
        rw [← e]; exact hst
      · rw [List.length_drop]; exact room_left 513 _ _ _ hsz hle
    · have hcw : cap = W.length := by omega
      obtain ⟨v', w', hr, ho, hgr⟩ := run_append_arg_grows (P := Try.prog) w 77 ty 93 iw _ 513 520 Try.underlying77 hi hi2.1 hi2.2.1 hi2.2.2 hcs (by omega) ⟨g, 0, none⟩ W.length cap (W.flatMap wv) hlen
        (fun j u hj => by
          have hlt := (List.getElem?_eq_some_iff.1 hj).1
          rw [Addr.add_mid, Nat.zero_add, rowV_cell hg, List.getElem?_append_left hlt]; exact hj)
        ⟨N, 0, none⟩ 1 1 (wv x) (by rw [hxl]) hnews (by omega) (by unfold maxLen; omega) (by omega)
      obtain ⟨g', cap', r', rfl, rest⟩ := fin v' w' ho hgr
      exact ⟨g', cap', r', w', hr, rest⟩
end Go.Proofs.Ytedemehlccmkpaa

/-
  Layer 4: what New does.
-/
namespace Go.Proofs.Ytedemehlccmkpaa
open Go.RowKit

theorem bv_zeros : bv Dk.zeros = List.replicate 512 (.int .u8 0) := by
  unfold bv valB Dk.zeros
  rw [List.map_replicate]; rfl
theorem zeros_flat (n : Nat) : (List.replicate n Dk.zeros).flatMap bv = List.replicate (n * 512) (.int .u8 0) := by
  induction n with
  | zero => simp
  | succ n ih => rw [List.replicate_succ, List.flatMap_cons, ih, bv_zeros, List.replicate_append_replicate, Nat.add_mul, Nat.one_mul, Nat.add_comm]
theorem rep_at (n : Nat) (v : Value) (q : Nat) (h : q < (List.replicate n v).toArray.size) : (List.replicate n v).toArray[q]! = v := by
  rw [getElem!_pos (List.replicate n v).toArray q h]; simp
theorem zeros_at (q : Nat) (h : q < (bv Dk.zeros).toArray.size) : (bv Dk.zeros).toArray[q]! = .int .u8 0 := by
  rw [bv_zeros] at h ⊢
  exact rep_at 512 _ q h
theorem diskAt_drew {w : World} {S : Nat → Prop} {p : Nat} {d : Dk.D} (h : DiskAt w S p d) : DiskAt w.drew S p d := by
  obtain ⟨_, _, _, _, _, _, h⟩ := h
  exact ⟨_, _, _, _, _, _, diskIn_only h ((Only.refl (fun _ => False) w).drew) (fun h => h) (fun h => h) (fun h => h) (fun _ _ h => h)⟩
theorem made_zeros (n : Nat) : madeCells (bv Dk.zeros).toArray (n * 512) = ((List.replicate n Dk.zeros).flatMap bv).toArray := by
  rw [zeros_flat]
  have hs : (bv Dk.zeros).toArray.size = 512 := by rw [List.size_toArray, bv_len, Dk.zeros_size]
  unfold madeCells
  apply Array.ext_getElem?
  intro i
  have e2 : (List.replicate (n * 512) (Value.int .u8 0)).toArray[i]? = (List.replicate (n * 512) (Value.int .u8 0))[i]? := List.getElem?_toArray ..
  rw [Array.getElem?_map, e2, List.getElem?_replicate]
  by_cases h : i < n * 512
  · have hi : i % 512 < (bv Dk.zeros).toArray.size := by rw [hs]; omega
    rw [Array.getElem?_range, if_pos h, if_pos h, Option.map_some, hs, zeros_at _ hi]
  · rw [if_neg h, Array.getElem?_eq_none (by simp; omega), Option.map_none]
theorem run_make_blocks (w : World) (n : Nat) (h1 : 1 ≤ n) (h2 : n ≤ 4096) : (Instr.makeSlice 76 (.int .i64 (n : Int)) (.int .i64 (n : Int))).run Try.prog w = .ok (.slice (some ⟨w.heap.size, 0, none⟩) n n) (w.alloc (.cells ((List.replicate n Dk.zeros).flatMap bv).toArray 91)) := by
  obtain ⟨i, hi, hi2⟩ := Option.map_eq_some_iff.1 info_block
  obtain ⟨i', hi', hi2'⟩ := Option.map_eq_some_iff.1 block_zero
  obtain rfl : i = i' := Option.some.inj (hi.symm.trans hi')
  simp only [Prod.mk.injEq] at hi2 hi2'
  have hr := run_make (P := Try.prog) w 76 91 i _ Try.underlying76 hi hi2'.1 .i64 .i64 (n : Int) (n : Int) (by omega) (Int.le_refl _) (by rw [hi2.2.2]; omega) (by omega)
  rw [hr]
  have e : ((n : Int)).toNat = n := by omega
  rw [e, hi2.2.1]
  show Result.ok _ (w.alloc (.cells (madeCells (bv Dk.zeros).toArray (n * 512)) _)) = _
  rw [made_zeros]

theorem new_disk (w : World) (m a b : Nat) (Z : List ByteArray) (hok : Dk.Ok (Dk.new m)) (hlen : Z.length = m) (hdn : Dk.new m = ⟨Z, [], -1, false⟩) (hab : (a = w.heap.size ∧ b = w.heap.size + 1) ∨ (a = w.heap.size + 1 ∧ b = w.heap.size)) :
    DiskAtL (((w.alloc (.cells (Z.flatMap bv).toArray 91)).alloc (.cells (Z.flatMap bv).toArray 91)).alloc (.cells #[.slice (some ⟨a, 0, none⟩) m m, .slice (some ⟨b, 0, none⟩) m m, .slice none 0 0, .int .i64 (-1), .bool false] 79)) (fun k => w.heap.size ≤ k) (fun k => w.heap.size ≤ k) (w.heap.size + 2) (Dk.new m) := by
  have hm : m ≤ 4096 := by have := hok.most; rw [hdn] at this; rw [← hlen]; exact this
  have r1 := rowV_alloc (rowV_alloc (rowV_new w 91 (Z.flatMap bv)) (.cells (Z.flatMap bv).toArray 91)) (.cells #[.slice (some ⟨a, 0, none⟩) m m, .slice (some ⟨b, 0, none⟩) m m, .slice none 0 0, .int .i64 (-1), .bool false] 79)
  have r2 := rowV_alloc (rowV_new (w.alloc (.cells (Z.flatMap bv).toArray 91)) 91 (Z.flatMap bv)) (.cells #[.slice (some ⟨a, 0, none⟩) m m, .slice (some ⟨b, 0, none⟩) m m, .slice none 0 0, .int .i64 (-1), .bool false] 79)
  have r3 := rowV_new ((w.alloc (.cells (Z.flatMap bv).toArray 91)).alloc (.cells (Z.flatMap bv).toArray 91)) 79 [.slice (some ⟨a, 0, none⟩) m m, .slice (some ⟨b, 0, none⟩) m m, .slice none 0 0, .int .i64 (-1), .bool false]
  have e1 : (w.alloc (.cells (Z.flatMap bv).toArray 91)).heap.size = w.heap.size + 1 := by simp
  have e2 : ((w.alloc (.cells (Z.flatMap bv).toArray 91)).alloc (.cells (Z.flatMap bv).toArray 91)).heap.size = w.heap.size + 2 := by simp
  rw [e1] at r2
  rw [e2] at r3
  have hB : ∀ g, (g = w.heap.size ∨ g = w.heap.size + 1) → BlocksAt (((w.alloc (.cells (Z.flatMap bv).toArray 91)).alloc (.cells (Z.flatMap bv).toArray 91)).alloc (.cells #[.slice (some ⟨a, 0, none⟩) m m, .slice (some ⟨b, 0, none⟩) m m, .slice none 0 0, .int .i64 (-1), .bool false] 79)) g m Z := by
    rintro g (rfl | rfl)
    · exact ⟨[], by rw [List.append_nil]; exact r1, by omega, by unfold maxLen; omega⟩
    · exact ⟨[], by rw [List.append_nil]; exact r2, by omega, by unfold maxLen; omega⟩
  refine ⟨a, b, m, m, none, 0, ⟨hok, ?_, ?_, ?_, .inl ⟨rfl, rfl, by rw [hdn]⟩, by omega, by omega, by omega, by omega, by omega, by omega⟩, fun _ h => by cases h⟩
  · rw [hdn]
    unfold HeadAt
    simp only [hlen]
    exact r3
  · rw [hdn]; exact hB a (by omega)
  · rw [hdn]; exact hB b (by omega)
theorem diskAtL_drew {w : World} {S L : Nat → Prop} {p : Nat} {d : Dk.D} (h : DiskAtL w S L p d) : DiskAtL w.drew S L p d := by
  obtain ⟨_, _, _, _, _, _, h, hl⟩ := h
  have ho : Only (fun _ => False) w w.drew := (Only.refl _ w).drew
  exact ⟨_, _, _, _, _, _, diskIn_only h ho (fun h => h) (fun h => h) (fun h => h) (fun _ _ h => h), hl⟩
/-- what New answers -/
def NewPostL (n : Int) (w : World) (e : Ending) (w' : World) : Prop :=
  (¬ (1 ≤ n ∧ n ≤ 4096) ∧ e = .returned (.tuple #[.pointer none, .int .i64 2]) ∧ w' = w) ∨
  (1 ≤ n ∧ n ≤ 4096 ∧ ∃ p, e = .returned (.tuple #[.pointer (some ⟨p, 0, none⟩), .int .i64 0]) ∧ DiskAtL w' (fun k => w.heap.size ≤ k) (fun k => w.heap.size ≤ k) p (Dk.new n.toNat) ∧ Below w.heap.size w w')
set_option maxRecDepth 100000 in
set_option maxHeartbeats 800000 in
theorem newL_any (n : Int) (w : World) : Calls Try.prog 13 #[.int .i64 n] w fun e w' => NewPostL n w e w' := by
  by_cases h1 : n < 1
  · go_enter Try.func13, Try.ntmps13
    go_wp2_with fail
    go_ret2
    exact .inl ⟨by omega, rfl, rfl⟩
  · by_cases h2 : 4096 < n
    · go_enter Try.func13, Try.ntmps13
      go_wp2_with fail
      go_ret2
      exact .inl ⟨by omega, rfl, rfl⟩
    · obtain ⟨m, rfl⟩ : ∃ m : Nat, n = (m : Int) := ⟨n.toNat, by omega⟩
      have hmk := fun w0 => run_make_blocks w0 m (by omega) (by omega)
      have hok := Dk.new_ok m (by omega) (by omega)
      have hlen : (List.replicate m Dk.zeros).length = m := List.length_replicate
      have hdn : Dk.new m = ⟨List.replicate m Dk.zeros, [], -1, false⟩ := rfl
      generalize List.replicate m Dk.zeros = Z at *
      have HZ := Lib.hid (And.intro hok (And.intro hlen hdn))
      clear hok hlen hdn
      generalize hX : (Z.flatMap bv).toArray = X at *
      have HX := Lib.hid hX
      clear hX
      go_enter Try.func13, Try.ntmps13
      go_wp2_with fail
      go_region
      all_goals go_wp2_with fail
      all_goals go_ret2
      · refine .inr ⟨by omega, by omega, w.heap.size + 2, rfl, ?_, ?_⟩
        · have h := new_disk w m w.heap.size (w.heap.size + 1) Z HZ.out.1 HZ.out.2.1 HZ.out.2.2 (.inl ⟨rfl, rfl⟩)
          rw [HX.out] at h
          rw [show ((m : Int)).toNat = m from by omega]
          exact diskAtL_drew h
        · exact (((Below.refl _ w).alloc (Nat.le_refl _) _).alloc (by simp) _).alloc (by simp; omega) _ |>.drew
      · refine .inr ⟨by omega, by omega, w.heap.size + 2, rfl, ?_, ?_⟩
        · have h := new_disk w m (w.heap.size + 1) w.heap.size Z HZ.out.1 HZ.out.2.1 HZ.out.2.2 (.inr ⟨rfl, rfl⟩)
          rw [HX.out] at h
          rw [show ((m : Int)).toNat = m from by omega]
          exact diskAtL_drew h
        · exact (((Below.refl _ w).alloc (Nat.le_refl _) _).alloc (by simp) _).alloc (by simp; omega) _ |>.drew
def NewPost (n : Int) (w : World) (e : Ending) (w' : World) : Prop :=
  (¬ (1 ≤ n ∧ n ≤ 4096) ∧ e = .returned (.tuple #[.pointer none, .int .i64 2]) ∧ w' = w) ∨
  (1 ≤ n ∧ n ≤ 4096 ∧ ∃ p, e = .returned (.tuple #[.pointer (some ⟨p, 0, none⟩), .int .i64 0]) ∧ DiskAt w' (fun k => w.heap.size ≤ k) p (Dk.new n.toNat) ∧ Below w.heap.size w w')
theorem new_any (n : Int) (w : World) : Calls Try.prog 13 #[.int .i64 n] w fun e w' => NewPost n w e w' := by
  refine (newL_any n w).mono fun e w' h => ?_
  rcases h with h | ⟨h1, h2, p, h3, ⟨_, _, _, _, _, _, h4, _⟩, h5⟩
  · exact .inl h
  · exact .inr ⟨h1, h2, p, h3, ⟨_, _, _, _, _, _, h4⟩, h5⟩
end Go.Proofs.Ytedemehlccmkpaa
