/-
  Layer 16's laws: EvalNumbers, walked.
-/
import Derived.Test.YtmkllibfblacfaaGreatDoorZEvLives
import Derived.Test.YtmkllibfblacfaaGreatDoorZEvRef2
import Derived.Test.YtmkllibfblacfaaGreatDoorPk3
namespace Go.Proofs.YtmkllibfblacfaaGreatDoor
open Go.RowKit Go.Shelf
theorem in64_wf {a : Int} (h : (Lit.int .i64 a).wf = true) : Ev.in64 a := by
  unfold Lit.wf at h
  unfold Ev.in64
  simp at h
  exact ⟨h.1, h.2⟩
set_option maxRecDepth 100000 in
set_option maxHeartbeats 1600000 in
theorem EvalNumbers_walk (a b : Int) (ha : (Lit.int .i64 a).wf = true) (hb : (Lit.int .i64 b).wf = true) (w : World) (hF : Facts13 w) : Calls Tryz.prog 3 #[.int .i64 a, .int .i64 b] w fun e w' => e = .returned (.bool true) ∧ Below w.heap.size w w' := by
  have ia := in64_wf ha
  have ib := in64_wf hb
  have c1 := fun wx => add16_any a b ia ib wx
  have c2 := fun wx => radd16_any a b ia ib wx
  have c3 := fun wx => sub16_any a b ia ib wx
  have c4 := fun wx => rsub16_any a b ia ib wx
  have c5 := fun wx => mul16_any a b ia ib wx
  have c6 := fun wx => rmul16_any a b ia ib wx
  have c7 := fun wx => div16_any a b ia ib wx
  have c8 := fun wx => rdiv16_any a b ia ib wx
  generalize Ev.add a b = R1 at *
  generalize Ev.sub a b = R2 at *
  generalize Ev.mul a b = R3 at *
  generalize Ev.div a b = R4 at *
  obtain ⟨p1, e1⟩ := R1
  obtain ⟨p2, e2⟩ := R2
  obtain ⟨p3, e3⟩ := R3
  obtain ⟨p4, e4⟩ := R4
  have H1 := Lib.hid (And.intro c1 c2)
  have H2 := Lib.hid (And.intro c3 c4)
  have H3 := Lib.hid (And.intro c5 c6)
  have H4 := Lib.hid (And.intro c7 c8)
  have HL := Lib.hid fun wx hx => lives16_any wx hx
  have HF := Lib.hid hF
  clear c1 c2 c3 c4 c5 c6 c7 c8 ha hb ia ib hF
  go_enter Tryz.func3, Tryz.ntmps3
  go_wp2_with fail
  refine (H1.out.1 _).mono ?_
  rintro e w1 ⟨rfl, rfl⟩
  go_wp2_with fail
  refine (H1.out.2 _).mono ?_
  rintro e w1 ⟨rfl, rfl⟩
  go_wp2_with fail
  refine (H2.out.1 _).mono ?_
  rintro e w1 ⟨rfl, rfl⟩
  go_wp2_with fail
  refine (H2.out.2 _).mono ?_
  rintro e w1 ⟨rfl, rfl⟩
  go_wp2_with fail
  refine (H3.out.1 _).mono ?_
  rintro e w1 ⟨rfl, rfl⟩
  go_wp2_with fail
  refine (H3.out.2 _).mono ?_
  rintro e w1 ⟨rfl, rfl⟩
  go_wp2_with fail
  refine (H4.out.1 _).mono ?_
  rintro e w1 ⟨rfl, rfl⟩
  go_wp2_with fail
  refine (H4.out.2 _).mono ?_
  rintro e w1 ⟨rfl, rfl⟩
  go_wp2_with fail
  refine (HL.out _ HF.out.2).mono ?_
  rintro e w2 ⟨rfl, hb2⟩
  have HB := Lib.hid hb2
  clear hb2
  go_wp2_with fail
  go_ret
  exact ⟨rfl, HB.out⟩
end Go.Proofs.YtmkllibfblacfaaGreatDoor
