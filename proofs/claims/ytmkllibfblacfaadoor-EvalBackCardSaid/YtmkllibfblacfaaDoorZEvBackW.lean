/-
  Layer 16's laws: EvalBack, walked.
-/
import Derived.Test.YtmkllibfblacfaaDoorZEvLives
import Derived.Test.YtmkllibfblacfaaDoorZEvNumM
import Derived.Test.YtmkllibfblacfaaDoorPk6
namespace Go.Proofs.YtmkllibfblacfaaDoor
open Go.RowKit Go.Shelf
theorem in64_wf {a : Int} (h : (Lit.int .i64 a).wf = true) : Ev.in64 a := by
  unfold Lit.wf at h
  unfold Ev.in64
  simp at h
  exact ⟨h.1, h.2⟩
/-- the first half: sums and products -/
def BackA (a b : Int) (R1 R3 : Int × Int) : Prop :=
  Ev.in64 R1.1 ∧ Ev.in64 R3.1 ∧ (R1.2 = 0 → Ev.sub R1.1 b = (a, 0)) ∧ (R3.2 = 0 → b ≠ 0 → Ev.div R3.1 b = (a, 0))
theorem backA {a b : Int} (ha : Ev.in64 a) : BackA a b (Ev.add a b) (Ev.mul a b) :=
  ⟨Ev.add_ok a b, Ev.mul_ok a b, fun h => Ev.add_back ha h, fun h hb => Ev.mul_back ha hb h⟩
/-- the second half: a quotient -/
def BackB (a b : Int) : Prop :=
  (Ev.div a b = (0, 16) ∧ b = 0) ∨ (Ev.div a b = (0, 15) ∧ b = -1) ∨ ∃ d m r, Ev.div a b = (d, 0) ∧ b ≠ 0 ∧ Ev.mul d b = (m, 0) ∧ Ev.sub a m = (r, 0) ∧ (r = 0 ∨ decide (r > 0) = decide (a > 0)) ∧ ((b > 0 ∧ r < b ∧ -r < b) ∨ (b < 0 ∧ b < r ∧ b < -r)) ∧ Ev.in64 d ∧ Ev.in64 m ∧ wrap64 (-r) = -r
theorem backB {a b : Int} (ha : Ev.in64 a) (hb : Ev.in64 b) : BackB a b := by
  by_cases h : (Ev.div a b).2 = 0
  · obtain ⟨h1, h2, h3, h4, h5, h6, h7, h8, h9, h10⟩ := Ev.div_in ha hb h
    refine .inr (.inr ⟨_, _, _, h1, h2, h3, h4, ?_, ?_, h7, h8, IntWalk.wrap64_in _ h10⟩)
    · rcases h5 with h5 | h5
      · exact .inl h5
      · exact .inr (decide_eq_decide.2 h5)
    · omega
  · rcases Ev.div_out ha h with h | h
    · exact .inl h
    · exact .inr (.inl h)
theorem rsign {r a : Int} (h : r = 0 ∨ decide (r > 0) = decide (a > 0)) : r = 0 ∨ (¬ r = 0 ∧ r > 0 ∧ a > 0) ∨ (¬ r = 0 ∧ ¬ r > 0 ∧ ¬ a > 0) := by
  rcases h with h | h
  · exact .inl h
  · have h2 : r > 0 ↔ a > 0 := decide_eq_decide.1 h
    omega
set_option maxRecDepth 100000 in
set_option maxHeartbeats 12800000 in
theorem EvalBack_walk (a b : Int) (ha : (Lit.int .i64 a).wf = true) (hb : (Lit.int .i64 b).wf = true) (w : World) (hF : Facts13 w) : Calls Tryd.prog 3 #[.int .i64 a, .int .i64 b] w fun e w' => e = .returned (.bool true) ∧ Below w.heap.size w w' := by
  have ia := in64_wf ha
  have ib := in64_wf hb
  have HA := backA (b := b) ia
  have HB := backB ia ib
  unfold BackB at HB
  have c1 := fun wx => add16_any a b ia ib wx
  have c2 := fun wx => add16_any b a ib ia wx
  rw [Ev.add_comm b a] at c2
  have c3 := fun wx => mul16_any a b ia ib wx
  have c4 := fun wx => mul16_any b a ib ia wx
  rw [Ev.mul_comm b a] at c4
  have c5 := fun wx => div16_any a b ia ib wx
  have cM := fun x (hx : Ev.in64 x) wx => mul16_any x b hx ib wx
  have cS := fun x (hx : Ev.in64 x) wx => sub16_any x b hx ib wx
  have cS2 := fun x (hx : Ev.in64 x) wx => sub16_any a x ia hx wx
  have cD := fun x (hx : Ev.in64 x) wx => div16_any x b hx ib wx
  have HL := Lib.hid fun wx hx => lives16_any wx hx
  have HF := Lib.hid hF.2
  generalize Ev.add a b = R1 at *
  generalize Ev.mul a b = R3 at *
  obtain ⟨p1, e1⟩ := R1
  obtain ⟨p3, e3⟩ := R3
  obtain ⟨i1, i3, k1, k3⟩ := HA
  dsimp only at i1 i3 k1 k3 c1 c2 c3 c4
  have H1 := Lib.hid (And.intro c1 c2)
  have H3 := Lib.hid (And.intro c3 c4)
  clear c1 c2 c3 c4 ha hb hF ia ib
  rcases HB with ⟨hd, h0⟩ | ⟨hd, h0⟩ | ⟨d, m, r, hd, h0, hm, hs2, hr, hs, id, im, hw⟩
  · rw [hd] at c5
    have H5 := Lib.hid c5
    clear c5 hd cM cS2 cD k3 i3
    subst h0
    by_cases hB : e3 = 0
    · subst hB
      by_cases hA : e1 = 0
      · subst hA
        have HS1 := Lib.hid fun wx => cS p1 i1 wx
        rw [k1 rfl] at HS1
        clear cS i1 k1
        go_enter Tryd.func3, Tryd.ntmps3
        go_wp2_with fail
        refine (H1.out.1 _).mono ?_
        rintro e w1 ⟨rfl, rfl⟩
        go_wp2_with fail
        refine (H1.out.2 _).mono ?_
        rintro e w1 ⟨rfl, rfl⟩
        go_wp2_with fail
        refine (H3.out.1 _).mono ?_
        rintro e w1 ⟨rfl, rfl⟩
        go_wp2_with fail
        refine (H3.out.2 _).mono ?_
        rintro e w1 ⟨rfl, rfl⟩
        go_wp2_with fail
        refine (HS1.out _).mono ?_
        rintro e w1 ⟨rfl, rfl⟩
        go_wp2_with fail
        refine (H5.out _).mono ?_
        rintro e w1 ⟨rfl, rfl⟩
        go_wp2_with fail
        refine (HL.out _ HF.out).mono ?_
        rintro e w2 ⟨rfl, hb2⟩
        have HBb := Lib.hid hb2
        clear hb2
        go_wp2_with fail
        go_ret
        exact ⟨rfl, HBb.out⟩
      · clear cS i1 k1
        go_enter Tryd.func3, Tryd.ntmps3
        go_wp2_with fail
        refine (H1.out.1 _).mono ?_
        rintro e w1 ⟨rfl, rfl⟩
        go_wp2_with fail
        refine (H1.out.2 _).mono ?_
        rintro e w1 ⟨rfl, rfl⟩
        go_wp2_with fail
        refine (H3.out.1 _).mono ?_
        rintro e w1 ⟨rfl, rfl⟩
        go_wp2_with fail
        refine (H3.out.2 _).mono ?_
        rintro e w1 ⟨rfl, rfl⟩
        go_wp2_with fail
        refine (H5.out _).mono ?_
        rintro e w1 ⟨rfl, rfl⟩
        go_wp2_with fail
        refine (HL.out _ HF.out).mono ?_
        rintro e w2 ⟨rfl, hb2⟩
        have HBb := Lib.hid hb2
        clear hb2
        go_wp2_with fail
        go_ret
        exact ⟨rfl, HBb.out⟩
    · skip
      by_cases hA : e1 = 0
      · subst hA
        have HS1 := Lib.hid fun wx => cS p1 i1 wx
        rw [k1 rfl] at HS1
        clear cS i1 k1
        go_enter Tryd.func3, Tryd.ntmps3
        go_wp2_with fail
        refine (H1.out.1 _).mono ?_
        rintro e w1 ⟨rfl, rfl⟩
        go_wp2_with fail
        refine (H1.out.2 _).mono ?_
        rintro e w1 ⟨rfl, rfl⟩
        go_wp2_with fail
        refine (H3.out.1 _).mono ?_
        rintro e w1 ⟨rfl, rfl⟩
        go_wp2_with fail
        refine (H3.out.2 _).mono ?_
        rintro e w1 ⟨rfl, rfl⟩
        go_wp2_with fail
        refine (HS1.out _).mono ?_
        rintro e w1 ⟨rfl, rfl⟩
        go_wp2_with fail
        refine (H5.out _).mono ?_
        rintro e w1 ⟨rfl, rfl⟩
        go_wp2_with fail
        refine (HL.out _ HF.out).mono ?_
        rintro e w2 ⟨rfl, hb2⟩
        have HBb := Lib.hid hb2
        clear hb2
        go_wp2_with fail
        go_ret
        exact ⟨rfl, HBb.out⟩
      · clear cS i1 k1
        go_enter Tryd.func3, Tryd.ntmps3
        go_wp2_with fail
        refine (H1.out.1 _).mono ?_
        rintro e w1 ⟨rfl, rfl⟩
        go_wp2_with fail
        refine (H1.out.2 _).mono ?_
        rintro e w1 ⟨rfl, rfl⟩
        go_wp2_with fail
        refine (H3.out.1 _).mono ?_
        rintro e w1 ⟨rfl, rfl⟩
        go_wp2_with fail
        refine (H3.out.2 _).mono ?_
        rintro e w1 ⟨rfl, rfl⟩
        go_wp2_with fail
        refine (H5.out _).mono ?_
        rintro e w1 ⟨rfl, rfl⟩
        go_wp2_with fail
        refine (HL.out _ HF.out).mono ?_
        rintro e w2 ⟨rfl, hb2⟩
        have HBb := Lib.hid hb2
        clear hb2
        go_wp2_with fail
        go_ret
        exact ⟨rfl, HBb.out⟩
  · rw [hd] at c5
    have H5 := Lib.hid c5
    clear c5 hd cM cS2
    subst h0
    by_cases hB : e3 = 0
    · subst hB
      have HD3 := Lib.hid fun wx => cD p3 i3 wx
      rw [k3 rfl (by decide)] at HD3
      clear cD k3 i3
      by_cases hA : e1 = 0
      · subst hA
        have HS1 := Lib.hid fun wx => cS p1 i1 wx
        rw [k1 rfl] at HS1
        clear cS i1 k1
        go_enter Tryd.func3, Tryd.ntmps3
        go_wp2_with fail
        refine (H1.out.1 _).mono ?_
        rintro e w1 ⟨rfl, rfl⟩
        go_wp2_with fail
        refine (H1.out.2 _).mono ?_
        rintro e w1 ⟨rfl, rfl⟩
        go_wp2_with fail
        refine (H3.out.1 _).mono ?_
        rintro e w1 ⟨rfl, rfl⟩
        go_wp2_with fail
        refine (H3.out.2 _).mono ?_
        rintro e w1 ⟨rfl, rfl⟩
        go_wp2_with fail
        refine (HS1.out _).mono ?_
        rintro e w1 ⟨rfl, rfl⟩
        go_wp2_with fail
        refine (HD3.out _).mono ?_
        rintro e w1 ⟨rfl, rfl⟩
        go_wp2_with fail
        refine (H5.out _).mono ?_
        rintro e w1 ⟨rfl, rfl⟩
        go_wp2_with fail
        refine (HL.out _ HF.out).mono ?_
        rintro e w2 ⟨rfl, hb2⟩
        have HBb := Lib.hid hb2
        clear hb2
        go_wp2_with fail
        go_ret
        exact ⟨rfl, HBb.out⟩
      · clear cS i1 k1
        go_enter Tryd.func3, Tryd.ntmps3
        go_wp2_with fail
        refine (H1.out.1 _).mono ?_
        rintro e w1 ⟨rfl, rfl⟩
        go_wp2_with fail
        refine (H1.out.2 _).mono ?_
        rintro e w1 ⟨rfl, rfl⟩
        go_wp2_with fail
        refine (H3.out.1 _).mono ?_
        rintro e w1 ⟨rfl, rfl⟩
        go_wp2_with fail
        refine (H3.out.2 _).mono ?_
        rintro e w1 ⟨rfl, rfl⟩
        go_wp2_with fail
        refine (HD3.out _).mono ?_
        rintro e w1 ⟨rfl, rfl⟩
        go_wp2_with fail
        refine (H5.out _).mono ?_
        rintro e w1 ⟨rfl, rfl⟩
        go_wp2_with fail
        refine (HL.out _ HF.out).mono ?_
        rintro e w2 ⟨rfl, hb2⟩
        have HBb := Lib.hid hb2
        clear hb2
        go_wp2_with fail
        go_ret
        exact ⟨rfl, HBb.out⟩
    · clear cD k3 i3
      by_cases hA : e1 = 0
      · subst hA
        have HS1 := Lib.hid fun wx => cS p1 i1 wx
        rw [k1 rfl] at HS1
        clear cS i1 k1
        go_enter Tryd.func3, Tryd.ntmps3
        go_wp2_with fail
        refine (H1.out.1 _).mono ?_
        rintro e w1 ⟨rfl, rfl⟩
        go_wp2_with fail
        refine (H1.out.2 _).mono ?_
        rintro e w1 ⟨rfl, rfl⟩
        go_wp2_with fail
        refine (H3.out.1 _).mono ?_
        rintro e w1 ⟨rfl, rfl⟩
        go_wp2_with fail
        refine (H3.out.2 _).mono ?_
        rintro e w1 ⟨rfl, rfl⟩
        go_wp2_with fail
        refine (HS1.out _).mono ?_
        rintro e w1 ⟨rfl, rfl⟩
        go_wp2_with fail
        refine (H5.out _).mono ?_
        rintro e w1 ⟨rfl, rfl⟩
        go_wp2_with fail
        refine (HL.out _ HF.out).mono ?_
        rintro e w2 ⟨rfl, hb2⟩
        have HBb := Lib.hid hb2
        clear hb2
        go_wp2_with fail
        go_ret
        exact ⟨rfl, HBb.out⟩
      · clear cS i1 k1
        go_enter Tryd.func3, Tryd.ntmps3
        go_wp2_with fail
        refine (H1.out.1 _).mono ?_
        rintro e w1 ⟨rfl, rfl⟩
        go_wp2_with fail
        refine (H1.out.2 _).mono ?_
        rintro e w1 ⟨rfl, rfl⟩
        go_wp2_with fail
        refine (H3.out.1 _).mono ?_
        rintro e w1 ⟨rfl, rfl⟩
        go_wp2_with fail
        refine (H3.out.2 _).mono ?_
        rintro e w1 ⟨rfl, rfl⟩
        go_wp2_with fail
        refine (H5.out _).mono ?_
        rintro e w1 ⟨rfl, rfl⟩
        go_wp2_with fail
        refine (HL.out _ HF.out).mono ?_
        rintro e w2 ⟨rfl, hb2⟩
        have HBb := Lib.hid hb2
        clear hb2
        go_wp2_with fail
        go_ret
        exact ⟨rfl, HBb.out⟩
  · rw [hd] at c5
    have H5 := Lib.hid c5
    have HM := Lib.hid fun wx => cM d id wx
    rw [hm] at HM
    have HS := Lib.hid fun wx => cS2 m im wx
    rw [hs2] at HS
    clear c5 hd cM cS2 hm hs2 id im
    by_cases hB : e3 = 0
    · subst hB
      have HD3 := Lib.hid fun wx => cD p3 i3 wx
      rw [k3 rfl h0] at HD3
      clear cD k3 i3
      have hr3 : r = 0 ∨ (¬ r = 0 ∧ r > 0 ∧ a > 0) ∨ (¬ r = 0 ∧ ¬ r > 0 ∧ ¬ a > 0) := rsign hr
      clear hr
      rcases hs with ⟨s1, s2, s3⟩ | ⟨s1, s2, s3⟩
      · rcases hr3 with h | h | h
        · subst h
          by_cases hA : e1 = 0
          · subst hA
            have HS1 := Lib.hid fun wx => cS p1 i1 wx
            rw [k1 rfl] at HS1
            clear cS i1 k1
            go_enter Tryd.func3, Tryd.ntmps3
            go_wp2_with fail
            refine (H1.out.1 _).mono ?_
            rintro e w1 ⟨rfl, rfl⟩
            go_wp2_with fail
            refine (H1.out.2 _).mono ?_
            rintro e w1 ⟨rfl, rfl⟩
            go_wp2_with fail
            refine (H3.out.1 _).mono ?_
            rintro e w1 ⟨rfl, rfl⟩
            go_wp2_with fail
            refine (H3.out.2 _).mono ?_
            rintro e w1 ⟨rfl, rfl⟩
            go_wp2_with fail
            refine (HS1.out _).mono ?_
            rintro e w1 ⟨rfl, rfl⟩
            go_wp2_with fail
            refine (HD3.out _).mono ?_
            rintro e w1 ⟨rfl, rfl⟩
            go_wp2_with fail
            refine (H5.out _).mono ?_
            rintro e w1 ⟨rfl, rfl⟩
            go_wp2_with fail
            refine (HM.out _).mono ?_
            rintro e w1 ⟨rfl, rfl⟩
            go_wp2_with fail
            refine (HS.out _).mono ?_
            rintro e w1 ⟨rfl, rfl⟩
            go_wp2_with fail
            refine (HL.out _ HF.out).mono ?_
            rintro e w2 ⟨rfl, hb2⟩
            have HBb := Lib.hid hb2
            clear hb2
            go_wp2_with fail
            go_ret
            exact ⟨rfl, HBb.out⟩
          · clear cS i1 k1
            go_enter Tryd.func3, Tryd.ntmps3
            go_wp2_with fail
            refine (H1.out.1 _).mono ?_
            rintro e w1 ⟨rfl, rfl⟩
            go_wp2_with fail
            refine (H1.out.2 _).mono ?_
            rintro e w1 ⟨rfl, rfl⟩
            go_wp2_with fail
            refine (H3.out.1 _).mono ?_
            rintro e w1 ⟨rfl, rfl⟩
            go_wp2_with fail
            refine (H3.out.2 _).mono ?_
            rintro e w1 ⟨rfl, rfl⟩
            go_wp2_with fail
            refine (HD3.out _).mono ?_
            rintro e w1 ⟨rfl, rfl⟩
            go_wp2_with fail
            refine (H5.out _).mono ?_
            rintro e w1 ⟨rfl, rfl⟩
            go_wp2_with fail
            refine (HM.out _).mono ?_
            rintro e w1 ⟨rfl, rfl⟩
            go_wp2_with fail
            refine (HS.out _).mono ?_
            rintro e w1 ⟨rfl, rfl⟩
            go_wp2_with fail
            refine (HL.out _ HF.out).mono ?_
            rintro e w2 ⟨rfl, hb2⟩
            have HBb := Lib.hid hb2
            clear hb2
            go_wp2_with fail
            go_ret
            exact ⟨rfl, HBb.out⟩
        · obtain ⟨r1, r2, r3⟩ := h
          by_cases hA : e1 = 0
          · subst hA
            have HS1 := Lib.hid fun wx => cS p1 i1 wx
            rw [k1 rfl] at HS1
            clear cS i1 k1
            go_enter Tryd.func3, Tryd.ntmps3
            go_wp2_with fail
            refine (H1.out.1 _).mono ?_
            rintro e w1 ⟨rfl, rfl⟩
            go_wp2_with fail
            refine (H1.out.2 _).mono ?_
            rintro e w1 ⟨rfl, rfl⟩
            go_wp2_with fail
            refine (H3.out.1 _).mono ?_
            rintro e w1 ⟨rfl, rfl⟩
            go_wp2_with fail
            refine (H3.out.2 _).mono ?_
            rintro e w1 ⟨rfl, rfl⟩
            go_wp2_with fail
            refine (HS1.out _).mono ?_
            rintro e w1 ⟨rfl, rfl⟩
            go_wp2_with fail
            refine (HD3.out _).mono ?_
            rintro e w1 ⟨rfl, rfl⟩
            go_wp2_with fail
            refine (H5.out _).mono ?_
            rintro e w1 ⟨rfl, rfl⟩
            go_wp2_with fail
            refine (HM.out _).mono ?_
            rintro e w1 ⟨rfl, rfl⟩
            go_wp2_with fail
            refine (HS.out _).mono ?_
            rintro e w1 ⟨rfl, rfl⟩
            go_wp2_with fail
            refine (HL.out _ HF.out).mono ?_
            rintro e w2 ⟨rfl, hb2⟩
            have HBb := Lib.hid hb2
            clear hb2
            go_wp2_with fail
            go_ret
            exact ⟨rfl, HBb.out⟩
          · clear cS i1 k1
            go_enter Tryd.func3, Tryd.ntmps3
            go_wp2_with fail
            refine (H1.out.1 _).mono ?_
            rintro e w1 ⟨rfl, rfl⟩
            go_wp2_with fail
            refine (H1.out.2 _).mono ?_
            rintro e w1 ⟨rfl, rfl⟩
            go_wp2_with fail
            refine (H3.out.1 _).mono ?_
            rintro e w1 ⟨rfl, rfl⟩
            go_wp2_with fail
            refine (H3.out.2 _).mono ?_
            rintro e w1 ⟨rfl, rfl⟩
            go_wp2_with fail
            refine (HD3.out _).mono ?_
            rintro e w1 ⟨rfl, rfl⟩
            go_wp2_with fail
            refine (H5.out _).mono ?_
            rintro e w1 ⟨rfl, rfl⟩
            go_wp2_with fail
            refine (HM.out _).mono ?_
            rintro e w1 ⟨rfl, rfl⟩
            go_wp2_with fail
            refine (HS.out _).mono ?_
            rintro e w1 ⟨rfl, rfl⟩
            go_wp2_with fail
            refine (HL.out _ HF.out).mono ?_
            rintro e w2 ⟨rfl, hb2⟩
            have HBb := Lib.hid hb2
            clear hb2
            go_wp2_with fail
            go_ret
            exact ⟨rfl, HBb.out⟩
        · obtain ⟨r1, r2, r3⟩ := h
          by_cases hA : e1 = 0
          · subst hA
            have HS1 := Lib.hid fun wx => cS p1 i1 wx
            rw [k1 rfl] at HS1
            clear cS i1 k1
            go_enter Tryd.func3, Tryd.ntmps3
            go_wp2_with fail
            refine (H1.out.1 _).mono ?_
            rintro e w1 ⟨rfl, rfl⟩
            go_wp2_with fail
            refine (H1.out.2 _).mono ?_
            rintro e w1 ⟨rfl, rfl⟩
            go_wp2_with fail
            refine (H3.out.1 _).mono ?_
            rintro e w1 ⟨rfl, rfl⟩
            go_wp2_with fail
            refine (H3.out.2 _).mono ?_
            rintro e w1 ⟨rfl, rfl⟩
            go_wp2_with fail
            refine (HS1.out _).mono ?_
            rintro e w1 ⟨rfl, rfl⟩
            go_wp2_with fail
            refine (HD3.out _).mono ?_
            rintro e w1 ⟨rfl, rfl⟩
            go_wp2_with fail
            refine (H5.out _).mono ?_
            rintro e w1 ⟨rfl, rfl⟩
            go_wp2_with fail
            refine (HM.out _).mono ?_
            rintro e w1 ⟨rfl, rfl⟩
            go_wp2_with fail
            refine (HS.out _).mono ?_
            rintro e w1 ⟨rfl, rfl⟩
            go_wp2_with fail
            refine (HL.out _ HF.out).mono ?_
            rintro e w2 ⟨rfl, hb2⟩
            have HBb := Lib.hid hb2
            clear hb2
            go_wp2_with fail
            go_ret
            exact ⟨rfl, HBb.out⟩
          · clear cS i1 k1
            go_enter Tryd.func3, Tryd.ntmps3
            go_wp2_with fail
            refine (H1.out.1 _).mono ?_
            rintro e w1 ⟨rfl, rfl⟩
            go_wp2_with fail
            refine (H1.out.2 _).mono ?_
            rintro e w1 ⟨rfl, rfl⟩
            go_wp2_with fail
            refine (H3.out.1 _).mono ?_
            rintro e w1 ⟨rfl, rfl⟩
            go_wp2_with fail
            refine (H3.out.2 _).mono ?_
            rintro e w1 ⟨rfl, rfl⟩
            go_wp2_with fail
            refine (HD3.out _).mono ?_
            rintro e w1 ⟨rfl, rfl⟩
            go_wp2_with fail
            refine (H5.out _).mono ?_
            rintro e w1 ⟨rfl, rfl⟩
            go_wp2_with fail
            refine (HM.out _).mono ?_
            rintro e w1 ⟨rfl, rfl⟩
            go_wp2_with fail
            refine (HS.out _).mono ?_
            rintro e w1 ⟨rfl, rfl⟩
            go_wp2_with fail
            refine (HL.out _ HF.out).mono ?_
            rintro e w2 ⟨rfl, hb2⟩
            have HBb := Lib.hid hb2
            clear hb2
            go_wp2_with fail
            go_ret
            exact ⟨rfl, HBb.out⟩
      · have s4 : ¬ b > 0 := by omega
        rcases hr3 with h | h | h
        · subst h
          by_cases hA : e1 = 0
          · subst hA
            have HS1 := Lib.hid fun wx => cS p1 i1 wx
            rw [k1 rfl] at HS1
            clear cS i1 k1
            go_enter Tryd.func3, Tryd.ntmps3
            go_wp2_with fail
            refine (H1.out.1 _).mono ?_
            rintro e w1 ⟨rfl, rfl⟩
            go_wp2_with fail
            refine (H1.out.2 _).mono ?_
            rintro e w1 ⟨rfl, rfl⟩
            go_wp2_with fail
            refine (H3.out.1 _).mono ?_
            rintro e w1 ⟨rfl, rfl⟩
            go_wp2_with fail
            refine (H3.out.2 _).mono ?_
            rintro e w1 ⟨rfl, rfl⟩
            go_wp2_with fail
            refine (HS1.out _).mono ?_
            rintro e w1 ⟨rfl, rfl⟩
            go_wp2_with fail
            refine (HD3.out _).mono ?_
            rintro e w1 ⟨rfl, rfl⟩
            go_wp2_with fail
            refine (H5.out _).mono ?_
            rintro e w1 ⟨rfl, rfl⟩
            go_wp2_with fail
            refine (HM.out _).mono ?_
            rintro e w1 ⟨rfl, rfl⟩
            go_wp2_with fail
            refine (HS.out _).mono ?_
            rintro e w1 ⟨rfl, rfl⟩
            go_wp2_with fail
            refine (HL.out _ HF.out).mono ?_
            rintro e w2 ⟨rfl, hb2⟩
            have HBb := Lib.hid hb2
            clear hb2
            go_wp2_with fail
            go_ret
            exact ⟨rfl, HBb.out⟩
          · clear cS i1 k1
            go_enter Tryd.func3, Tryd.ntmps3
            go_wp2_with fail
            refine (H1.out.1 _).mono ?_
            rintro e w1 ⟨rfl, rfl⟩
            go_wp2_with fail
            refine (H1.out.2 _).mono ?_
            rintro e w1 ⟨rfl, rfl⟩
            go_wp2_with fail
            refine (H3.out.1 _).mono ?_
            rintro e w1 ⟨rfl, rfl⟩
            go_wp2_with fail
            refine (H3.out.2 _).mono ?_
            rintro e w1 ⟨rfl, rfl⟩
            go_wp2_with fail
            refine (HD3.out _).mono ?_
            rintro e w1 ⟨rfl, rfl⟩
            go_wp2_with fail
            refine (H5.out _).mono ?_
            rintro e w1 ⟨rfl, rfl⟩
            go_wp2_with fail
            refine (HM.out _).mono ?_
            rintro e w1 ⟨rfl, rfl⟩
            go_wp2_with fail
            refine (HS.out _).mono ?_
            rintro e w1 ⟨rfl, rfl⟩
            go_wp2_with fail
            refine (HL.out _ HF.out).mono ?_
            rintro e w2 ⟨rfl, hb2⟩
            have HBb := Lib.hid hb2
            clear hb2
            go_wp2_with fail
            go_ret
            exact ⟨rfl, HBb.out⟩
        · obtain ⟨r1, r2, r3⟩ := h
          by_cases hA : e1 = 0
          · subst hA
            have HS1 := Lib.hid fun wx => cS p1 i1 wx
            rw [k1 rfl] at HS1
            clear cS i1 k1
            go_enter Tryd.func3, Tryd.ntmps3
            go_wp2_with fail
            refine (H1.out.1 _).mono ?_
            rintro e w1 ⟨rfl, rfl⟩
            go_wp2_with fail
            refine (H1.out.2 _).mono ?_
            rintro e w1 ⟨rfl, rfl⟩
            go_wp2_with fail
            refine (H3.out.1 _).mono ?_
            rintro e w1 ⟨rfl, rfl⟩
            go_wp2_with fail
            refine (H3.out.2 _).mono ?_
            rintro e w1 ⟨rfl, rfl⟩
            go_wp2_with fail
            refine (HS1.out _).mono ?_
            rintro e w1 ⟨rfl, rfl⟩
            go_wp2_with fail
            refine (HD3.out _).mono ?_
            rintro e w1 ⟨rfl, rfl⟩
            go_wp2_with fail
            refine (H5.out _).mono ?_
            rintro e w1 ⟨rfl, rfl⟩
            go_wp2_with fail
            refine (HM.out _).mono ?_
            rintro e w1 ⟨rfl, rfl⟩
            go_wp2_with fail
            refine (HS.out _).mono ?_
            rintro e w1 ⟨rfl, rfl⟩
            go_wp2_with fail
            refine (HL.out _ HF.out).mono ?_
            rintro e w2 ⟨rfl, hb2⟩
            have HBb := Lib.hid hb2
            clear hb2
            go_wp2_with fail
            go_ret
            exact ⟨rfl, HBb.out⟩
          · clear cS i1 k1
            go_enter Tryd.func3, Tryd.ntmps3
            go_wp2_with fail
            refine (H1.out.1 _).mono ?_
            rintro e w1 ⟨rfl, rfl⟩
            go_wp2_with fail
            refine (H1.out.2 _).mono ?_
            rintro e w1 ⟨rfl, rfl⟩
            go_wp2_with fail
            refine (H3.out.1 _).mono ?_
            rintro e w1 ⟨rfl, rfl⟩
            go_wp2_with fail
            refine (H3.out.2 _).mono ?_
            rintro e w1 ⟨rfl, rfl⟩
            go_wp2_with fail
            refine (HD3.out _).mono ?_
            rintro e w1 ⟨rfl, rfl⟩
            go_wp2_with fail
            refine (H5.out _).mono ?_
            rintro e w1 ⟨rfl, rfl⟩
            go_wp2_with fail
            refine (HM.out _).mono ?_
            rintro e w1 ⟨rfl, rfl⟩
            go_wp2_with fail
            refine (HS.out _).mono ?_
            rintro e w1 ⟨rfl, rfl⟩
            go_wp2_with fail
            refine (HL.out _ HF.out).mono ?_
            rintro e w2 ⟨rfl, hb2⟩
            have HBb := Lib.hid hb2
            clear hb2
            go_wp2_with fail
            go_ret
            exact ⟨rfl, HBb.out⟩
        · obtain ⟨r1, r2, r3⟩ := h
          by_cases hA : e1 = 0
          · subst hA
            have HS1 := Lib.hid fun wx => cS p1 i1 wx
            rw [k1 rfl] at HS1
            clear cS i1 k1
            go_enter Tryd.func3, Tryd.ntmps3
            go_wp2_with fail
            refine (H1.out.1 _).mono ?_
            rintro e w1 ⟨rfl, rfl⟩
            go_wp2_with fail
            refine (H1.out.2 _).mono ?_
            rintro e w1 ⟨rfl, rfl⟩
            go_wp2_with fail
            refine (H3.out.1 _).mono ?_
            rintro e w1 ⟨rfl, rfl⟩
            go_wp2_with fail
            refine (H3.out.2 _).mono ?_
            rintro e w1 ⟨rfl, rfl⟩
            go_wp2_with fail
            refine (HS1.out _).mono ?_
            rintro e w1 ⟨rfl, rfl⟩
            go_wp2_with fail
            refine (HD3.out _).mono ?_
            rintro e w1 ⟨rfl, rfl⟩
            go_wp2_with fail
            refine (H5.out _).mono ?_
            rintro e w1 ⟨rfl, rfl⟩
            go_wp2_with fail
            refine (HM.out _).mono ?_
            rintro e w1 ⟨rfl, rfl⟩
            go_wp2_with fail
            refine (HS.out _).mono ?_
            rintro e w1 ⟨rfl, rfl⟩
            go_wp2_with fail
            refine (HL.out _ HF.out).mono ?_
            rintro e w2 ⟨rfl, hb2⟩
            have HBb := Lib.hid hb2
            clear hb2
            go_wp2_with fail
            go_ret
            exact ⟨rfl, HBb.out⟩
          · clear cS i1 k1
            go_enter Tryd.func3, Tryd.ntmps3
            go_wp2_with fail
            refine (H1.out.1 _).mono ?_
            rintro e w1 ⟨rfl, rfl⟩
            go_wp2_with fail
            refine (H1.out.2 _).mono ?_
            rintro e w1 ⟨rfl, rfl⟩
            go_wp2_with fail
            refine (H3.out.1 _).mono ?_
            rintro e w1 ⟨rfl, rfl⟩
            go_wp2_with fail
            refine (H3.out.2 _).mono ?_
            rintro e w1 ⟨rfl, rfl⟩
            go_wp2_with fail
            refine (HD3.out _).mono ?_
            rintro e w1 ⟨rfl, rfl⟩
            go_wp2_with fail
            refine (H5.out _).mono ?_
            rintro e w1 ⟨rfl, rfl⟩
            go_wp2_with fail
            refine (HM.out _).mono ?_
            rintro e w1 ⟨rfl, rfl⟩
            go_wp2_with fail
            refine (HS.out _).mono ?_
            rintro e w1 ⟨rfl, rfl⟩
            go_wp2_with fail
            refine (HL.out _ HF.out).mono ?_
            rintro e w2 ⟨rfl, hb2⟩
            have HBb := Lib.hid hb2
            clear hb2
            go_wp2_with fail
            go_ret
            exact ⟨rfl, HBb.out⟩
    · clear cD k3 i3
      have hr3 : r = 0 ∨ (¬ r = 0 ∧ r > 0 ∧ a > 0) ∨ (¬ r = 0 ∧ ¬ r > 0 ∧ ¬ a > 0) := rsign hr
      clear hr
      rcases hs with ⟨s1, s2, s3⟩ | ⟨s1, s2, s3⟩
      · rcases hr3 with h | h | h
        · subst h
          by_cases hA : e1 = 0
          · subst hA
            have HS1 := Lib.hid fun wx => cS p1 i1 wx
            rw [k1 rfl] at HS1
            clear cS i1 k1
            go_enter Tryd.func3, Tryd.ntmps3
            go_wp2_with fail
            refine (H1.out.1 _).mono ?_
            rintro e w1 ⟨rfl, rfl⟩
            go_wp2_with fail
            refine (H1.out.2 _).mono ?_
            rintro e w1 ⟨rfl, rfl⟩
            go_wp2_with fail
            refine (H3.out.1 _).mono ?_
            rintro e w1 ⟨rfl, rfl⟩
            go_wp2_with fail
            refine (H3.out.2 _).mono ?_
            rintro e w1 ⟨rfl, rfl⟩
            go_wp2_with fail
            refine (HS1.out _).mono ?_
            rintro e w1 ⟨rfl, rfl⟩
            go_wp2_with fail
            refine (H5.out _).mono ?_
            rintro e w1 ⟨rfl, rfl⟩
            go_wp2_with fail
            refine (HM.out _).mono ?_
            rintro e w1 ⟨rfl, rfl⟩
            go_wp2_with fail
            refine (HS.out _).mono ?_
            rintro e w1 ⟨rfl, rfl⟩
            go_wp2_with fail
            refine (HL.out _ HF.out).mono ?_
            rintro e w2 ⟨rfl, hb2⟩
            have HBb := Lib.hid hb2
            clear hb2
            go_wp2_with fail
            go_ret
            exact ⟨rfl, HBb.out⟩
          · clear cS i1 k1
            go_enter Tryd.func3, Tryd.ntmps3
            go_wp2_with fail
            refine (H1.out.1 _).mono ?_
            rintro e w1 ⟨rfl, rfl⟩
            go_wp2_with fail
            refine (H1.out.2 _).mono ?_
            rintro e w1 ⟨rfl, rfl⟩
            go_wp2_with fail
            refine (H3.out.1 _).mono ?_
            rintro e w1 ⟨rfl, rfl⟩
            go_wp2_with fail
            refine (H3.out.2 _).mono ?_
            rintro e w1 ⟨rfl, rfl⟩
            go_wp2_with fail
            refine (H5.out _).mono ?_
            rintro e w1 ⟨rfl, rfl⟩
            go_wp2_with fail
            refine (HM.out _).mono ?_
            rintro e w1 ⟨rfl, rfl⟩
            go_wp2_with fail
            refine (HS.out _).mono ?_
            rintro e w1 ⟨rfl, rfl⟩
            go_wp2_with fail
            refine (HL.out _ HF.out).mono ?_
            rintro e w2 ⟨rfl, hb2⟩
            have HBb := Lib.hid hb2
            clear hb2
            go_wp2_with fail
            go_ret
            exact ⟨rfl, HBb.out⟩
        · obtain ⟨r1, r2, r3⟩ := h
          by_cases hA : e1 = 0
          · subst hA
            have HS1 := Lib.hid fun wx => cS p1 i1 wx
            rw [k1 rfl] at HS1
            clear cS i1 k1
            go_enter Tryd.func3, Tryd.ntmps3
            go_wp2_with fail
            refine (H1.out.1 _).mono ?_
            rintro e w1 ⟨rfl, rfl⟩
            go_wp2_with fail
            refine (H1.out.2 _).mono ?_
            rintro e w1 ⟨rfl, rfl⟩
            go_wp2_with fail
            refine (H3.out.1 _).mono ?_
            rintro e w1 ⟨rfl, rfl⟩
            go_wp2_with fail
            refine (H3.out.2 _).mono ?_
            rintro e w1 ⟨rfl, rfl⟩
            go_wp2_with fail
            refine (HS1.out _).mono ?_
            rintro e w1 ⟨rfl, rfl⟩
            go_wp2_with fail
            refine (H5.out _).mono ?_
            rintro e w1 ⟨rfl, rfl⟩
            go_wp2_with fail
            refine (HM.out _).mono ?_
            rintro e w1 ⟨rfl, rfl⟩
            go_wp2_with fail
            refine (HS.out _).mono ?_
            rintro e w1 ⟨rfl, rfl⟩
            go_wp2_with fail
            refine (HL.out _ HF.out).mono ?_
            rintro e w2 ⟨rfl, hb2⟩
            have HBb := Lib.hid hb2
            clear hb2
            go_wp2_with fail
            go_ret
            exact ⟨rfl, HBb.out⟩
          · clear cS i1 k1
            go_enter Tryd.func3, Tryd.ntmps3
            go_wp2_with fail
            refine (H1.out.1 _).mono ?_
            rintro e w1 ⟨rfl, rfl⟩
            go_wp2_with fail
            refine (H1.out.2 _).mono ?_
            rintro e w1 ⟨rfl, rfl⟩
            go_wp2_with fail
            refine (H3.out.1 _).mono ?_
            rintro e w1 ⟨rfl, rfl⟩
            go_wp2_with fail
            refine (H3.out.2 _).mono ?_
            rintro e w1 ⟨rfl, rfl⟩
            go_wp2_with fail
            refine (H5.out _).mono ?_
            rintro e w1 ⟨rfl, rfl⟩
            go_wp2_with fail
            refine (HM.out _).mono ?_
            rintro e w1 ⟨rfl, rfl⟩
            go_wp2_with fail
            refine (HS.out _).mono ?_
            rintro e w1 ⟨rfl, rfl⟩
            go_wp2_with fail
            refine (HL.out _ HF.out).mono ?_
            rintro e w2 ⟨rfl, hb2⟩
            have HBb := Lib.hid hb2
            clear hb2
            go_wp2_with fail
            go_ret
            exact ⟨rfl, HBb.out⟩
        · obtain ⟨r1, r2, r3⟩ := h
          by_cases hA : e1 = 0
          · subst hA
            have HS1 := Lib.hid fun wx => cS p1 i1 wx
            rw [k1 rfl] at HS1
            clear cS i1 k1
            go_enter Tryd.func3, Tryd.ntmps3
            go_wp2_with fail
            refine (H1.out.1 _).mono ?_
            rintro e w1 ⟨rfl, rfl⟩
            go_wp2_with fail
            refine (H1.out.2 _).mono ?_
            rintro e w1 ⟨rfl, rfl⟩
            go_wp2_with fail
            refine (H3.out.1 _).mono ?_
            rintro e w1 ⟨rfl, rfl⟩
            go_wp2_with fail
            refine (H3.out.2 _).mono ?_
            rintro e w1 ⟨rfl, rfl⟩
            go_wp2_with fail
            refine (HS1.out _).mono ?_
            rintro e w1 ⟨rfl, rfl⟩
            go_wp2_with fail
            refine (H5.out _).mono ?_
            rintro e w1 ⟨rfl, rfl⟩
            go_wp2_with fail
            refine (HM.out _).mono ?_
            rintro e w1 ⟨rfl, rfl⟩
            go_wp2_with fail
            refine (HS.out _).mono ?_
            rintro e w1 ⟨rfl, rfl⟩
            go_wp2_with fail
            refine (HL.out _ HF.out).mono ?_
            rintro e w2 ⟨rfl, hb2⟩
            have HBb := Lib.hid hb2
            clear hb2
            go_wp2_with fail
            go_ret
            exact ⟨rfl, HBb.out⟩
          · clear cS i1 k1
            go_enter Tryd.func3, Tryd.ntmps3
            go_wp2_with fail
            refine (H1.out.1 _).mono ?_
            rintro e w1 ⟨rfl, rfl⟩
            go_wp2_with fail
            refine (H1.out.2 _).mono ?_
            rintro e w1 ⟨rfl, rfl⟩
            go_wp2_with fail
            refine (H3.out.1 _).mono ?_
            rintro e w1 ⟨rfl, rfl⟩
            go_wp2_with fail
            refine (H3.out.2 _).mono ?_
            rintro e w1 ⟨rfl, rfl⟩
            go_wp2_with fail
            refine (H5.out _).mono ?_
            rintro e w1 ⟨rfl, rfl⟩
            go_wp2_with fail
            refine (HM.out _).mono ?_
            rintro e w1 ⟨rfl, rfl⟩
            go_wp2_with fail
            refine (HS.out _).mono ?_
            rintro e w1 ⟨rfl, rfl⟩
            go_wp2_with fail
            refine (HL.out _ HF.out).mono ?_
            rintro e w2 ⟨rfl, hb2⟩
            have HBb := Lib.hid hb2
            clear hb2
            go_wp2_with fail
            go_ret
            exact ⟨rfl, HBb.out⟩
      · have s4 : ¬ b > 0 := by omega
        rcases hr3 with h | h | h
        · subst h
          by_cases hA : e1 = 0
          · subst hA
            have HS1 := Lib.hid fun wx => cS p1 i1 wx
            rw [k1 rfl] at HS1
            clear cS i1 k1
            go_enter Tryd.func3, Tryd.ntmps3
            go_wp2_with fail
            refine (H1.out.1 _).mono ?_
            rintro e w1 ⟨rfl, rfl⟩
            go_wp2_with fail
            refine (H1.out.2 _).mono ?_
            rintro e w1 ⟨rfl, rfl⟩
            go_wp2_with fail
            refine (H3.out.1 _).mono ?_
            rintro e w1 ⟨rfl, rfl⟩
            go_wp2_with fail
            refine (H3.out.2 _).mono ?_
            rintro e w1 ⟨rfl, rfl⟩
            go_wp2_with fail
            refine (HS1.out _).mono ?_
            rintro e w1 ⟨rfl, rfl⟩
            go_wp2_with fail
            refine (H5.out _).mono ?_
            rintro e w1 ⟨rfl, rfl⟩
            go_wp2_with fail
            refine (HM.out _).mono ?_
            rintro e w1 ⟨rfl, rfl⟩
            go_wp2_with fail
            refine (HS.out _).mono ?_
            rintro e w1 ⟨rfl, rfl⟩
            go_wp2_with fail
            refine (HL.out _ HF.out).mono ?_
            rintro e w2 ⟨rfl, hb2⟩
            have HBb := Lib.hid hb2
            clear hb2
            go_wp2_with fail
            go_ret
            exact ⟨rfl, HBb.out⟩
          · clear cS i1 k1
            go_enter Tryd.func3, Tryd.ntmps3
            go_wp2_with fail
            refine (H1.out.1 _).mono ?_
            rintro e w1 ⟨rfl, rfl⟩
            go_wp2_with fail
            refine (H1.out.2 _).mono ?_
            rintro e w1 ⟨rfl, rfl⟩
            go_wp2_with fail
            refine (H3.out.1 _).mono ?_
            rintro e w1 ⟨rfl, rfl⟩
            go_wp2_with fail
            refine (H3.out.2 _).mono ?_
            rintro e w1 ⟨rfl, rfl⟩
            go_wp2_with fail
            refine (H5.out _).mono ?_
            rintro e w1 ⟨rfl, rfl⟩
            go_wp2_with fail
            refine (HM.out _).mono ?_
            rintro e w1 ⟨rfl, rfl⟩
            go_wp2_with fail
            refine (HS.out _).mono ?_
            rintro e w1 ⟨rfl, rfl⟩
            go_wp2_with fail
            refine (HL.out _ HF.out).mono ?_
            rintro e w2 ⟨rfl, hb2⟩
            have HBb := Lib.hid hb2
            clear hb2
            go_wp2_with fail
            go_ret
            exact ⟨rfl, HBb.out⟩
        · obtain ⟨r1, r2, r3⟩ := h
          by_cases hA : e1 = 0
          · subst hA
            have HS1 := Lib.hid fun wx => cS p1 i1 wx
            rw [k1 rfl] at HS1
            clear cS i1 k1
            go_enter Tryd.func3, Tryd.ntmps3
            go_wp2_with fail
            refine (H1.out.1 _).mono ?_
            rintro e w1 ⟨rfl, rfl⟩
            go_wp2_with fail
            refine (H1.out.2 _).mono ?_
            rintro e w1 ⟨rfl, rfl⟩
            go_wp2_with fail
            refine (H3.out.1 _).mono ?_
            rintro e w1 ⟨rfl, rfl⟩
            go_wp2_with fail
            refine (H3.out.2 _).mono ?_
            rintro e w1 ⟨rfl, rfl⟩
            go_wp2_with fail
            refine (HS1.out _).mono ?_
            rintro e w1 ⟨rfl, rfl⟩
            go_wp2_with fail
            refine (H5.out _).mono ?_
            rintro e w1 ⟨rfl, rfl⟩
            go_wp2_with fail
            refine (HM.out _).mono ?_
            rintro e w1 ⟨rfl, rfl⟩
            go_wp2_with fail
            refine (HS.out _).mono ?_
            rintro e w1 ⟨rfl, rfl⟩
            go_wp2_with fail
            refine (HL.out _ HF.out).mono ?_
            rintro e w2 ⟨rfl, hb2⟩
            have HBb := Lib.hid hb2
            clear hb2
            go_wp2_with fail
            go_ret
            exact ⟨rfl, HBb.out⟩
          · clear cS i1 k1
            go_enter Tryd.func3, Tryd.ntmps3
            go_wp2_with fail
            refine (H1.out.1 _).mono ?_
            rintro e w1 ⟨rfl, rfl⟩
            go_wp2_with fail
            refine (H1.out.2 _).mono ?_
            rintro e w1 ⟨rfl, rfl⟩
            go_wp2_with fail
            refine (H3.out.1 _).mono ?_
            rintro e w1 ⟨rfl, rfl⟩
            go_wp2_with fail
            refine (H3.out.2 _).mono ?_
            rintro e w1 ⟨rfl, rfl⟩
            go_wp2_with fail
            refine (H5.out _).mono ?_
            rintro e w1 ⟨rfl, rfl⟩
            go_wp2_with fail
            refine (HM.out _).mono ?_
            rintro e w1 ⟨rfl, rfl⟩
            go_wp2_with fail
            refine (HS.out _).mono ?_
            rintro e w1 ⟨rfl, rfl⟩
            go_wp2_with fail
            refine (HL.out _ HF.out).mono ?_
            rintro e w2 ⟨rfl, hb2⟩
            have HBb := Lib.hid hb2
            clear hb2
            go_wp2_with fail
            go_ret
            exact ⟨rfl, HBb.out⟩
        · obtain ⟨r1, r2, r3⟩ := h
          by_cases hA : e1 = 0
          · subst hA
            have HS1 := Lib.hid fun wx => cS p1 i1 wx
            rw [k1 rfl] at HS1
            clear cS i1 k1
            go_enter Tryd.func3, Tryd.ntmps3
            go_wp2_with fail
            refine (H1.out.1 _).mono ?_
            rintro e w1 ⟨rfl, rfl⟩
            go_wp2_with fail
            refine (H1.out.2 _).mono ?_
            rintro e w1 ⟨rfl, rfl⟩
            go_wp2_with fail
            refine (H3.out.1 _).mono ?_
            rintro e w1 ⟨rfl, rfl⟩
            go_wp2_with fail
            refine (H3.out.2 _).mono ?_
            rintro e w1 ⟨rfl, rfl⟩
            go_wp2_with fail
            refine (HS1.out _).mono ?_
            rintro e w1 ⟨rfl, rfl⟩
            go_wp2_with fail
            refine (H5.out _).mono ?_
            rintro e w1 ⟨rfl, rfl⟩
            go_wp2_with fail
            refine (HM.out _).mono ?_
            rintro e w1 ⟨rfl, rfl⟩
            go_wp2_with fail
            refine (HS.out _).mono ?_
            rintro e w1 ⟨rfl, rfl⟩
            go_wp2_with fail
            refine (HL.out _ HF.out).mono ?_
            rintro e w2 ⟨rfl, hb2⟩
            have HBb := Lib.hid hb2
            clear hb2
            go_wp2_with fail
            go_ret
            exact ⟨rfl, HBb.out⟩
          · clear cS i1 k1
            go_enter Tryd.func3, Tryd.ntmps3
            go_wp2_with fail
            refine (H1.out.1 _).mono ?_
            rintro e w1 ⟨rfl, rfl⟩
            go_wp2_with fail
            refine (H1.out.2 _).mono ?_
            rintro e w1 ⟨rfl, rfl⟩
            go_wp2_with fail
            refine (H3.out.1 _).mono ?_
            rintro e w1 ⟨rfl, rfl⟩
            go_wp2_with fail
            refine (H3.out.2 _).mono ?_
            rintro e w1 ⟨rfl, rfl⟩
            go_wp2_with fail
            refine (H5.out _).mono ?_
            rintro e w1 ⟨rfl, rfl⟩
            go_wp2_with fail
            refine (HM.out _).mono ?_
            rintro e w1 ⟨rfl, rfl⟩
            go_wp2_with fail
            refine (HS.out _).mono ?_
            rintro e w1 ⟨rfl, rfl⟩
            go_wp2_with fail
            refine (HL.out _ HF.out).mono ?_
            rintro e w2 ⟨rfl, hb2⟩
            have HBb := Lib.hid hb2
            clear hb2
            go_wp2_with fail
            go_ret
            exact ⟨rfl, HBb.out⟩
end Go.Proofs.YtmkllibfblacfaaDoor
