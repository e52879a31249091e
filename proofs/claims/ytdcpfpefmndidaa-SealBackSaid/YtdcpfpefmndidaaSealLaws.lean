/-
  Layer 5's laws, walked.
-/
import Derived.Test.YtdcpfpefmndidaaSealTake
namespace Go.Proofs.Ytdcpfpefmndidaa
open Go.RowKit

set_option maxRecDepth 100000 in
set_option maxHeartbeats 800000 in
theorem lives5_any (w : World) : Calls Try.prog 7 #[] w fun e w' => e = .returned (.bool true) ∧ Below w.heap.size w w' := by
  have z1 : Sl.ab.size ≤ maxLen := by decide
  have c1 := fun w => put5_any 7 Sl.ab z1 w
  have e1 := Sl.ab_ok
  have e2 := Sl.put_size Sl.ab_ok
  have e3 := Sl.ab_cut
  have e4 := Sl.ab_at
  have e5 := Sl.ab_take
  rw [e1] at c1
  generalize Sl.putB 7 Sl.ab = B at *
  have z2 : B.size ≤ maxLen := by rw [e2]; unfold maxLen; omega
  have c2 := fun w => take5_any B z2 w
  rw [e5] at c2
  have hab : Sl.ab.toList = [97, 98] := by rw [ByteArray.toList_eq]; rfl
  have t1 : (12 : Int) ≤ (B.size : Int) := by omega
  have t2 : 263 < B.size := by omega
  have t3 : B[263] = 7 := by
    have : B.data.toList[263]'(by rw [← Sl.size_list]; exact t2) = 7 := by
      rw [List.getElem?_eq_getElem (by rw [← Sl.size_list]; exact t2)] at e4
      exact Option.some.inj e4
    exact this
  have H := Lib.hid (And.intro c1 c2)
  clear c1 c2 z1 z2 e4 e5 e1
  go_enter Try.func7, Try.ntmps7
  go_wp2_with fail
  refine (H.out.1 _).mono ?_
  rintro e w1 ⟨rfl, hb⟩
  have H1 := Lib.hid hb; clear hb
  go_wp2_with fail
  refine (H.out.2 _).mono ?_
  rintro e w2 ⟨rfl, hb⟩
  have H2 := Lib.hid (below_two H1.out hb); clear hb H1
  go_wp2_with fail
  go_ret
  exact ⟨rfl, H2.out⟩

set_option maxRecDepth 100000 in
set_option maxHeartbeats 800000 in
theorem SealPuts_walk (n : Int) (s : ByteArray) (_w0 : (Lit.int .i64 n).wf = true) (_hs : s.size ≤ maxLen) (w : World) :
    Calls Try.prog 3 #[.int .i64 n, .string s] w fun e w' => e = .returned (.bool true) ∧ Below w.heap.size w w' := by
  have cl := fun w => lives5_any w
  have c1 := fun w => put5_any n s _hs w
  have c2 := fun w => rput5_any n s _hs w
  by_cases h1 : 2000 < s.size
  · have t1 : (2000 : Int) < (s.size : Int) := by omega
    have H := Lib.hid cl
    clear cl c1 c2
    go_enter Try.func3, Try.ntmps3
    go_wp2_with fail
    refine (H.out _).mono ?_
    rintro e w1 ⟨rfl, hb⟩
    have B1 := Lib.hid hb; clear hb
    go_wp2_with fail
    go_ret
    exact ⟨rfl, B1.out⟩
  · have t1 : ¬ (2000 : Int) < (s.size : Int) := by omega
    generalize Sl.putB n s = P at *
    generalize Sl.putE n s = E at *
    have H := Lib.hid (And.intro cl (And.intro c1 c2))
    clear cl c1 c2
    go_enter Try.func3, Try.ntmps3
    go_wp2_with fail
    refine (H.out.2.1 _).mono ?_
    rintro e w1 ⟨rfl, hb⟩
    have B1 := Lib.hid hb; clear hb
    go_wp2_with fail
    refine (H.out.2.2 _).mono ?_
    rintro e w2 ⟨rfl, hb⟩
    have B2 := Lib.hid (below_two B1.out hb); clear hb B1
    go_wp2_with fail
    refine (H.out.1 _).mono ?_
    rintro e w3 ⟨rfl, hb⟩
    have B3 := Lib.hid (below_two B2.out hb); clear hb B2
    go_wp2_with fail
    go_ret
    exact ⟨rfl, B3.out⟩

set_option maxRecDepth 100000 in
set_option maxHeartbeats 1600000 in
theorem SealTakes_walk (b : ByteArray) (_hb : b.size ≤ maxLen) (w : World) :
    Calls Try.prog 4 #[.string b] w fun e w' => e = .returned (.bool true) ∧ Below w.heap.size w w' := by
  have cl := fun w => lives5_any w
  have c1 := fun w => take5_any b _hb w
  have c2 := fun w => rtake5_any b _hb w
  have c3 := fun w => halves_any b _hb w
  have c4 := fun w => rhalves_any b _hb w
  by_cases h1 : 2000 < b.size
  · have t1 : (2000 : Int) < (b.size : Int) := by omega
    have H := Lib.hid cl
    clear cl c1 c2 c3 c4
    go_enter Try.func4, Try.ntmps4
    go_wp2_with fail
    refine (H.out _).mono ?_
    rintro e w1 ⟨rfl, hb⟩
    have B1 := Lib.hid hb; clear hb
    go_wp2_with fail
    go_ret
    exact ⟨rfl, B1.out⟩
  · have t1 : ¬ (2000 : Int) < (b.size : Int) := by omega
    generalize (Sl.take b).1 = N at *
    generalize (Sl.take b).2.1 = T at *
    generalize (Sl.take b).2.2 = E at *
    generalize (Sl.halves b).1 = X at *
    generalize (Sl.halves b).2 = Y at *
    have H := Lib.hid (And.intro cl (And.intro c1 (And.intro c2 (And.intro c3 c4))))
    clear cl c1 c2 c3 c4
    go_enter Try.func4, Try.ntmps4
    go_wp2_with fail
    refine (H.out.2.1 _).mono ?_
    rintro e w1 ⟨rfl, hb⟩
    have B1 := Lib.hid hb; clear hb
    go_wp2_with fail
    refine (H.out.2.2.1 _).mono ?_
    rintro e w2 ⟨rfl, hb⟩
    have B2 := Lib.hid (below_two B1.out hb); clear hb B1
    go_wp2_with fail
    refine (H.out.2.2.2.1 _).mono ?_
    rintro e w3 ⟨rfl, nq, rfl⟩
    go_wp2_with fail
    refine (H.out.2.2.2.2 _).mono ?_
    rintro e w3 ⟨rfl, nr, rfl⟩
    have B4 := Lib.hid (below_two B2.out (below_drewN (Below.refl _ _) (nq + nr))); clear B2
    go_wp2_with fail
    refine (H.out.1 _).mono ?_
    rintro e w5 ⟨rfl, hb⟩
    have B5 := Lib.hid (below_two B4.out hb); clear hb B4
    go_wp2_with fail
    go_ret
    exact ⟨rfl, B5.out⟩
end Go.Proofs.Ytdcpfpefmndidaa
