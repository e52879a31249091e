/-
  Layer 1: the laws OctetOnly, OctetFirst, OctetNums, walked.
-/
import Derived.Test.YtjppicochahjoaaOctLives
import Derived.OpenShut
namespace Go.Proofs.Ytjppicochahjoaa
open Go.RowKit

theorem str_ne (A : ByteArray) (h : 0 < A.size) : ¬ A.toList = [] ∧ (!A.toList.isEmpty) = true := by
  have h1 : ¬ A.toList = [] := by
    rw [ByteArray.toList_eq]; intro h2
    have := congrArg List.length h2
    have e : A.data.size = A.size := rfl
    rw [Array.length_toList, List.length_nil] at this; omega
  refine ⟨h1, ?_⟩
  cases hA : A.toList with
  | nil => exact absurd hA h1
  | cons a l => rfl
theorem str_neq {A B : ByteArray} (h : A ≠ B) : ¬ A.toList = B.toList := by
  rw [ByteArray.toList_eq, ByteArray.toList_eq]; exact fun h2 => h (Go.WideShapes.bytes_inj h2)
theorem str_beq {A B : ByteArray} (h : ¬ A.toList = B.toList) : (A.toList == B.toList) = false := by simpa using h
theorem below_two {w w1 w2 : World} (h1 : Below w.heap.size w w1) (h2 : Below w1.heap.size w1 w2) : Below w.heap.size w w2 := h1.trans (h2.mono h1.size)

set_option maxRecDepth 100000 in
set_option maxHeartbeats 800000 in
theorem OctetOnly_walk (s : ByteArray) (hs : s.size ≤ maxLen) (w : World) :
    Calls Try.prog 7 #[.string s] w fun e w' => e = .returned (.bool true) ∧ Below w.heap.size w w' := by
  rcases Oct.t_cases s with ⟨e1, e2, e3 | e3⟩ | ⟨n, r, h1, h2, h3, e1, e2, e3, e4⟩
  · have E := Lib.hid (And.intro e1 (And.intro e2 e3)); clear e1 e2 e3
    go_enter Try.func7, Try.ntmps7
    go_wp2_with fail
    refine (takeNum_any s _ hs).mono ?_
    rintro e w1 ⟨he, nd, rfl⟩
    rw [E.out.1, E.out.2.1, E.out.2.2] at he
    subst he
    go_wp2_with fail
    refine (lives_any _).mono ?_
    rintro e w2 ⟨rfl, hb⟩
    have HB := Lib.hid hb; clear hb
    go_wp2_with fail
    go_ret
    exact ⟨rfl, below_two (below_drewN (Below.refl _ _) nd) HB.out⟩
  · have E := Lib.hid (And.intro e1 (And.intro e2 e3)); clear e1 e2 e3
    go_enter Try.func7, Try.ntmps7
    go_wp2_with fail
    refine (takeNum_any s _ hs).mono ?_
    rintro e w1 ⟨he, nd, rfl⟩
    rw [E.out.1, E.out.2.1, E.out.2.2] at he
    subst he
    go_wp2_with fail
    refine (lives_any _).mono ?_
    rintro e w2 ⟨rfl, hb⟩
    have HB := Lib.hid hb; clear hb
    go_wp2_with fail
    go_ret
    exact ⟨rfl, below_two (below_drewN (Below.refl _ _) nd) HB.out⟩
  · have E := Lib.hid (And.intro e1 (And.intro e2 e3)); clear e1 e2 e3
    have hsz : (Oct.numB n).size + r.size = s.size := by rw [← e4, ByteArray.size_append]
    have hs' := hs
    unfold maxLen at hs'
    have hz : (Oct.numB n).size + r.size ≤ 9223372036854775807 := by omega
    have E4 := Lib.hid e4; clear e4 hsz
    go_enter Try.func7, Try.ntmps7
    go_wp2_with fail
    refine (takeNum_any s _ hs).mono ?_
    rintro e w1 ⟨he, nd, rfl⟩
    rw [E.out.1, E.out.2.1, E.out.2.2] at he
    subst he
    go_wp2_with fail
    refine (num_any n _ h1 h2).mono ?_
    rintro e w2 ⟨rfl, hb⟩
    have HB := Lib.hid hb; clear hb
    have e4 := E4.out
    go_wp2_with fail
    refine (lives_any _).mono ?_
    rintro e w3 ⟨rfl, hb3⟩
    have HB3 := Lib.hid hb3; clear hb3
    go_wp2_with fail
    go_ret
    exact ⟨rfl, below_two (below_two (below_drewN (Below.refl _ _) nd) HB.out) HB3.out⟩

set_option maxRecDepth 100000 in
set_option maxHeartbeats 800000 in
theorem OctetFirst_walk (n m : Int) (w0 : (Lit.int .i64 n).wf = true) (w1 : (Lit.int .i64 m).wf = true) (w : World) :
    Calls Try.prog 8 #[.int .i64 n, .int .i64 m] w fun e w' => e = .returned (.bool true) ∧ Below w.heap.size w w' := by
  obtain ⟨n0, n1⟩ := bounds_i64 w0
  obtain ⟨m0, m1⟩ := bounds_i64 w1
  have pn := Oct.numB_pos n
  have pm := Oct.numB_pos m
  have ln := Oct.numB_len n n0 n1
  have lm := Oct.numB_len m m0 m1
  by_cases hnm : n = m
  · subst hnm
    go_enter Try.func8, Try.ntmps8
    go_wp2_with fail
    refine (num_any n _ n0 n1).mono ?_
    rintro e w1 ⟨rfl, hb⟩
    have HB := Lib.hid hb; clear hb
    go_wp2_with fail
    refine (num_any n _ m0 m1).mono ?_
    rintro e w2 ⟨rfl, hb2⟩
    have HB2 := Lib.hid hb2; clear hb2
    generalize Oct.numB n = A at *
    obtain ⟨a1, a2⟩ := str_ne A pn
    go_wp2_with fail
    (refine (lives_any _).mono ?_
     rintro e w3 ⟨rfl, hb3⟩
     have HB3 := Lib.hid hb3; clear hb3
     go_wp2_with fail
     go_ret
     exact ⟨rfl, below_two (below_two HB.out HB2.out) HB3.out⟩)
  · have u1 : (Oct.numB n).size ≤ (Oct.numB m).size → (Oct.numB m).extract 0 (Oct.numB n).size ≠ Oct.numB n := Oct.first_ne n m n0 n1 m0 m1 hnm
    have u2 : (Oct.numB m).size ≤ (Oct.numB n).size → (Oct.numB n).extract 0 (Oct.numB m).size ≠ Oct.numB m := Oct.first_ne m n m0 m1 n0 n1 (Ne.symm hnm)
    have U := Lib.hid (And.intro u1 u2); clear u1 u2
    have ht : ((n : Int) == m) = false := by simpa using hnm
    clear hnm
    go_enter Try.func8, Try.ntmps8
    go_wp2_with fail
    refine (num_any n _ n0 n1).mono ?_
    rintro e w1 ⟨rfl, hb⟩
    have HB := Lib.hid hb; clear hb
    go_wp2_with fail
    refine (num_any m _ m0 m1).mono ?_
    rintro e w2 ⟨rfl, hb2⟩
    have HB2 := Lib.hid hb2; clear hb2
    generalize Oct.numB n = A at *
    generalize Oct.numB m = B at *
    obtain ⟨a1, a2⟩ := str_ne A pn
    obtain ⟨b1, b2⟩ := str_ne B pm
    have U1 : Hid (A.size ≤ B.size → ¬ (B.extract 0 A.size).toList = A.toList) := Lib.hid fun h => str_neq (U.out.1 h)
    have U2 : Hid (B.size ≤ A.size → ¬ (A.extract 0 B.size).toList = B.toList) := Lib.hid fun h => str_neq (U.out.2 h)
    clear U
    rcases Nat.lt_trichotomy A.size B.size with hlt | hlt | hlt
    · have u1 := U1.out (by omega)
      have u1b := str_beq u1
      go_wp2_with fail
      (refine (lives_any _).mono ?_
       rintro e w3 ⟨rfl, hb3⟩
       have HB3 := Lib.hid hb3; clear hb3
       go_wp2_with fail
       go_ret
       exact ⟨rfl, below_two (below_two HB.out HB2.out) HB3.out⟩)
    · have u1 := U1.out (by omega)
      have u2 := U2.out (by omega)
      have l1 : A.size ≤ B.size := by omega
      have l2 : B.size ≤ A.size := by omega
      have u1b := str_beq u1
      have u2b := str_beq u2
      clear hlt
      go_wp2_with fail
      (refine (lives_any _).mono ?_
       rintro e w3 ⟨rfl, hb3⟩
       have HB3 := Lib.hid hb3; clear hb3
       go_wp2_with fail
       go_ret
       exact ⟨rfl, below_two (below_two HB.out HB2.out) HB3.out⟩)
    · have u2 := U2.out (by omega)
      have u2b := str_beq u2
      go_wp2_with fail
      (refine (lives_any _).mono ?_
       rintro e w3 ⟨rfl, hb3⟩
       have HB3 := Lib.hid hb3; clear hb3
       go_wp2_with fail
       go_ret
       exact ⟨rfl, below_two (below_two HB.out HB2.out) HB3.out⟩)

set_option maxRecDepth 100000 in
set_option maxHeartbeats 800000 in
theorem OctetNums_walk (n : Int) (s : ByteArray) (w0 : (Lit.int .i64 n).wf = true) (hs : s.size ≤ maxLen) (w : World) :
    Calls Try.prog 3 #[.int .i64 n, .string s] w fun e w' => e = .returned (.bool true) ∧ Below w.heap.size w w' := by
  obtain ⟨n0, n1⟩ := bounds_i64 w0
  go_enter Try.func3, Try.ntmps3
  go_wp2_with fail
  refine (takeNum_any s _ hs).mono ?_
  rintro e w1 ⟨rfl, nd, rfl⟩
  go_wp2_with fail
  refine (rtakeNum_any s _ hs).mono ?_
  rintro e w2 ⟨rfl, nd2, rfl⟩
  generalize Oct.tN s = a
  generalize Oct.tR s = r
  generalize Oct.tE s = e
  go_wp2_with fail
  refine (num_any n _ n0 n1).mono ?_
  rintro e w1 ⟨rfl, hb⟩
  have HB := Lib.hid hb; clear hb
  go_wp2_with fail
  refine (rnum_any n _ n0 n1).mono ?_
  rintro e w2 ⟨rfl, hb2⟩
  have HB2 := Lib.hid hb2; clear hb2
  generalize Oct.numB n = A
  go_wp2_with fail
  refine (lives_any _).mono ?_
  rintro e w3 ⟨rfl, hb3⟩
  have HB3 := Lib.hid hb3; clear hb3
  go_wp2_with fail
  go_ret
  exact ⟨rfl, below_two (below_two (below_two (below_drewN (Below.refl _ _) _) HB.out) HB2.out) HB3.out⟩
end Go.Proofs.Ytjppicochahjoaa
