/-
  Layer 1: the law OctetFixed, walked.
-/
import Derived.Test.YtjppicochahjoaaOctLaws
import Derived.Test.YtjppicochahjoaaOctRead
namespace Go.Proofs.Ytjppicochahjoaa
open Go.RowKit

set_option maxRecDepth 100000 in
set_option maxHeartbeats 800000 in
theorem OctetFixed_walk (n bytes : Int) (s : ByteArray) (w0 : (Lit.int .i64 n).wf = true) (_w1 : (Lit.int .i64 bytes).wf = true) (hs : s.size ≤ maxLen) (w : World) :
    Calls Try.prog 5 #[.int .i64 n, .int .i64 bytes, .string s] w fun e w' => e = .returned (.bool true) ∧ Below w.heap.size w w' := by
  obtain ⟨n0, n1⟩ := bounds_i64 w0
  have HR := Lib.hid (Oct.rd_fix n n0 n1)
  have h8 : (⟨(Oct.fix n 8).toArray⟩ : ByteArray).size ≤ maxLen := by
    have := Oct.fix_len n 8
    show (Oct.fix n 8).toArray.size ≤ _
    unfold maxLen; simp; omega
  have H8 := Lib.hid h8; clear h8
  go_enter Try.func5, Try.ntmps5
  go_wp2_with fail
  refine (fixed_any n bytes _).mono ?_
  rintro e w1 ⟨rfl, hb1⟩
  have B1 := Lib.hid hb1; clear hb1
  go_wp2_with fail
  refine (rfixed_any n bytes _).mono ?_
  rintro e w2 ⟨rfl, hb2⟩
  have B2 := Lib.hid hb2; clear hb2
  generalize (⟨(Oct.fix n (Oct.cnt bytes)).toArray⟩ : ByteArray) = A
  go_wp2_with fail
  refine (read_any s _ hs).mono ?_
  rintro e w3 ⟨rfl, rfl⟩
  go_wp2_with fail
  refine (rread_any s _ hs).mono ?_
  rintro e w3 ⟨rfl, rfl⟩
  generalize Oct.rd s = R
  go_wp2_with fail
  refine (fixed_any n 8 _).mono ?_
  rintro e w3 ⟨rfl, hb3⟩
  have B3 := Lib.hid hb3; clear hb3
  rw [show Oct.cnt 8 = 8 from rfl]
  go_wp2_with fail
  refine (read_any _ _ H8.out).mono ?_
  rintro e w4 ⟨rfl, rfl⟩
  rw [HR.out]
  go_wp2_with fail
  refine (lives_any _).mono ?_
  rintro e w5 ⟨rfl, hb5⟩
  have B5 := Lib.hid hb5; clear hb5
  go_wp2_with fail
  go_ret
  exact ⟨rfl, below_two (below_two (below_two B1.out B2.out) B3.out) B5.out⟩
end Go.Proofs.Ytjppicochahjoaa
