/-
  Layer 13: LexReads walked.
-/
import Derived.Test.YtmpfnokddpbgcaaDoorZLexLives
namespace Go.Proofs.YtmpfnokddpbgcaaDoor
open Go.RowKit
/-- what the walks want of the listed variables -/
def Facts13 (w : World) : Prop := Pow10 w ∧ ErrR w
namespace Lx
theorem lex_count : ∀ (k a : Nat) (l : List UInt8), (lex k a l).1.length ≤ k
  | 0, _, _ => Nat.le_refl _
  | _ + 1, _, [] => Nat.zero_le _
  | k + 1, a, c :: r => by
    by_cases h : c = 32
    · subst h; rw [lex_blank]; exact Nat.le_succ_of_le (lex_count k _ _)
    · by_cases he : (one (c :: r)).2.2 = 0
      · rw [lex_more h he]
        split
        · exact Nat.zero_le _
        · exact Nat.succ_le_succ (lex_count k _ _)
      · rw [lex_err h he]; exact Nat.zero_le _
end Lx
theorem lexS_count (s : ByteArray) : (lexS s).1.length ≤ 200 := by
  have hl : s.data.toList.length = s.size := Array.length_toList ..
  unfold lexS
  split
  · exact Nat.zero_le _
  · have := Lx.lex_count s.data.toList.length 0 s.data.toList
    show (Lx.lex _ _ _).1.length ≤ 200
    omega
theorem rSame13_same (p : Bool) (a a' : Option Addr) (L : List Lx.T) (c c' : Nat) (w : World) (hr : ReadsT13 w a L) (hr' : ReadsT13 w a' L) (hL : L.length ≤ 1000000) :
    Calls Tryd.prog 10 #[.slice a L.length c, .slice a' L.length c', .bool p] w fun e w' => e = .returned (.bool true) ∧ Below w.heap.size w w' :=
  (rSame13_any p a a' L L c c' w hr hr' (by unfold maxLen; omega)).mono fun _ _ h => ⟨h.1.trans (ret_bool (by simp)), h.2⟩
set_option maxRecDepth 100000 in
set_option maxHeartbeats 3200000 in
theorem LexReads_walk (s : ByteArray) (hs : s.size ≤ maxLen) (w : World) (hF : Facts13 w) :
    Calls Tryd.prog 3 #[.string s] w fun e w' => e = .returned (.bool true) ∧ Below w.heap.size w w' := by
  by_cases hb : (s.size : Int) > 1000
  · have cV := lives13_any w hF.2
    have H := Lib.hid cV
    clear cV
    go_enter Tryd.func3, Tryd.ntmps3
    go_wp2_with fail
    refine H.out.mono ?_
    rintro e w1 ⟨rfl, hb1⟩
    have H1 := Lib.hid hb1
    clear hb1
    go_wp2_with fail
    go_ret
    exact ⟨rfl, H1.out⟩
  · have cP := lex13_any s w hF.2
    have cR := fun wx => rlex13_any s wx
    have cN := fun wx h => Name13_any s wx (by omega) h
    have cM := fun wx => rNameB13_any s wx hs
    have hC := lexS_count s
    generalize lexS s = T at *
    obtain ⟨L, P, E⟩ := T
    generalize Lx.nameB s = B at *
    have H := Lib.hid (And.intro cP (And.intro cR (And.intro cN cM)))
    have HE := Lib.hid hF.2
    clear cP cR cN cM hF
    go_enter Tryd.func3, Tryd.ntmps3
    go_wp2_with fail
    refine H.out.1.mono ?_
    rintro e w1 ⟨a, cap, rfl, hr, hcap, hb1⟩
    have H1 := Lib.hid (And.intro hr hb1)
    clear hr hb1 hcap
    go_wp2_with fail
    refine (H.out.2.1 _).mono ?_
    rintro e w2 ⟨a2, cap2, rfl, hr2, hcap2, hb2⟩
    have hB2 := H1.out.2.trans (hb2.mono H1.out.2.size)
    have cS := rSame13_same true a a2 L cap cap2 w2 (readsT13_below H1.out.1 hb2) hr2 (by have : L.length ≤ 200 := hC; omega)
    have H2 := Lib.hid (And.intro cS hB2)
    clear cS hB2 hb2 hr2 hcap2
    go_wp2_with fail
    refine H2.out.1.mono ?_
    rintro e w3 ⟨rfl, hb3⟩
    have hB3 := H2.out.2.trans (hb3.mono H2.out.2.size)
    have H3 := Lib.hid (And.intro (H.out.2.2.1 _ (errR_below HE.out hB3)) hB3)
    clear hB3 hb3
    go_wp2_with fail
    refine H3.out.1.mono ?_
    rintro e w4 ⟨rfl, hb4⟩
    have H4 := Lib.hid (H3.out.2.trans (hb4.mono H3.out.2.size))
    clear hb4
    go_wp2_with fail
    refine (H.out.2.2.2 _).mono ?_
    rintro e w5 ⟨rfl, hb5⟩
    have hB5 := H4.out.trans (hb5.mono H4.out.size)
    have H5 := Lib.hid (And.intro (lives13_any _ (errR_below HE.out hB5)) hB5)
    clear hb5 hB5
    go_wp2_with fail
    refine H5.out.1.mono ?_
    rintro e w6 ⟨rfl, hb6⟩
    have H6 := Lib.hid (H5.out.2.trans (hb6.mono H5.out.2.size))
    clear hb6
    go_wp2_with fail
    go_ret
    exact ⟨rfl, H6.out⟩
end Go.Proofs.YtmpfnokddpbgcaaDoor
