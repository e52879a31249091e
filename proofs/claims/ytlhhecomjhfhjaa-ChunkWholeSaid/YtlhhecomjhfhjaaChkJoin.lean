/-
  Layer 11: chunks joined (the program's).
-/
import Derived.Test.YtlhhecomjhfhjaaChkSeq
import Derived.Test.YtlhhecomjhfhjaaChkEq
import Derived.Test.YtlhhecomjhfhjaaChkJoined
namespace Go.Proofs.Ytlhhecomjhfhjaa
open Go.RowKit
/-- what is asked of pairs that are joined: all is small -/
def Small11 (L : List (ByteArray × ByteArray)) : Prop := ∀ x ∈ L, x.2.size ≤ 80000
theorem two_boxes11 {w4 : World} (w : World) (p s : ByteArray) (h : w4 = (w.alloc (.cells #[.string p] 9)).alloc (.cells #[.string s] 9)) :
    Below w.heap.size w w4 ∧ RowV w4 (w.heap.size + 1) 9 [.string s] ∧ RowV w4 w.heap.size 9 [.string p] := by
  subst h
  have s1 : (w.alloc (.cells #[.string p] 9)).heap.size = w.heap.size + 1 := World.size_alloc _ _
  have r1 := rowV_new (w.alloc (.cells #[.string p] 9)) 9 [.string s]
  rw [s1] at r1
  exact ⟨((Below.refl _ w).alloc (Nat.le_refl _) _).alloc (by omega) _, r1, rowV_alloc (rowV_new w 9 [.string p]) _⟩
set_option maxRecDepth 100000 in
set_option maxHeartbeats 4000000 in
theorem join11_any (p : ByteArray) (hp : p.size ≤ 1000000000) (a : Option Addr) (L : List (ByteArray × ByteArray)) (c : Nat) (w : World) (hr : ReadsP w a L) (hL : L.length ≤ 900000) (hS : Small11 L) :
    Calls Try.prog 15 #[.string p, .slice a L.length c] w fun e w' => e = .returned (.tuple #[.string (Ck.join p L).1, .int .i64 (Ck.join p L).2]) ∧ Below w.heap.size w w' := by
  have cR := fun w => right11_any p w
  have cN : ∀ w, Calls Try.prog 12 #[.int .i64 1400] w fun e w' => e = .returned (.int .i64 10) ∧ Below w.heap.size w w' := fun w => count11_any 1400 (by omega) (by omega) w
  unfold Ck.join
  cases hrr : Ck.rightB p with
  | false =>
    rw [hrr] at cR
    rw [if_neg (by decide)]
    have H := Lib.hid cR
    clear cR cN hr
    go_enter Try.func15, Try.ntmps15
    go_wp2_with (go_at_call 19; refine (H.out _).mono ?_; rintro e w1 ⟨rfl, hb⟩; have H1 := Lib.hid hb; clear hb)
    refine bodyPost_ret (results_tmp2 rfl _ _ _) rfl ?_
    exact ⟨rfl, H1.out⟩
  | true =>
    rw [hrr] at cR
    rw [if_pos rfl]
    by_cases h0 : L.length = 0
    · rw [if_pos h0]
      have t0 : (((L.length : Nat) : Int) == 0) = true := by rw [h0]; rfl
      have H := Lib.hid cR
      clear cR cN hr
      go_enter Try.func15, Try.ntmps15
      go_wp2_with (go_at_call 19; refine (H.out _).mono ?_; rintro e w1 ⟨rfl, hb⟩; have H1 := Lib.hid hb; clear hb)
      refine bodyPost_ret (results_tmp2 rfl _ _ _) rfl ?_
      exact ⟨rfl, H1.out⟩
    · rw [if_neg h0]
      have t0 : (((L.length : Nat) : Int) == 0) = false := beq_eq_false_iff_ne.2 (by omega)
      by_cases h10 : 10 < L.length
      · rw [if_pos h10]
        have t1 : decide ((10 : Int) < (L.length : Int)) = true := decide_eq_true (by omega)
        have H := Lib.hid (And.intro cR cN)
        clear cR cN hr
        go_enter Try.func15, Try.ntmps15
        go_wp2_with (first
          | (go_at_call 19; refine (H.out.1 _).mono ?_; rintro e w1 ⟨rfl, hb⟩; have H1 := Lib.hid hb; clear hb)
          | (go_at_call 12; refine (H.out.2 _).mono ?_; rintro e w2 ⟨rfl, hb⟩; have H2 := Lib.hid (H1.out.trans (hb.mono H1.out.size)); clear hb))
        refine bodyPost_ret (results_tmp2 rfl _ _ _) rfl ?_
        exact ⟨rfl, H2.out⟩
      · rw [if_neg h10]
        have t1 : decide ((10 : Int) < (L.length : Int)) = false := decide_eq_false (by omega)
        have hjs := Ck.joined_size L 80000 hS
        have hjs2 : (Ck.joined L).size ≤ 800000 := Nat.le_trans hjs (by have := Nat.mul_le_mul_right 80000 (show L.length ≤ 10 by omega); omega)
        have cJ := fun wx (hx : ReadsP wx a L) => joined11_any a L c wx hx (by omega) (fun x hx => by have := hS x hx; omega)
        have hll := Ck.chunks_len p (Ck.joined L)
        have hcl := Ck.cnt_le (n := (Ck.joined L).size) (m := 10000) (by omega) (by omega)
        by_cases hbig : 1400 < (Ck.joined L).size
        · rw [if_pos hbig]
          have t2 : decide ((1400 : Int) < ((Ck.joined L).size : Int)) = true := decide_eq_true (by omega)
          generalize Ck.joined L = J at *
          have H := Lib.hid (And.intro cR (And.intro cN (And.intro cJ hr)))
          clear cR cN cJ hr hll hcl
          go_enter Try.func15, Try.ntmps15
          go_wp2_with (first
            | (go_at_call 19; refine (H.out.1 _).mono ?_; rintro e w1 ⟨rfl, hb⟩; have H1 := Lib.hid hb; clear hb)
            | (go_at_call 12; refine (H.out.2.1 _).mono ?_; rintro e w2 ⟨rfl, hb⟩; have H2 := Lib.hid (H1.out.trans (hb.mono H1.out.size)); clear hb)
            | (go_at_call 22; refine (H.out.2.2.1 _ (readsP_below H.out.2.2.2 H2.out)).mono ?_; rintro e w3 ⟨rfl, hb⟩; have H3 := Lib.hid (H2.out.trans (hb.mono H2.out.size)); clear hb))
          refine bodyPost_ret (results_tmp2 rfl _ _ _) rfl ?_
          exact ⟨rfl, H3.out⟩
        · rw [if_neg hbig]
          have t2 : decide ((1400 : Int) < ((Ck.joined L).size : Int)) = false := decide_eq_false (by omega)
          generalize Ck.joined L = J at *
          have cC := fun w => chunks11_any p J w
          have cS := fun a b w ha hb => collect11_any a b p J hp (by omega) w ha hb
          have cE := fun b d w hx hy => eqP11_any b a (Ck.chunks p J) L d c w hx hy (by omega) (by omega)
          generalize Ck.chunks p J = M at *
          have hif : (if M = L then (J, 0) else ((⟨#[]⟩ : ByteArray), 4)) = (if decide (M = L) = true then (J, 0) else (⟨#[]⟩, 4)) := by
            by_cases h : M = L
            · rw [if_pos h, if_pos (decide_eq_true h)]
            · rw [if_neg h, if_neg (by simpa using h)]
          rw [show (if M = L then (J, 0) else (Ck.nil, 4)) = _ from hif]
          generalize decide (M = L) = Q at *
          have H := Lib.hid (And.intro cR (And.intro cN (And.intro cJ (And.intro hr (And.intro cC (And.intro cS cE))))))
          clear cR cN cJ hr hcl cC cS cE hif hjs hll
          cases Q with
          | true =>
            go_enter Try.func15, Try.ntmps15
            go_wp2_with (first
              | (go_at_call 19; refine (H.out.1 _).mono ?_; rintro e w1 ⟨rfl, hb⟩; have H1 := Lib.hid hb; clear hb)
              | (go_at_call 12; refine (H.out.2.1 _).mono ?_; rintro e w2 ⟨rfl, hb⟩; have H2 := Lib.hid (H1.out.trans (hb.mono H1.out.size)); clear hb)
              | (go_at_call 22; refine (H.out.2.2.1 _ (readsP_below H.out.2.2.2.1 H2.out)).mono ?_; rintro e w3 ⟨rfl, hb⟩; have H3 := Lib.hid (H2.out.trans (hb.mono H2.out.size)); clear hb)
              | (go_at_call 17; refine (H.out.2.2.2.2.1 _).mono ?_; rintro e w4 ⟨rfl, hw4⟩; obtain ⟨b4, q1, q2⟩ := two_boxes11 w3 p J hw4; have H4 := Lib.hid (And.intro (H3.out.trans (b4.mono H3.out.size)) (And.intro q1 q2)); clear hw4 b4 q1 q2)
              | (go_at_call 24; refine (H.out.2.2.2.2.2.1 _ _ _ H4.out.2.1 H4.out.2.2).mono ?_; rintro e w5 ⟨v, rfl, ho, hb⟩; obtain ⟨b5, c5, rfl, hr5, -⟩ := owns_readsP (show w5.ownsRow w4.heap.size 46 2 v M.length (pairsC M) from ho) rfl; have H5 := Lib.hid (And.intro hr5 (H4.out.1.trans (hb.mono H4.out.1.size))); clear ho hb hr5)
              | (go_at_call 23; refine (H.out.2.2.2.2.2.2 _ _ _ H5.out.1 (readsP_below H.out.2.2.2.1 H5.out.2)).mono ?_; rintro e w6 ⟨rfl, hb⟩; have H6 := Lib.hid (H5.out.2.trans (hb.mono H5.out.2.size)); clear hb))
            refine bodyPost_ret (results_tmp2 rfl _ _ _) rfl ?_
            exact ⟨rfl, H6.out⟩
          | false =>
            go_enter Try.func15, Try.ntmps15
            go_wp2_with (first
              | (go_at_call 19; refine (H.out.1 _).mono ?_; rintro e w1 ⟨rfl, hb⟩; have H1 := Lib.hid hb; clear hb)
              | (go_at_call 12; refine (H.out.2.1 _).mono ?_; rintro e w2 ⟨rfl, hb⟩; have H2 := Lib.hid (H1.out.trans (hb.mono H1.out.size)); clear hb)
              | (go_at_call 22; refine (H.out.2.2.1 _ (readsP_below H.out.2.2.2.1 H2.out)).mono ?_; rintro e w3 ⟨rfl, hb⟩; have H3 := Lib.hid (H2.out.trans (hb.mono H2.out.size)); clear hb)
              | (go_at_call 17; refine (H.out.2.2.2.2.1 _).mono ?_; rintro e w4 ⟨rfl, hw4⟩; obtain ⟨b4, q1, q2⟩ := two_boxes11 w3 p J hw4; have H4 := Lib.hid (And.intro (H3.out.trans (b4.mono H3.out.size)) (And.intro q1 q2)); clear hw4 b4 q1 q2)
              | (go_at_call 24; refine (H.out.2.2.2.2.2.1 _ _ _ H4.out.2.1 H4.out.2.2).mono ?_; rintro e w5 ⟨v, rfl, ho, hb⟩; obtain ⟨b5, c5, rfl, hr5, -⟩ := owns_readsP (show w5.ownsRow w4.heap.size 46 2 v M.length (pairsC M) from ho) rfl; have H5 := Lib.hid (And.intro hr5 (H4.out.1.trans (hb.mono H4.out.1.size))); clear ho hb hr5)
              | (go_at_call 23; refine (H.out.2.2.2.2.2.2 _ _ _ H5.out.1 (readsP_below H.out.2.2.2.1 H5.out.2)).mono ?_; rintro e w6 ⟨rfl, hb⟩; have H6 := Lib.hid (H5.out.2.trans (hb.mono H5.out.2.size)); clear hb))
            refine bodyPost_ret (results_tmp2 rfl _ _ _) rfl ?_
            exact ⟨rfl, H6.out⟩
end Go.Proofs.Ytlhhecomjhfhjaa
