/-
  Layer 5's laws, walked: what was put is taken, what is torn is told.
-/
import Derived.Test.YtdcpfpefmndidaaSealLaws
namespace Go.Proofs.Ytdcpfpefmndidaa
open Go.RowKit

set_option maxRecDepth 100000 in
set_option maxHeartbeats 3200000 in
theorem back_rest (b : ByteArray) (_hb : b.size ≤ maxLen) : (Sl.take b).2.2 = 0 → (Sl.take b).2.1.size ≤ maxLen := fun h => by
  have := (Sl.putE_ok.1 (Sl.take_ok h).1).2.2
  unfold maxLen; omega
set_option maxRecDepth 100000 in
set_option maxHeartbeats 3200000 in
theorem SealBack_walk (n : Int) (s b : ByteArray) (_w0 : (Lit.int .i64 n).wf = true) (_hs : s.size ≤ maxLen) (_hb : b.size ≤ maxLen) (w : World) :
    Calls Try.prog 5 #[.int .i64 n, .string s, .string b] w fun e w' => e = .returned (.bool true) ∧ Below w.heap.size w w' := by
  have cl := fun w => lives5_any w
  by_cases h1 : 2000 < s.size
  · have t1 : (2000 : Int) < (s.size : Int) := by omega
    have H := Lib.hid cl
    clear cl
    go_enter Try.func5, Try.ntmps5
    go_wp2_with fail
    refine (H.out _).mono ?_
    rintro e w1 ⟨rfl, hb⟩
    have B1 := Lib.hid hb; clear hb
    go_wp2_with fail
    go_ret
    exact ⟨rfl, B1.out⟩
  · have t1 : ¬ (2000 : Int) < (s.size : Int) := by omega
    by_cases h2 : 2000 < b.size
    · have t2 : (2000 : Int) < (b.size : Int) := by omega
      have H := Lib.hid cl
      clear cl
      go_enter Try.func5, Try.ntmps5
      go_wp2_with fail
      refine (H.out _).mono ?_
      rintro e w1 ⟨rfl, hb⟩
      have B1 := Lib.hid hb; clear hb
      go_wp2_with fail
      go_ret
      exact ⟨rfl, B1.out⟩
    · have t2 : ¬ (2000 : Int) < (b.size : Int) := by omega
      have c1 := fun w => put5_any n s _hs w
      have c4 := fun w => take5_any b _hb w
      have kb := @Sl.take_ok b
      have ke := @Sl.take_err b
      have c5 := fun (h : (Sl.take b).2.2 = 0) w => put5_any (Sl.take b).1 (Sl.take b).2.1 (back_rest b _hb h) w
      generalize (Sl.take b).1 = N at *
      generalize (Sl.take b).2.1 = T at *
      generalize (Sl.take b).2.2 = E at *
      by_cases h3 : Sl.putE n s = 0
      · have hk := Sl.take_put h3
        have hz := Sl.put_size h3
        have c2 := fun w => take5_any (Sl.putB n s) (by rw [hz]; unfold maxLen; omega) w
        have c3 := fun w => halves_any (Sl.putB n s) (by rw [hz]; unfold maxLen; omega) w
        rw [hk.1] at c2
        rw [hk.2] at c3
        rw [h3] at c1
        clear hk
        generalize Sl.putB n s = P at *
        by_cases h4 : E = 0
        · obtain ⟨k1, k2⟩ := kb h4
          have c6 := c5 h4
          rw [k1, k2] at c6
          subst h4
          have H := Lib.hid (And.intro cl (And.intro c1 (And.intro c2 (And.intro c3 (And.intro c4 c6)))))
          clear cl c1 c2 c3 c4 c5 c6 k1 k2 kb ke h3
          go_enter Try.func5, Try.ntmps5
          go_wp2_with fail
          refine (H.out.2.1 _).mono ?_
          rintro e w1 ⟨rfl, hb⟩
          have B1 := Lib.hid hb; clear hb
          go_wp2_with fail
          refine (H.out.2.2.1 _).mono ?_
          rintro e w2 ⟨rfl, hb⟩
          have B2 := Lib.hid (below_two B1.out hb); clear hb B1
          go_wp2_with fail
          refine (H.out.2.2.2.1 _).mono ?_
          rintro e _ ⟨rfl, nq, rfl⟩
          have B3 := Lib.hid (below_two B2.out (below_drewN (Below.refl _ _) nq)); clear B2
          go_wp2_with fail
          refine (H.out.2.2.2.2.1 _).mono ?_
          rintro e w4 ⟨rfl, hb⟩
          have B4 := Lib.hid (below_two B3.out hb); clear hb B3
          go_wp2_with fail
          refine (H.out.2.2.2.2.2 _).mono ?_
          rintro e w5 ⟨rfl, hb⟩
          have B5 := Lib.hid (below_two B4.out hb); clear hb B4
          go_wp2_with fail
          refine (H.out.1 _).mono ?_
          rintro e w6 ⟨rfl, hb⟩
          have B6 := Lib.hid (below_two B5.out hb); clear hb B5
          go_wp2_with fail
          go_ret
          exact ⟨rfl, B6.out⟩
        · obtain ⟨rfl, rfl⟩ := ke h4
          have t3 : (E != 0) = true := by simpa using h4
          have t4 : ¬ E = 0 := h4
          have H := Lib.hid (And.intro cl (And.intro c1 (And.intro c2 (And.intro c3 c4))))
          clear cl c1 c2 c3 c4 c5 kb ke h3 h4
          go_enter Try.func5, Try.ntmps5
          go_wp2_with fail
          refine (H.out.2.1 _).mono ?_
          rintro e w1 ⟨rfl, hb⟩
          have B1 := Lib.hid hb; clear hb
          go_wp2_with fail
          refine (H.out.2.2.1 _).mono ?_
          rintro e w2 ⟨rfl, hb⟩
          have B2 := Lib.hid (below_two B1.out hb); clear hb B1
          go_wp2_with fail
          refine (H.out.2.2.2.1 _).mono ?_
          rintro e _ ⟨rfl, nq, rfl⟩
          have B3 := Lib.hid (below_two B2.out (below_drewN (Below.refl _ _) nq)); clear B2
          go_wp2_with fail
          refine (H.out.2.2.2.2 _).mono ?_
          rintro e w4 ⟨rfl, hb⟩
          have B4 := Lib.hid (below_two B3.out hb); clear hb B3
          go_wp2_with fail
          refine (H.out.1 _).mono ?_
          rintro e w6 ⟨rfl, hb⟩
          have B6 := Lib.hid (below_two B4.out hb); clear hb B4
          go_wp2_with fail
          go_ret
          exact ⟨rfl, B6.out⟩
      · have t5 : (Sl.putE n s == 0) = false := by simpa using h3
        have t6 : ¬ Sl.putE n s = 0 := h3
        generalize Sl.putE n s = PE at *
        generalize Sl.putB n s = P at *
        by_cases h4 : E = 0
        · obtain ⟨k1, k2⟩ := kb h4
          have c6 := c5 h4
          rw [k1, k2] at c6
          subst h4
          have H := Lib.hid (And.intro cl (And.intro c1 (And.intro c4 c6)))
          clear cl c1 c4 c5 c6 k1 k2 kb ke h3
          go_enter Try.func5, Try.ntmps5
          go_wp2_with fail
          refine (H.out.2.1 _).mono ?_
          rintro e w1 ⟨rfl, hb⟩
          have B1 := Lib.hid hb; clear hb
          go_wp2_with fail
          refine (H.out.2.2.1 _).mono ?_
          rintro e w4 ⟨rfl, hb⟩
          have B4 := Lib.hid (below_two B1.out hb); clear hb B1
          go_wp2_with fail
          refine (H.out.2.2.2 _).mono ?_
          rintro e w5 ⟨rfl, hb⟩
          have B5 := Lib.hid (below_two B4.out hb); clear hb B4
          go_wp2_with fail
          refine (H.out.1 _).mono ?_
          rintro e w6 ⟨rfl, hb⟩
          have B6 := Lib.hid (below_two B5.out hb); clear hb B5
          go_wp2_with fail
          go_ret
          exact ⟨rfl, B6.out⟩
        · obtain ⟨rfl, rfl⟩ := ke h4
          have t3 : (E != 0) = true := by simpa using h4
          have t4 : ¬ E = 0 := h4
          have H := Lib.hid (And.intro cl (And.intro c1 c4))
          clear cl c1 c4 c5 kb ke h3 h4
          go_enter Try.func5, Try.ntmps5
          go_wp2_with fail
          refine (H.out.2.1 _).mono ?_
          rintro e w1 ⟨rfl, hb⟩
          have B1 := Lib.hid hb; clear hb
          go_wp2_with fail
          refine (H.out.2.2 _).mono ?_
          rintro e w4 ⟨rfl, hb⟩
          have B4 := Lib.hid (below_two B1.out hb); clear hb B1
          go_wp2_with fail
          refine (H.out.1 _).mono ?_
          rintro e w6 ⟨rfl, hb⟩
          have B6 := Lib.hid (below_two B4.out hb); clear hb B4
          go_wp2_with fail
          go_ret
          exact ⟨rfl, B6.out⟩

theorem Sl.zeros_back : Sl.zeros.extract 256 512 = Sl.zer 256 := by apply Sl.ba_ext; decide +kernel
theorem Sl.zeros_front : Sl.zeros.extract 0 256 = Sl.zer 256 := by apply Sl.ba_ext; decide +kernel
set_option maxRecDepth 100000 in
set_option maxHeartbeats 6400000 in
theorem SealTorn_walk (n m : Int) (s t : ByteArray) (_w0 : (Lit.int .i64 n).wf = true) (_w1 : (Lit.int .i64 m).wf = true) (_hs : s.size ≤ maxLen) (_ht : t.size ≤ maxLen) (w : World) :
    Calls Try.prog 6 #[.int .i64 n, .int .i64 m, .string s, .string t] w fun e w' => e = .returned (.bool true) ∧ Below w.heap.size w w' := by
  have cl := fun w => lives5_any w
  by_cases g0 : (490 : Int) < (s.size : Int)
  · have H := Lib.hid cl
    clear cl
    go_enter Try.func6, Try.ntmps6
    go_wp2_with fail
    refine (H.out _).mono ?_
    rintro e w1 ⟨rfl, hb⟩
    have B1 := Lib.hid hb; clear hb
    go_wp2_with fail
    go_ret
    exact ⟨rfl, B1.out⟩
  · skip
    by_cases g1 : (490 : Int) < (t.size : Int)
    · have H := Lib.hid cl
      clear cl
      go_enter Try.func6, Try.ntmps6
      go_wp2_with fail
      refine (H.out _).mono ?_
      rintro e w1 ⟨rfl, hb⟩
      have B1 := Lib.hid hb; clear hb
      go_wp2_with fail
      go_ret
      exact ⟨rfl, B1.out⟩
    · skip
      by_cases g2 : n < 1
      · have H := Lib.hid cl
        clear cl
        go_enter Try.func6, Try.ntmps6
        go_wp2_with fail
        refine (H.out _).mono ?_
        rintro e w1 ⟨rfl, hb⟩
        have B1 := Lib.hid hb; clear hb
        go_wp2_with fail
        go_ret
        exact ⟨rfl, B1.out⟩
      · skip
        by_cases g3 : m < 1
        · have H := Lib.hid cl
          clear cl
          go_enter Try.func6, Try.ntmps6
          go_wp2_with fail
          refine (H.out _).mono ?_
          rintro e w1 ⟨rfl, hb⟩
          have B1 := Lib.hid hb; clear hb
          go_wp2_with fail
          go_ret
          exact ⟨rfl, B1.out⟩
        · skip
          by_cases g4 : 4611686018427387904 < n
          · have H := Lib.hid cl
            clear cl
            go_enter Try.func6, Try.ntmps6
            go_wp2_with fail
            refine (H.out _).mono ?_
            rintro e w1 ⟨rfl, hb⟩
            have B1 := Lib.hid hb; clear hb
            go_wp2_with fail
            go_ret
            exact ⟨rfl, B1.out⟩
          · skip
            by_cases g5 : 4611686018427387904 < m
            · have H := Lib.hid cl
              clear cl
              go_enter Try.func6, Try.ntmps6
              go_wp2_with fail
              refine (H.out _).mono ?_
              rintro e w1 ⟨rfl, hb⟩
              have B1 := Lib.hid hb; clear hb
              go_wp2_with fail
              go_ret
              exact ⟨rfl, B1.out⟩
            · skip
              by_cases g6 : n = m
              · have H := Lib.hid cl
                clear cl
                go_enter Try.func6, Try.ntmps6
                go_wp2_with fail
                refine (H.out _).mono ?_
                rintro e w1 ⟨rfl, hb⟩
                have B1 := Lib.hid hb; clear hb
                go_wp2_with fail
                go_ret
                exact ⟨rfl, B1.out⟩
              · skip
                have p1 : Sl.putE n s = 0 := Sl.putE_ok.2 ⟨by omega, by omega, by omega⟩
                have p2 : Sl.putE m t = 0 := Sl.putE_ok.2 ⟨by omega, by omega, by omega⟩
                obtain ⟨k1, k2, k3, k4⟩ := Sl.torn p1 p2 g6
                have s1 := Sl.put_size p1
                have s2 := Sl.put_size p2
                have c1 := fun w => put5_any n s _hs w
                have c2 := fun w => put5_any m t _ht w
                rw [p1] at c1
                rw [p2] at c2
                unfold Sl.mix at k1 k2 k3 k4
                rw [Sl.zeros_back] at k2
                rw [Sl.zeros_front] at k3
                have zz := Sl.zer_size 256
                generalize Sl.putB n s = A at *
                generalize Sl.putB m t = B at *
                have t3 := fun w => take5_any (A.extract 0 256 ++ B.extract 256 512) (by rw [ByteArray.size_append, ByteArray.size_extract, ByteArray.size_extract]; unfold maxLen; omega) w
                have t4 := fun w => take5_any (A.extract 0 256 ++ Sl.zer 256) (by rw [ByteArray.size_append, ByteArray.size_extract, zz]; unfold maxLen; omega) w
                have t5 := fun w => take5_any (Sl.zer 256 ++ B.extract 256 512) (by rw [ByteArray.size_append, ByteArray.size_extract, zz]; unfold maxLen; omega) w
                have t6 := fun w => halves_any (A.extract 0 256 ++ B.extract 256 512) (by rw [ByteArray.size_append, ByteArray.size_extract, ByteArray.size_extract]; unfold maxLen; omega) w
                rw [k1] at t3
                rw [k2] at t4
                rw [k3] at t5
                rw [k4] at t6
                have hmk : (⟨(List.replicate 256 0).toArray⟩ : ByteArray) = Sl.zer 256 := rfl
                obtain ⟨i0, hi, hz0, hz1, hz2⟩ := info_parts Try.info5
                have hmb : i0.bytes * 256 ≤ 281474976710656 := by rw [hz2]; omega
                have hml : 256 ≤ maxLen := by unfold maxLen; omega
                have u1 : (A.extract 0 256).size = 256 := by rw [ByteArray.size_extract]; omega
                have u2 : (B.extract 256 512).size = 256 := by rw [ByteArray.size_extract]; omega
                have HI := Lib.hid (And.intro hi (And.intro hz0 (And.intro hz1 (And.intro hmb (And.intro hml hmk)))))
                generalize Sl.zer 256 = Z at *
                have H := Lib.hid (And.intro cl (And.intro c1 (And.intro c2 (And.intro t3 (And.intro t4 (And.intro t5 t6))))))
                clear cl c1 c2 t3 t4 t5 t6 k1 k2 k3 k4 hi hz0 hz1 hz2 hmb hml hmk p1 p2
                go_enter Try.func6, Try.ntmps6
                go_wp2_with fail
                refine (H.out.2.1 _).mono ?_
                rintro e w1 ⟨rfl, hb⟩
                have B1 := Lib.hid hb; clear hb
                go_wp2_with fail
                refine (H.out.2.2.1 _).mono ?_
                rintro e w2 ⟨rfl, hb⟩
                have B2 := Lib.hid (below_two B1.out hb); clear hb B1
                go_wp2_with (at_make; go_loud (refine wpList_make_full _ rfl _ _ 37 rfl w2.heap.size 5 i0 (.int .u8 0) 1 Try.underlying37 HI.out.1 HI.out.2.1 HI.out.2.2.1 .i64 .i64 _ _ 256 rfl rfl (by omega) (by omega) HI.out.2.2.2.1 HI.out.2.2.2.2.1 (Nat.le_refl _) ?_))
                intro w3 hown hgrow
                have ho : OwnsB w3 w2.heap.size 5 _ (List.replicate 256 0) := ownsB_made hown
                have hb3 : Below w2.heap.size w2 w3 := (Below.refl _ w2).grown hgrow (Nat.le_refl _) (by simp)
                have hconv := ownsB_conv (P := Try.prog) (src := 37) (dst := 9) ho Try.underlying37 Try.underlying5 Try.underlying9
                rw [HI.out.2.2.2.2.2] at hconv
                have B3 := Lib.hid (below_two B2.out hb3); clear hb3 B2 ho hown hgrow
                go_wp2_with fail
                refine wp_region_quiet_tail (C := fun w' => Below w.heap.size w w') 12 (by kernel_rfl) (by kernel_rfl) B3.out.drew ?_
                simp only [List.take_succ_cons, List.take_zero, List.drop_succ_cons, List.drop_zero]
                iterate 5
                  refine wpQuiet_read ?_
                  apply Exists.intro
                  refine ⟨⟨by rfl, fun wx hSx => ?_⟩, ?_⟩
                  · go_simp
                    with_reducible rfl
                  simp only [Act.put, List.setIfInBounds_toArray, List.set_cons_zero, List.set_cons_succ]
                refine wpQuiet_call rfl 10 #[.string (A.extract 0 256 ++ B.extract 256 512)] (.tuple #[.int .i64 0, .string ByteArray.empty, .int .i64 10]) (fun wx hSx => by go_simp) (fun wx hSx => (H.out.2.2.2.1 wx).mono fun e w' hh => ⟨hh.1, below_two hSx hh.2⟩) ?_
                simp only [Act.put, List.setIfInBounds_toArray, List.set_cons_zero, List.set_cons_succ]
                iterate 6
                  refine wpQuiet_read ?_
                  apply Exists.intro
                  refine ⟨⟨by rfl, fun wx hSx => ?_⟩, ?_⟩
                  · go_simp
                    with_reducible rfl
                  simp only [Act.put, List.setIfInBounds_toArray, List.set_cons_zero, List.set_cons_succ]
                refine wpQuiet_nil ?_
                intro w4 hb4
                have B4 := Lib.hid hb4; clear hb4 B3 hconv
                go_wp2_with fail
                refine (H.out.2.2.2.2.1 _).mono ?_
                rintro e w5 ⟨rfl, hb⟩
                have B5 := Lib.hid (below_two B4.out hb); clear hb B4
                go_wp2_with fail
                refine (H.out.2.2.2.2.2.1 _).mono ?_
                rintro e w6 ⟨rfl, hb⟩
                have B6 := Lib.hid (below_two B5.out hb); clear hb B5
                go_wp2_with fail
                refine wp_region_quiet_tail (C := fun w' => Below w.heap.size w w') 10 (by kernel_rfl) (by kernel_rfl) B6.out.drew ?_
                simp only [List.take_succ_cons, List.take_zero, List.drop_succ_cons, List.drop_zero]
                iterate 5
                  refine wpQuiet_read ?_
                  apply Exists.intro
                  refine ⟨⟨by rfl, fun wx hSx => ?_⟩, ?_⟩
                  · go_simp
                    with_reducible rfl
                  simp only [Act.put, List.setIfInBounds_toArray, List.set_cons_zero, List.set_cons_succ]
                refine wpQuiet_call rfl 12 #[.string (A.extract 0 256 ++ B.extract 256 512)] (.tuple #[.int .i64 n, .int .i64 m]) (fun wx hSx => by go_simp) (fun wx hSx => (H.out.2.2.2.2.2.2 wx).mono fun e w' hh => ⟨hh.1, by obtain ⟨k, rfl⟩ := hh.2; exact below_two hSx (below_drewN (Below.refl _ _) k)⟩) ?_
                simp only [Act.put, List.setIfInBounds_toArray, List.set_cons_zero, List.set_cons_succ]
                iterate 4
                  refine wpQuiet_read ?_
                  apply Exists.intro
                  refine ⟨⟨by rfl, fun wx hSx => ?_⟩, ?_⟩
                  · go_simp
                    with_reducible rfl
                  simp only [Act.put, List.setIfInBounds_toArray, List.set_cons_zero, List.set_cons_succ]
                refine wpQuiet_nil ?_
                intro w7 hb7
                have B7 := Lib.hid hb7; clear hb7 B6
                go_wp2_with fail
                refine (H.out.1 _).mono ?_
                rintro e w8 ⟨rfl, hb⟩
                have B8 := Lib.hid (below_two B7.out hb); clear hb B7
                go_wp2_with fail
                go_ret
                exact ⟨rfl, B8.out⟩
end Go.Proofs.Ytdcpfpefmndidaa
