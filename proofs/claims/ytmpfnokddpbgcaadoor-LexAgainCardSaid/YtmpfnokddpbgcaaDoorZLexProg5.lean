/-
  Layer 13, the program's: a mark; the first token of a text.
-/
import Derived.Test.YtmpfnokddpbgcaaDoorZLexProg4
namespace Go.Proofs.YtmpfnokddpbgcaaDoor
open Go.RowKit
theorem mark_world (s : ByteArray) (w : World) :
    (((w.alloc (.cells #[.string s] 9)).alloc (.cells (tokC Lx.no) 33)).alloc (.cells marksV.toArray 9)).cell? ⟨w.heap.size, 0, none⟩ = some (.string s) ∧
    RowV (((w.alloc (.cells #[.string s] 9)).alloc (.cells (tokC Lx.no) 33)).alloc (.cells marksV.toArray 9)) (w.heap.size + 1) 33 (tokC Lx.no).toList ∧
    RowV (((w.alloc (.cells #[.string s] 9)).alloc (.cells (tokC Lx.no) 33)).alloc (.cells marksV.toArray 9)) (w.heap.size + 2) 9 marksV ∧
    Below w.heap.size w (((w.alloc (.cells #[.string s] 9)).alloc (.cells (tokC Lx.no) 33)).alloc (.cells marksV.toArray 9)) := by
  have s1 : (w.alloc (.cells #[.string s] 9)).heap.size = w.heap.size + 1 := World.size_alloc _ _
  have s2 : ((w.alloc (.cells #[.string s] 9)).alloc (.cells (tokC Lx.no) 33)).heap.size = w.heap.size + 2 := by rw [World.size_alloc, s1]
  have r1 : RowV (w.alloc (.cells #[.string s] 9)) w.heap.size 9 [.string s] := rowV_new w _ [.string s]
  have r2 := (tok_new Lx.no (w.alloc (.cells #[.string s] 9))).1
  have r3 := rowV_new ((w.alloc (.cells #[.string s] 9)).alloc (.cells (tokC Lx.no) 33)) 9 marksV
  rw [s1] at r2
  rw [s2] at r3
  exact ⟨rowV_cell (rowV_alloc (rowV_alloc r1 _) _) 0, rowV_alloc r2 _, r3, (((Below.refl w.heap.size w).alloc (Nat.le_refl _) _).alloc (by rw [s1]; omega) _).alloc (by rw [s2]; omega) _⟩
set_option maxRecDepth 100000 in
set_option maxHeartbeats 6400000 in
theorem mark13_any (s : ByteArray) (w : World) :
    Calls Tryd.prog 32 #[.string s] w fun e w' => e = .returned (.tuple #[tokV (Lx.markT s.data.toList).1, .int .i64 ((Lx.markT s.data.toList).2.1 : Nat), .int .i64 (Lx.markT s.data.toList).2.2]) ∧ Below w.heap.size w w' := by
  obtain ⟨c0, ra, rm, hb⟩ := mark_world s w
  have s1 : (w.alloc (.cells #[.string s] 9)).heap.size = w.heap.size + 1 := World.size_alloc _ _
  have s2 : ((w.alloc (.cells #[.string s] 9)).alloc (.cells (tokC Lx.no) 33)).heap.size = w.heap.size + 2 := by rw [World.size_alloc, s1]
  have cM := marks13_any ((w.alloc (.cells #[.string s] 9)).alloc (.cells (tokC Lx.no) 33))
  rw [s2] at cM
  have cI := index13_any s w.heap.size (w.heap.size + 2) _ c0 rm
  generalize hwq : ((w.alloc (.cells #[.string s] 9)).alloc (.cells (tokC Lx.no) 33)).alloc (.cells marksV.toArray 9) = wq at *
  have H := Lib.hid (And.intro cM (And.intro cI (And.intro ra (And.intro hb rm))))
  clear cM cI hwq s1 s2 c0 ra rm hb
  go_enter Tryd.func32, Tryd.ntmps32
  go_wp2_with fail
  refine H.out.1.mono ?_
  rintro e w1 ⟨rfl, rfl⟩
  go_wp2_with fail
  refine H.out.2.1.mono ?_
  rintro e w2 ⟨hw2, hr⟩
  obtain rfl := hw2.symm; clear hw2
  rcases hr with ⟨k, hkl, rfl, hN, hP⟩ | ⟨rfl, hN⟩
  · have hp := noMark_hit hN hkl hP
    have hcq := marks_cell H.out.2.2.2.2 k hkl
    have hk16 : k < 16 := hkl
    have hp2 : Lx.markT s.data.toList = (⟨4, Lx.mk (Lx.marks[k]'hkl), 0, 0⟩, (Lx.mk (Lx.marks[k]'hkl)).size, 0) := hp.trans (by rw [mk_size])
    clear hp
    have HP := Lib.hid hp2
    generalize Lx.mk (Lx.marks[k]'hkl) = X at *
    clear hN hP hkl hp2
    have hra : RowV w1 (w.heap.size + 1) 33 (tokC Lx.no).toList := H.out.2.2.1
    have ra : RowV w1.drew (w.heap.size + 1) 33 (tokC Lx.no).toList := hra
    have hb := H.out.2.2.2.1
    go_wp2_with fail
    refine wp_region_plan (S := fun wx => wx.cell? ⟨w.heap.size + 2, k, none⟩ = some (.string X)) 11 [(true, 0), (true, 1), (true, 2), (true, 3), (true, 4), (true, 5), (true, 6), (true, 7), (true, 8), (true, 9), (false, 10)] (by kernel_rfl) (fun _ d _ _ _ h => by cases d <;> exact h) (by kernel_rfl) hcq ?_
    refine wpPlan_step (i := 0) rfl ?_
    apply Exists.intro
    refine ⟨⟨by rfl, fun wx hSx => ?_⟩, ?_⟩
    · obtain hcx := hSx
      go_simp
      with_reducible rfl
    simp only [Act.put, List.setIfInBounds_toArray, List.set_cons_zero, List.set_cons_succ]
    refine wpPlan_step (i := 1) rfl ?_
    apply Exists.intro
    refine ⟨⟨by rfl, fun wx hSx => ?_⟩, ?_⟩
    · obtain hcx := hSx
      go_simp
      with_reducible rfl
    simp only [Act.put, List.setIfInBounds_toArray, List.set_cons_zero, List.set_cons_succ]
    refine wpPlan_step (i := 2) rfl ⟨(.pointer (some ⟨w.heap.size + 2, k, none⟩)), ⟨by rfl, fun wx hSx => ?_⟩, ?_⟩
    · obtain hcx := hSx
      go_simp; try exact fun hx => absurd hx (by omega)
    simp only [Act.put, List.setIfInBounds_toArray, List.set_cons_zero, List.set_cons_succ]
    refine wpPlan_step (i := 3) rfl ⟨(.string X), ⟨by rfl, fun wx hSx => ?_⟩, ?_⟩
    · obtain hcx := hSx
      go_simp
    simp only [Act.put, List.setIfInBounds_toArray, List.set_cons_zero, List.set_cons_succ]
    refine wpPlan_step (i := 4) rfl ⟨(.agg #[.int .i64 4, .string X, .int .i64 0, .int .i64 0]), ⟨by rfl, fun wx hSx => ?_⟩, ?_⟩
    · obtain hcx := hSx
      go_simp
    simp only [Act.put, List.setIfInBounds_toArray, List.set_cons_zero, List.set_cons_succ]
    refine wpPlan_step (i := 5) rfl ?_
    apply Exists.intro
    refine ⟨⟨by rfl, fun wx hSx => ?_⟩, ?_⟩
    · obtain hcx := hSx
      go_simp
      with_reducible rfl
    simp only [Act.put, List.setIfInBounds_toArray, List.set_cons_zero, List.set_cons_succ]
    refine wpPlan_step (i := 6) rfl ?_
    apply Exists.intro
    refine ⟨⟨by rfl, fun wx hSx => ?_⟩, ?_⟩
    · obtain hcx := hSx
      go_simp
      with_reducible rfl
    simp only [Act.put, List.setIfInBounds_toArray, List.set_cons_zero, List.set_cons_succ]
    refine wpPlan_step (i := 7) rfl ⟨(.pointer (some ⟨w.heap.size + 2, k, none⟩)), ⟨by rfl, fun wx hSx => ?_⟩, ?_⟩
    · obtain hcx := hSx
      go_simp; try exact fun hx => absurd hx (by omega)
    simp only [Act.put, List.setIfInBounds_toArray, List.set_cons_zero, List.set_cons_succ]
    refine wpPlan_step (i := 8) rfl ⟨(.string X), ⟨by rfl, fun wx hSx => ?_⟩, ?_⟩
    · obtain hcx := hSx
      go_simp
    simp only [Act.put, List.setIfInBounds_toArray, List.set_cons_zero, List.set_cons_succ]
    refine wpPlan_step (i := 9) rfl ⟨(.int .i64 (X.size : Int)), ⟨by rfl, fun wx hSx => ?_⟩, ?_⟩
    · obtain hcx := hSx
      go_simp
    simp only [Act.put, List.setIfInBounds_toArray, List.set_cons_zero, List.set_cons_succ]
    have r4 := rowV_row ra [.int .i64 4, .string X, .int .i64 0, .int .i64 0]
    have o4 : Only (fun j => j = w.heap.size + 1) w1.drew (w1.drew.setRow (w.heap.size + 1) [.int .i64 4, .string X, .int .i64 0, .int .i64 0].toArray) := ⟨rfl, rfl, rfl, by simp [World.setRow], fun j _ hj => setRow_far _ _ j _ hj⟩
    refine wpPlan_keep (i := 10) rfl (by rfl) fun K hK => wp_store_row 33 (.tmp 2) (.tmp 18) rfl (w.heap.size + 1) #[.int .i64 4, .string X, .int .i64 0, .int .i64 0] rfl rfl 33 _ ra info_tok rfl tok_one4 (hK _ _ ((o4.cell (World.block_lt_of_cell? _ _ hcq) (by show ¬ w.heap.size + 2 = w.heap.size + 1; omega)).trans hcq) ?_)
    simp only [Act.put]
    have hb4 := Lib.hid ((hb.trans (Below.refl w.heap.size w1).drew).trans ((o4.below (B := w.heap.size) (fun j _ e => by omega) (by have := rowV_lt ra; omega))))
    have HR4 := Lib.hid r4
    clear hra ra hb r4 o4
    show wpList _ _ _ _ _ _
    simp only [List.drop_succ_cons, List.drop_zero]
    go_wp2_with fail
    rw [HP.out]
    exact bodyPost_ret (v := .tuple #[tokV ⟨4, X, 0, 0⟩, .int .i64 (X.size : Int), .int .i64 0]) (results_tok (p := 2) (u := 3) (x := 4) rfl _ _ (w.heap.size + 1) ⟨4, X, 0, 0⟩ rfl HR4.out) rfl ⟨rfl, hb4.out⟩
  · have HE := Lib.hid (noMark_end hN)
    obtain ⟨a0, a1, a2, a3, g0, g1, g2, g3⟩ := tok_cells H.out.2.2.1
    clear hN
    go_wp2_with fail
    rw [HE.out]
    refine bodyPost_ret (v := .tuple #[tokV Lx.no, .int .i64 0, .int .i64 11]) (results_tok (p := 2) (u := 3) (x := 4) rfl _ _ (w.heap.size + 1) Lx.no rfl (tok_put (v := Lx.no) H.out.2.2.1 0 Vl.mt 0 0).1) rfl ⟨rfl, ?_⟩
    exact H.out.2.2.2.1.trans ((tok_put (v := Lx.no) H.out.2.2.1 0 Vl.mt 0 0).2 _ (Nat.le_succ _))
theorem one_mt : Lx.one [] = (Lx.no, 0, 11) := rfl
set_option maxRecDepth 100000 in
set_option maxHeartbeats 6400000 in
theorem first13_any (s : ByteArray) (w : World) (hs : s.size ≤ 1000000) (hE : ErrR w) :
    Calls Tryd.prog 17 #[.string s] w fun e w' => e = .returned (.tuple #[tokV (Lx.one s.data.toList).1, .int .i64 ((Lx.one s.data.toList).2.1 : Nat), .int .i64 (Lx.one s.data.toList).2.2]) ∧ Below w.heap.size w w' := by
  obtain ⟨r0, b0, s0⟩ := tok_new Lx.no w
  have hE1 := errR_below hE b0
  clear hE
  by_cases h0 : 0 < s.size
  · have hone := Lx.one_cons s[0] (s.data.toList.drop 1)
    rw [← drop_next s 0 h0, List.drop_zero] at hone
    rw [hone]
    clear hone
    have e0 : (s.toList == []) = false := by
      have hl : s.toList.length = s.size := by rw [ByteArray.toList_eq, Array.length_toList]; rfl
      cases hh : s.toList with
      | nil => rw [hh] at hl; simp at hl; omega
      | cons a l => rfl
    have e1 : s.toList.isEmpty = false := by simpa using e0
    clear e0
    have cL := fun w => letter13_any s[0] w
    have cD := fun w => digit13_any s[0] w
    have hsm : s.size ≤ maxLen := by unfold maxLen; omega
    cases hL : Lx.letter s[0] with
    | true =>
      rw [hL] at cL
      rw [if_pos rfl]
      have cN := fun w => name13_any s w hsm h0 hL
      generalize (Lx.nameT s.data.toList).2.1 = N at *
      generalize (Lx.nameT s.data.toList).2.2 = E at *
      generalize (Lx.nameT s.data.toList).1 = V at *
      have H := Lib.hid (And.intro (And.intro cL cN) (And.intro r0 (And.intro b0 s0)))
      clear cL cD cN r0 b0 s0 hL hsm hE1
      go_enter Tryd.func17, Tryd.ntmps17
      go_wp2_with (first | (go_at_call 27; refine (H.out.1.1 _).mono ?_; rintro e w1 ⟨rfl, rfl⟩))
      refine (H.out.1.2 _).mono ?_
      rintro e w2 ⟨rfl, hb2⟩
      have ra := rowV_below H.out.2.1 hb2 (by rw [World.size_alloc]; omega)
      have hb := H.out.2.2.1.trans (hb2.mono (by rw [World.size_alloc]; omega))
      obtain ⟨tk, ts, tn, ta⟩ := V
      obtain ⟨a0, a1, a2, a3, g0, g1, g2, g3⟩ := tok_cells ra
      have L := Lib.hid (And.intro ra hb)
      clear ra hb hb2
      go_wp2_with fail
      refine bodyPost_ret (v := .tuple #[tokV ⟨tk, ts, tn, ta⟩, .int .i64 (N : Int), .int .i64 E]) (results_tok (p := 2) (u := 3) (x := 4) rfl _ _ w.heap.size ⟨tk, ts, tn, ta⟩ rfl (tok_put (v := Lx.no) L.out.1 tk ts tn ta).1) rfl ⟨rfl, ?_⟩
      exact L.out.2.trans ((tok_put L.out.1 tk ts tn ta).2 _ (Nat.le_refl _))
    | false =>
      rw [hL] at cL
      rw [if_neg (by simp)]
      cases hD : Lx.digit s[0] with
      | true =>
        rw [hD] at cD
        rw [if_pos rfl]
        have cN := number13_any s (w.alloc (.cells (tokC Lx.no) 33)) hs h0 hD hE1
        generalize (Lx.numT s.data.toList).2.1 = N at *
        generalize (Lx.numT s.data.toList).2.2 = E at *
        generalize (Lx.numT s.data.toList).1 = V at *
        have H := Lib.hid (And.intro (And.intro cL (And.intro cD cN)) (And.intro r0 (And.intro b0 s0)))
        clear cL cD cN r0 b0 s0 hL hsm hD hE1
        go_enter Tryd.func17, Tryd.ntmps17
        go_wp2_with (first | (go_at_call 27; refine (H.out.1.1 _).mono ?_; rintro e w1 ⟨rfl, rfl⟩) | (go_at_call 29; refine (H.out.1.2.1 _).mono ?_; rintro e w1 ⟨rfl, rfl⟩))
        refine H.out.1.2.2.mono ?_
        rintro e w2 ⟨rfl, hb2⟩
        have ra := rowV_below H.out.2.1 hb2 (by rw [World.size_alloc]; omega)
        have hb := H.out.2.2.1.trans (hb2.mono (by rw [World.size_alloc]; omega))
        obtain ⟨tk, ts, tn, ta⟩ := V
        obtain ⟨a0, a1, a2, a3, g0, g1, g2, g3⟩ := tok_cells ra
        have L := Lib.hid (And.intro ra hb)
        clear ra hb hb2
        go_wp2_with fail
        refine bodyPost_ret (v := .tuple #[tokV ⟨tk, ts, tn, ta⟩, .int .i64 (N : Int), .int .i64 E]) (results_tok (p := 2) (u := 3) (x := 4) rfl _ _ w.heap.size ⟨tk, ts, tn, ta⟩ rfl (tok_put (v := Lx.no) L.out.1 tk ts tn ta).1) rfl ⟨rfl, ?_⟩
        exact L.out.2.trans ((tok_put L.out.1 tk ts tn ta).2 _ (Nat.le_refl _))
      | false =>
        rw [hD] at cD
        rw [if_neg (by simp)]
        by_cases h34 : s[0] = 34
        · rw [if_pos h34]
          have t1 : ((s[0].toNat : Int) == 34) = true := by rw [h34]; rfl
          have cN := fun w => text13_any s w hs
          generalize (Lx.txtT s.data.toList).2.1 = N at *
          generalize (Lx.txtT s.data.toList).2.2 = E at *
          generalize (Lx.txtT s.data.toList).1 = V at *
          have H := Lib.hid (And.intro (And.intro cL (And.intro cD cN)) (And.intro r0 (And.intro b0 s0)))
          clear cL cD cN r0 b0 s0 hL hsm hD h34 hE1
          go_enter Tryd.func17, Tryd.ntmps17
          go_wp2_with (first | (go_at_call 27; refine (H.out.1.1 _).mono ?_; rintro e w1 ⟨rfl, rfl⟩) | (go_at_call 29; refine (H.out.1.2.1 _).mono ?_; rintro e w1 ⟨rfl, rfl⟩))
          refine (H.out.1.2.2 _).mono ?_
          rintro e w2 ⟨rfl, hb2⟩
          have ra := rowV_below H.out.2.1 hb2 (by rw [World.size_alloc]; omega)
          have hb := H.out.2.2.1.trans (hb2.mono (by rw [World.size_alloc]; omega))
          obtain ⟨tk, ts, tn, ta⟩ := V
          obtain ⟨a0, a1, a2, a3, g0, g1, g2, g3⟩ := tok_cells ra
          have L := Lib.hid (And.intro ra hb)
          clear ra hb hb2
          go_wp2_with fail
          refine bodyPost_ret (v := .tuple #[tokV ⟨tk, ts, tn, ta⟩, .int .i64 (N : Int), .int .i64 E]) (results_tok (p := 2) (u := 3) (x := 4) rfl _ _ w.heap.size ⟨tk, ts, tn, ta⟩ rfl (tok_put (v := Lx.no) L.out.1 tk ts tn ta).1) rfl ⟨rfl, ?_⟩
          exact L.out.2.trans ((tok_put L.out.1 tk ts tn ta).2 _ (Nat.le_refl _))
        · rw [if_neg h34]
          have t1 : ((s[0].toNat : Int) == 34) = false := by
            have : ¬ s[0].toNat = 34 := fun e => h34 (UInt8.toNat_inj.1 e)
            simp; omega
          have cN := fun w => mark13_any s w
          generalize (Lx.markT s.data.toList).2.1 = N at *
          generalize (Lx.markT s.data.toList).2.2 = E at *
          generalize (Lx.markT s.data.toList).1 = V at *
          have H := Lib.hid (And.intro (And.intro cL (And.intro cD cN)) (And.intro r0 (And.intro b0 s0)))
          clear cL cD cN r0 b0 s0 hL hsm hD h34 hE1
          go_enter Tryd.func17, Tryd.ntmps17
          go_wp2_with (first | (go_at_call 27; refine (H.out.1.1 _).mono ?_; rintro e w1 ⟨rfl, rfl⟩) | (go_at_call 29; refine (H.out.1.2.1 _).mono ?_; rintro e w1 ⟨rfl, rfl⟩))
          refine (H.out.1.2.2 _).mono ?_
          rintro e w2 ⟨rfl, hb2⟩
          have ra := rowV_below H.out.2.1 hb2 (by rw [World.size_alloc]; omega)
          have hb := H.out.2.2.1.trans (hb2.mono (by rw [World.size_alloc]; omega))
          obtain ⟨tk, ts, tn, ta⟩ := V
          obtain ⟨a0, a1, a2, a3, g0, g1, g2, g3⟩ := tok_cells ra
          have L := Lib.hid (And.intro ra hb)
          clear ra hb hb2
          go_wp2_with fail
          refine bodyPost_ret (v := .tuple #[tokV ⟨tk, ts, tn, ta⟩, .int .i64 (N : Int), .int .i64 E]) (results_tok (p := 2) (u := 3) (x := 4) rfl _ _ w.heap.size ⟨tk, ts, tn, ta⟩ rfl (tok_put (v := Lx.no) L.out.1 tk ts tn ta).1) rfl ⟨rfl, ?_⟩
          exact L.out.2.trans ((tok_put L.out.1 tk ts tn ta).2 _ (Nat.le_refl _))
  · have hm : s = Vl.mt := by
      apply Sl.ba_ext
      exact List.eq_nil_of_length_eq_zero (by rw [Array.length_toList]; show s.size = 0; omega)
    subst hm
    have H := Lib.hid (And.intro r0 b0)
    clear r0 b0 s0 hE1
    go_enter Tryd.func17, Tryd.ntmps17
    go_wp2_with fail
    exact bodyPost_ret (v := .tuple #[tokV Lx.no, .int .i64 0, .int .i64 11]) (results_tok (p := 2) (u := 3) (x := 4) rfl _ _ w.heap.size Lx.no rfl H.out.1) rfl ⟨rfl, H.out.2⟩
end Go.Proofs.YtmpfnokddpbgcaaDoor
