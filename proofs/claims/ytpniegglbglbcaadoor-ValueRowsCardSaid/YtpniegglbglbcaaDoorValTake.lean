/-
  Layer 12: a value off the front, the program's and the document's.
-/
import Derived.Test.YtpniegglbglbcaaDoorValPart
namespace Go.Proofs.YtpniegglbglbcaaDoor
open Go.RowKit
set_option maxRecDepth 100000 in
set_option maxHeartbeats 3200000 in
theorem take12_any (s : ByteArray) (w : World) (hs : s.size ≤ maxLen) :
    Calls Tryd.prog 15 #[.string s] w fun e w' => e = .returned (.tuple #[valV (Vl.take s).1, .string (Vl.take s).2.1, .int .i64 (Vl.take s).2.2]) ∧ Below w.heap.size w w' := by
  have h1 := fun w => parts12_any s w hs
  have h2 := fun w => right12_any (Vl.parts s).1 w
  have hT := Vl.take_parts s
  obtain ⟨r0, b0, s0⟩ := val_new Vl.no w
  have HB := Lib.hid (And.intro r0 (And.intro b0 s0))
  clear r0 b0 s0
  by_cases e1 : (Vl.parts s).2.2 = 0
  · by_cases hr : Vl.right (Vl.parts s).1
    · rw [if_neg (fun x => x e1), if_pos hr] at hT
      rw [hT]
      rw [decide_eq_true hr] at h2
      rw [e1] at h1 ⊢
      clear hT e1 hr hs
      generalize (Vl.parts s).1 = v at *
      generalize (Vl.parts s).2.1 = R at *
      obtain ⟨k, n, x⟩ := v
      have H := Lib.hid (And.intro h1 h2)
      clear h1 h2
      go_enter Tryd.func15, Tryd.ntmps15
      go_wp2_with fail
      refine (H.out.1 _).mono ?_
      rintro e w1 ⟨rfl, hb1⟩
      have ra := rowV_below HB.out.1 hb1 (by rw [World.size_alloc]; omega)
      have hb := HB.out.2.1.trans (hb1.mono (by rw [World.size_alloc]; omega))
      have hlt : w.heap.size < w1.heap.size := rowV_lt ra
      have ra2 := rowV_alloc ra (.cells (valC ⟨k, n, x⟩) 24)
      have hb2 := hb.alloc hb.size (.cells (valC ⟨k, n, x⟩) 24)
      have hcb := fun (w2 : World) (hb : Below (w1.alloc (.cells (valC ⟨k, n, x⟩) 24)).heap.size (w1.alloc (.cells (valC ⟨k, n, x⟩) 24)) w2) => box12_at ⟨k, n, x⟩ hb
      have L1 := Lib.hid (And.intro ra (And.intro hb hcb))
      clear ra hb hb1 ra2 hb2 hcb
      go_wp2_with fail
      refine (H.out.2 _).mono ?_
      rintro e w2 ⟨rfl, hb2⟩
      obtain ⟨c0, c1, c2, hbb⟩ := L1.out.2.2 w2 hb2
      have ra := rowV_below L1.out.1 hbb hlt
      have hb := L1.out.2.1.trans (hbb.mono (Nat.le_of_lt hlt))
      obtain ⟨a0, a1, a2, g0, g1, g2⟩ := val_cells ra
      have L := Lib.hid (And.intro ra hb)
      clear ra hb hb2 hbb
      go_wp2_with fail
      refine bodyPost_ret (v := .tuple #[valV ⟨k, n, x⟩, .string R, .int .i64 0]) (results_val (p := 2) (u := 3) (x := 4) rfl _ _ w.heap.size ⟨k, n, x⟩ rfl (val_put (v := Vl.no) L.out.1 k n x).1) rfl ⟨rfl, ?_⟩
      exact L.out.2.trans ((val_put L.out.1 k n x).2 _ (Nat.le_refl _))
    · rw [if_neg (fun x => x e1), if_neg hr] at hT
      rw [hT]
      rw [decide_eq_false hr] at h2
      rw [e1] at h1
      clear hT e1 hr hs
      generalize (Vl.parts s).1 = v at *
      generalize (Vl.parts s).2.1 = R at *
      obtain ⟨k, n, x⟩ := v
      have H := Lib.hid (And.intro h1 h2)
      clear h1 h2
      go_enter Tryd.func15, Tryd.ntmps15
      go_wp2_with fail
      refine (H.out.1 _).mono ?_
      rintro e w1 ⟨rfl, hb1⟩
      have ra := rowV_below HB.out.1 hb1 (by rw [World.size_alloc]; omega)
      have hb := HB.out.2.1.trans (hb1.mono (by rw [World.size_alloc]; omega))
      have hlt : w.heap.size < w1.heap.size := rowV_lt ra
      have ra2 := rowV_alloc ra (.cells (valC ⟨k, n, x⟩) 24)
      have hb2 := hb.alloc hb.size (.cells (valC ⟨k, n, x⟩) 24)
      have hcb := fun (w2 : World) (hb : Below (w1.alloc (.cells (valC ⟨k, n, x⟩) 24)).heap.size (w1.alloc (.cells (valC ⟨k, n, x⟩) 24)) w2) => box12_at ⟨k, n, x⟩ hb
      have L1 := Lib.hid (And.intro ra (And.intro hb hcb))
      clear ra hb hb1 ra2 hb2 hcb
      go_wp2_with fail
      refine (H.out.2 _).mono ?_
      rintro e w2 ⟨rfl, hb2⟩
      obtain ⟨c0, c1, c2, hbb⟩ := L1.out.2.2 w2 hb2
      have ra := rowV_below L1.out.1 hbb hlt
      have hb := L1.out.2.1.trans (hbb.mono (Nat.le_of_lt hlt))
      obtain ⟨a0, a1, a2, g0, g1, g2⟩ := val_cells ra
      have L := Lib.hid (And.intro ra hb)
      clear ra hb hb2 hbb
      go_wp2_with fail
      refine bodyPost_ret (v := .tuple #[valV Vl.no, .string Vl.mt, .int .i64 4]) (results_val (p := 2) (u := 3) (x := 4) rfl _ _ w.heap.size Vl.no rfl (val_put (v := Vl.no) L.out.1 0 0 Vl.mt).1) rfl ⟨rfl, ?_⟩
      exact L.out.2.trans ((val_put L.out.1 0 0 Vl.mt).2 _ (Nat.le_refl _))
  · rw [if_pos e1] at hT
    rw [hT]
    have q1 : ((Vl.parts s).2.2 != 0) = true := by simpa using e1
    clear hT e1 hs
    generalize (Vl.parts s).1 = v at *
    generalize (Vl.parts s).2.1 = R at *
    generalize (Vl.parts s).2.2 = E1 at *
    obtain ⟨k, n, x⟩ := v
    have H := Lib.hid h1
    clear h1 h2
    go_enter Tryd.func15, Tryd.ntmps15
    go_wp2_with fail
    refine (H.out _).mono ?_
    rintro e w1 ⟨rfl, hb1⟩
    have ra := rowV_below HB.out.1 hb1 (by rw [World.size_alloc]; omega)
    have hb := HB.out.2.1.trans (hb1.mono (by rw [World.size_alloc]; omega))
    have ra2 := rowV_alloc ra (.cells (valC ⟨k, n, x⟩) 24)
    have hb2 := hb.alloc hb.size (.cells (valC ⟨k, n, x⟩) 24)
    obtain ⟨a0, a1, a2, g0, g1, g2⟩ := val_cells ra2
    have L := Lib.hid (And.intro ra2 hb2)
    clear ra hb hb1 ra2 hb2
    go_wp2_with fail
    refine bodyPost_ret (v := .tuple #[valV Vl.no, .string Vl.mt, .int .i64 E1]) (results_val (p := 2) (u := 3) (x := 4) rfl _ _ w.heap.size Vl.no rfl (val_put (v := Vl.no) L.out.1 0 0 Vl.mt).1) rfl ⟨rfl, ?_⟩
    exact L.out.2.trans ((val_put L.out.1 0 0 Vl.mt).2 _ (Nat.le_refl _))
theorem parts_size (s : ByteArray) (hs : s.size ≤ maxLen) : (Vl.parts s).1.s.size ≤ maxLen := by
  unfold Vl.parts
  split
  · exact Nat.zero_le _
  · split
    · exact Nat.zero_le _
    · split
      · have z1 := tR12_size s
        show (Oct.txt (Oct.tR s) 40).1.size ≤ maxLen
        rcases Oct.txt_cases (Oct.tR s) 40 with ⟨e, _, h⟩ | ⟨a, r, h, _, h2⟩
        · rw [h]; exact Nat.zero_le _
        · rw [h]; show a.size ≤ maxLen; omega
      · exact Nat.zero_le _
/-! the document's -/
set_option maxRecDepth 100000 in
set_option maxHeartbeats 6400000 in
theorem rtake12_any (s : ByteArray) (w : World) (hs : s.size ≤ maxLen) :
    Calls Tryd.prog 16 #[.string s] w fun e w' => e = .returned (.tuple #[valV (Vl.take s).1, .string (Vl.take s).2.1, .int .i64 (Vl.take s).2.2]) ∧ Below w.heap.size w w' := by
  have z1 := tR12_size s
  have h1 := fun w => rtakeNum_any s w hs
  have h2 := fun w => rtakeNum_any (Oct.tR s) w (by omega)
  have h3 := fun w => rtakeText_any (Oct.tR s) 40 w (by omega)
  have hR := fun w => rright12_any (Vl.parts s).1 w (parts_size s (by omega))
  obtain ⟨r0, b0, s0⟩ := val_new Vl.no w
  have HB := Lib.hid (And.intro r0 (And.intro b0 s0))
  clear r0 b0 s0 z1
  rw [Vl.take_parts]
  by_cases e1 : Oct.tE s = 0
  · by_cases k13 : Oct.tN s = 1 ∨ Oct.tN s = 3
    · rw [Vl.parts_num e1 k13] at hR ⊢
      simp only at hR ⊢
      generalize Oct.tE (Oct.tR s) = E2 at *
      generalize Oct.tN (Oct.tR s) = N2 at *
      generalize Oct.tR (Oct.tR s) = R2 at *
      generalize Oct.tR s = R1 at *
      rw [e1] at h1
      clear e1 hs
      generalize Oct.tN s = K at *
      rcases k13 with rfl | rfl
      · by_cases q2 : E2 = 0
        · subst q2
          by_cases hr : Vl.right ⟨1, N2, Vl.mt⟩
          · rw [decide_eq_true hr] at hR
            rw [if_neg (by simp), if_pos hr]
            simp only
            clear hr
            have H := Lib.hid (And.intro h1 (And.intro h2 (And.intro h3 hR)))
            clear h1 h2 h3 hR
            go_enter Tryd.func16, Tryd.ntmps16
            go_wp2_with fail
            refine (H.out.1 _).mono ?_
            rintro e _ ⟨rfl, n0, rfl⟩
            go_wp2_with fail
            refine (H.out.2.1 _).mono ?_
            rintro e _ ⟨rfl, n1, rfl⟩
            generalize hwa : World.drewN (World.alloc (World.drewN _ _) _) _ = w2 at *
            obtain ⟨rb, ra, hb, hl⟩ := val_two w Vl.no ⟨1, 0, Vl.mt⟩ n0 n1 (w2 := w2) hwa.symm
            obtain ⟨c0, c1, c2, d0, d1, d2⟩ := val_cells rb
            have raf := rowV_far (i := 1) ra (show w.heap.size ≠ w.heap.size + 1 by omega) (.int .i64 N2)
            have rbf := rowV_stored rb 1 (.int .i64 N2)
            have hbf := hb.setCell (p := ⟨w.heap.size + 1, 1, none⟩) (by show w.heap.size ≤ w.heap.size + 1; omega) (.int .i64 N2)
            obtain ⟨a0, a1, a2, g0, g1, g2⟩ := val_cells raf
            have L := Lib.hid (And.intro raf (And.intro (show RowV _ _ _ (valC ⟨1, N2, Vl.mt⟩).toList from rbf) hbf))
            clear ra rb hb hwa raf hbf rbf
            go_wp2_with fail
            refine (H.out.2.2.2 _).mono ?_
            rintro e w3 ⟨rfl, hb3⟩
            generalize hws : World.setCell w2 _ _ = ws at *
            have hls : w.heap.size + 1 < ws.heap.size := rowV_lt L.out.2.1
            have ra := rowV_below L.out.1 hb3 (Nat.lt_of_succ_lt hls)
            have rb := rowV_below L.out.2.1 hb3 hls
            have hb := L.out.2.2.trans (hb3.mono (Nat.le_of_lt (Nat.lt_of_succ_lt hls)))
            obtain ⟨a0, a1, a2, g0, g1, g2⟩ := val_cells ra
            obtain ⟨c0, c1, c2, d0, d1, d2⟩ := val_cells (v := ⟨1, N2, Vl.mt⟩) rb
            have L3 := Lib.hid (And.intro ra hb)
            clear ra rb hb hb3
            go_wp2_with fail
            refine bodyPost_ret (v := .tuple #[valV ⟨1, N2, Vl.mt⟩, .string R2, .int .i64 0]) (results_val (p := 2) (u := 3) (x := 4) rfl _ _ w.heap.size ⟨1, N2, Vl.mt⟩ rfl (val_put (v := Vl.no) L3.out.1 1 N2 Vl.mt).1) rfl ⟨rfl, ?_⟩
            exact L3.out.2.trans ((val_put L3.out.1 1 N2 Vl.mt).2 _ (Nat.le_refl _))
          · rw [decide_eq_false hr] at hR
            rw [if_neg (by simp), if_neg hr]
            simp only [Vl.no]
            clear hr
            have H := Lib.hid (And.intro h1 (And.intro h2 (And.intro h3 hR)))
            clear h1 h2 h3 hR
            go_enter Tryd.func16, Tryd.ntmps16
            go_wp2_with fail
            refine (H.out.1 _).mono ?_
            rintro e _ ⟨rfl, n0, rfl⟩
            go_wp2_with fail
            refine (H.out.2.1 _).mono ?_
            rintro e _ ⟨rfl, n1, rfl⟩
            generalize hwa : World.drewN (World.alloc (World.drewN _ _) _) _ = w2 at *
            obtain ⟨rb, ra, hb, hl⟩ := val_two w Vl.no ⟨1, 0, Vl.mt⟩ n0 n1 (w2 := w2) hwa.symm
            obtain ⟨c0, c1, c2, d0, d1, d2⟩ := val_cells rb
            have raf := rowV_far (i := 1) ra (show w.heap.size ≠ w.heap.size + 1 by omega) (.int .i64 N2)
            have rbf := rowV_stored rb 1 (.int .i64 N2)
            have hbf := hb.setCell (p := ⟨w.heap.size + 1, 1, none⟩) (by show w.heap.size ≤ w.heap.size + 1; omega) (.int .i64 N2)
            obtain ⟨a0, a1, a2, g0, g1, g2⟩ := val_cells raf
            have L := Lib.hid (And.intro raf (And.intro (show RowV _ _ _ (valC ⟨1, N2, Vl.mt⟩).toList from rbf) hbf))
            clear ra rb hb hwa raf hbf rbf
            go_wp2_with fail
            refine (H.out.2.2.2 _).mono ?_
            rintro e w3 ⟨rfl, hb3⟩
            generalize hws : World.setCell w2 _ _ = ws at *
            have hls : w.heap.size + 1 < ws.heap.size := rowV_lt L.out.2.1
            have ra := rowV_below L.out.1 hb3 (Nat.lt_of_succ_lt hls)
            have rb := rowV_below L.out.2.1 hb3 hls
            have hb := L.out.2.2.trans (hb3.mono (Nat.le_of_lt (Nat.lt_of_succ_lt hls)))
            obtain ⟨a0, a1, a2, g0, g1, g2⟩ := val_cells ra
            obtain ⟨c0, c1, c2, d0, d1, d2⟩ := val_cells (v := ⟨1, N2, Vl.mt⟩) rb
            have L3 := Lib.hid (And.intro ra hb)
            clear ra rb hb hb3
            go_wp2_with fail
            refine bodyPost_ret (v := .tuple #[valV ⟨0, 0, Vl.mt⟩, .string Vl.mt, .int .i64 4]) (results_val (p := 2) (u := 3) (x := 4) rfl _ _ w.heap.size ⟨0, 0, Vl.mt⟩ rfl (val_put (v := Vl.no) L3.out.1 0 0 Vl.mt).1) rfl ⟨rfl, ?_⟩
            exact L3.out.2.trans ((val_put L3.out.1 0 0 Vl.mt).2 _ (Nat.le_refl _))
        · rw [if_pos q2]
          have t2 : (E2 != 0) = true := by simpa using q2
          simp only
          clear q2
          have H := Lib.hid (And.intro h1 (And.intro h2 (And.intro h3 hR)))
          clear h1 h2 h3 hR
          go_enter Tryd.func16, Tryd.ntmps16
          go_wp2_with fail
          refine (H.out.1 _).mono ?_
          rintro e _ ⟨rfl, n0, rfl⟩
          go_wp2_with fail
          refine (H.out.2.1 _).mono ?_
          rintro e _ ⟨rfl, n1, rfl⟩
          generalize hwa : World.drewN (World.alloc (World.drewN _ _) _) _ = w2 at *
          obtain ⟨rb, ra, hb, hl⟩ := val_two w Vl.no ⟨1, 0, Vl.mt⟩ n0 n1 (w2 := w2) hwa.symm
          obtain ⟨c0, c1, c2, d0, d1, d2⟩ := val_cells rb
          have raf := rowV_far (i := 1) ra (show w.heap.size ≠ w.heap.size + 1 by omega) (.int .i64 N2)
          have rbf := rowV_stored rb 1 (.int .i64 N2)
          have hbf := hb.setCell (p := ⟨w.heap.size + 1, 1, none⟩) (by show w.heap.size ≤ w.heap.size + 1; omega) (.int .i64 N2)
          obtain ⟨a0, a1, a2, g0, g1, g2⟩ := val_cells raf
          have L := Lib.hid (And.intro raf (And.intro (show RowV _ _ _ (valC ⟨1, N2, Vl.mt⟩).toList from rbf) hbf))
          clear ra rb hb hwa raf hbf rbf
          go_wp2_with fail
          refine bodyPost_ret (v := .tuple #[valV Vl.no, .string Vl.mt, .int .i64 E2]) (results_val (p := 2) (u := 3) (x := 4) rfl _ _ w.heap.size Vl.no rfl (val_put (v := Vl.no) L.out.1 0 0 Vl.mt).1) rfl ⟨rfl, ?_⟩
          exact L.out.2.2.trans ((val_put L.out.1 0 0 Vl.mt).2 _ (Nat.le_refl _))
      · by_cases q2 : E2 = 0
        · subst q2
          by_cases hr : Vl.right ⟨3, N2, Vl.mt⟩
          · rw [decide_eq_true hr] at hR
            rw [if_neg (by simp), if_pos hr]
            simp only
            clear hr
            have H := Lib.hid (And.intro h1 (And.intro h2 (And.intro h3 hR)))
            clear h1 h2 h3 hR
            go_enter Tryd.func16, Tryd.ntmps16
            go_wp2_with fail
            refine (H.out.1 _).mono ?_
            rintro e _ ⟨rfl, n0, rfl⟩
            go_wp2_with fail
            refine (H.out.2.1 _).mono ?_
            rintro e _ ⟨rfl, n1, rfl⟩
            generalize hwa : World.drewN (World.alloc (World.drewN _ _) _) _ = w2 at *
            obtain ⟨rb, ra, hb, hl⟩ := val_two w Vl.no ⟨3, 0, Vl.mt⟩ n0 n1 (w2 := w2) hwa.symm
            obtain ⟨c0, c1, c2, d0, d1, d2⟩ := val_cells rb
            have raf := rowV_far (i := 1) ra (show w.heap.size ≠ w.heap.size + 1 by omega) (.int .i64 N2)
            have rbf := rowV_stored rb 1 (.int .i64 N2)
            have hbf := hb.setCell (p := ⟨w.heap.size + 1, 1, none⟩) (by show w.heap.size ≤ w.heap.size + 1; omega) (.int .i64 N2)
            obtain ⟨a0, a1, a2, g0, g1, g2⟩ := val_cells raf
            have L := Lib.hid (And.intro raf (And.intro (show RowV _ _ _ (valC ⟨3, N2, Vl.mt⟩).toList from rbf) hbf))
            clear ra rb hb hwa raf hbf rbf
            go_wp2_with fail
            refine (H.out.2.2.2 _).mono ?_
            rintro e w3 ⟨rfl, hb3⟩
            generalize hws : World.setCell w2 _ _ = ws at *
            have hls : w.heap.size + 1 < ws.heap.size := rowV_lt L.out.2.1
            have ra := rowV_below L.out.1 hb3 (Nat.lt_of_succ_lt hls)
            have rb := rowV_below L.out.2.1 hb3 hls
            have hb := L.out.2.2.trans (hb3.mono (Nat.le_of_lt (Nat.lt_of_succ_lt hls)))
            obtain ⟨a0, a1, a2, g0, g1, g2⟩ := val_cells ra
            obtain ⟨c0, c1, c2, d0, d1, d2⟩ := val_cells (v := ⟨3, N2, Vl.mt⟩) rb
            have L3 := Lib.hid (And.intro ra hb)
            clear ra rb hb hb3
            go_wp2_with fail
            refine bodyPost_ret (v := .tuple #[valV ⟨3, N2, Vl.mt⟩, .string R2, .int .i64 0]) (results_val (p := 2) (u := 3) (x := 4) rfl _ _ w.heap.size ⟨3, N2, Vl.mt⟩ rfl (val_put (v := Vl.no) L3.out.1 3 N2 Vl.mt).1) rfl ⟨rfl, ?_⟩
            exact L3.out.2.trans ((val_put L3.out.1 3 N2 Vl.mt).2 _ (Nat.le_refl _))
          · rw [decide_eq_false hr] at hR
            rw [if_neg (by simp), if_neg hr]
            simp only [Vl.no]
            clear hr
            have H := Lib.hid (And.intro h1 (And.intro h2 (And.intro h3 hR)))
            clear h1 h2 h3 hR
            go_enter Tryd.func16, Tryd.ntmps16
            go_wp2_with fail
            refine (H.out.1 _).mono ?_
            rintro e _ ⟨rfl, n0, rfl⟩
            go_wp2_with fail
            refine (H.out.2.1 _).mono ?_
            rintro e _ ⟨rfl, n1, rfl⟩
            generalize hwa : World.drewN (World.alloc (World.drewN _ _) _) _ = w2 at *
            obtain ⟨rb, ra, hb, hl⟩ := val_two w Vl.no ⟨3, 0, Vl.mt⟩ n0 n1 (w2 := w2) hwa.symm
            obtain ⟨c0, c1, c2, d0, d1, d2⟩ := val_cells rb
            have raf := rowV_far (i := 1) ra (show w.heap.size ≠ w.heap.size + 1 by omega) (.int .i64 N2)
            have rbf := rowV_stored rb 1 (.int .i64 N2)
            have hbf := hb.setCell (p := ⟨w.heap.size + 1, 1, none⟩) (by show w.heap.size ≤ w.heap.size + 1; omega) (.int .i64 N2)
            obtain ⟨a0, a1, a2, g0, g1, g2⟩ := val_cells raf
            have L := Lib.hid (And.intro raf (And.intro (show RowV _ _ _ (valC ⟨3, N2, Vl.mt⟩).toList from rbf) hbf))
            clear ra rb hb hwa raf hbf rbf
            go_wp2_with fail
            refine (H.out.2.2.2 _).mono ?_
            rintro e w3 ⟨rfl, hb3⟩
            generalize hws : World.setCell w2 _ _ = ws at *
            have hls : w.heap.size + 1 < ws.heap.size := rowV_lt L.out.2.1
            have ra := rowV_below L.out.1 hb3 (Nat.lt_of_succ_lt hls)
            have rb := rowV_below L.out.2.1 hb3 hls
            have hb := L.out.2.2.trans (hb3.mono (Nat.le_of_lt (Nat.lt_of_succ_lt hls)))
            obtain ⟨a0, a1, a2, g0, g1, g2⟩ := val_cells ra
            obtain ⟨c0, c1, c2, d0, d1, d2⟩ := val_cells (v := ⟨3, N2, Vl.mt⟩) rb
            have L3 := Lib.hid (And.intro ra hb)
            clear ra rb hb hb3
            go_wp2_with fail
            refine bodyPost_ret (v := .tuple #[valV ⟨0, 0, Vl.mt⟩, .string Vl.mt, .int .i64 4]) (results_val (p := 2) (u := 3) (x := 4) rfl _ _ w.heap.size ⟨0, 0, Vl.mt⟩ rfl (val_put (v := Vl.no) L3.out.1 0 0 Vl.mt).1) rfl ⟨rfl, ?_⟩
            exact L3.out.2.trans ((val_put L3.out.1 0 0 Vl.mt).2 _ (Nat.le_refl _))
        · rw [if_pos q2]
          have t2 : (E2 != 0) = true := by simpa using q2
          simp only
          clear q2
          have H := Lib.hid (And.intro h1 (And.intro h2 (And.intro h3 hR)))
          clear h1 h2 h3 hR
          go_enter Tryd.func16, Tryd.ntmps16
          go_wp2_with fail
          refine (H.out.1 _).mono ?_
          rintro e _ ⟨rfl, n0, rfl⟩
          go_wp2_with fail
          refine (H.out.2.1 _).mono ?_
          rintro e _ ⟨rfl, n1, rfl⟩
          generalize hwa : World.drewN (World.alloc (World.drewN _ _) _) _ = w2 at *
          obtain ⟨rb, ra, hb, hl⟩ := val_two w Vl.no ⟨3, 0, Vl.mt⟩ n0 n1 (w2 := w2) hwa.symm
          obtain ⟨c0, c1, c2, d0, d1, d2⟩ := val_cells rb
          have raf := rowV_far (i := 1) ra (show w.heap.size ≠ w.heap.size + 1 by omega) (.int .i64 N2)
          have rbf := rowV_stored rb 1 (.int .i64 N2)
          have hbf := hb.setCell (p := ⟨w.heap.size + 1, 1, none⟩) (by show w.heap.size ≤ w.heap.size + 1; omega) (.int .i64 N2)
          obtain ⟨a0, a1, a2, g0, g1, g2⟩ := val_cells raf
          have L := Lib.hid (And.intro raf (And.intro (show RowV _ _ _ (valC ⟨3, N2, Vl.mt⟩).toList from rbf) hbf))
          clear ra rb hb hwa raf hbf rbf
          go_wp2_with fail
          refine bodyPost_ret (v := .tuple #[valV Vl.no, .string Vl.mt, .int .i64 E2]) (results_val (p := 2) (u := 3) (x := 4) rfl _ _ w.heap.size Vl.no rfl (val_put (v := Vl.no) L.out.1 0 0 Vl.mt).1) rfl ⟨rfl, ?_⟩
          exact L.out.2.2.trans ((val_put L.out.1 0 0 Vl.mt).2 _ (Nat.le_refl _))
    · by_cases k2 : Oct.tN s = 2
      · rw [Vl.parts_txt e1 k2] at hR ⊢
        simp only at hR ⊢
        generalize (Oct.txt (Oct.tR s) 40).2.2 = E2 at *
        generalize (Oct.txt (Oct.tR s) 40).2.1 = R2 at *
        generalize (Oct.txt (Oct.tR s) 40).1 = T2 at *
        rw [e1, k2] at h1
        generalize Oct.tR s = R1 at *
        clear e1 k2 k13 hs
        by_cases q2 : E2 = 0
        · subst q2
          by_cases hr : Vl.right ⟨2, 0, T2⟩
          · rw [decide_eq_true hr] at hR
            rw [if_neg (by simp), if_pos hr]
            simp only
            clear hr
            have H := Lib.hid (And.intro h1 (And.intro h2 (And.intro h3 hR)))
            clear h1 h2 h3 hR
            go_enter Tryd.func16, Tryd.ntmps16
            go_wp2_with fail
            refine (H.out.1 _).mono ?_
            rintro e _ ⟨rfl, n0, rfl⟩
            go_wp2_with fail
            refine (H.out.2.2.1 _).mono ?_
            rintro e _ ⟨rfl, n1, rfl⟩
            generalize hwa : World.drewN (World.alloc (World.drewN _ _) _) _ = w2 at *
            obtain ⟨rb, ra, hb, hl⟩ := val_two w Vl.no ⟨2, 0, Vl.mt⟩ n0 n1 (w2 := w2) hwa.symm
            obtain ⟨c0, c1, c2, d0, d1, d2⟩ := val_cells rb
            have raf := rowV_far (i := 2) ra (show w.heap.size ≠ w.heap.size + 1 by omega) (.string T2)
            have rbf := rowV_stored rb 2 (.string T2)
            have hbf := hb.setCell (p := ⟨w.heap.size + 1, 2, none⟩) (by show w.heap.size ≤ w.heap.size + 1; omega) (.string T2)
            obtain ⟨a0, a1, a2, g0, g1, g2⟩ := val_cells raf
            have L := Lib.hid (And.intro raf (And.intro (show RowV _ _ _ (valC ⟨2, 0, T2⟩).toList from rbf) hbf))
            clear ra rb hb hwa raf hbf rbf
            go_wp2_with fail
            refine (H.out.2.2.2 _).mono ?_
            rintro e w3 ⟨rfl, hb3⟩
            generalize hws : World.setCell w2 _ _ = ws at *
            have hls : w.heap.size + 1 < ws.heap.size := rowV_lt L.out.2.1
            have ra := rowV_below L.out.1 hb3 (Nat.lt_of_succ_lt hls)
            have rb := rowV_below L.out.2.1 hb3 hls
            have hb := L.out.2.2.trans (hb3.mono (Nat.le_of_lt (Nat.lt_of_succ_lt hls)))
            obtain ⟨a0, a1, a2, g0, g1, g2⟩ := val_cells ra
            obtain ⟨c0, c1, c2, d0, d1, d2⟩ := val_cells (v := ⟨2, 0, T2⟩) rb
            have L3 := Lib.hid (And.intro ra hb)
            clear ra rb hb hb3
            go_wp2_with fail
            refine bodyPost_ret (v := .tuple #[valV ⟨2, 0, T2⟩, .string R2, .int .i64 0]) (results_val (p := 2) (u := 3) (x := 4) rfl _ _ w.heap.size ⟨2, 0, T2⟩ rfl (val_put (v := Vl.no) L3.out.1 2 0 T2).1) rfl ⟨rfl, ?_⟩
            exact L3.out.2.trans ((val_put L3.out.1 2 0 T2).2 _ (Nat.le_refl _))
          · rw [decide_eq_false hr] at hR
            rw [if_neg (by simp), if_neg hr]
            simp only [Vl.no]
            clear hr
            have H := Lib.hid (And.intro h1 (And.intro h2 (And.intro h3 hR)))
            clear h1 h2 h3 hR
            go_enter Tryd.func16, Tryd.ntmps16
            go_wp2_with fail
            refine (H.out.1 _).mono ?_
            rintro e _ ⟨rfl, n0, rfl⟩
            go_wp2_with fail
            refine (H.out.2.2.1 _).mono ?_
            rintro e _ ⟨rfl, n1, rfl⟩
            generalize hwa : World.drewN (World.alloc (World.drewN _ _) _) _ = w2 at *
            obtain ⟨rb, ra, hb, hl⟩ := val_two w Vl.no ⟨2, 0, Vl.mt⟩ n0 n1 (w2 := w2) hwa.symm
            obtain ⟨c0, c1, c2, d0, d1, d2⟩ := val_cells rb
            have raf := rowV_far (i := 2) ra (show w.heap.size ≠ w.heap.size + 1 by omega) (.string T2)
            have rbf := rowV_stored rb 2 (.string T2)
            have hbf := hb.setCell (p := ⟨w.heap.size + 1, 2, none⟩) (by show w.heap.size ≤ w.heap.size + 1; omega) (.string T2)
            obtain ⟨a0, a1, a2, g0, g1, g2⟩ := val_cells raf
            have L := Lib.hid (And.intro raf (And.intro (show RowV _ _ _ (valC ⟨2, 0, T2⟩).toList from rbf) hbf))
            clear ra rb hb hwa raf hbf rbf
            go_wp2_with fail
            refine (H.out.2.2.2 _).mono ?_
            rintro e w3 ⟨rfl, hb3⟩
            generalize hws : World.setCell w2 _ _ = ws at *
            have hls : w.heap.size + 1 < ws.heap.size := rowV_lt L.out.2.1
            have ra := rowV_below L.out.1 hb3 (Nat.lt_of_succ_lt hls)
            have rb := rowV_below L.out.2.1 hb3 hls
            have hb := L.out.2.2.trans (hb3.mono (Nat.le_of_lt (Nat.lt_of_succ_lt hls)))
            obtain ⟨a0, a1, a2, g0, g1, g2⟩ := val_cells ra
            obtain ⟨c0, c1, c2, d0, d1, d2⟩ := val_cells (v := ⟨2, 0, T2⟩) rb
            have L3 := Lib.hid (And.intro ra hb)
            clear ra rb hb hb3
            go_wp2_with fail
            refine bodyPost_ret (v := .tuple #[valV ⟨0, 0, Vl.mt⟩, .string Vl.mt, .int .i64 4]) (results_val (p := 2) (u := 3) (x := 4) rfl _ _ w.heap.size ⟨0, 0, Vl.mt⟩ rfl (val_put (v := Vl.no) L3.out.1 0 0 Vl.mt).1) rfl ⟨rfl, ?_⟩
            exact L3.out.2.trans ((val_put L3.out.1 0 0 Vl.mt).2 _ (Nat.le_refl _))
        · rw [if_pos q2]
          have t2 : (E2 != 0) = true := by simpa using q2
          simp only
          clear q2
          have H := Lib.hid (And.intro h1 (And.intro h2 (And.intro h3 hR)))
          clear h1 h2 h3 hR
          go_enter Tryd.func16, Tryd.ntmps16
          go_wp2_with fail
          refine (H.out.1 _).mono ?_
          rintro e _ ⟨rfl, n0, rfl⟩
          go_wp2_with fail
          refine (H.out.2.2.1 _).mono ?_
          rintro e _ ⟨rfl, n1, rfl⟩
          generalize hwa : World.drewN (World.alloc (World.drewN _ _) _) _ = w2 at *
          obtain ⟨rb, ra, hb, hl⟩ := val_two w Vl.no ⟨2, 0, Vl.mt⟩ n0 n1 (w2 := w2) hwa.symm
          obtain ⟨c0, c1, c2, d0, d1, d2⟩ := val_cells rb
          have raf := rowV_far (i := 2) ra (show w.heap.size ≠ w.heap.size + 1 by omega) (.string T2)
          have rbf := rowV_stored rb 2 (.string T2)
          have hbf := hb.setCell (p := ⟨w.heap.size + 1, 2, none⟩) (by show w.heap.size ≤ w.heap.size + 1; omega) (.string T2)
          obtain ⟨a0, a1, a2, g0, g1, g2⟩ := val_cells raf
          have L := Lib.hid (And.intro raf (And.intro (show RowV _ _ _ (valC ⟨2, 0, T2⟩).toList from rbf) hbf))
          clear ra rb hb hwa raf hbf rbf
          go_wp2_with fail
          refine bodyPost_ret (v := .tuple #[valV Vl.no, .string Vl.mt, .int .i64 E2]) (results_val (p := 2) (u := 3) (x := 4) rfl _ _ w.heap.size Vl.no rfl (val_put (v := Vl.no) L.out.1 0 0 Vl.mt).1) rfl ⟨rfl, ?_⟩
          exact L.out.2.2.trans ((val_put L.out.1 0 0 Vl.mt).2 _ (Nat.le_refl _))
      · by_cases k0 : Oct.tN s = 0
        · rw [Vl.parts_one e1 k13 k2] at hR ⊢
          rw [k0] at hR ⊢
          have hR0 : Vl.right ⟨0, 0, Vl.mt⟩ := Vl.right_no
          simp only at hR ⊢
          rw [decide_eq_true hR0] at hR
          rw [if_neg (by simp), if_pos hR0]
          clear hR0
          rw [e1, k0] at h1
          generalize Oct.tR s = R1 at *
          have H := Lib.hid (And.intro h1 hR)
          clear h1 h2 h3 e1 k2 k13 k0 hs hR
          go_enter Tryd.func16, Tryd.ntmps16
          go_wp2_with fail
          refine (H.out.1 _).mono ?_
          rintro e _ ⟨rfl, n0, rfl⟩
          go_wp2_with fail
          generalize hwa : World.alloc (World.drewN _ _) _ = w2 at *
          obtain ⟨rb, ra, hb, hl⟩ := val_two w Vl.no Vl.no n0 0 (w2 := w2) hwa.symm
          refine (H.out.2 _).mono ?_
          rintro e w3 ⟨rfl, hb3⟩
          have ra3 := rowV_below ra hb3 (Nat.lt_of_succ_lt hl)
          have rb3 := rowV_below rb hb3 hl
          have hb3' := hb.trans (hb3.mono (Nat.le_of_lt (Nat.lt_of_succ_lt hl)))
          obtain ⟨a0, a1, a2, g0, g1, g2⟩ := val_cells ra3
          obtain ⟨c0, c1, c2, d0, d1, d2⟩ := val_cells rb3
          have L := Lib.hid (And.intro ra3 hb3')
          clear ra rb hb hl hwa ra3 rb3 hb3' hb3
          go_wp2_with fail
          refine bodyPost_ret (v := .tuple #[valV Vl.no, .string R1, .int .i64 0]) (results_val (p := 2) (u := 3) (x := 4) rfl _ _ w.heap.size Vl.no rfl (val_put (v := Vl.no) L.out.1 0 0 Vl.mt).1) rfl ⟨rfl, ?_⟩
          exact L.out.2.trans ((val_put L.out.1 0 0 Vl.mt).2 _ (Nat.le_refl _))
        · have hno : ¬ Vl.right (Vl.parts s).1 := by
            rw [Vl.parts_one e1 k13 k2]
            rintro (h | h | h | h)
            · exact k0 h.1
            · exact k13 (.inl h.1)
            · exact k2 h.1
            · exact k13 (.inr h.1)
          rw [if_neg (show ¬ (Vl.parts s).2.2 ≠ 0 by rw [Vl.parts_one e1 k13 k2]; simp), if_neg hno]
          simp only
          rw [e1] at h1
          clear hno hR
          generalize Oct.tR s = R1 at *
          generalize Oct.tN s = K at *
          have H := Lib.hid h1
          have t0 : (K == 0) = false := by simp; omega
          have t1 : (K == 1) = false := by simp; omega
          have t2 : (K == 2) = false := by simp; omega
          have t3 : (K == 3) = false := by simp; omega
          clear h1 h2 h3 e1 k2 k13 hs k0
          go_enter Tryd.func16, Tryd.ntmps16
          go_wp2_with fail
          refine (H.out _).mono ?_
          rintro e _ ⟨rfl, n0, rfl⟩
          go_upto_region 5 with (fail)
          generalize hwa : World.alloc (World.drewN _ _) _ = w2 at *
          obtain ⟨rb, ra, hb, hl⟩ := val_two w Vl.no ⟨K, 0, Vl.mt⟩ n0 0 (w2 := w2) hwa.symm
          obtain ⟨a0, a1, a2, g0, g1, g2⟩ := val_cells ra
          have L := Lib.hid (And.intro ra hb)
          clear ra rb hb hl hwa
          go_wp2_with fail
          refine bodyPost_ret (v := .tuple #[valV Vl.no, .string Vl.mt, .int .i64 4]) (results_val (p := 2) (u := 3) (x := 4) rfl _ _ w.heap.size Vl.no rfl (val_put (v := Vl.no) L.out.1 0 0 Vl.mt).1) rfl ⟨rfl, ?_⟩
          exact L.out.2.trans ((val_put L.out.1 0 0 Vl.mt).2 _ (Nat.le_refl _))
  · rw [Vl.parts_err e1]
    rw [if_pos e1]
    simp only
    have q1 : (Oct.tE s != 0) = true := by simpa using e1
    generalize Oct.tE s = E1 at *
    have H := Lib.hid h1
    clear h1 h2 h3 e1 hR
    go_enter Tryd.func16, Tryd.ntmps16
    go_wp2_with fail
    refine (H.out _).mono ?_
    rintro e _ ⟨rfl, n0, rfl⟩
    go_wp2_with fail
    refine bodyPost_ret (v := .tuple #[valV Vl.no, .string Vl.mt, .int .i64 E1]) (results_val (p := 2) (u := 3) (x := 4) rfl _ _ w.heap.size Vl.no rfl (val_put (v := Vl.no) ?_ 0 0 Vl.mt).1) rfl ⟨rfl, ?_⟩
    · exact HB.out.1
    exact (below_drewN HB.out.2.1 n0).trans ((val_put (w := (w.alloc (.cells (valC Vl.no) 24)).drewN n0) (v := Vl.no) HB.out.1 0 0 Vl.mt).2 _ (Nat.le_refl _))
end Go.Proofs.YtpniegglbglbcaaDoor
