/-
  Layer 12: a value's parts off the front.
-/
import Derived.Test.YtpniegglbglbcaaDoorValBox
import Derived.Test.YtpniegglbglbcaaDoorOctTxt
import Derived.Deep.Cut
namespace Go.Proofs.YtpniegglbglbcaaDoor
open Go.RowKit
namespace Vl
open Oct (numB tN tR tE txt)
def parts (s : ByteArray) : V × ByteArray × Int :=
  if tE s ≠ 0 then (no, mt, tE s) else if tN s = 1 ∨ tN s = 3 then (⟨tN s, tN (tR s), mt⟩, tR (tR s), tE (tR s)) else if tN s = 2 then (⟨tN s, 0, (txt (tR s) 40).1⟩, (txt (tR s) 40).2.1, (txt (tR s) 40).2.2) else (⟨tN s, 0, mt⟩, tR s, 0)
theorem take_parts (s : ByteArray) : take s = if (parts s).2.2 ≠ 0 then (no, mt, (parts s).2.2) else if right (parts s).1 then parts s else (no, mt, 4) := by
  unfold take parts
  by_cases h1 : tE s = 0
  · simp only [h1, ne_eq, not_true_eq_false, if_false]
    by_cases h2 : tN s = 1 ∨ tN s = 3
    · simp only [h2, if_true]
      by_cases h3 : tE (tR s) = 0
      · simp only [h3, not_true_eq_false, if_false]
      · simp only [h3, not_false_eq_true, if_true]
    · simp only [h2, if_false]
      by_cases h3 : tN s = 2
      · simp only [h3, if_true]
        by_cases h4 : (txt (tR s) 40).2.2 = 0
        · simp only [h4, not_true_eq_false, if_false]
        · simp only [h4, not_false_eq_true, if_true]
      · simp only [h3, if_false, not_true_eq_false]
        by_cases h4 : tN s = 0
        · rw [if_pos h4, if_pos (by rw [h4]; exact right_no), h4]; rfl
        · rw [if_neg h4, if_neg]
          rintro (h | h | h | h)
          · exact h4 h.1
          · exact h2 (.inl h.1)
          · exact h3 h.1
          · exact h2 (.inr h.1)
  · simp only [h1, ne_eq, not_false_eq_true, if_true]
theorem parts_err {s : ByteArray} (h : tE s ≠ 0) : parts s = (no, mt, tE s) := if_pos h
theorem parts_num {s : ByteArray} (h : tE s = 0) (h2 : tN s = 1 ∨ tN s = 3) : parts s = (⟨tN s, tN (tR s), mt⟩, tR (tR s), tE (tR s)) := by unfold parts; rw [if_neg (fun x => x h), if_pos h2]
theorem parts_txt {s : ByteArray} (h : tE s = 0) (h2 : tN s = 2) : parts s = (⟨2, 0, (txt (tR s) 40).1⟩, (txt (tR s) 40).2.1, (txt (tR s) 40).2.2) := by unfold parts; rw [if_neg (fun x => x h), if_neg (by omega), if_pos h2, h2]
theorem parts_one {s : ByteArray} (h : tE s = 0) (h2 : ¬ (tN s = 1 ∨ tN s = 3)) (h3 : ¬ tN s = 2) : parts s = (⟨tN s, 0, mt⟩, tR s, 0) := by unfold parts; rw [if_neg (fun x => x h), if_neg h2, if_neg h3]
end Vl
/-- two boxes, draws between and behind -/
theorem val_two (w : World) (a b : Vl.V) (k l : Nat) {w2 : World} (h : w2 = (((w.alloc (.cells (valC a) 24)).drewN k).alloc (.cells (valC b) 24)).drewN l) :
    RowV w2 (w.heap.size + 1) 24 (valC b).toList ∧ RowV w2 w.heap.size 24 (valC a).toList ∧ Below w.heap.size w w2 ∧ w.heap.size + 1 < w2.heap.size := by
  subst h
  obtain ⟨r0, b0, s0⟩ := val_new a w
  have e : ((w.alloc (.cells (valC a) 24)).drewN k).heap.size = w.heap.size + 1 := by simp
  have h := rowV_new ((w.alloc (.cells (valC a) 24)).drewN k) 24 (valC b).toList
  rw [e] at h
  have h0 : RowV ((w.alloc (.cells (valC a) 24)).drewN k) w.heap.size 24 (valC a).toList := r0
  refine ⟨h, rowV_alloc h0 _, below_drewN ((below_drewN b0 k).alloc (by omega) _) l, ?_⟩
  exact rowV_lt h
theorem tR12_size (s : ByteArray) : (Oct.tR s).size ≤ s.size := by
  rcases Oct.t_cases s with ⟨_, h, _⟩ | ⟨n, r, _, _, h3, _, e2, _, _⟩
  · rw [h]; exact Nat.zero_le _
  · rw [e2]; exact h3
set_option maxRecDepth 100000 in
set_option maxHeartbeats 3200000 in
theorem parts12_any (s : ByteArray) (w : World) (hs : s.size ≤ maxLen) :
    Calls Tryd.prog 35 #[.string s] w fun e w' => e = .returned (.tuple #[valV (Vl.parts s).1, .string (Vl.parts s).2.1, .int .i64 (Vl.parts s).2.2]) ∧ Below w.heap.size w w' := by
  have z1 := tR12_size s
  have h1 := fun w => takeNum_any s w hs
  have h2 := fun w => takeNum_any (Oct.tR s) w (by omega)
  have h3 := fun w => takeText_any (Oct.tR s) 40 w (by omega)
  obtain ⟨r0, b0, s0⟩ := val_new Vl.no w
  have HB := Lib.hid (And.intro r0 (And.intro b0 s0))
  clear r0 b0 s0 z1
  by_cases e1 : Oct.tE s = 0
  · by_cases k13 : Oct.tN s = 1 ∨ Oct.tN s = 3
    · rw [Vl.parts_num e1 k13]
      simp only
      generalize Oct.tE (Oct.tR s) = E2 at *
      generalize Oct.tN (Oct.tR s) = N2 at *
      generalize Oct.tR (Oct.tR s) = R2 at *
      generalize Oct.tR s = R1 at *
      rw [e1] at h1
      have H := Lib.hid (And.intro h1 (And.intro h2 h3))
      clear h1 h2 h3 e1
      generalize Oct.tN s = K at *
      rcases k13 with rfl | rfl
      · go_enter Tryd.func35, Tryd.ntmps35
        go_wp2_with fail
        refine (H.out.1 _).mono ?_
        rintro e _ ⟨rfl, n0, rfl⟩
        go_wp2_with fail
        refine (H.out.2.1 _).mono ?_
        rintro e _ ⟨rfl, n1, rfl⟩
        generalize hwa : World.drewN (World.alloc (World.drewN _ _) _) _ = w2 at *
        obtain ⟨rb, ra, hb, hl⟩ := val_two w Vl.no ⟨1, 0, Vl.mt⟩ n0 n1 (w2 := w2) hwa.symm
        obtain ⟨c0, c1, c2, d0, d1, d2⟩ := val_cells rb
        have raf := rowV_far (i := 1) ra (show w.heap.size ≠ w.heap.size + 1 by omega) (.int .i64 N2)
        have hbf := hb.setCell (p := ⟨w.heap.size + 1, 1, none⟩) (by show w.heap.size ≤ w.heap.size + 1; omega) (.int .i64 N2)
        obtain ⟨a0, a1, a2, g0, g1, g2⟩ := val_cells raf
        have L := Lib.hid (And.intro raf hbf)
        clear ra rb hb hl hwa raf hbf
        go_wp2_with fail
        refine bodyPost_ret (v := .tuple #[valV ⟨1, N2, Vl.mt⟩, .string R2, .int .i64 E2]) (results_val (p := 2) (u := 3) (x := 4) rfl _ _ w.heap.size ⟨1, N2, Vl.mt⟩ rfl (val_put (v := Vl.no) L.out.1 1 N2 Vl.mt).1) rfl ⟨rfl, ?_⟩
        exact L.out.2.trans ((val_put L.out.1 1 N2 Vl.mt).2 _ (Nat.le_refl _))
      · go_enter Tryd.func35, Tryd.ntmps35
        go_wp2_with fail
        refine (H.out.1 _).mono ?_
        rintro e _ ⟨rfl, n0, rfl⟩
        go_wp2_with fail
        refine (H.out.2.1 _).mono ?_
        rintro e _ ⟨rfl, n1, rfl⟩
        generalize hwa : World.drewN (World.alloc (World.drewN _ _) _) _ = w2 at *
        obtain ⟨rb, ra, hb, hl⟩ := val_two w Vl.no ⟨3, 0, Vl.mt⟩ n0 n1 (w2 := w2) hwa.symm
        obtain ⟨c0, c1, c2, d0, d1, d2⟩ := val_cells rb
        have raf := rowV_far (i := 1) ra (show w.heap.size ≠ w.heap.size + 1 by omega) (.int .i64 N2)
        have hbf := hb.setCell (p := ⟨w.heap.size + 1, 1, none⟩) (by show w.heap.size ≤ w.heap.size + 1; omega) (.int .i64 N2)
        obtain ⟨a0, a1, a2, g0, g1, g2⟩ := val_cells raf
        have L := Lib.hid (And.intro raf hbf)
        clear ra rb hb hl hwa raf hbf
        go_wp2_with fail
        refine bodyPost_ret (v := .tuple #[valV ⟨3, N2, Vl.mt⟩, .string R2, .int .i64 E2]) (results_val (p := 2) (u := 3) (x := 4) rfl _ _ w.heap.size ⟨3, N2, Vl.mt⟩ rfl (val_put (v := Vl.no) L.out.1 3 N2 Vl.mt).1) rfl ⟨rfl, ?_⟩
        exact L.out.2.trans ((val_put L.out.1 3 N2 Vl.mt).2 _ (Nat.le_refl _))
    · by_cases k2 : Oct.tN s = 2
      · rw [Vl.parts_txt e1 k2]
        simp only
        generalize (Oct.txt (Oct.tR s) 40).2.2 = E2 at *
        generalize (Oct.txt (Oct.tR s) 40).2.1 = R2 at *
        generalize (Oct.txt (Oct.tR s) 40).1 = T2 at *
        rw [e1, k2] at h1
        generalize Oct.tR s = R1 at *
        have H := Lib.hid (And.intro h1 (And.intro h2 h3))
        clear h1 h2 h3 e1 k2 k13
        go_enter Tryd.func35, Tryd.ntmps35
        go_wp2_with fail
        refine (H.out.1 _).mono ?_
        rintro e _ ⟨rfl, n0, rfl⟩
        go_wp2_with fail
        refine (H.out.2.2 _).mono ?_
        rintro e _ ⟨rfl, n1, rfl⟩
        generalize hwa : World.drewN (World.alloc (World.drewN _ _) _) _ = w2 at *
        obtain ⟨rb, ra, hb, hl⟩ := val_two w Vl.no ⟨2, 0, Vl.mt⟩ n0 n1 (w2 := w2) hwa.symm
        obtain ⟨c0, c1, c2, d0, d1, d2⟩ := val_cells rb
        have raf := rowV_far (i := 2) ra (show w.heap.size ≠ w.heap.size + 1 by omega) (.string T2)
        have hbf := hb.setCell (p := ⟨w.heap.size + 1, 2, none⟩) (by show w.heap.size ≤ w.heap.size + 1; omega) (.string T2)
        obtain ⟨a0, a1, a2, g0, g1, g2⟩ := val_cells raf
        have L := Lib.hid (And.intro raf hbf)
        clear ra rb hb hl hwa raf hbf
        go_wp2_with fail
        refine bodyPost_ret (v := .tuple #[valV ⟨2, 0, T2⟩, .string R2, .int .i64 E2]) (results_val (p := 2) (u := 3) (x := 4) rfl _ _ w.heap.size ⟨2, 0, T2⟩ rfl (val_put (v := Vl.no) L.out.1 2 0 T2).1) rfl ⟨rfl, ?_⟩
        exact L.out.2.trans ((val_put L.out.1 2 0 T2).2 _ (Nat.le_refl _))
      · rw [Vl.parts_one e1 k13 k2]
        simp only
        rw [e1] at h1
        generalize Oct.tR s = R1 at *
        generalize Oct.tN s = K at *
        have H := Lib.hid (And.intro h1 (And.intro h2 h3))
        have t1 : (K == 1) = false := by simp; omega
        have t2 : (K == 2) = false := by simp; omega
        have t3 : (K == 3) = false := by simp; omega
        clear h1 h2 h3 e1 k2 k13
        go_enter Tryd.func35, Tryd.ntmps35
        go_wp2_with fail
        refine (H.out.1 _).mono ?_
        rintro e _ ⟨rfl, n0, rfl⟩
        go_upto_region 5 with (fail)
        generalize hwa : World.alloc (World.drewN _ _) _ = w2 at *
        obtain ⟨rb, ra, hb, hl⟩ := val_two w Vl.no ⟨K, 0, Vl.mt⟩ n0 0 (w2 := w2) hwa.symm
        obtain ⟨c0, c1, c2, d0, d1, d2⟩ := val_cells rb
        obtain ⟨a0, a1, a2, g0, g1, g2⟩ := val_cells ra
        have L := Lib.hid (And.intro ra (And.intro rb hb))
        clear ra rb hb hl hwa
        go_wp2_with fail
        refine bodyPost_ret (v := .tuple #[valV ⟨K, 0, Vl.mt⟩, .string R1, .int .i64 0]) (results_val (p := 2) (u := 3) (x := 4) rfl _ _ w.heap.size ⟨K, 0, Vl.mt⟩ rfl (val_put (v := Vl.no) L.out.1 K 0 Vl.mt).1) rfl ⟨rfl, ?_⟩
        exact L.out.2.2.trans ((val_put L.out.1 K 0 Vl.mt).2 _ (Nat.le_refl _))
  · rw [Vl.parts_err e1]
    simp only
    have q1 : (Oct.tE s != 0) = true := by simpa using e1
    generalize Oct.tE s = E1 at *
    have H := Lib.hid h1
    clear h1 h2 h3 e1
    go_enter Tryd.func35, Tryd.ntmps35
    go_wp2_with fail
    refine (H.out _).mono ?_
    rintro e _ ⟨rfl, n0, rfl⟩
    go_wp2_with fail
    refine bodyPost_ret (v := .tuple #[valV Vl.no, .string Vl.mt, .int .i64 E1]) (results_val (p := 2) (u := 3) (x := 4) rfl _ _ w.heap.size Vl.no rfl (val_put (v := Vl.no) ?_ 0 0 Vl.mt).1) rfl ⟨rfl, ?_⟩
    · exact HB.out.1
    exact (below_drewN HB.out.2.1 n0).trans ((val_put (w := (w.alloc (.cells (valC Vl.no) 24)).drewN n0) (v := Vl.no) HB.out.1 0 0 Vl.mt).2 _ (Nat.le_refl _))
end Go.Proofs.YtpniegglbglbcaaDoor
