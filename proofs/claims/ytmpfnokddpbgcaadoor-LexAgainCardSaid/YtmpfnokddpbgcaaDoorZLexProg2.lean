/-
  Layer 13, the program's: numbers.
-/
import Derived.Test.YtmpfnokddpbgcaaDoorZLexProg
import Derived.Test.YtmpfnokddpbgcaaDoorZLexNum
import Derived.Test.YtmpfnokddpbgcaaDoorPk1
namespace Go.Proofs.YtmpfnokddpbgcaaDoor
open Go.RowKit
theorem digs_take (l : List UInt8) : l.take (Lx.digs l).length = Lx.digs l := Lx.takeWhile_take l
theorem digs_all (l : List UInt8) : ∀ b ∈ Lx.digs l, Lx.digit b = true := Lx.takeWhile_all l
theorem digs_cons {s : ByteArray} (h0 : 0 < s.size) (hD : Lx.digit s[0] = true) : Lx.digs s.data.toList ≠ [] := by
  have hl : 0 < s.data.toList.length := by simpa using h0
  have e := Oct.drop_at s.data.toList 0 hl
  rw [List.drop_zero] at e
  rw [e, digs_cons_yes _ (show Lx.digit s.data.toList[0] = true from hD)]
  simp
set_option maxRecDepth 100000 in
set_option maxHeartbeats 1600000 in
theorem number13_any (s : ByteArray) (w : World) (hs : s.size ≤ 1000000) (h0 : 0 < s.size) (hD : Lx.digit s[0] = true) (hE : ErrR w) :
    Calls Tryd.prog 30 #[.string s] w fun e w' => e = .returned (.tuple #[tokV (Lx.numT s.data.toList).1, .int .i64 ((Lx.numT s.data.toList).2.1 : Nat), .int .i64 (Lx.numT s.data.toList).2.2]) ∧ Below w.heap.size w w' := by
  have cR := fun w => run13_digit s w (by unfold maxLen; omega)
  have hle := Lx.takeWhile_le (p := Lx.digit) s.data.toList
  rw [Array.length_toList] at hle
  have hle2 : (Lx.digs s.data.toList).length ≤ s.size := hle
  have hx := take_list s (Lx.digs s.data.toList).length
  rw [digs_take] at hx
  have hne := digs_cons h0 hD
  have hpos : 0 < (Lx.digs s.data.toList).length := List.length_pos_iff.2 hne
  have hat := Lx.atoi_digits _ hne (digs_all _)
  have hsat : Lib.atoiSat (Lx.digs s.data.toList) = 9223372036854775807 := by
    cases hd : Lx.digs s.data.toList with
    | nil => exact absurd hd hne
    | cons c r =>
      have := (Lx.digit_iff c).1 (digs_all s.data.toList c (by rw [hd]; simp))
      exact Lib.atoiSat_other c r (by omega)
  have hh : s.data.toList.head? = some s[0] := head_at0 s h0
  have hN : Lx.numT s.data.toList = if 1 < (Lx.digs s.data.toList).length ∧ s.data.toList.head? = some 48 then (Lx.no, 0, 11) else if Lx.maxI < Vl.val (Lx.digs s.data.toList) 0 then (Lx.no, 0, 15) else (⟨2, Vl.mt, (Vl.val (Lx.digs s.data.toList) 0 : Nat), 0⟩, (Lx.digs s.data.toList).length, 0) := rfl
  rw [hh] at hN
  obtain ⟨r0, b0, s0⟩ := tok_new Lx.no w
  have aO := fun v (h : Lib.atoiAll (Lx.digs s.data.toList) = .ok v) wx => atoi_ok (Lx.mk (Lx.digs s.data.toList)) (by rw [← hx, ByteArray.size_extract]; omega) v h wx
  have aR := fun (h : Lib.atoiAll (Lx.digs s.data.toList) = .range) wx hw => atoi_range (Lx.mk (Lx.digs s.data.toList)) (by rw [← hx, ByteArray.size_extract]; omega) h wx hw
  rw [← hx] at aO aR
  have hsat2 : Lib.atoiSat (s.extract 0 (Lx.digs s.data.toList).length).data.toList = 9223372036854775807 := by rw [hx]; exact hsat
  rw [hsat2] at aR
  obtain ⟨V, hV⟩ : ∃ V, V = Vl.val (Lx.digs s.data.toList) 0 := ⟨_, rfl⟩
  rw [← hV] at hat hN
  by_cases hz : 1 < (Lx.digs s.data.toList).length ∧ s[0] = 48
  · rw [if_pos ⟨hz.1, by rw [hz.2]⟩] at hN
    have t1 : ((s[0].toNat : Int) == 48) = true := by rw [hz.2]; rfl
    have t2 : decide (((Lx.digs s.data.toList).length : Int) > 1) = true := decide_eq_true (by omega)
    have hz1 : 1 < (Lx.digs s.data.toList).length := hz.1
    generalize (Lx.digs s.data.toList).length = k at *
    have H := Lib.hid (And.intro cR (And.intro hN (And.intro r0 (And.intro b0 s0))))
    clear cR hN r0 b0 s0 hat hsat hsat2 hh aO aR hx hne hle hle2 hD hz hE hV
    go_enter Tryd.func30, Tryd.ntmps30
    go_wp2_with (go_at_call 44; refine (H.out.1 _).mono ?_; rintro e w1 ⟨rfl, rfl⟩)
    rw [H.out.2.1]
    exact bodyPost_ret (v := .tuple #[tokV Lx.no, .int .i64 0, .int .i64 11]) (results_tok (p := 2) (u := 3) (x := 4) rfl _ _ w.heap.size Lx.no rfl H.out.2.2.1) rfl ⟨rfl, H.out.2.2.2.1⟩
  · rw [if_neg (by rintro ⟨a, b⟩; exact hz ⟨a, by injection b⟩)] at hN
    have hE1 := errR_below hE b0
    have hT : decide (((Lx.digs s.data.toList).length : Int) > 1) = false ∨ (decide (((Lx.digs s.data.toList).length : Int) > 1) = true ∧ ((s[0].toNat : Int) == 48) = false) := by
      by_cases h1 : 1 < (Lx.digs s.data.toList).length
      · refine .inr ⟨decide_eq_true (by omega), ?_⟩
        have : ¬ s[0].toNat = 48 := fun e => hz ⟨h1, UInt8.toNat_inj.1 e⟩
        simp; omega
      · exact .inl (decide_eq_false (by omega))
    by_cases hv : Lx.maxI < V
    · rw [if_pos hv] at hat hN
      have aR := fun wx hw => aR hat wx hw
      generalize (Lx.digs s.data.toList).length = k at *
      have H := Lib.hid (And.intro cR (And.intro hN (And.intro r0 (And.intro b0 s0))))
      have HA := Lib.hid (And.intro aR hE1)
      clear cR hN r0 b0 s0 hat hsat hsat2 hh aO aR hx hne hle hD hz hE hE1 hV hv
      rcases hT with hT | ⟨hT, hT'⟩
      · go_enter Tryd.func30, Tryd.ntmps30
        go_wp2_with (first | (go_at_call 44; refine (H.out.1 _).mono ?_; rintro e w1 ⟨rfl, rfl⟩))
        refine (HA.out.1 _ HA.out.2).mono ?_
        rintro e w2 ⟨N, rfl, hb2⟩
        have ra := rowV_below H.out.2.2.1 hb2 (by rw [World.size_alloc]; omega)
        have hb := H.out.2.2.2.1.trans (hb2.mono (by rw [World.size_alloc]; omega))
        obtain ⟨a0, a1, a2, a3, g0, g1, g2, g3⟩ := tok_cells ra
        have L := Lib.hid (And.intro ra hb)
        clear ra hb hb2
        go_wp2_with fail
        rw [H.out.2.1]
        exact bodyPost_ret (v := .tuple #[tokV ⟨0, Vl.mt, 0, 0⟩, .int .i64 0, .int .i64 15]) (results_tok (p := 2) (u := 3) (x := 4) rfl _ _ w.heap.size ⟨0, Vl.mt, 0, 0⟩ rfl (tok_put (v := Lx.no) L.out.1 0 Vl.mt 0 0).1) rfl ⟨rfl, L.out.2.trans ((tok_put (v := Lx.no) L.out.1 0 Vl.mt 0 0).2 _ (Nat.le_refl _))⟩
      · go_enter Tryd.func30, Tryd.ntmps30
        go_wp2_with (first | (go_at_call 44; refine (H.out.1 _).mono ?_; rintro e w1 ⟨rfl, rfl⟩))
        refine (HA.out.1 _ HA.out.2).mono ?_
        rintro e w2 ⟨N, rfl, hb2⟩
        have ra := rowV_below H.out.2.2.1 hb2 (by rw [World.size_alloc]; omega)
        have hb := H.out.2.2.2.1.trans (hb2.mono (by rw [World.size_alloc]; omega))
        obtain ⟨a0, a1, a2, a3, g0, g1, g2, g3⟩ := tok_cells ra
        have L := Lib.hid (And.intro ra hb)
        clear ra hb hb2
        go_wp2_with fail
        rw [H.out.2.1]
        exact bodyPost_ret (v := .tuple #[tokV ⟨0, Vl.mt, 0, 0⟩, .int .i64 0, .int .i64 15]) (results_tok (p := 2) (u := 3) (x := 4) rfl _ _ w.heap.size ⟨0, Vl.mt, 0, 0⟩ rfl (tok_put (v := Lx.no) L.out.1 0 Vl.mt 0 0).1) rfl ⟨rfl, L.out.2.trans ((tok_put (v := Lx.no) L.out.1 0 Vl.mt 0 0).2 _ (Nat.le_refl _))⟩
    · rw [if_neg hv] at hat hN
      have aO := fun wx => aO _ hat wx
      generalize (Lx.digs s.data.toList).length = k at *
      have H := Lib.hid (And.intro cR (And.intro hN (And.intro r0 (And.intro b0 s0))))
      have HA := Lib.hid aO
      have hvm : V ≤ 9223372036854775807 := by unfold Lx.maxI at hv; omega
      clear cR hN r0 b0 s0 hat hsat hsat2 hh aO aR hx hne hle hD hz hE hE1 hV hv
      rcases hT with hT | ⟨hT, hT'⟩
      · go_enter Tryd.func30, Tryd.ntmps30
        go_wp2_with (first | (go_at_call 44; refine (H.out.1 _).mono ?_; rintro e w1 ⟨rfl, rfl⟩))
        refine (HA.out _).mono ?_
        rintro e w2 ⟨rfl, hb2⟩
        have ra := rowV_below H.out.2.2.1 hb2 (by rw [World.size_alloc]; omega)
        have hb := H.out.2.2.2.1.trans (hb2.mono (by rw [World.size_alloc]; omega))
        obtain ⟨a0, a1, a2, a3, g0, g1, g2, g3⟩ := tok_cells ra
        have L := Lib.hid (And.intro ra hb)
        clear ra hb hb2
        go_wp2_with fail
        rw [H.out.2.1]
        exact bodyPost_ret (v := .tuple #[tokV ⟨2, Vl.mt, (V : Int), 0⟩, .int .i64 (k : Int), .int .i64 0]) (results_tok (p := 2) (u := 3) (x := 4) rfl _ _ w.heap.size ⟨2, Vl.mt, (V : Int), 0⟩ rfl (tok_put (v := Lx.no) L.out.1 2 Vl.mt (V : Int) 0).1) rfl ⟨rfl, L.out.2.trans ((tok_put (v := Lx.no) L.out.1 2 Vl.mt (V : Int) 0).2 _ (Nat.le_refl _))⟩
      · go_enter Tryd.func30, Tryd.ntmps30
        go_wp2_with (first | (go_at_call 44; refine (H.out.1 _).mono ?_; rintro e w1 ⟨rfl, rfl⟩))
        refine (HA.out _).mono ?_
        rintro e w2 ⟨rfl, hb2⟩
        have ra := rowV_below H.out.2.2.1 hb2 (by rw [World.size_alloc]; omega)
        have hb := H.out.2.2.2.1.trans (hb2.mono (by rw [World.size_alloc]; omega))
        obtain ⟨a0, a1, a2, a3, g0, g1, g2, g3⟩ := tok_cells ra
        have L := Lib.hid (And.intro ra hb)
        clear ra hb hb2
        go_wp2_with fail
        rw [H.out.2.1]
        exact bodyPost_ret (v := .tuple #[tokV ⟨2, Vl.mt, (V : Int), 0⟩, .int .i64 (k : Int), .int .i64 0]) (results_tok (p := 2) (u := 3) (x := 4) rfl _ _ w.heap.size ⟨2, Vl.mt, (V : Int), 0⟩ rfl (tok_put (v := Lx.no) L.out.1 2 Vl.mt (V : Int) 0).1) rfl ⟨rfl, L.out.2.trans ((tok_put (v := Lx.no) L.out.1 2 Vl.mt (V : Int) 0).2 _ (Nat.le_refl _))⟩
end Go.Proofs.YtmpfnokddpbgcaaDoor
