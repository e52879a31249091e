/-
  Layer 13, the program's: what a token is written as, and its text.
-/
import Derived.Test.YtmpfnokddpbgcaaDoorZLexProg6
import Derived.Test.YtmpfnokddpbgcaaDoorZLexText
import Derived.Test.YtmpfnokddpbgcaaDoorPk3
import Derived.Laws.StructEq
import Derived.LaidEql
namespace Go.Proofs.YtmpfnokddpbgcaaDoor
open Go.RowKit
namespace Lx
/-- what a token is written as -/
def wr (t : T) : ByteArray := if t.kind = 1 ∨ t.kind = 4 then t.s else if t.kind = 2 then textB ⟨1, t.n, Vl.mt⟩ else if t.kind = 3 then textB ⟨2, 0, t.s⟩ else Vl.mt
theorem wr_right {t : T} (h : right t) : wr t = mk (textL t) := by
  obtain ⟨k, s, n, a⟩ := t
  rcases h with ⟨rfl, _⟩ | ⟨rfl, _⟩ | ⟨rfl, _, h⟩ | ⟨rfl, _⟩
  · unfold wr textL; simp [list_mk]
  · unfold wr textL
    rw [if_neg (by simp), if_pos rfl, if_pos rfl, text_ok (.inr (.inl ⟨rfl, rfl⟩))]
    rfl
  · unfold wr textL
    rw [if_neg (by simp), if_neg (by simp), if_pos rfl, if_neg (by simp), if_pos rfl, text_ok (.inr (.inr (.inl ⟨rfl, rfl, h⟩)))]
    rfl
  · unfold wr textL; simp [list_mk]
theorem wr_size (t : T) (h0 : -9223372036854775808 ≤ t.n) (h1 : t.n ≤ 9223372036854775807) : (wr t).size ≤ t.s.size + 100 := by
  obtain ⟨k, s, n, a⟩ := t
  unfold wr
  split
  · exact Nat.le_add_right _ _
  · split
    · rw [text_ok (.inr (.inl ⟨rfl, rfl⟩))]
      have := Lib.itoa_length_le n h0 h1
      show (Lib.itoa n).toArray.size ≤ _
      rw [List.size_toArray]; omega
    · split
      · by_cases hr : Vl.right ⟨2, 0, s⟩
        · rw [text_ok hr]
          have h40 : s.size ≤ 40 := by
            rcases hr with ⟨h, _⟩ | ⟨h, _⟩ | ⟨_, _, h⟩ | ⟨h, _⟩
            · exact absurd (show (2 : Int) = 0 from h) (by decide)
            · exact absurd (show (2 : Int) = 1 from h) (by decide)
            · exact h.1
            · exact absurd (show (2 : Int) = 3 from h) (by decide)
          have := Vl.esc_len s.data.toList
          have hl : s.data.toList.length = s.size := Array.length_toList ..
          show (Vl.quoteL s.data.toList).toArray.size ≤ _
          rw [List.size_toArray]
          unfold Vl.quoteL
          simp only [List.length_cons, List.length_append, List.length_nil]
          omega
        · rw [text_bad hr]; exact Nat.zero_le _
      · exact Nat.zero_le _
theorem right_strip {t : T} : right (strip t) ↔ right t := Iff.rfl
theorem textT_yes {t : T} (h : (one (wr t).data.toList).2.2 = 0) (h2 : (one (wr t).data.toList).1 = strip t) : textT t = (wr t, 0) := by
  have hr := (one_ok h).1
  rw [h2] at hr
  have hr := right_strip.1 hr
  rw [show textT t = (mk (textL t), 0) from if_pos hr, wr_right hr]
theorem textT_no {t : T} (hn : t.n ≤ 9223372036854775807) (h : ¬ ((one (wr t).data.toList).2.2 = 0 ∧ (one (wr t).data.toList).2.1 = (wr t).size ∧ (one (wr t).data.toList).1 = strip t)) : textT t = (Vl.mt, 2) := by
  refine if_neg fun hr => h ?_
  have h1 := one_text hr hn [] (.inl rfl)
  rw [List.append_nil] at h1
  rw [wr_right hr]
  show (one (textL t)).2.2 = 0 ∧ (one (textL t)).2.1 = _ ∧ (one (textL t)).1 = strip t
  rw [h1]
  exact ⟨rfl, (List.size_toArray).symm, rfl⟩
end Lx
theorem neq_tok_same (a : Lx.T) (w : World) : (binOp BinOp.neq 33 (tokV a) (tokV a)).run Tryd.prog w = .ok (.bool false) w := by
  obtain ⟨k, s, n, p⟩ := a
  have hS : Tryd.prog.underlying 33 = some (.struct (Tryd.prog.fieldsOf 33)) := by kernel_rfl
  have hp : Tryd.prog.stoodInHeld 33 = false := by kernel_rfl
  rw [run_neq_struct, show (10000 : Nat) = 9999 + 1 from rfl, run_equalIn_agg w 9999 33 _ _ hS hp]
  have hU := Tryd.underlying33
  simp only [Program.fieldsOf, hU]
  go_simp
theorem neq_tok_other {a b : Lx.T} (h : ¬ a = b) (w : World) : (binOp BinOp.neq 33 (tokV a) (tokV b)).run Tryd.prog w = .ok (.bool true) w := by
  obtain ⟨k, s, n, p⟩ := a
  obtain ⟨k2, s2, n2, p2⟩ := b
  have hS : Tryd.prog.underlying 33 = some (.struct (Tryd.prog.fieldsOf 33)) := by kernel_rfl
  have hp : Tryd.prog.stoodInHeld 33 = false := by kernel_rfl
  rw [run_neq_struct, show (10000 : Nat) = 9999 + 1 from rfl, run_equalIn_agg w 9999 33 _ _ hS hp]
  have hU := Tryd.underlying33
  simp only [Program.fieldsOf, hU]
  go_simp
  by_cases h1 : k = k2
  · subst h1
    by_cases h2 : s = s2
    · subst h2
      by_cases h3 : n = n2
      · subst h3
        have h4 : ¬ p = p2 := fun e => h (by rw [e])
        simp [h4]
      · simp [h3]
    · have e2 : ¬ s.toList = s2.toList := fun e => h2 (Sl.ba_ext (by rw [← ByteArray.toList_eq, ← ByteArray.toList_eq]; exact e))
      simp [e2]
  · simp [h1]
theorem guard_tok (op : BinOp) (w : World) (x y : Operand) (X Y : Array Value) : (eqGuard op 33 x y (.agg X) (.agg Y)).run Tryd.prog w = .ok () w :=
  run_eqGuard_agg w op _ x y X Y (by kernel_rfl)
set_option maxRecDepth 100000 in
set_option maxHeartbeats 3200000 in
theorem written13_any (t : Lx.T) (h0 : -9223372036854775808 ≤ t.n) (h1 : t.n ≤ 9223372036854775807) (w : World) (hP : Pow10 w) :
    Calls Tryd.prog 23 #[tokV t] w fun e w' => e = .returned (.string (Lx.wr t)) ∧ Below w.heap.size w w' := by
  obtain ⟨r0, b0, s0⟩ := tok_new t w
  have c2 := fun wx hx => text12_any ⟨1, t.n, Vl.mt⟩ h0 h1 wx hx
  have c3 := fun wx hx => text12_any ⟨2, 0, t.s⟩ (show (-9223372036854775808 : Int) ≤ 0 by decide) (show (0 : Int) ≤ 9223372036854775807 by decide) wx hx
  have hP1 := pow10_below hP b0
  obtain ⟨k, s, n, a⟩ := t
  have hw : Lx.wr ⟨k, s, n, a⟩ = if k = 1 ∨ k = 4 then s else if k = 2 then textB ⟨1, n, Vl.mt⟩ else if k = 3 then textB ⟨2, 0, s⟩ else Vl.mt := rfl
  generalize Lx.wr ⟨k, s, n, a⟩ = W at *
  have hlt : w.heap.size < (w.alloc (.cells (tokC ⟨k, s, n, a⟩) 33)).heap.size := by rw [s0]; omega
  by_cases k1 : k = 1
  · subst k1
    rw [if_pos (.inl rfl)] at hw
    have H := Lib.hid (And.intro r0 (And.intro b0 hw))
    clear r0 b0 hw c2 c3 hP hP1
    go_enter Tryd.func23, Tryd.ntmps23
    go_wp2_with fail
    go_ret
    exact ⟨ret_str H.out.2.2.symm, H.out.2.1⟩
  · by_cases k4 : k = 4
    · subst k4
      rw [if_pos (.inr rfl)] at hw
      have H := Lib.hid (And.intro r0 (And.intro b0 hw))
      clear r0 b0 hw c2 c3 hP hP1 k1
      go_enter Tryd.func23, Tryd.ntmps23
      go_wp2_with fail
      go_ret
      exact ⟨ret_str H.out.2.2.symm, H.out.2.1⟩
    · rw [if_neg (fun h => h.elim k1 k4)] at hw
      by_cases k2 : k = 2
      · subst k2
        rw [if_pos rfl] at hw
        have hb : ∀ w', Below (w.alloc (.cells (tokC ⟨2, s, n, a⟩) 33)).heap.size (w.alloc (.cells (tokC ⟨2, s, n, a⟩) 33)) w' → Below w.heap.size w w' := fun w' h => below_box _ h
        have H := Lib.hid (And.intro (c2 _ hP1) (And.intro hb hw))
        clear r0 b0 hw c2 c3 hP hP1 k1 k4 hb h0 h1
        go_enter Tryd.func23, Tryd.ntmps23
        go_wp2_with fail
        refine H.out.1.mono ?_
        rintro e w2 ⟨rfl, hb2⟩
        have L := Lib.hid (H.out.2.1 _ hb2)
        clear hb2
        go_wp2_with fail
        go_ret
        exact ⟨ret_str H.out.2.2.symm, L.out⟩
      · rw [if_neg k2] at hw
        by_cases k3 : k = 3
        · subst k3
          rw [if_pos rfl] at hw
          have hb : ∀ w', Below (w.alloc (.cells (tokC ⟨3, s, n, a⟩) 33)).heap.size (w.alloc (.cells (tokC ⟨3, s, n, a⟩) 33)) w' → Below w.heap.size w w' := fun w' h => below_box _ h
          have H := Lib.hid (And.intro (c3 _ hP1) (And.intro hb hw))
          clear r0 b0 hw c2 c3 hP hP1 k1 k4 k2 hb h0 h1
          go_enter Tryd.func23, Tryd.ntmps23
          go_wp2_with fail
          refine H.out.1.mono ?_
          rintro e w2 ⟨rfl, hb2⟩
          have L := Lib.hid (H.out.2.1 _ hb2)
          clear hb2
          go_wp2_with fail
          go_ret
          exact ⟨ret_str H.out.2.2.symm, L.out⟩
        · rw [if_neg k3] at hw
          have H := Lib.hid (And.intro b0 hw)
          have q1 : (k == 1) = false := by simpa using k1
          have q2 : (k == 2) = false := by simpa using k2
          have q3 : (k == 3) = false := by simpa using k3
          have q4 : (k == 4) = false := by simpa using k4
          clear r0 b0 hw c2 c3 hP hP1
          go_enter Tryd.func23, Tryd.ntmps23
          go_wp2_with fail
          go_ret
          exact ⟨ret_str H.out.2.symm, H.out.1⟩
end Go.Proofs.YtmpfnokddpbgcaaDoor
