/-
  Layer 9: the program's node: what stands ahead of pairs, a pair's bytes, may a pair be.
-/
import Derived.Test.YtjlglfhnnipjaaaNodRef
import Derived.Test.YtjlglfhnnipjaaaOctFix
import Derived.Test.YtjlglfhnnipjaaaBits
import Derived.BigQuiet
namespace Go.Proofs.Ytjlglfhnnipjaaa
open Go.RowKit
abbrev pairV (k v : ByteArray) : Value := .agg #[.string k, .string v]
section
variable {w : World}
set_option maxRecDepth 100000 in
theorem mark9_any (leaf : Bool) (w : World) : Calls Try.prog 45 #[.bool leaf] w fun e w' => e = .returned (.string (Nd.kindB leaf)) ∧ w' = w := by
  cases leaf with
  | true =>
    go_enter Try.func45, Try.ntmps45
    go_wp2_with fail
    go_ret
    exact ⟨rfl, rfl⟩
  | false =>
    go_enter Try.func45, Try.ntmps45
    go_wp2_with fail
    go_ret
    exact ⟨rfl, rfl⟩
set_option maxRecDepth 100000 in
set_option maxHeartbeats 400000 in
theorem head9_any (leaf : Bool) (n : Int) (w : World) (h0 : -9223372036854775808 ≤ n) (h1 : n ≤ 9223372036854775807) : Calls Try.prog 27 #[.bool leaf, .int .i64 n] w fun e w' => e = .returned (.string (Nd.kindB leaf ++ Oct.numB n)) ∧ Below w.heap.size w w' := by
  have cM := fun w => mark9_any leaf w
  have hk : (Nd.kindB leaf).size = 1 := by cases leaf <;> rfl
  have hn := Oct.numB_len n h0 h1
  have cN := fun w => num_any n w h0 h1
  generalize Nd.kindB leaf = K at *
  generalize Oct.numB n = M at *
  have H := Lib.hid (And.intro cM cN)
  clear cM cN h0 h1
  go_enter Try.func27, Try.ntmps27
  go_wp2_with (first
    | (go_at_call 45; refine (H.out.1 _).mono ?_; rintro e w1 ⟨rfl, hw1⟩; obtain rfl := hw1.symm; clear hw1)
    | (go_at_call 46; refine (H.out.2 _).mono ?_; rintro e w2 ⟨rfl, hb2⟩; have H2 := Lib.hid hb2; clear hb2))
  go_ret
  exact ⟨rfl, H2.out⟩
theorem text9_any (s : ByteArray) (w : World) (hs : s.size ≤ 140737488355328) : Calls Try.prog 47 #[.string s] w fun e w' => e = .returned (.string (Nd.txtB s)) ∧ Below w.heap.size w w' := text_any s w hs
set_option maxRecDepth 100000 in
set_option maxHeartbeats 800000 in
theorem pair9_any (k v : ByteArray) (w : World) (hk : k.size ≤ 1000) (hv : v.size ≤ 1000) : Calls Try.prog 28 #[pairV k v] w fun e w' => e = .returned (.string (Nd.pairB (k, v))) ∧ Below w.heap.size w w' := by
  have hb : Below w.heap.size w (w.alloc (.cells #[.string k, .string v] 33)) := (Below.refl w.heap.size w).alloc (Nat.le_refl _) _
  have hrow := rowV_new w 33 [.string k, .string v]
  have r0 := rowV_cell hrow 0
  have r1 := rowV_cell hrow 1
  simp only [List.getElem?_cons_zero, List.getElem?_cons_succ] at r0 r1
  have t1 := Nd.txtB_size k hk
  have t2 := Nd.txtB_size v hv
  have cK := fun wx => text9_any k wx (by omega)
  have cV := fun wx => text9_any v wx (by omega)
  have hT : Nd.pairB (k, v) = Nd.txtB k ++ Nd.txtB v := rfl
  rw [hT]
  generalize Nd.txtB k = T1 at *
  generalize Nd.txtB v = T2 at *
  have HC := Lib.hid (And.intro cK (And.intro cV hb))
  clear cK cV hT hrow hb
  generalize hN : w.heap.size = N at *
  have hNw : N < (w.alloc (.cells #[.string k, .string v] 33)).heap.size := by rw [World.size_alloc]; omega
  go_enter Try.func28, Try.ntmps28
  go_wp2_with fail
  generalize hw1 : World.alloc w _ = w1 at *
  refine wp_region_quiet_tail (C := fun wx => (wx.cell? ⟨N, 0, none⟩ = some (.string k) ∧ wx.cell? ⟨N, 1, none⟩ = some (.string v)) ∧ Hid (Below w1.heap.size w1 wx)) 7 (by kernel_rfl) (by kernel_rfl) ⟨⟨r0, r1⟩, Lib.hid (Below.refl w1.heap.size w1).drew⟩ ?_
  simp only [List.take_succ_cons, List.take_zero, List.drop_succ_cons, List.drop_zero]
  iterate 2
    refine wpQuiet_read ?_
    apply Exists.intro
    refine ⟨⟨by rfl, fun wx hSx => ?_⟩, ?_⟩
    · obtain ⟨⟨k0, k1⟩, -⟩ := hSx
      go_simp
      with_reducible rfl
    simp only [Act.put, List.setIfInBounds_toArray, List.set_cons_zero, List.set_cons_succ]
  refine wpQuiet_call rfl 47 #[.string k] (.string T1) (fun wx hSx => by go_simp) (fun wx hSx => (HC.out.1 wx).mono fun e w' hh => ⟨hh.1, ⟨(hh.2.cell (p := ⟨N, 0, none⟩) (World.block_lt_of_cell? _ _ hSx.1.1)).trans hSx.1.1, (hh.2.cell (p := ⟨N, 1, none⟩) (World.block_lt_of_cell? _ _ hSx.1.2)).trans hSx.1.2⟩, Lib.hid (hSx.2.out.trans (hh.2.mono hSx.2.out.size))⟩) ?_
  simp only [Act.put, List.setIfInBounds_toArray, List.set_cons_zero, List.set_cons_succ]
  iterate 2
    refine wpQuiet_read ?_
    apply Exists.intro
    refine ⟨⟨by rfl, fun wx hSx => ?_⟩, ?_⟩
    · obtain ⟨⟨k0, k1⟩, -⟩ := hSx
      go_simp
      with_reducible rfl
    simp only [Act.put, List.setIfInBounds_toArray, List.set_cons_zero, List.set_cons_succ]
  refine wpQuiet_call rfl 47 #[.string v] (.string T2) (fun wx hSx => by go_simp) (fun wx hSx => (HC.out.2.1 wx).mono fun e w' hh => ⟨hh.1, ⟨(hh.2.cell (p := ⟨N, 0, none⟩) (World.block_lt_of_cell? _ _ hSx.1.1)).trans hSx.1.1, (hh.2.cell (p := ⟨N, 1, none⟩) (World.block_lt_of_cell? _ _ hSx.1.2)).trans hSx.1.2⟩, Lib.hid (hSx.2.out.trans (hh.2.mono hSx.2.out.size))⟩) ?_
  simp only [Act.put, List.setIfInBounds_toArray, List.set_cons_zero, List.set_cons_succ]
  refine wpQuiet_read ?_
  apply Exists.intro
  refine ⟨⟨by rfl, fun wx hSx => ?_⟩, ?_⟩
  · go_simp
    first
      | with_reducible rfl
      | rw [if_neg (by omega)]
  simp only [Act.put, List.setIfInBounds_toArray, List.set_cons_zero, List.set_cons_succ]
  refine wpQuiet_nil ?_
  rintro w5 ⟨-, hb5⟩
  go_wp2_with fail
  go_ret
  exact ⟨rfl, HC.out.2.2.trans (hb5.out.mono (Nat.le_of_lt hNw))⟩
/-- may a pair be? as the tests -/
theorem Nd.fits_cases (leaf : Bool) (k v : ByteArray) : decide (Nd.fits leaf (k, v)) = if k.size = 0 ∨ 48 < k.size then false else if leaf then decide ((v.size : Int) ≤ 160) else ((v.size : Int) == 4) := by
  have hf : Nd.fits leaf (k, v) ↔ 1 ≤ k.size ∧ k.size ≤ 48 ∧ (leaf = true → v.size ≤ 160) ∧ (leaf = false → v.size = 4) := Iff.rfl
  by_cases h : k.size = 0 ∨ 48 < k.size
  · rw [if_pos h]
    exact decide_eq_false fun x => by have := hf.1 x; omega
  · rw [if_neg h, Bool.eq_iff_iff, decide_eq_true_iff, hf]
    cases leaf with
    | true => simp; omega
    | false => simp; omega
set_option maxRecDepth 100000 in
set_option maxHeartbeats 1600000 in
theorem rpair9_any (leaf : Bool) (k v : ByteArray) (w : World) : Calls Try.prog 52 #[.bool leaf, pairV k v] w fun e w' => e = .returned (.bool (decide (Nd.fits leaf (k, v)))) ∧ Below w.heap.size w w' := by
  have hb : Below w.heap.size w (w.alloc (.cells #[.string k, .string v] 33)) := (Below.refl w.heap.size w).alloc (Nat.le_refl _) _
  have hrow := rowV_new w 33 [.string k, .string v]
  have r0 := rowV_cell hrow 0
  have r1 := rowV_cell hrow 1
  simp only [List.getElem?_cons_zero, List.getElem?_cons_succ] at r0 r1
  have hc := Nd.fits_cases leaf k v
  generalize decide (Nd.fits leaf (k, v)) = R at *
  have HB := Lib.hid hb
  clear hb hrow
  by_cases h0 : k.size = 0
  · have he : k = ⟨#[]⟩ := by
      apply Sl.ba_ext
      have : k.data.size = 0 := h0
      have h2 := Array.eq_empty_of_size_eq_zero this
      rw [h2]
    rw [if_pos (.inl h0)] at hc
    subst hc he
    go_enter Try.func52, Try.ntmps52
    go_wp2_with fail
    go_ret
    exact ⟨rfl, HB.out⟩
  have hne : ¬ k = ⟨#[]⟩ := fun h => h0 (by rw [h]; rfl)
  obtain ⟨n1, n2⟩ := str_ne k (by omega)
  have n3 : k.toList.isEmpty = false := by simpa using n2
  by_cases h1 : 48 < k.size
  · have d1 : decide (48 < (k.size : Int)) = true := decide_eq_true (by omega)
    rw [if_pos (.inr h1)] at hc
    subst hc
    go_enter Try.func52, Try.ntmps52
    go_wp2_with fail
    go_ret
    exact ⟨rfl, HB.out⟩
  have d1 : decide (48 < (k.size : Int)) = false := decide_eq_false (by omega)
  rw [if_neg (by omega)] at hc
  cases leaf with
  | true =>
    rw [if_pos rfl] at hc
    have HC := Lib.hid hc
    clear hc
    go_enter Try.func52, Try.ntmps52
    go_wp2_with fail
    go_ret
    exact ⟨ret_bool HC.out.symm, HB.out⟩
  | false =>
    rw [if_neg Bool.false_ne_true] at hc
    have HC := Lib.hid hc
    clear hc
    go_enter Try.func52, Try.ntmps52
    go_wp2_with fail
    go_ret
    exact ⟨ret_bool HC.out.symm, HB.out⟩
end
end Go.Proofs.Ytjlglfhnnipjaaa
