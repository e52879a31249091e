/-
  Layer 7: the program's small calls.
-/
import Derived.Test.YtednmncapfclfaaZWalObj
import Derived.IntWalk
import Derived.Deep.RegionHeld3
namespace Go.Proofs.Ytednmncapfclfaa
open Go.RowKit
theorem lt_mod {p n : Nat} (hn : 1 ≤ n) : p % n < n := Nat.mod_lt _ hn
section
variable {w : World} {X : Nat → Prop} {p : Nat} {d : Dk.D} {D : World → (Nat → Prop) → Dk.D → Prop}
set_option maxRecDepth 100000 in
theorem wright_any (t h : Int) (w : World) : Calls Try.prog 38 #[.agg #[.int .i64 t, .int .i64 h]] w fun e w' => e = .returned (.bool (decide (0 ≤ t ∧ t ≤ h ∧ h ≤ 1125899906842624))) ∧ Below w.heap.size w w' := by
  have H := Lib.hid ((Below.refl w.heap.size w).alloc (Nat.le_refl _) (.cells #[.int .i64 t, .int .i64 h] 61))
  by_cases h1 : 0 ≤ t
  · by_cases h2 : t ≤ h
    · by_cases h3 : h ≤ 1125899906842624
      · rw [decide_eq_true ⟨h1, h2, h3⟩]
        go_enter Try.func38, Try.ntmps38
        go_wp2_with fail
        go_ret
        exact ⟨rfl, H.out⟩
      · rw [decide_eq_false (fun hh => h3 hh.2.2)]
        go_enter Try.func38, Try.ntmps38
        go_wp2_with fail
        go_ret
        exact ⟨rfl, H.out⟩
    · rw [decide_eq_false (fun hh => h2 hh.2.1)]
      go_enter Try.func38, Try.ntmps38
      go_wp2_with fail
      go_ret
      exact ⟨rfl, H.out⟩
  · rw [decide_eq_false (fun hh => h1 hh.1)]
    go_enter Try.func38, Try.ntmps38
    go_wp2_with fail
    go_ret
    exact ⟨rfl, H.out⟩
set_option maxRecDepth 100000 in
set_option maxHeartbeats 800000 in
theorem wblock_any (v : Value) (fr n k : Nat) (hn : 1 ≤ n) (hm : fr + n ≤ 4096) (hk : k ≤ 1125900000000000) (w : World) :
    Calls Try.prog 55 #[.agg #[v, .int .i64 (fr : Int), .int .i64 (n : Int)], .int .i64 (k : Int)] w fun e w' => e = .returned (.int .i64 (Wl.spot fr n k : Nat)) ∧ Below w.heap.size w w' := by
  have H := Lib.hid ((Below.refl w.heap.size w).alloc (Nat.le_refl _) (.cells #[v, .int .i64 (fr : Int), .int .i64 (n : Int)] 59))
  have hq := Nat.mod_lt k hn
  have e : ((Wl.spot fr n k : Nat) : Int) = (fr : Int) + (k : Int) % (n : Int) := by unfold Wl.spot; omega
  have HE := Lib.hid e
  clear e
  go_enter Try.func55, Try.ntmps55
  go_wp2_with fail
  go_quiet (fail)
  go_wp2_with fail
  go_ret
  exact ⟨ret_int HE.out.symm, below_drewN H.out _⟩
set_option maxRecDepth 100000 in
set_option maxHeartbeats 1600000 in
theorem wfits_any (K : DskP p D) (h : D w X d) (fr n : Int) (hn : n ≤ 9223372036854775807) :
    Calls Try.prog 37 #[.agg #[.pointer (some ⟨p, 0, none⟩), .int .i64 fr, .int .i64 n]] w fun e w' => e = .returned (.bool (decide (0 ≤ fr ∧ 1 ≤ n ∧ fr ≤ (d.B.length : Int) - n))) ∧ Below w.heap.size w w' := by
  have hB := (Below.refl w.heap.size w).alloc (Nat.le_refl _) (.cells #[.pointer (some ⟨p, 0, none⟩), .int .i64 fr, .int .i64 n] 59)
  have cL := fun wx (hb : Below w.heap.size w wx) => K.len (K.below h hb)
  have hm := (K.ok h).most
  generalize d.B.length = m at *
  have H := Lib.hid (And.intro hB cL)
  clear hB cL h
  by_cases h1 : 0 ≤ fr
  · by_cases h2 : 1 ≤ n
    · have hs : IntKind.i64.wrap ((m : Int) - n) = (m : Int) - n := IntWalk.i64_in _ (by omega)
      have HS := Lib.hid hn
      clear hn
      go_enter Try.func37, Try.ntmps37
      go_wp2_with fail
      go_quiet ((go_at_call 54; exact Calls.quiet_of_same (H.out.2 _ (below_drewN H.out.1 _))))
      go_wp2_with fail
      go_ret
      exact ⟨ret_bool (by simp [h1, h2]), below_drewN H.out.1 _⟩
    · rw [decide_eq_false (fun hh => h2 hh.2.1)]
      have hd : decide (1 ≤ n) = false := by simpa using h2
      go_enter Try.func37, Try.ntmps37
      go_wp2_with fail
      go_quiet (fail)
      go_wp2_with fail
      go_ret
      exact ⟨rfl, below_drewN H.out.1 _⟩
  · rw [decide_eq_false (fun hh => h1 hh.1)]
    have hd : decide (0 ≤ fr) = false := by simpa using h1
    go_enter Try.func37, Try.ntmps37
    go_wp2_with fail
    go_quiet (fail)
    go_wp2_with fail
    go_ret
    exact ⟨rfl, below_drewN H.out.1 _⟩
end
section
variable {w : World} {S : Nat → Prop} {l p : Nat} {g : Wl.Lg} {v : Value}
/-! ### of no log -/
set_option maxRecDepth 100000 in
theorem wtail_none (h : NoneIs w v) : Calls Try.prog 13 #[v] w fun e w' => e = .returned (.int .i64 0) ∧ w' = w := by
  have H := Lib.hid (h w (Below.refl _ _))
  clear h
  go_enter Try.func13, Try.ntmps13
  go_wp2_with fail
  refine H.out.mono ?_
  rintro e w1 ⟨rfl, hw1⟩
  obtain rfl := hw1.symm; clear hw1
  go_wp2_with fail
  go_ret
  exact ⟨rfl, rfl⟩
set_option maxRecDepth 100000 in
theorem whead_none (h : NoneIs w v) : Calls Try.prog 14 #[v] w fun e w' => e = .returned (.int .i64 0) ∧ w' = w := by
  have H := Lib.hid (h w (Below.refl _ _))
  clear h
  go_enter Try.func14, Try.ntmps14
  go_wp2_with fail
  refine H.out.mono ?_
  rintro e w1 ⟨rfl, hw1⟩
  obtain rfl := hw1.symm; clear hw1
  go_wp2_with fail
  go_ret
  exact ⟨rfl, rfl⟩
set_option maxRecDepth 100000 in
theorem wroom_none (h : NoneIs w v) : Calls Try.prog 15 #[v] w fun e w' => e = .returned (.int .i64 0) ∧ w' = w := by
  have H := Lib.hid (h w (Below.refl _ _))
  clear h
  go_enter Try.func15, Try.ntmps15
  go_wp2_with fail
  refine H.out.mono ?_
  rintro e w1 ⟨rfl, hw1⟩
  obtain rfl := hw1.symm; clear hw1
  go_wp2_with fail
  go_ret
  exact ⟨rfl, rfl⟩
set_option maxRecDepth 100000 in
theorem wrecords_none (h : NoneIs w v) : Calls Try.prog 18 #[v] w fun e w' => e = .returned (.slice none 0 0) ∧ w' = w := by
  have H := Lib.hid (h w (Below.refl _ _))
  clear h
  go_enter Try.func18, Try.ntmps18
  go_wp2_with fail
  refine H.out.mono ?_
  rintro e w1 ⟨rfl, hw1⟩
  obtain rfl := hw1.symm; clear hw1
  go_wp2_with fail
  go_ret
  exact ⟨rfl, rfl⟩
set_option maxRecDepth 100000 in
theorem wtrim_none (h : NoneIs w v) (t : Int) : Calls Try.prog 21 #[v, .int .i64 t] w fun e w' => e = .returned (.int .i64 1) ∧ w' = w := by
  have H := Lib.hid (h w (Below.refl _ _))
  clear h
  go_enter Try.func21, Try.ntmps21
  go_wp2_with fail
  refine H.out.mono ?_
  rintro e w1 ⟨rfl, hw1⟩
  obtain rfl := hw1.symm; clear hw1
  go_wp2_with fail
  go_ret
  exact ⟨rfl, rfl⟩
set_option maxRecDepth 100000 in
theorem wappend_none (h : NoneIs w v) (a : Value) : Calls Try.prog 20 #[v, a] w fun e w' => e = .returned (.int .i64 1) ∧ w' = w := by
  have H := Lib.hid (h w (Below.refl _ _))
  clear h
  go_enter Try.func20, Try.ntmps20
  go_wp2_with fail
  refine H.out.mono ?_
  rintro e w1 ⟨rfl, hw1⟩
  obtain rfl := hw1.symm; clear hw1
  go_wp2_with fail
  go_ret
  exact ⟨rfl, rfl⟩
/-! ### of a log -/
set_option maxRecDepth 100000 in
theorem wtail_any (h : LogAt 63 w S l p g) : Calls Try.prog 13 #[.pointer (some ⟨l, 0, none⟩)] w fun e w' => e = .returned (.int .i64 (g.tail : Int)) ∧ w' = w := by
  obtain ⟨la, cap, h1, _⟩ := h
  have c3 := lg_3 h1
  have H := Lib.hid (wnone_any h1)
  clear h1
  go_enter Try.func13, Try.ntmps13
  go_wp2_with fail
  refine H.out.mono ?_
  rintro e w1 ⟨rfl, hw1⟩
  obtain rfl := hw1.symm; clear hw1
  go_wp2_with fail
  go_ret
  exact ⟨rfl, rfl⟩
set_option maxRecDepth 100000 in
theorem whead_any (h : LogAt 63 w S l p g) : Calls Try.prog 14 #[.pointer (some ⟨l, 0, none⟩)] w fun e w' => e = .returned (.int .i64 (g.head : Int)) ∧ w' = w := by
  obtain ⟨la, cap, h1, _⟩ := h
  have c3 := lg_4 h1
  have H := Lib.hid (wnone_any h1)
  clear h1
  go_enter Try.func14, Try.ntmps14
  go_wp2_with fail
  refine H.out.mono ?_
  rintro e w1 ⟨rfl, hw1⟩
  obtain rfl := hw1.symm; clear hw1
  go_wp2_with fail
  go_ret
  exact ⟨rfl, rfl⟩
set_option maxRecDepth 100000 in
set_option maxHeartbeats 800000 in
theorem wroom_any {m : Nat} (h : LogAt 63 w S l p g) (hg : Wl.Good m g) (hm : m ≤ 4096) (hh : g.head ≤ 1125900000000000) :
    Calls Try.prog 15 #[.pointer (some ⟨l, 0, none⟩)] w fun e w' => e = .returned (.int .i64 ((g.n - g.L.length : Nat) : Int)) ∧ Below w.heap.size w w' := by
  obtain ⟨la, cap, h1, _⟩ := h
  have hr := hg.room
  have he := hg.ends
  have hf := hg.fits
  have c2 := lg_2 h1
  have c3 := lg_3 h1
  have c4 := lg_4 h1
  have cC : ∀ wx, Hid (Below w.heap.size w wx) → Calls Try.prog 35 #[.agg #[.int .i64 (g.tail : Int), .int .i64 (g.head : Int)]] wx fun e w' => e = .returned (.int .i64 ((g.head - g.tail : Nat) : Int)) ∧ Below w.heap.size w w' := fun wx hb => (wcount_any g.tail g.head (by omega) hh wx).mono fun _ _ h => ⟨h.1, hb.out.trans (h.2.mono hb.out.size)⟩
  have hS : ∀ wx, Below w.heap.size w wx → wx.cell? ⟨l, 2, none⟩ = some (.int .i64 (g.n : Int)) ∧ wx.cell? ⟨l, 3, none⟩ = some (.int .i64 (g.tail : Int)) ∧ wx.cell? ⟨l, 4, none⟩ = some (.int .i64 (g.head : Int)) ∧ Hid (Below w.heap.size w wx) := fun wx hb =>
    have hl := rowV_lt h1
    ⟨(hb.cell (p := ⟨l, 2, none⟩) hl).trans c2, (hb.cell (p := ⟨l, 3, none⟩) hl).trans c3, (hb.cell (p := ⟨l, 4, none⟩) hl).trans c4, Lib.hid hb⟩
  have H := Lib.hid (And.intro (wnone_any h1) (And.intro cC hS))
  clear h1 cC hg hS
  obtain ⟨fr, n, tail, head, L⟩ := g
  dsimp only at *
  generalize L.length = k at *
  have ek : head - tail = k := by omega
  rw [ek] at H
  have hs : IntKind.i64.wrap ((n : Int) - (k : Int)) = (n : Int) - (k : Int) := IntWalk.i64_in _ (by omega)
  have E := Lib.hid (show (n : Int) - (k : Int) = ((n - k : Nat) : Int) by omega)
  clear ek he
  obtain ⟨d2, d3, d4, d5⟩ := H.out.2.2 w.drew (Below.refl _ _).drew
  go_enter Try.func15, Try.ntmps15
  go_wp2_with fail
  refine H.out.1.mono ?_
  rintro e w1 ⟨rfl, hw1⟩
  obtain rfl := hw1.symm; clear hw1
  go_wp2_with fail
  go_region_held3 (fun wx => wx.cell? ⟨l, 2, none⟩ = some (.int .i64 (n : Int)) ∧ wx.cell? ⟨l, 3, none⟩ = some (.int .i64 (tail : Int)) ∧ wx.cell? ⟨l, 4, none⟩ = some (.int .i64 (head : Int)) ∧ Hid (Below w.heap.size w wx))
    (first
      | exact ⟨d2, d3, d4, d5⟩
      | exact H.out.2.2 _ hb1)
    ((go_at_call 35; refine (H.out.2.1 _ (by assumption)).mono ?_; rintro e w1 ⟨rfl, hb1⟩))
  go_wp2_with fail
  go_ret
  exact ⟨ret_int E.out, hb1⟩
end
end Go.Proofs.Ytednmncapfclfaa
