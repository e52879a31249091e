/-
  Layer 14, the program's: Same.
-/
import Derived.Test.YtekahmlppaabjaaDoorZSynPrJ
namespace Go.Proofs.YtekahmlppaabjaaDoor
open Go.RowKit Go.Shelf
open Sx (X)
/-- a list of expressions that is read -/
def ReadsX (w : World) (ao : Option Addr) (LL : List Part14) : Prop := ∀ i (h : i < LL.length), ∃ b o, ao = some ⟨b, o, none⟩ ∧ Cells6 w b (o + i * 6) LL[i].1 LL[i].2.1 LL[i].2.2
theorem readsX_below {w w' : World} {ao : Option Addr} {LL : List Part14} (h : ReadsX w ao LL) (hb : Below w.heap.size w w') : ReadsX w' ao LL := fun i hi => by
  obtain ⟨b, o, h1, h2⟩ := h i hi
  exact ⟨b, o, h1, cells6_keep h2 hb⟩
theorem owX_reads {w : World} {B cp : Nat} {ao : Option Addr} {LL : List Part14} (h : OwL fX 29 6 w B (.slice ao LL.length cp) LL) : ReadsX w ao LL := fun i hi => by
  obtain ⟨g, c, e, _⟩ := owL_cell (f := fX) (fun _ _ => rfl) h i hi
  injection e with e _ _
  subst e
  exact ⟨g, 0, rfl, owL_cells6 h i hi⟩
theorem below_allocs {B : Nat} {w wr w1 : World} {o o' : Obj} (h : Below B w wr) (hB : B ≤ w.heap.size) (hb : Below ((wr.alloc o).alloc o').heap.size ((wr.alloc o).alloc o') w1) : Below B w w1 := by
  have hs := h.size
  have h2 := (h.alloc (by omega) o).alloc (by simp; omega) o'
  exact h2.trans (hb.mono (by simp; omega))
set_option maxRecDepth 100000 in
set_option maxHeartbeats 25600000 in
theorem eqFunc14_any (ax ay : Option Addr) (cx cy : Nat) (LX LY : List Part14) (hx : LX.length ≤ 2000000) (w : World) (hX : ReadsX w ax LX) (hY : ReadsX w ay LY) :
    Calls Tryd.prog 27 #[.slice ax LX.length cx, .slice ay LY.length cy, .func (.func 29) #[] #[]] w fun e w' => e = .returned (.bool (Sx.alikeL (LX.map (·.1)) (LY.map (·.1)))) ∧ Below w.heap.size w w' := by
  by_cases hl : LX.length = LY.length
  · have t0 : (((LX.length : Nat) : Int) != ((LY.length : Nat) : Int)) = false := by simp [hl]
    have hl' := hl
    have HX := Lib.hid (And.intro hX hY)
    clear hX hY
    rw [← hl] at t0 ⊢
    generalize hn : LX.length = n at *
    have HL2 := Lib.hid (And.intro hl hn)
    clear hl hl' hn
    go_enter Tryd.func27, Tryd.ntmps27
    go_wp2_with fail
    go_loopw [17] (fun i wr => ∃ k : Nat, i = .int .i64 (k : Int) ∧ k ≤ n ∧ Hid (Sx.alikeL ((LX.map (·.1)).take k) ((LY.map (·.1)).take k) = true) ∧ Hid (Below w.heap.size w wr)) (fun i _ => n - (intOf i).toNat)
    case atStart => exact ⟨0, rfl, Nat.zero_le _, Lib.hid rfl, Lib.hid (Below.refl _ _)⟩
    case round =>
      obtain ⟨k, rfl, hk, HA, HB⟩ := hrel
      by_cases hlt : k < n
      · have hkx : k < LX.length := by rw [HL2.out.2]; exact hlt
        have hky : k < LY.length := by rw [← HL2.out.1]; exact hlt
        obtain ⟨b, o, rfl, hc⟩ := readsX_below HX.out.1 HB.out k hkx
        obtain ⟨b', o', rfl, hc'⟩ := readsX_below HX.out.2 HB.out k hky
        have hmx : k < (LX.map (·.1)).length := by rw [List.length_map]; exact hkx
        have hmy : k < (LY.map (·.1)).length := by rw [List.length_map]; exact hky
        have hT := Sx.alikeL_take (LX.map (·.1)) (LY.map (·.1)) k hmx hmy HA.out
        have hF := Sx.alikeL_bad (LX.map (·.1)) (LY.map (·.1)) k hmx hmy
        rw [List.getElem_map, List.getElem_map] at hT hF
        generalize LX[k] = p at hc hT hF
        generalize LY[k] = q at hc' hT hF
        clear hkx hky hmx hmy
        obtain ⟨x, a, c⟩ := p
        obtain ⟨y, a', c'⟩ := q
        obtain ⟨c0, c1, c2, c3, c4, c5⟩ := hc
        obtain ⟨d0, d1, d2, d3, d4, d5⟩ := hc'
        dsimp only at *
        have hbl := World.block_lt_of_cell? _ _ c0
        have hbl' := World.block_lt_of_cell? _ _ d0
        dsimp only at hbl hbl'
        have hbn : ¬ b = wr.heap.size := by omega
        have hbn' : ¬ b' = wr.heap.size := by omega
        have HC := Lib.hid fun wx => alike14_any x y a a' c c' wx
        generalize hAB : Sx.alikeB x y = AB at *
        have HT := Lib.hid (And.intro hT hF)
        clear hT hF hAB
        cases AB with
        | true =>
          go_wp2_with (go_at_call 29; refine (HC.out _).mono ?_; rintro e w1 ⟨rfl, hb⟩; have HB1 := Lib.hid (below_allocs HB.out (Nat.le_refl _) hb); clear hb)
          go_roundw
          case rel => exact ⟨k + 1, by go_num, by omega, Lib.hid HT.out.1, HB1⟩
          case measure => simp only [intOf]; omega
        | false =>
          go_wp2_with (go_at_call 29; refine (HC.out _).mono ?_; rintro e w1 ⟨rfl, hb⟩; have HB1 := Lib.hid (below_allocs HB.out (Nat.le_refl _) hb); clear hb)
          go_ret
          exact ⟨ret_bool (HT.out.2 trivial).symm, HB1.out⟩
      · obtain rfl : k = n := by omega
        have HF : Hid (Sx.alikeL (LX.map (·.1)) (LY.map (·.1)) = true) := Lib.hid (by
          have := HA.out
          rwa [List.take_of_length_le (by rw [List.length_map, HL2.out.2]; exact Nat.le_refl _), List.take_of_length_le (by rw [List.length_map, ← HL2.out.1]; exact Nat.le_refl _)] at this)
        clear HA
        go_wp2_with fail
        go_ret
        exact ⟨ret_bool HF.out.symm, HB.out⟩
  · have t0 : (((LX.length : Nat) : Int) != ((LY.length : Nat) : Int)) = true := by simp; omega
    have HF := Lib.hid (Sx.alikeL_len (LX.map (·.1)) (LY.map (·.1)) (by rw [List.length_map, List.length_map]; exact hl))
    clear hl
    go_enter Tryd.func27, Tryd.ntmps27
    go_wp2_with fail
    go_ret
    exact ⟨ret_bool HF.out.symm, Below.refl _ _⟩
/-- a list is of an expression and all within it (or the rows may bear a mark) -/
structure Listd (mk : Prop) (LL : List Part14) (Z : X) : Prop where
  is : LL.map (·.1) = Sx.nodes Z ∨ mk
theorem same_post {mk : Prop} {x y : X} {LX LY : List Part14} (hx : Listd mk LX x) (hy : Listd mk LY y) : (Sx.alikeL (LX.map (·.1)) (LY.map (·.1)) = true ↔ x = y) ∨ mk := by
  rcases hx.is with hx | h
  · rcases hy.is with hy | h
    · left; rw [hx, hy]; exact Sx.same_nodes x y
    · exact .inr h
  · exact .inr h
/-- .. as Same tells it -/
def SameP (mk : Prop) (x y : X) (N : Nat) (w : World) (e : Ending) (w' : World) : Prop := ∃ r : Bool, e = .returned (.bool r) ∧ Below N w w' ∧ ((r = true ↔ x = y) ∨ mk)
set_option maxRecDepth 100000 in
set_option maxHeartbeats 25600000 in
theorem same14_any {mk : Prop} (x y : X) (a a' : Option Addr) (c c' : Nat) (w : World) (hX : XOk w w.heap.size mk x a) (hY : XOk w w.heap.size mk y a') (hfx : Sx.fine x) (hfy : Sx.fine y) (hdx : Sx.deep x ≤ 1000) (hdy : Sx.deep y ≤ 1000) (hsx : (Sx.po x 1).length ≤ 1000000) (hsy : (Sx.po y 1).length ≤ 1000000) :
    Calls Tryd.prog 9 #[xV x a c, xV y a' c'] w (SameP mk x y w.heap.size w) := by
  have cG : ∀ wx, Below w.heap.size w wx → ∀ (Z : X) (aZ : Option Addr) (cZ : Nat), (XOk w w.heap.size mk Z aZ ∧ Sx.fine Z ∧ Sx.deep Z ≤ 1000 ∧ (Sx.po Z 1).length ≤ 1000000) → Calls Tryd.prog 28 #[xV Z aZ cZ] wx fun e w' => ∃ (ao : Option Addr) (cp : Nat) (LL : List Part14), e = .returned (.slice ao LL.length cp) ∧ Hid (ReadsX w' ao LL ∧ Below wx.heap.size wx w' ∧ Listd mk LL Z ∧ LL.length ≤ 2000000) := fun wx hb Z aZ cZ hh =>
    (listed14_any Z aZ cZ wx (xok_same hb.size (fun j hj => hb.block j hj) Z aZ hh.1) hh.2.1 hh.2.2.1 hh.2.2.2).mono fun e w' h => by
      obtain ⟨ao, cp, LL, h1, h2, h3, h4, h5⟩ := h
      exact ⟨ao, cp, LL, h1, Lib.hid ⟨owX_reads h2, h3, ⟨h4⟩, by omega⟩⟩
  have HG := Lib.hid cG
  have HOX := Lib.hid (And.intro hX (And.intro hfx (And.intro hdx hsx)))
  have HOY := Lib.hid (And.intro hY (And.intro hfy (And.intro hdy hsy)))
  clear cG hX hY hfx hfy hdx hdy hsx hsy
  obtain ⟨W0, hW0⟩ : ∃ W0, ((w.alloc (.cells (xC x a c) 29)).alloc (.cells (xC y a' c') 29)) = W0 := ⟨_, rfl⟩
  have hBB : Below w.heap.size w W0 := by rw [← hW0]; exact ((Below.refl w.heap.size w).alloc (Nat.le_refl _) _).alloc (by simp) _
  have hr1 : RowV W0 w.heap.size 29 (xC x a c).toList := by rw [← hW0]; exact rowV_alloc (x_new x a c w).1 _
  have hr2 : RowV W0 (w.heap.size + 1) 29 (xC y a' c').toList := by
    rw [← hW0]
    have := (x_new y a' c' (w.alloc (.cells (xC x a c) 29))).1
    rw [World.size_alloc] at this
    exact this
  have hs0 : W0.heap.size = w.heap.size + 2 := by rw [← hW0]; simp
  dsimp only [xC] at hW0 hr1 hr2
  have HB := Lib.hid (And.intro hBB (And.intro hr1 (And.intro hr2 hs0)))
  obtain ⟨u0, u1, u2, u3, u4, u5⟩ := x_cells (x := x) (a := a) (c := c) hr1
  obtain ⟨v0, v1, v2, v3, v4, v5⟩ := x_cells (x := y) (a := a') (c := c') hr2
  simp only [Nat.zero_add] at u0 u1 u2 u3 u4 u5 v0 v1 v2 v3 v4 v5
  clear hBB hr1 hr2 hs0
  generalize hN : w.heap.size = N at *
  have hNs0 : Hid (N ≤ w.heap.size) := Lib.hid (by omega)
  go_enter Tryd.func9, Tryd.ntmps9
  go_wp2_with fail
  have hdr : Below W0.heap.size W0 W0.drew := ⟨rfl, rfl, rfl, Nat.le_refl _, fun _ _ => rfl⟩
  have hdN : Below N w W0.drew := HB.out.1.trans ⟨rfl, rfl, rfl, Nat.le_refl _, fun _ _ => rfl⟩
  have hNs : N ≤ W0.drew.heap.size := by have := HB.out.1.size; have h2 := hdr.size; omega
  have HK := Lib.hid fun (w1 : World) (hb : Below W0.drew.heap.size W0.drew w1) => (And.intro (hdN.trans (hb.mono hNs)) (And.intro (x_cells (x := x) (a := a) (c := c) (rowV_below (rowV_below HB.out.2.1 hdr (rowV_lt HB.out.2.1)) hb (rowV_lt (rowV_below HB.out.2.1 hdr (rowV_lt HB.out.2.1))))) (x_cells (x := y) (a := a') (c := c') (rowV_below (rowV_below HB.out.2.2.1 hdr (rowV_lt HB.out.2.2.1)) hb (rowV_lt (rowV_below HB.out.2.2.1 hdr (rowV_lt HB.out.2.2.1)))))))
  have HDN := Lib.hid hdN
  clear hdr hdN hNs
  go_region_with (first | (go_at_call 28; refine (HG.out _ (by first | exact HDN.out | exact HS1.out.1) _ _ _ (by first | exact HOX.out | exact HOY.out)).mono ?_; rintro e w1 ⟨ao, cp, LL, rfl, F⟩; first | (have HE := Lib.hid (And.intro (readsX_below HS1.out.2.out.1 F.out.2.1) (And.intro F (And.intro HS1.out.2.out.2.2 (HS1.out.1.trans (F.out.2.1.mono (Nat.le_trans hNs0.out HS1.out.1.size))))))) | (obtain ⟨hb1, ⟨t0, t1, t2, t3, t4, t5⟩, ⟨s0, s1, s2, s3, s4, s5⟩⟩ := HK.out _ F.out.2.1; simp only [Nat.zero_add] at t0 t1 t2 t3 t4 t5 s0 s1 s2 s3 s4 s5; have HS1 := Lib.hid (And.intro hb1 F); clear hb1)) | (go_at_call 27; refine (eqFunc14_any _ _ _ _ _ _ (by first | exact HE.out.2.2.1.2 | exact HE.out.2.1.out.2.2.2) _ (by first | exact HE.out.1 | exact HE.out.2.1.out.1) (by first | exact HE.out.1 | exact HE.out.2.1.out.1)).mono ?_; rintro e w9 ⟨rfl, b9⟩; first | (have HP := Lib.hid (And.intro (HE.out.2.2.2.trans (b9.mono (Nat.le_trans hNs0.out HE.out.2.2.2.size))) (same_post (x := x) (y := y) HE.out.2.2.1.1 HE.out.2.1.out.2.2.1))) | (have HP := Lib.hid (And.intro (HE.out.2.2.2.trans (b9.mono (Nat.le_trans hNs0.out HE.out.2.2.2.size))) (same_post (x := x) (y := y) HE.out.2.1.out.2.2.1 HE.out.2.2.1.1)))))
  all_goals
    clear b9
    go_wp2_with fail
    go_ret
    exact ⟨_, rfl, HP.out⟩
end Go.Proofs.YtekahmlppaabjaaDoor
