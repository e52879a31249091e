/-
  Layer 14, the program's: an expression and all within it, in a list.
-/
import Derived.Test.YtekahmlppaabjaaDoorZSynPrG
import Derived.Test.YtekahmlppaabjaaDoorZSynPr8
import Derived.Test.YtekahmlppaabjaaDoorPk5
namespace Go.Proofs.YtekahmlppaabjaaDoor
open Go.RowKit Go.Shelf
open Sx (X)
attribute [local go_sem] Oper.semAt_some
section
variable {B T E k N : Nat}
theorem survR_own {α : Type} {f : α → List Value} {v : Value} {l : List α} {B' : Nat} (hE : E ≠ T) : SurvR B T (fun W => OwL f E k W B' v l) := fun A A' row hJ hg hr => by
  refine ⟨hJ.1, ?_⟩
  rcases hJ.2 with hn | ⟨g, cap, cur, e, hb, hh, r⟩
  · exact .inl hn
  · refine .inr ⟨g, cap, cur, e, hb, (hg.block g (Array.getElem?_eq_some_iff.1 hh).1 fun e2 => ?_).trans hh, r⟩
    obtain ⟨_, o, ho, hc⟩ := hr g e2.symm
    rw [hh] at ho
    injection ho with ho
    subst ho
    rcases hc with hc | ⟨cs, fz, hc⟩
    · cases hc
    · injection hc with _ hc
      exact hE hc
theorem survR_ex {β : Type} {J : β → World → Prop} (h : ∀ b, SurvR B T (J b)) : SurvR B T (fun W => ∃ b, J b W) := fun A A' row hJ hg hr => by
  obtain ⟨b, hb⟩ := hJ
  exact ⟨b, h b A A' row hb hg hr⟩
end
/-- an append of a part: both orders of its last two stores -/
theorem app_both {W6 : World} {N gg cp n B T : Nat} {LL : List Part14} {u : Value} (hown : OwL fX 29 6 W6 B (.slice (some ⟨gg, 0, none⟩) (n + 1) cp) (LL ++ [(Sx.no, none, 0)])) (hn : LL.length = n) (hr : RowV W6 N T [u]) (hg : gg ≠ N) (z : X) (az : Option Addr) (cz : Nat) (v : Value) :
    (OwL fX 29 6 ((put6 W6 gg (n * 6) z az cz).setCell ⟨N, 0, none⟩ v) B (.slice (some ⟨gg, 0, none⟩) (n + 1) cp) (LL ++ [(z, az, cz)]) ∧ RowV ((put6 W6 gg (n * 6) z az cz).setCell ⟨N, 0, none⟩ v) N T [v] ∧ Only (fun k => k = gg ∨ k = N) W6 ((put6 W6 gg (n * 6) z az cz).setCell ⟨N, 0, none⟩ v)) ∧
    (OwL fX 29 6 (put6 (W6.setCell ⟨N, 0, none⟩ v) gg (n * 6) z az cz) B (.slice (some ⟨gg, 0, none⟩) (n + 1) cp) (LL ++ [(z, az, cz)]) ∧ RowV (put6 (W6.setCell ⟨N, 0, none⟩ v) gg (n * 6) z az cz) N T [v] ∧ Only (fun k => k = gg ∨ k = N) W6 (put6 (W6.setCell ⟨N, 0, none⟩ v) gg (n * 6) z az cz)) := by
  subst hn
  have ost := fun (wx : World) => (Only.refl (fun k => k = N) wx).setCell (g := N) (i := 0) (fun _ => rfl) v
  have hb : ∀ {j}, (Value.slice (some ⟨gg, 0, none⟩) (LL.length + 1) cp).ownBlock = some j → gg = j := fun e => by simpa [Value.ownBlock] using e
  refine ⟨⟨owL_only (put6_owns hown z az cz) (ost _) fun j e e2 => hg ((hb e).trans e2), rowV_set15 (rowV_only hr (put6_only W6 gg (LL.length * 6) z az cz) fun e => hg e.symm) v, ((put6_only W6 gg (LL.length * 6) z az cz).mono fun k _ e => .inl e).trans (ost _) fun k _ e => .inr e⟩,
    ⟨put6_owns (owL_only hown (ost W6) fun j e e2 => hg ((hb e).trans e2)) z az cz, rowV_only (rowV_set15 hr v) (put6_only _ gg (LL.length * 6) z az cz) fun e => hg e.symm, ((ost W6).mono fun k _ e => .inr e).trans (put6_only _ gg (LL.length * 6) z az cz) fun k _ e => .inl e⟩⟩
theorem owL_base14 {α : Type} {f : α → List Value} {E k B B' : Nat} {w : World} {v : Value} {l : List α} (h : OwL f E k w B v l) (hB : B' ≤ B) : OwL f E k w B' v l := by
  refine ⟨h.1, ?_⟩
  rcases h.2 with hn | ⟨g, cap, cur, e, hb, r⟩
  · exact .inl hn
  · exact .inr ⟨g, cap, cur, e, Nat.le_trans hB hb, r⟩
abbrev pick {w0 : World} {m : Nat} {Gd : X → Option Addr → Prop} {mk : Prop} (y : PA w0 m Gd mk) : Part14 := (y.1.1, y.1.2.1, y.1.2.2.1)
set_option maxRecDepth 100000 in
set_option maxHeartbeats 12800000 in
theorem listed14_any {mk : Prop} (x : X) (a : Option Addr) (c : Nat) (w : World) (hX : XOk w w.heap.size mk x a) (hf : Sx.fine x) (hd : Sx.deep x ≤ 1000) (hsz : (Sx.po x 1).length ≤ 1000000):
    Calls Tryd.prog 28 #[xV x a c] w fun e w' => ∃ (ao : Option Addr) (cp : Nat) (LL : List Part14), e = .returned (.slice ao LL.length cp) ∧ OwL fX 29 6 w' w.heap.size (.slice ao LL.length cp) LL ∧ Below w.heap.size w w' ∧ ((LL.map (·.1) = (Sx.po x 1).map (·.1) ∨ mk) ∧ LL.length ≤ 1000001) := by
  have cP := fun wx => parts14_any x a c wx
  have HC := Lib.hid cP
  clear cP
  have hB0 := Lib.hid (x_new x a c w).2.1
  have HL := Lib.hid fun (wr : World) (hb : Below (w.alloc (.cells (xC x a c) 29)).heap.size (w.alloc (.cells (xC x a c) 29)) wr) => x_look hb
  obtain ⟨⟨c0, c1, c2, c3, c4, c5⟩, _⟩ := HL.out _ (Below.refl _ _)
  simp only [Nat.zero_add] at c0 c1 c2 c3 c4 c5
  refine (callsIn_wide (n := 6)).1 ?_
  refine callsIn_of_wp_marks Tryd.func28 rfl trivial ?_ rfl
  simp only [Tryd.ntmps28, List.size_toArray, List.length_cons, List.length_nil, Nat.reduceAdd, Nat.reduceSub, Array.replicate_succ, Array.replicate_zero, List.push_toArray, List.append_toArray, List.nil_append, List.cons_append]
  gi_wp2_with (refine ⟨trivial, ?_⟩; gi_at_call 30; refine (callsIn_wide.2 (HC.out _)).mono ?_; rintro e w1 ⟨rfl, rfl⟩)
  obtain ⟨W3, hW3⟩ : ∃ W3, ((w.alloc (.cells (xC x a c) 29)).alloc (.cells #[.slice none 0 0] 27)).alloc (.cells (xC x a c) 29) = W3 := ⟨_, rfl⟩
  have hB3 : Below w.heap.size w W3 := by
    rw [← hW3]
    exact (((Below.refl w.heap.size w).alloc (Nat.le_refl _) _).alloc (by simp) _).alloc (by simp; omega) _
  have hs3 : W3.heap.size = w.heap.size + 3 := by rw [← hW3]; simp
  have hr1 : RowV W3 (w.heap.size + 1) 27 [.slice none 0 0] := by
    rw [← hW3]
    have := rowV_new (w.alloc (.cells (xC x a c) 29)) 27 [.slice none 0 0]
    rw [World.size_alloc] at this
    exact rowV_alloc this _
  have hr2 : RowV W3 (w.heap.size + 2) 29 (xC x a c).toList := by
    rw [← hW3]
    have := rowV_new ((w.alloc (.cells (xC x a c) 29)).alloc (.cells #[.slice none 0 0] 27)) 29 (xC x a c).toList
    rw [World.size_alloc, World.size_alloc] at this
    exact this
  rw [hW3]
  clear c0 c1 c2 c3 c4 c5
  have hSide : Side w W3 w.heap.size (w.heap.size + 2) x a c := ⟨fun j hj => hB3.block j hj, hr2, by omega, Nat.le_refl _⟩
  generalize hN : w.heap.size = N at *
  obtain ⟨I, eI⟩ : ∃ I : List (PA w N (Gd14 w N mk) mk) → World → Prop, I = fun pre W => ∃ p : Option Addr × Nat, (RowV W (N + 1) 27 [.slice p.1 (pre.map pick).length p.2] ∧ OwL fX 29 6 W (N + 5) (.slice p.1 (pre.map pick).length p.2) (pre.map pick)) ∧ Below N w W := ⟨_, rfl⟩
  obtain ⟨Ix, eIx⟩ : ∃ I : List (PA w N (Gd14 w N mk) mk) → World → Prop, I = fun _ _ => False := ⟨_, rfl⟩
  replace eI := Lib.hid eI
  replace eIx := Lib.hid eIx
  refine wpIn_hands (n := 6) (gf := 49) (lb := #[.pointer (some ⟨N + 1 + 1, 0, none⟩)]) rfl (enters_of Tryd.func49 (by kernel_rfl) rfl)
    (parts14_hands (n := 6 - 1) (by omega) (B2 := W3.heap.size + 2) (Gd := Gd14 w N mk) (mk := mk) (xok_at x a hX) ⟨hX, hf⟩ gd14 hd hSide) (Below.refl _ _) (fun _ => rfl) kpP_t
    (fun W o o' h1 h2 => kpP_put o' (by omega) (by omega) (by omega) h1 h2)
    I Ix (fun s => by rw [eI.out]; exact survR_ex fun p => survR_and (survR_and (survR_row (by omega)) (survR_own (by decide))) (survR_below (by omega) (by omega)))
    (fun s => by rw [eIx.out]; exact survR_const _)
    (by rw [eI.out]; exact ⟨(none, 0), ⟨hr1, owL_nil _⟩, hB3⟩) ?round ?done ?stop
  case round =>
    rintro pre ⟨⟨z, az, cz, dz⟩, hz⟩ W hI hlen hsz2
    rw [eI.out] at hI
    obtain ⟨⟨ao, cp⟩, ⟨hr, ho⟩, hB⟩ := hI
    dsimp only [encP, xV, xC]
    have hnb := (x_new z az cz W).2
    have hnr := (x_new z az cz W).1
    dsimp only [xC] at hnb hnr
    gi_wp2
    refine ⟨⟨hnb.1.block _ (by omega), hnb.1.block _ (by omega)⟩, kpP_below hnb.1, fun W2 ho2 hI2 => ?_⟩
    have hr2 := rowV_only hnr ho2 (by omega)
    have hs2 := ho2.size
    rw [eI.out] at hI2
    obtain ⟨⟨ao2, cp2⟩, ⟨hrr, hoo⟩, hBB⟩ := hI2 pre ⟨(ao, cp), ⟨rowV_alloc hr _, owL_below ho hnb.1⟩, hB.alloc (by have := hB.size; omega) _⟩
    dsimp only at hrr hoo
    have hrq := rowV_only (rowV_alloc hr (.cells #[.int .i64 z.op, .int .i64 z.v.kind, .int .i64 z.v.n, .string z.v.s, .string z.s, .slice az z.l.length cz] 29)) ho2 (by omega)
    have hsame := Option.some.inj ((rowV_cell hrr 0).symm.trans (rowV_cell hrq 0))
    injection hsame with ea _ ec
    subst ea; subst ec
    have hlo := owL_lt ho
    clear hI2 hr ho hrq
    obtain ⟨c0, c1, c2, c3, c4, c5⟩ := x_cells (x := z) (a := az) (c := cz) hr2
    simp only [Nat.zero_add] at c0 c1 c2 c3 c4 c5
    have fr := rowV_frozen hrr 0
    have cr := rowV_cell hrr 0
    simp only [List.getElem?_cons_zero] at cr
    rw [hnb.2] at hs2
    have hpl : (pre.map pick).length ≤ 1000000 := by rw [List.length_map]; omega
    have hsnoc : (pre ++ [(⟨(z, az, cz, dz), hz⟩ : PA w N (Gd14 w N mk) mk)]).map pick = pre.map pick ++ [(z, az, cz)] := by rw [List.map_append]; rfl
    generalize hPL : pre.map pick = PL at *
    generalize hn : PL.length = n at *
    have H2 := Lib.hid (And.intro hrr (And.intro hBB (And.intro hr2 (And.intro hoo hsnoc))))
    clear hrr hBB hr2 hnr ho2 hoo hsnoc
    gi_wp2
    refine wpIn_region_plan3 (S := fun wx => wx.cell? ⟨N + 1, 0, none⟩ = some (.slice ao2 n cp2) ∧ wx.cell? ⟨W.heap.size, 0, none⟩ = some (.int .i64 z.op) ∧ wx.cell? ⟨W.heap.size, 1, none⟩ = some (.int .i64 z.v.kind) ∧ wx.cell? ⟨W.heap.size, 2, none⟩ = some (.int .i64 z.v.n) ∧ wx.cell? ⟨W.heap.size, 3, none⟩ = some (.string z.v.s) ∧ wx.cell? ⟨W.heap.size, 4, none⟩ = some (.string z.s) ∧ wx.cell? ⟨W.heap.size, 5, none⟩ = some (.slice az z.l.length cz)) 5 [(true, 0), (true, 1), (true, 2), (false, 3), (false, 4)] [(true, 5)] 6 7 #[true, true, true, true, true, false, false, false] (by kernel_rfl) (fun _ d _ _ _ h => by cases d <;> exact h) (by kernel_rfl) (fun _ _ h => h) (by kernel_rfl) ⟨cr, c0, c1, c2, c3, c4, c5⟩ ?_
    refine wpPlan_step (i := 0) rfl ⟨(.slice ao2 n cp2), ⟨by rfl, fun wx hSx => ?_⟩, ?_⟩
    · obtain ⟨k1, z4, z5, z6, z7, z8, z9⟩ := hSx
      go_simp
    simp only [Act.put, List.setIfInBounds_toArray, List.set_cons_zero, List.set_cons_succ]
    refine wpPlan_step (i := 1) rfl ⟨(xV z az cz), ⟨by rfl, fun wx hSx => ?_⟩, ?_⟩
    · obtain ⟨k1, z4, z5, z6, z7, z8, z9⟩ := hSx
      go_simp
    simp only [Act.put, List.setIfInBounds_toArray, List.set_cons_zero, List.set_cons_succ]
    refine wpPlan_step (i := 2) rfl ⟨(.int .i64 (n : Int)), ⟨by rfl, fun wx hSx => ?_⟩, ?_⟩
    · obtain ⟨k1, z4, z5, z6, z7, z8, z9⟩ := hSx
      go_simp
    simp only [Act.put, List.setIfInBounds_toArray, List.set_cons_zero, List.set_cons_succ]
    obtain ⟨d1, d2, d3⟩ := no_box W2.drew
    have hNw : N + 1 < W2.drew.heap.size := World.block_lt_of_cell? _ _ cr
    have hZw : W.heap.size < W2.drew.heap.size := World.block_lt_of_cell? _ _ c0
    have hS2 := (⟨(d1.cell (p := ⟨N + 1, 0, none⟩) hNw).trans cr, (d1.cell (p := ⟨W.heap.size, 0, none⟩) hZw).trans c0, (d1.cell (p := ⟨W.heap.size, 1, none⟩) hZw).trans c1, (d1.cell (p := ⟨W.heap.size, 2, none⟩) hZw).trans c2, (d1.cell (p := ⟨W.heap.size, 3, none⟩) hZw).trans c3, (d1.cell (p := ⟨W.heap.size, 4, none⟩) hZw).trans c4, (d1.cell (p := ⟨W.heap.size, 5, none⟩) hZw).trans c5⟩ : _ ∧ _ ∧ _ ∧ _ ∧ _ ∧ _ ∧ _)
    have hown0 := owL_below (owL_below H2.out.2.2.2.1 (Below.refl _ _).drew) d1
    have hbel := ((Below.refl W2.heap.size W2).drew).trans d1
    have hrow0 := rowV_below H2.out.1 hbel (rowV_lt H2.out.1)
    have HB := Lib.hid (And.intro d2 (And.intro d3 (And.intro hown0 (And.intro hbel (And.intro hS2 hrow0)))))
    refine wpPlan_keep (i := 3) rfl (by rfl) fun K hK => wp_value14 (.slice (some ⟨W2.drew.heap.size, 0, none⟩) 1 1) (W2.drew.alloc (.cells #[.int .i64 0, .int .i64 0, .int .i64 0, .string ⟨#[]⟩, .string ⟨#[]⟩, .slice none 0 0] 29)) (by go_simp) (hK _ _ hS2 ?_)
    clear d1 d2 d3 hown0 hbel hS2 cr c0 c1 c2 c3 c4 c5 fr hrow0
    simp only [Act.put, List.setIfInBounds_toArray, List.set_cons_zero, List.set_cons_succ]
    generalize hw5 : W2.drew.alloc _ = w5 at *
    refine wpPlan_keep (i := 4) rfl (by rfl) fun K hK => wp_append_one (f := fX) (B := N + 5) expr_elem (.tmp 9) (.tmp 12) 27 rfl Tryd.underlying27 (.slice ao2 n cp2) PL (Sx.no, none, 0) rfl HB.out.2.2.1 W2.drew.heap.size 1 rfl HB.out.1 rfl (fX_one _) (by omega) (by have := HB.out.2.2.2.1.size; omega) ?_
    intro gg cp6 w6 h1 h2 h3 h4
    rw [hn] at h1
    have hne : ∀ j, (Value.slice ao2 n cp2).ownBlock = some j → N + 5 ≤ j ∧ j ≠ W.heap.size := fun j e => by
      have hlb := owL_lt H2.out.2.2.2.1 j e
      have := (hlo j e).2
      exact ⟨hlb.1, by omega⟩
    have hl5 : N + 1 < w5.heap.size := World.block_lt_of_cell? _ _ HB.out.2.2.2.2.1.1
    have hz5 : W.heap.size < w5.heap.size := World.block_lt_of_cell? _ _ HB.out.2.2.2.2.1.2.1
    have hnF : ∀ {i}, ¬ (Value.slice ao2 n cp2).ownBlock = some (⟨N + 1, i, none⟩ : Addr).block := fun {i} e => by have := (hne _ e).1; dsimp only at this; omega
    have hnZ : ∀ {i}, ¬ (Value.slice ao2 n cp2).ownBlock = some (⟨W.heap.size, i, none⟩ : Addr).block := fun {i} e => (hne _ e).2 rfl
    have k1 := (h2.cell (p := ⟨N + 1, 0, none⟩) hl5 hnF).trans HB.out.2.2.2.2.1.1
    have kr := rowV_only HB.out.2.2.2.2.2 h2 (fun e => by have := (hne _ e).1; omega)
    have fz1 := rowV_frozen kr 0
    refine hK _ _ ⟨k1, (h2.cell (p := ⟨W.heap.size, 0, none⟩) hz5 hnZ).trans HB.out.2.2.2.2.1.2.1, (h2.cell (p := ⟨W.heap.size, 1, none⟩) hz5 hnZ).trans HB.out.2.2.2.2.1.2.2.1, (h2.cell (p := ⟨W.heap.size, 2, none⟩) hz5 hnZ).trans HB.out.2.2.2.2.1.2.2.2.1, (h2.cell (p := ⟨W.heap.size, 3, none⟩) hz5 hnZ).trans HB.out.2.2.2.2.1.2.2.2.2.1, (h2.cell (p := ⟨W.heap.size, 4, none⟩) hz5 hnZ).trans HB.out.2.2.2.2.1.2.2.2.2.2.1, (h2.cell (p := ⟨W.heap.size, 5, none⟩) hz5 hnZ).trans HB.out.2.2.2.2.1.2.2.2.2.2.2⟩ ?_
    rw [hn]
    have hgl := owL_lt h1 gg rfl
    have hgN : gg ≠ N + 1 := by omega
    have hZ := app_both h1 hn kr hgN z az cz (.slice (some ⟨gg, 0, none⟩) (n + 1) cp6)
    have hcell := owL_at1 (f := fX) (fun _ _ => rfl) h1 n (by simp [hn])
    rw [show (PL ++ [((Sx.no, none, 0) : Part14)])[n]'(by simp [hn]) = (Sx.no, none, 0) by subst hn; simp] at hcell
    have q0 := hcell 0 _ rfl
    have q1 := hcell 1 _ rfl
    have q2 := hcell 2 _ rfl
    have q3 := hcell 3 _ rfl
    have q4 := hcell 4 _ rfl
    have q5 := hcell 5 _ rfl
    rw [Nat.add_zero] at q0
    obtain ⟨q0, r0⟩ := q0
    obtain ⟨q1, r1⟩ := q1
    obtain ⟨q2, r2⟩ := q2
    obtain ⟨q3, r3⟩ := q3
    obtain ⟨q4, r4⟩ := q4
    obtain ⟨q5, r5⟩ := q5
    have hgne : ¬ gg = N + 1 := hgN
    have hgne2 : ¬ N + 1 = gg := fun e => hgN e.symm
    have hO6 : Only (fun k => (Value.slice ao2 n cp2).ownBlock = some k) W2 w6 := (Only.of_none HB.out.2.2.2.1).trans h2 fun k _ e => e
    have hgo : gg < W2.heap.size → (Value.slice ao2 n cp2).ownBlock = some gg := fun hg => by
      rcases h3 with e | e
      · exact e
      · have h := HB.out.2.2.2.1.size
        exact absurd h (by omega)
    have HZ := Lib.hid (And.intro hZ (And.intro hO6 (And.intro hgo (And.intro kr hgl))))
    clear h1 h2 h3 h4 hZ hcell hw5 hnF hnZ hne hgl hO6 hgo kr hl5 hz5
    simp only [Act.put, List.setIfInBounds_toArray, List.set_cons_zero, List.set_cons_succ]
    show wpPlan _ _ (fun _ => True) _ _ _ _ _
    refine wpPlan_step (i := 5) rfl ⟨(.pointer (some ⟨gg, n * 6, none⟩)), ⟨by rfl, fun wx hSx => ?_⟩, ?_⟩
    · go_simp
      intro hh; omega
    simp only [Act.put, List.setIfInBounds_toArray, List.set_cons_zero, List.set_cons_succ]
    refine both2_skip (x := 6) (y := 7) rfl rfl (by rfl) (by rfl) rfl rfl (put6 w6 gg (n * 6) z az cz) ((put6 w6 gg (n * 6) z az cz).setCell ⟨N + 1, 0, none⟩ (.slice (some ⟨gg, 0, none⟩) (n + 1) cp6)) (w6.setCell ⟨N + 1, 0, none⟩ (.slice (some ⟨gg, 0, none⟩) (n + 1) cp6)) (put6 (w6.setCell ⟨N + 1, 0, none⟩ (.slice (some ⟨gg, 0, none⟩) (n + 1) cp6)) gg (n * 6) z az cz) ?r1 ?r2 ?r3 ?r4 (fun wz => OwL fX 29 6 wz (N + 5) (.slice (some ⟨gg, 0, none⟩) (n + 1) cp6) (PL ++ [(z, az, cz)]) ∧ RowV wz (N + 1) 27 [.slice (some ⟨gg, 0, none⟩) (n + 1) cp6] ∧ Only (fun k => k = gg ∨ k = N + 1) w6 wz) HZ.out.1.1 HZ.out.1.2 ?_
    case r1 => go_simp
    case r2 => go_simp
    case r3 => go_simp
    case r4 => go_simp
    rintro wz ⟨hz1, hz2, hz3⟩
    have HW := Lib.hid (And.intro hz1 (And.intro hz2 hz3))
    clear hz1 hz2 hz3 q0 q1 q2 q3 q4 q5 r0 r1 r2 r3 r4 r5
    gi_wp2
    have hO2 : Only (fun k => (Value.slice ao2 n cp2).ownBlock = some k ∨ k = N + 1) W2 wz := (HZ.out.2.1.mono fun k _ e => .inl e).trans HW.out.2.2 fun k hk e => by
      rcases e with rfl | e
      · exact .inl (HZ.out.2.2.1 hk)
      · exact .inr e
    have hno : ∀ k, ((Value.slice ao2 n cp2).ownBlock = some k ∨ k = N + 1) → k = N + 1 ∨ N + 5 ≤ k := fun k e => by
      rcases e with e | e
      · exact .inr (hlo k e).1
      · exact .inl e
    have hsW := hB.size
    refine ⟨⟨hO2.block _ (by omega) fun e => by have := hno _ e; omega, hO2.block _ (by omega) fun e => by have := hno _ e; omega⟩, kpP_only hO2 (fun k e => ⟨by have := hno k e; omega, by have := hno k e; omega, ?_⟩), ?_⟩
    · rcases e with e | e
      · rcases H2.out.2.2.2.1.2 with ⟨e2, _⟩ | ⟨g2, c2, cur, e2, _, hh, _⟩
        · rw [e2] at e; cases e
        · rw [e2] at e
          obtain rfl : g2 = k := by simpa [Value.ownBlock] using e
          exact ⟨_, _, _, hh, by decide⟩
      · subst e
        exact ⟨_, _, _, H2.out.1, by decide⟩
    · rw [eI.out]
      refine ⟨(some ⟨gg, 0, none⟩, cp6), ⟨?_, ?_⟩, H2.out.2.1.trans (hO2.below (fun k _ e => by have := hno k e; omega) (by have := H2.out.2.1.size; omega))⟩
      · rw [H2.out.2.2.2.2, List.length_append, hn]; exact HW.out.2.1
      · rw [H2.out.2.2.2.2, List.length_append, hn]; exact HW.out.1
  case done =>
    rintro xs W hSx hI hK
    rw [eI.out] at hI
    obtain ⟨⟨ao, cp⟩, ⟨hr, ho⟩, hB⟩ := hI
    dsimp only at hr ho
    rw [hs3] at hK
    have fr := rowV_frozen hr 0
    have cr := rowV_cell hr 0
    simp only [List.getElem?_cons_zero] at cr
    have hsW : N ≤ W.heap.size := by have := hB.size; omega
    have hS2 : ((xs.map pick).map (·.1) = (Sx.po x 1).map (·.1) ∨ mk) ∧ (xs.map pick).length ≤ 1000001 := by
      rcases hSx with hSx | ⟨hSx, pre, d, rest, h1, h2⟩
      · have h3 := congrArg List.length hSx
        rw [List.length_map] at h3 ⊢
        refine ⟨.inl ?_, by omega⟩
        rw [← hSx, List.map_map, List.map_map]; rfl
      · have h3 := congrArg List.length h2
        have h4 := congrArg List.length h1
        rw [List.length_append] at h3 h4
        rw [List.length_map] at h3 ⊢
        rw [List.length_singleton] at h3
        exact ⟨.inr hSx, by omega⟩
    have HS := Lib.hid (And.intro hS2 ho)
    clear hS2 hSx ho hr
    generalize xs.map pick = PL at *
    gi_wp2
    refine ⟨by simp, .inl ⟨_, _, rfl, run_takeDeferred hK, ?_⟩⟩
    have hp := putObj_only W (N + 3) (.deferred none)
    refine ⟨_, results_tmp (fn := Tryd.f28) (t := 2) rfl _ _ _, ao, cp, PL, rfl, ?_, ?_, HS.out.1⟩
    · try rw [hN]
      exact owL_base14 (owL_only HS.out.2 hp fun j e e2 => by have := (owL_lt HS.out.2 j e).1; have e3 : j = N + 3 := e2; omega) (by omega)
    · try rw [hN]
      exact hB.trans (hp.below (fun k _ hk => by have e3 : k = N + 3 := hk; omega) (by omega))
  case stop =>
    rintro pre W hSp hI hK
    rw [eIx.out] at hI
    exact hI.elim
end Go.Proofs.YtekahmlppaabjaaDoor
