/-
  Layer 14, the program's: a part that was read is handed to an op that waits for it: that waits for more, or is whole.
-/
import Derived.Test.YtekahmlppaabjaaGreatDoorZSynPr7
namespace Go.Proofs.YtekahmlppaabjaaGreatDoor
open Go.RowKit
open Sx (X toksOf isT)
/-- the op that waits, with one part more -/
abbrev wbMore (b : Wb) (gg cp : Nat) (y : X) (ay : Option Addr) (cy : Nat) : Wb := ⟨b.op, b.lev, some ⟨gg, 0, none⟩, cp, b.l ++ [(y, ay, cy)]⟩
section
variable {w w' : World} {R B : Nat} {S : Nat → Prop} {al : Option Addr} {cap : Nat} {L : List Lx.T} {p lev : Nat} {wc : Nat} {V : List Wb} {b : Wb} {y : X} {ay : Option Addr} {cy h g : Nat}
/-- what an append of the part that was read leaves, whichever store comes last -/
structure Handed (w wz : World) (B : Nat) (g gg cp wc : Nat) (V : List Wb) (b : Wb) (y : X) (ay : Option Addr) (cy : Nat) : Prop where
  own : OwL fX 29 6 wz B (.slice (some ⟨gg, 0, none⟩) (b.l.length + 1) cp) (b.l ++ [(y, ay, cy)])
  wts : OwL fB 77 3 wz B (.slice (some ⟨g, 0, none⟩) (V.length + 1) wc) (V ++ [wbMore b gg cp y ay cy])
  only : Only (fun k => b.v.ownBlock = some k ∨ k = g) w wz
  fresh : b.v.ownBlock = some gg ∨ w.heap.size ≤ gg
theorem handed_rdP {wz : World} {gg cp : Nat} (H : RdP w R B S al cap L p lev (some ⟨g, 0, none⟩) wc (V ++ [b]) y ay cy h) (hb : b.l.length ≤ 2) (Z : Handed w wz B g gg cp wc V b y ay cy) :
    RdP wz R B S al cap L p lev (some ⟨g, 0, none⟩) wc (V ++ [wbMore b gg cp y ay cy]) y ay cy h ∧ Only (fun k => k = R ∨ B ≤ k) w wz ∧ g ≠ gg ∧ ¬ S gg := by
  have hlen : ∀ c : Wb, (V ++ [c]).length = V.length + 1 := fun c => by simp
  have hlt := H.lt
  have hbm := H.oks b (by simp)
  have hlb := owL_lt hbm.1
  have hlg := owL_lt H.wts g rfl
  have hsep := List.pairwise_append.1 H.sep
  have hlgg := owL_lt Z.own gg rfl
  have hgg : g ≠ gg := fun e => by
    subst e
    exact owns_apart14 expr_begun Z.own Z.wts g rfl rfl
  have hnS : ∀ j, S j → ¬ (b.v.ownBlock = some j ∨ j = g) := fun j hj e => by
    rcases e with e | e
    · exact hbm.2.2.1 j e hj
    · subst e; exact H.sepW j rfl hj
  have hSgg : ¬ S gg := fun hs => by
    rcases Z.fresh with e | e
    · exact hbm.2.2.1 gg e hs
    · have := (H.hS gg hs).2; omega
  have hx : ∀ z ∈ b.l ++ [(y, ay, cy)], XAt wz S z.1 z.2.1 := fun z hz => by
    rw [List.mem_append, List.mem_singleton] at hz
    rcases hz with hz | rfl
    · exact xat_only Z.only hnS _ _ (hbm.2.1 z hz)
    · exact xat_only Z.only hnS _ _ H.part
  have hl2 : (b.l ++ [(y, ay, cy)]).length = b.l.length + 1 := by simp
  have hV : ∀ b' ∈ V, ∀ j, b'.v.ownBlock = some j → ¬ (b.v.ownBlock = some j ∨ j = g) := fun b' hm j e hh => by
    have hk := H.oks b' (List.mem_append_left _ hm)
    rcases hh with hh | hh
    · exact hsep.2.2 b' hm b (by simp) j e hh
    · subst hh; exact owns_apart14 expr_begun hk.1 H.wts j rfl e
  refine ⟨⟨?_, toks_only H.toks H.alR Z.only (fun k hk e => ?_), by rw [hlen]; exact Z.wts, fun b' hm => ?_, ?_, xat_only Z.only hnS _ _ H.part, hlt, Nat.le_trans H.hB Z.only.size, H.alR, fun j hj => ⟨(H.hS j hj).1, Nat.lt_of_lt_of_le (H.hS j hj).2 Z.only.size⟩, fun j e hj => ?_, fun j hj => um_only Z.only (H.um j hj) (hnS j hj)⟩, Z.only.mono fun k hk e => ?_, hgg, hSgg⟩
  · have hr := rowV_only H.row Z.only (fun e => by
      rcases e with e | e
      · have := (hlb R e).1; omega
      · omega)
    rw [hlen] at hr ⊢
    exact hr
  · rcases e with e | e
    · have := (hlb k e).1; omega
    · omega
  · rw [List.mem_append, List.mem_singleton] at hm
    rcases hm with hm | rfl
    · have hk := H.oks b' (List.mem_append_left _ hm)
      exact wbOk_only hk Z.only (hV b' hm) hnS
    · refine ⟨by show OwL fX _ 6 wz B (.slice (some ⟨gg, 0, none⟩) (b.l ++ [(y, ay, cy)]).length cp) _; rw [hl2]; exact Z.own, hx, fun j e => ?_, hbm.2.2.2.1, by show (b.l ++ [(y, ay, cy)]).length ≤ 3; omega, hbm.2.2.2.2.2⟩
      have e2 : gg = j := by simpa [Value.ownBlock] using e
      subst e2; exact hSgg
  · rw [List.pairwise_append]
    refine ⟨hsep.1, List.pairwise_singleton _ _, fun b' hm c hc j e e2 => ?_⟩
    rw [List.mem_singleton] at hc
    subst hc
    have e3 : gg = j := by simpa [Value.ownBlock] using e2
    subst e3
    rcases Z.fresh with e4 | e4
    · exact hsep.2.2 b' hm b (by simp) gg e e4
    · have := (owL_lt (H.oks b' (List.mem_append_left _ hm)).1 gg e).2; omega
  · have e2 : g = j := by simpa [Value.ownBlock] using e
    subst e2; exact H.sepW g rfl hj
  · rcases e with e | e
    · exact .inr (hlb k e).1
    · exact .inr (by omega)
/-- both ends of the append -/
theorem handed_of {w2 w6 : World} {gg cp : Nat} (H : RdP w R B S al cap L p lev (some ⟨g, 0, none⟩) wc (V ++ [b]) y ay cy h) (h2 : Below w.heap.size w w2) (hown : OwL fX 29 6 w6 B (.slice (some ⟨gg, 0, none⟩) (b.l.length + 1) cp) (b.l ++ [(Sx.no, none, 0)])) (h6 : Only (fun j => b.v.ownBlock = some j) w2 w6) (hgg : b.v.ownBlock = some gg ∨ gg = w2.heap.size) :
    Handed w ((put6 w6 gg (b.l.length * 6) y ay cy).setCell ⟨g, V.length * 3 + 1, none⟩ (.slice (some ⟨gg, 0, none⟩) (b.l.length + 1) cp)) B g gg cp wc V b y ay cy ∧
    Handed w (put6 (w6.setCell ⟨g, V.length * 3 + 1, none⟩ (.slice (some ⟨gg, 0, none⟩) (b.l.length + 1) cp)) gg (b.l.length * 6) y ay cy) B g gg cp wc V b y ay cy := by
  have hlen : (V ++ [b]).length = V.length + 1 := by simp
  have hbm := H.oks b (by simp)
  have hlb := owL_lt hbm.1
  have hw := H.wts
  rw [hlen] at hw
  have hne : ∀ j, b.v.ownBlock = some j → ¬ g = j := fun j e e2 => by subst e2; exact owns_apart14 expr_begun hbm.1 H.wts g rfl e
  have hw2 := owL_below hw h2
  have hw6 := owL_only hw2 h6 (fun j e => fun e2 => hne j e2 (by simpa [Value.ownBlock] using e))
  have hgne : ¬ gg = g := fun e => by subst e; exact owns_apart14 expr_begun hown hw6 gg rfl rfl
  have hl2 : (b.l ++ [(y, ay, cy)]).length = b.l.length + 1 := by simp
  have hfb : fB (wbMore b gg cp y ay cy) = (fB b).set 1 (.slice (some ⟨gg, 0, none⟩) (b.l.length + 1) cp) := by show [_, Value.slice _ (b.l ++ [(y, ay, cy)]).length _, _] = _; rw [hl2]; rfl
  have ost := fun (wx : World) => (Only.refl (fun k => k = g) wx).setCell (g := g) (i := V.length * 3 + 1) (fun _ => rfl) (.slice (some ⟨gg, 0, none⟩) (b.l.length + 1) cp)
  have hfr : b.v.ownBlock = some gg ∨ w.heap.size ≤ gg := hgg.imp_right fun e => by rw [e]; exact h2.size
  have hon : ∀ {wz : World}, Only (fun k => k = gg ∨ k = g) w6 wz → Only (fun k => b.v.ownBlock = some k ∨ k = g) w wz := fun {wz} ho => by
    have h26 : Only (fun k => b.v.ownBlock = some k ∨ k = g) w w6 := (Only.of_none h2).trans (h6.mono fun k _ e => .inl e) fun k _ e => e
    refine h26.trans ho fun k hk e => ?_
    rcases e with rfl | e
    · rcases hfr with e2 | e2
      · exact .inl e2
      · omega
    · exact .inr e
  refine ⟨⟨?_, ?_, hon (((put6_only w6 gg (b.l.length * 6) y ay cy).mono fun k _ e => .inl e).trans (ost _) fun k _ e => .inr e), hfr⟩, ⟨?_, ?_, hon (((ost w6).mono fun k _ e => .inr e).trans (put6_only _ gg (b.l.length * 6) y ay cy) fun k _ e => .inl e), hfr⟩⟩
  · exact owL_only (put6_owns hown y ay cy) (ost _) fun j e e2 => hgne ((by simpa [Value.ownBlock] using e : gg = j).trans e2)
  · exact owL_last1 (f := fB) (fun _ => rfl) (owL_only hw6 (put6_only w6 gg (b.l.length * 6) y ay cy) fun j e e2 => hgne (e2.symm.trans (by simpa [Value.ownBlock] using e.symm))) (by omega) _ _ hfb
  · exact put6_owns (owL_only hown (ost w6) fun j e e2 => hgne ((by simpa [Value.ownBlock] using e : gg = j).trans e2)) y ay cy
  · exact owL_only (owL_last1 (f := fB) (fun _ => rfl) hw6 (by omega) _ _ hfb) (put6_only _ gg (b.l.length * 6) y ay cy) fun j e e2 => hgne (e2.symm.trans (by simpa [Value.ownBlock] using e.symm))
end
theorem both2_skip {P : Program} {ops : Array Oper} {Q : Exit → Act → World → Prop} {x y : Nat} {ox oy : Oper} {a : Act} {w : World} (hx : ops[x]? = some ox) (hy : ops[y]? = some oy) (wx : Region.wanted ox (yielded ops a.tmps) = true) (wy : Region.wanted oy (yielded ops a.tmps) = true) (dx : ox.dst = none) (dy : oy.dst = none)
    (w1 w12 w2 w21 : World) (r1 : (execOp a.eval ox).run P w = .ok .skip w1) (r2 : (execOp a.eval oy).run P w1 = .ok .skip w12) (r3 : (execOp a.eval oy).run P w = .ok .skip w2) (r4 : (execOp a.eval ox).run P w2 = .ok .skip w21) (G : World → Prop) (h12 : G w12) (h21 : G w21) (h : ∀ wz, G wz → Q .normal a wz) : Both2 P ops Q x y a w := by
  have ex : a.put ox.dst undef = a := by rw [dx]; rfl
  have ey : a.put oy.dst undef = a := by rw [dy]; rfl
  refine ⟨wpOp_skip14 hx wx w1 r1 ?_, wpOp_skip14 hy wy w2 r3 ?_⟩
  · rw [ex]
    refine wpOp_skip14 hy wy w12 r2 ?_
    rw [ey]
    exact h _ h12
  · rw [ey]
    refine wpOp_skip14 hx wx w21 r4 ?_
    rw [ex]
    exact h _ h21
theorem owL_at1 {α : Type} {f : α → List Value} {E k B n c g : Nat} {w : World} {l : List α} (hf : ∀ x ∈ l, (f x).length = k) (h : OwL f E k w B (.slice (some ⟨g, 0, none⟩) n c) l) (i : Nat) (hi : i < l.length) : ∀ j u, (f l[i])[j]? = some u → w.cell? ⟨g, i * k + j, none⟩ = some u ∧ w.frozen? ⟨g, i * k + j, none⟩ = false := by
  obtain ⟨g', c', e, hc⟩ := owL_cell hf h i hi
  injection e with e1 _ _
  injection e1 with e1
  injection e1 with e1
  subst e1
  exact hc
theorem no_box (w : World) : Below w.heap.size w (w.alloc (.cells #[.int .i64 0, .int .i64 0, .int .i64 0, .string ⟨#[]⟩, .string ⟨#[]⟩, .slice none 0 0] 29)) ∧ RowV (w.alloc (.cells #[.int .i64 0, .int .i64 0, .int .i64 0, .string ⟨#[]⟩, .string ⟨#[]⟩, .slice none 0 0] 29)) w.heap.size 29 (fX (Sx.no, none, 0)) ∧ (w.alloc (.cells #[.int .i64 0, .int .i64 0, .int .i64 0, .string ⟨#[]⟩, .string ⟨#[]⟩, .slice none 0 0] 29)).heap.size = w.heap.size + 1 :=
  ⟨(no_new w).2.1, (no_new w).1, (no_new w).2.2⟩
section
variable {w w' : World} {R B : Nat} {S : Nat → Prop} {al : Option Addr} {cap : Nat} {L : List Lx.T} {p lev : Nat} {wa : Option Addr} {wc : Nat} {V : List Wb} {b : Wb} {y : X} {ay : Option Addr} {cy h : Nat}
set_option maxRecDepth 100000 in
set_option maxHeartbeats 12800000 in
theorem hand14_more (H : RdP w R B S al cap L p lev wa wc (V ++ [b]) y ay cy h) (hb : b.op ≠ 0) (hV : V.length ≤ 1000000) (hl : b.l.length ≤ 2) (hc : (b.l.length : Int) + 1 < cntP b.op) :
    Calls Tryz.prog 37 #[.pointer (some ⟨R, 0, none⟩)] w fun e w' => ∃ gg cp, Stp w R B S al cap L p lev (V ++ [wbMore b gg cp y ay cy]) y ay cy h false e w' := by
  obtain ⟨g, rfl, c3, hcap, b0, b1, b2, fz, hBg, hRg⟩ := rdP_last H
  obtain ⟨z4, z5, z6, z7, z8, z9⟩ := rdP_xcells H
  have ice := rdP_ice H
  have hbm := H.oks b (by simp)
  have t1 : (b.op == 0) = false := by simpa using hb
  have hRg2 : ¬ g = R := by omega
  have HH := Lib.hid (And.intro H hbm)
  have cC := fun wx => count14_any b.op wx
  have hB := H.hB
  obtain ⟨bop, blev, ba, bc, bl⟩ := b
  dsimp only at *
  generalize hn : V.length = n at *
  generalize hbn : bl.length = bn at *
  have HC := Lib.hid cC
  have hcc := Lib.hid hc
  clear H hbm cC ice hb hc
  go_enter Tryz.func37, Tryz.ntmps37
  go_upto_region 5 with (fail)
  have k1 : w.drew.cell? ⟨g, n * 3 + 1, none⟩ = some (.slice ba bn bc) := b1
  have fz1 : w.drew.frozen? ⟨g, n * 3 + 1, none⟩ = false := fz
  refine wp_region_plan3 (S := fun wx => wx.cell? ⟨g, n * 3 + 1, none⟩ = some (.slice ba bn bc) ∧ wx.cell? ⟨R, 4, none⟩ = some (.int .i64 y.op) ∧ wx.cell? ⟨R, 5, none⟩ = some (.int .i64 y.v.kind) ∧ wx.cell? ⟨R, 6, none⟩ = some (.int .i64 y.v.n) ∧ wx.cell? ⟨R, 7, none⟩ = some (.string y.v.s) ∧ wx.cell? ⟨R, 8, none⟩ = some (.string y.s) ∧ wx.cell? ⟨R, 9, none⟩ = some (.slice ay y.l.length cy)) 11 [(true, 0), (true, 1), (true, 2), (true, 3), (true, 4), (true, 5), (true, 6), (true, 7), (true, 8), (false, 9), (false, 10)] [(true, 11), (true, 13), (true, 14)] 12 15 #[true, true, true, true, true, true, true, true, true, true, true, false, false, false, false, false] (by kernel_rfl) (fun _ d _ _ _ h => by cases d <;> exact h) (by kernel_rfl) ⟨k1, z4, z5, z6, z7, z8, z9⟩ ?_
  refine wpPlan_step (i := 0) rfl ⟨(.pointer (some ⟨g, n * 3, none⟩)), ⟨by rfl, fun wx hSx => ?_⟩, ?_⟩
  · obtain ⟨k1, z4, z5, z6, z7, z8, z9⟩ := hSx
    go_simp
  simp only [Act.put, List.setIfInBounds_toArray, List.set_cons_zero, List.set_cons_succ]
  refine wpPlan_step (i := 1) rfl ⟨(.pointer (some ⟨g, n * 3, none⟩)), ⟨by rfl, fun wx hSx => ?_⟩, ?_⟩
  · obtain ⟨k1, z4, z5, z6, z7, z8, z9⟩ := hSx
    go_simp
  simp only [Act.put, List.setIfInBounds_toArray, List.set_cons_zero, List.set_cons_succ]
  refine wpPlan_step (i := 2) rfl ⟨(.pointer (some ⟨g, n * 3 + 1, none⟩)), ⟨by rfl, fun wx hSx => ?_⟩, ?_⟩
  · obtain ⟨k1, z4, z5, z6, z7, z8, z9⟩ := hSx
    go_simp
  simp only [Act.put, List.setIfInBounds_toArray, List.set_cons_zero, List.set_cons_succ]
  refine wpPlan_step (i := 3) rfl ⟨(.slice ba bn bc), ⟨by rfl, fun wx hSx => ?_⟩, ?_⟩
  · obtain ⟨k1, z4, z5, z6, z7, z8, z9⟩ := hSx
    go_simp
  simp only [Act.put, List.setIfInBounds_toArray, List.set_cons_zero, List.set_cons_succ]
  refine wpPlan_step (i := 4) rfl ⟨(.pointer (some ⟨R, 0, none⟩)), ⟨by rfl, fun wx hSx => ?_⟩, ?_⟩
  · obtain ⟨k1, z4, z5, z6, z7, z8, z9⟩ := hSx
    go_simp
  simp only [Act.put, List.setIfInBounds_toArray, List.set_cons_zero, List.set_cons_succ]
  refine wpPlan_step (i := 5) rfl ⟨(.pointer (some ⟨R, 0, none⟩)), ⟨by rfl, fun wx hSx => ?_⟩, ?_⟩
  · obtain ⟨k1, z4, z5, z6, z7, z8, z9⟩ := hSx
    go_simp
  simp only [Act.put, List.setIfInBounds_toArray, List.set_cons_zero, List.set_cons_succ]
  refine wpPlan_step (i := 6) rfl ⟨(.pointer (some ⟨R, 4, none⟩)), ⟨by rfl, fun wx hSx => ?_⟩, ?_⟩
  · obtain ⟨k1, z4, z5, z6, z7, z8, z9⟩ := hSx
    go_simp
  simp only [Act.put, List.setIfInBounds_toArray, List.set_cons_zero, List.set_cons_succ]
  refine wpPlan_step (i := 7) rfl ⟨(xV y ay cy), ⟨by rfl, fun wx hSx => ?_⟩, ?_⟩
  · obtain ⟨k1, z4, z5, z6, z7, z8, z9⟩ := hSx
    go_simp
  simp only [Act.put, List.setIfInBounds_toArray, List.set_cons_zero, List.set_cons_succ]
  refine wpPlan_step (i := 8) rfl ⟨(.int .i64 (bn : Int)), ⟨by rfl, fun wx hSx => ?_⟩, ?_⟩
  · obtain ⟨k1, z4, z5, z6, z7, z8, z9⟩ := hSx
    go_simp
  simp only [Act.put, List.setIfInBounds_toArray, List.set_cons_zero, List.set_cons_succ]
  obtain ⟨d1, d2, d3⟩ := no_box w.drew
  have hRw : R < w.drew.heap.size := rowV_lt HH.out.1.row
  have hgw : g < w.drew.heap.size := World.block_lt_of_cell? _ _ b1
  have hS2 := (⟨(d1.cell (p := ⟨g, n * 3 + 1, none⟩) hgw).trans k1, (d1.cell (p := ⟨R, 4, none⟩) hRw).trans z4, (d1.cell (p := ⟨R, 5, none⟩) hRw).trans z5, (d1.cell (p := ⟨R, 6, none⟩) hRw).trans z6, (d1.cell (p := ⟨R, 7, none⟩) hRw).trans z7, (d1.cell (p := ⟨R, 8, none⟩) hRw).trans z8, (d1.cell (p := ⟨R, 9, none⟩) hRw).trans z9⟩ : _ ∧ _ ∧ _ ∧ _ ∧ _ ∧ _ ∧ _)
  have hown0 := owL_below (owL_below HH.out.2.1 (Below.refl _ _).drew) d1
  have hbel := ((Below.refl w.heap.size w).drew).trans d1
  have fz2 := (d1.frozen (p := ⟨g, n * 3 + 1, none⟩) hgw).trans fz1
  have HB := Lib.hid (And.intro d2 (And.intro d3 (And.intro hown0 (And.intro hbel (And.intro hS2 fz2)))))
  refine wpPlan_keep (i := 9) rfl (by rfl) fun K hK => wp_value14 (.slice (some ⟨w.drew.heap.size, 0, none⟩) 1 1) (w.drew.alloc (.cells #[.int .i64 0, .int .i64 0, .int .i64 0, .string ⟨#[]⟩, .string ⟨#[]⟩, .slice none 0 0] 29)) (by go_simp) (hK _ _ hS2 ?_)
  clear d1 d2 d3 hown0 hbel hS2 fz1 fz2 k1 z4 z5 z6 z7 z8 z9
  simp only [Act.put, List.setIfInBounds_toArray, List.set_cons_zero, List.set_cons_succ]
  generalize hw2 : w.drew.alloc _ = w2 at *
  refine wpPlan_keep (i := 10) rfl (by rfl) fun K hK => wp_append_one (f := fX) (B := B) expr_elem (.tmp 28) (.tmp 34) 27 rfl Tryz.underlying27 (.slice ba bn bc) bl (Sx.no, none, 0) rfl (by have := HB.out.2.2.1; dsimp only [Wb.v] at this; rw [hbn] at this; exact this) w.drew.heap.size 1 rfl HB.out.1 rfl (fX_one _) (by omega) (Nat.le_trans hB HB.out.2.2.2.1.size) ?_
  intro gg cp w6 h1 h2 h3 h4
  rw [hbn] at h1
  have hne : ∀ j, (Value.slice ba bn bc).ownBlock = some j → ¬ g = j ∧ ¬ R = j := fun j e => by
    have hlb := owL_lt HH.out.2.1 j (by dsimp only [Wb.v]; rw [hbn]; exact e)
    have := HH.out.1.lt
    have hww := HH.out.1.wts
    refine ⟨fun e2 => by subst e2; exact owns_apart14 expr_begun HH.out.2.1 hww g rfl (by dsimp only [Wb.v]; rw [hbn]; exact e), by omega⟩
  have hgl : g < w2.heap.size := World.block_lt_of_cell? _ _ HB.out.2.2.2.2.1.1
  have hRl : R < w2.heap.size := World.block_lt_of_cell? _ _ HB.out.2.2.2.2.1.2.1
  have hnF : ∀ {i}, ¬ (Value.slice ba bn bc).ownBlock = some (⟨R, i, none⟩ : Addr).block := fun {i} e => (hne R e).2 rfl
  have k1 := (h2.cell (p := ⟨g, n * 3 + 1, none⟩) hgl (fun e => (hne g e).1 rfl)).trans HB.out.2.2.2.2.1.1
  have fz1 := (h2.frozen (p := ⟨g, n * 3 + 1, none⟩) hgl (fun e => (hne g e).1 rfl)).trans HB.out.2.2.2.2.2
  refine hK _ _ ⟨k1, (h2.cell (p := ⟨R, 4, none⟩) hRl hnF).trans HB.out.2.2.2.2.1.2.1, (h2.cell (p := ⟨R, 5, none⟩) hRl hnF).trans HB.out.2.2.2.2.1.2.2.1, (h2.cell (p := ⟨R, 6, none⟩) hRl hnF).trans HB.out.2.2.2.2.1.2.2.2.1, (h2.cell (p := ⟨R, 7, none⟩) hRl hnF).trans HB.out.2.2.2.2.1.2.2.2.2.1, (h2.cell (p := ⟨R, 8, none⟩) hRl hnF).trans HB.out.2.2.2.2.1.2.2.2.2.2.1, (h2.cell (p := ⟨R, 9, none⟩) hRl hnF).trans HB.out.2.2.2.2.1.2.2.2.2.2.2⟩ ?_
  rw [hbn]
  have hZ := handed_of (gg := gg) (cp := cp) HH.out.1 HB.out.2.2.2.1 (by dsimp only; rw [hbn]; exact h1) (by dsimp only [Wb.v]; rw [hbn]; exact h2) (by dsimp only [Wb.v]; rw [hbn]; exact h3)
  dsimp only at hZ
  rw [hbn, hn] at hZ
  have hcell := owL_at1 (f := fX) (fun _ _ => rfl) h1 bn (by simp [hbn])
  rw [show (bl ++ [((Sx.no, none, 0) : Part14)])[bn]'(by simp [hbn]) = (Sx.no, none, 0) by subst hbn; simp] at hcell
  have q0 := hcell 0 _ rfl
  have q1 := hcell 1 _ rfl
  have q2 := hcell 2 _ rfl
  have q3 := hcell 3 _ rfl
  have q4 := hcell 4 _ rfl
  have q5 := hcell 5 _ rfl
  rw [Nat.add_zero] at q0
  obtain ⟨q0, r0⟩ := q0
  obtain ⟨q1, r1⟩ := q1
  obtain ⟨q2, r2⟩ := q2
  obtain ⟨q3, r3⟩ := q3
  obtain ⟨q4, r4⟩ := q4
  obtain ⟨q5, r5⟩ := q5
  have hgne : ¬ gg = g := fun e => by
    subst e
    rcases h3 with e | e
    · exact (hne gg e).1 rfl
    · omega
  have hgne2 : ¬ g = gg := fun e => hgne e.symm
  have HZ := Lib.hid hZ
  clear h1 h2 h3 h4 hZ hcell hw2 hnF hne hgl hRl
  simp only [Act.put, List.setIfInBounds_toArray, List.set_cons_zero, List.set_cons_succ]
  show wpPlan _ _ (fun _ => True) _ _ _ _ _
  refine wpPlan_step (i := 11) rfl ⟨(.pointer (some ⟨gg, bn * 6, none⟩)), ⟨by rfl, fun wx hSx => ?_⟩, ?_⟩
  · go_simp
    intro hh; omega
  simp only [Act.put, List.setIfInBounds_toArray, List.set_cons_zero, List.set_cons_succ]
  refine wpPlan_step (i := 13) rfl ⟨(.pointer (some ⟨g, n * 3, none⟩)), ⟨by rfl, fun wx hSx => ?_⟩, ?_⟩
  · go_simp
  simp only [Act.put, List.setIfInBounds_toArray, List.set_cons_zero, List.set_cons_succ]
  refine wpPlan_step (i := 14) rfl ⟨(.pointer (some ⟨g, n * 3 + 1, none⟩)), ⟨by rfl, fun wx hSx => ?_⟩, ?_⟩
  · go_simp
  simp only [Act.put, List.setIfInBounds_toArray, List.set_cons_zero, List.set_cons_succ]
  refine both2_skip (x := 12) (y := 15) rfl rfl (by rfl) (by rfl) rfl rfl (put6 w6 gg (bn * 6) y ay cy) ((put6 w6 gg (bn * 6) y ay cy).setCell ⟨g, n * 3 + 1, none⟩ (.slice (some ⟨gg, 0, none⟩) (bn + 1) cp)) (w6.setCell ⟨g, n * 3 + 1, none⟩ (.slice (some ⟨gg, 0, none⟩) (bn + 1) cp)) (put6 (w6.setCell ⟨g, n * 3 + 1, none⟩ (.slice (some ⟨gg, 0, none⟩) (bn + 1) cp)) gg (bn * 6) y ay cy) ?r1 ?r2 ?r3 ?r4 (fun wz => Handed w wz B g gg cp wc V ⟨bop, blev, ba, bc, bl⟩ y ay cy) HZ.out.1 HZ.out.2 ?_
  case r1 => go_simp
  case r2 => go_simp
  case r3 => go_simp
  case r4 => go_simp
  intro wz HZz
  have hF := handed_rdP HH.out.1 (by dsimp only; omega) HZz
  obtain ⟨g', eg, -, -, n0, n1, n2, -, -, -⟩ := rdP_last hF.1
  obtain rfl : g = g' := by cases eg; rfl
  dsimp only [wbMore] at n0 n1 n2
  rw [hn] at n0 n1 n2
  rw [show (bl ++ [(y, ay, cy)]).length = bn + 1 by simp [hbn]] at n1
  have HF := Lib.hid hF
  clear hF eg HZz HZ q0 q1 q2 q3 q4 q5 r0 r1 r2 r3 r4 r5 k1 fz1 b0 b1 b2 c3 HB fz
  generalize cntP bop = C at *
  go_wp2_with fail
  have hlt : (bn : Int) + 1 < C := hcc.out
  have hdec : decide ((bn : Int) + 1 < C) = true := decide_eq_true hlt
  go_quiet ((go_at_call 51; exact Calls.quiet_of_same (HC.out _)))
  go_wp2_with fail
  go_ret
  have hb9 := rdP_below HF.out.1 (below_drewN (Below.refl wz.heap.size wz) nq)
  exact ⟨gg, cp, rfl, _, _, hb9, HF.out.2.1.drewN nq⟩
/-- an op that is whole is the part that was read -/
theorem rdP_whole {wz w9 : World} {g gg cp lv : Nat} (H : RdP wz R B S al cap L p lev (some ⟨g, 0, none⟩) wc (V ++ [wbMore b gg cp y ay cy]) y ay cy h) (hgg : g ≠ gg) (hSg : ¬ S gg) (ho : Only (fun k => k = R) wz w9)
    (hr : RowV w9 R 56 (rdC al L.length cap p b.lev (some ⟨g, 0, none⟩) V.length wc (.mk b.op Vl.no Vl.mt (b.l.map (·.1) ++ [y])) (some ⟨gg, 0, none⟩) cp lv)) :
    RdP w9 R B (fun j => S j ∨ j = gg) al cap L p b.lev (some ⟨g, 0, none⟩) wc V (.mk b.op Vl.no Vl.mt (b.l.map (·.1) ++ [y])) (some ⟨gg, 0, none⟩) cp lv := by
  have hlen : (V ++ [wbMore b gg cp y ay cy]).length = V.length + 1 := by simp
  have hbm := H.oks (wbMore b gg cp y ay cy) (by simp)
  have hw := H.wts
  rw [hlen] at hw
  have hV := owL_pop (f := fB) (fun _ => rfl) hw rfl
  have hsep := List.pairwise_append.1 H.sep
  have hlt := H.lt
  have hgl := owL_lt hbm.1 gg rfl
  have hnB : ∀ k, B ≤ k → ¬ k = R := fun k hk e => by omega
  have ownn := owL_only hbm.1 ho fun j e => hnB j (owL_lt hbm.1 j e).1
  have hSR : ∀ j, S j → ¬ j = R := fun j hj => hnB j (H.hS j hj).1
  refine ⟨hr, toks_only H.toks H.alR ho (fun k hk e => by have e2 : k = R := e; omega), owL_only hV ho (fun j e => hnB j (owL_lt hV j e).1), fun b' hm => ?_, hsep.1, ?_, hlt, Nat.le_trans H.hB ho.size, H.alR, fun j hj => ?_, fun j e hj => ?_, fun j hj => ?_⟩
  · have hk := H.oks b' (List.mem_append_left _ hm)
    refine ⟨owL_only hk.1 ho (fun j e => hnB j (owL_lt hk.1 j e).1), fun z hz => xat_mono (fun j hj => .inl hj) _ _ (xat_only ho hSR _ _ (hk.2.1 z hz)), fun j e hj => ?_, hk.2.2.2⟩
    rcases hj with hj | hj
    · exact hk.2.2.1 j e hj
    · subst hj; exact hsep.2.2 b' hm _ (List.mem_singleton.2 rfl) j e rfl
  · rw [XAt]
    refine .inr ⟨gg, 0, rfl, .inr rfl, ?_⟩
    have hm : b.l.map (·.1) ++ [y] = (b.l ++ [((y, ay, cy) : Part14)]).map (·.1) := by simp
    rw [hm]
    refine lat_of _ _ fun i hi => ⟨owL_cells6 ownn i hi, xat_mono (fun j hj => .inl hj) _ _ (xat_only ho hSR _ _ (hbm.2.1 _ (List.getElem_mem hi)))⟩
  · rcases hj with hj | hj
    · exact ⟨(H.hS j hj).1, Nat.lt_of_lt_of_le (H.hS j hj).2 ho.size⟩
    · subst hj; exact ⟨hgl.1, Nat.lt_of_lt_of_le hgl.2 ho.size⟩
  · have e2 : g = j := by simpa [Value.ownBlock] using e
    subst e2
    rcases hj with hj | hj
    · exact H.sepW g rfl hj
    · exact hgg hj
  · rcases hj with hj | hj
    · exact um_only ho (H.um j hj) (hSR j hj)
    · subst hj
      rcases ownn.2 with ⟨e, _⟩ | ⟨g2, c2, cur, e, _, hh, _⟩
      · cases e
      · injection e with e _ _
        injection e with e
        injection e with e _ _
        subst e
        exact ⟨_, _, hh⟩
set_option maxRecDepth 100000 in
set_option maxHeartbeats 25600000 in
theorem hand14_whole (H : RdP w R B S al cap L p lev wa wc (V ++ [b]) y ay cy h) (hG : Glob w R) (hb : b.op ≠ 0) (hV : V.length ≤ 1000000) (hl : b.l.length ≤ 2) (hc : ¬ ((b.l.length : Int) + 1 < cntP b.op)) :
    Calls Tryz.prog 37 #[.pointer (some ⟨R, 0, none⟩)] w fun e w' => ∃ gg cp, Stp w R B (fun j => S j ∨ j = gg) al cap L p b.lev V (.mk b.op Vl.no Vl.mt (b.l.map (·.1) ++ [y])) (some ⟨gg, 0, none⟩) cp (Sx.lvl b.op) true e w' := by
  have hGL := Lib.hid hG
  clear hG
  obtain ⟨g, rfl, c3, hcap, b0, b1, b2, fz, hBg, hRg⟩ := rdP_last H
  obtain ⟨z4, z5, z6, z7, z8, z9⟩ := rdP_xcells H
  have ice := rdP_ice H
  have hbm := H.oks b (by simp)
  have t1 : (b.op == 0) = false := by simpa using hb
  have hRg2 : ¬ g = R := by omega
  have HH := Lib.hid (And.intro H hbm)
  have cC := fun wx => count14_any b.op wx
  have hB := H.hB
  obtain ⟨bop, blev, ba, bc, bl⟩ := b
  dsimp only at *
  generalize hn : V.length = n at *
  generalize hbn : bl.length = bn at *
  have HC := Lib.hid cC
  have hcc := Lib.hid hc
  clear H hbm cC ice hb hc
  go_enter Tryz.func37, Tryz.ntmps37
  go_upto_region 5 with (fail)
  have k1 : w.drew.cell? ⟨g, n * 3 + 1, none⟩ = some (.slice ba bn bc) := b1
  have fz1 : w.drew.frozen? ⟨g, n * 3 + 1, none⟩ = false := fz
  refine wp_region_plan3 (S := fun wx => wx.cell? ⟨g, n * 3 + 1, none⟩ = some (.slice ba bn bc) ∧ wx.cell? ⟨R, 4, none⟩ = some (.int .i64 y.op) ∧ wx.cell? ⟨R, 5, none⟩ = some (.int .i64 y.v.kind) ∧ wx.cell? ⟨R, 6, none⟩ = some (.int .i64 y.v.n) ∧ wx.cell? ⟨R, 7, none⟩ = some (.string y.v.s) ∧ wx.cell? ⟨R, 8, none⟩ = some (.string y.s) ∧ wx.cell? ⟨R, 9, none⟩ = some (.slice ay y.l.length cy)) 11 [(true, 0), (true, 1), (true, 2), (true, 3), (true, 4), (true, 5), (true, 6), (true, 7), (true, 8), (false, 9), (false, 10)] [(true, 11), (true, 13), (true, 14)] 12 15 #[true, true, true, true, true, true, true, true, true, true, true, false, false, false, false, false] (by kernel_rfl) (fun _ d _ _ _ h => by cases d <;> exact h) (by kernel_rfl) ⟨k1, z4, z5, z6, z7, z8, z9⟩ ?_
  refine wpPlan_step (i := 0) rfl ⟨(.pointer (some ⟨g, n * 3, none⟩)), ⟨by rfl, fun wx hSx => ?_⟩, ?_⟩
  · obtain ⟨k1, z4, z5, z6, z7, z8, z9⟩ := hSx
    go_simp
  simp only [Act.put, List.setIfInBounds_toArray, List.set_cons_zero, List.set_cons_succ]
  refine wpPlan_step (i := 1) rfl ⟨(.pointer (some ⟨g, n * 3, none⟩)), ⟨by rfl, fun wx hSx => ?_⟩, ?_⟩
  · obtain ⟨k1, z4, z5, z6, z7, z8, z9⟩ := hSx
    go_simp
  simp only [Act.put, List.setIfInBounds_toArray, List.set_cons_zero, List.set_cons_succ]
  refine wpPlan_step (i := 2) rfl ⟨(.pointer (some ⟨g, n * 3 + 1, none⟩)), ⟨by rfl, fun wx hSx => ?_⟩, ?_⟩
  · obtain ⟨k1, z4, z5, z6, z7, z8, z9⟩ := hSx
    go_simp
  simp only [Act.put, List.setIfInBounds_toArray, List.set_cons_zero, List.set_cons_succ]
  refine wpPlan_step (i := 3) rfl ⟨(.slice ba bn bc), ⟨by rfl, fun wx hSx => ?_⟩, ?_⟩
  · obtain ⟨k1, z4, z5, z6, z7, z8, z9⟩ := hSx
    go_simp
  simp only [Act.put, List.setIfInBounds_toArray, List.set_cons_zero, List.set_cons_succ]
  refine wpPlan_step (i := 4) rfl ⟨(.pointer (some ⟨R, 0, none⟩)), ⟨by rfl, fun wx hSx => ?_⟩, ?_⟩
  · obtain ⟨k1, z4, z5, z6, z7, z8, z9⟩ := hSx
    go_simp
  simp only [Act.put, List.setIfInBounds_toArray, List.set_cons_zero, List.set_cons_succ]
  refine wpPlan_step (i := 5) rfl ⟨(.pointer (some ⟨R, 0, none⟩)), ⟨by rfl, fun wx hSx => ?_⟩, ?_⟩
  · obtain ⟨k1, z4, z5, z6, z7, z8, z9⟩ := hSx
    go_simp
  simp only [Act.put, List.setIfInBounds_toArray, List.set_cons_zero, List.set_cons_succ]
  refine wpPlan_step (i := 6) rfl ⟨(.pointer (some ⟨R, 4, none⟩)), ⟨by rfl, fun wx hSx => ?_⟩, ?_⟩
  · obtain ⟨k1, z4, z5, z6, z7, z8, z9⟩ := hSx
    go_simp
  simp only [Act.put, List.setIfInBounds_toArray, List.set_cons_zero, List.set_cons_succ]
  refine wpPlan_step (i := 7) rfl ⟨(xV y ay cy), ⟨by rfl, fun wx hSx => ?_⟩, ?_⟩
  · obtain ⟨k1, z4, z5, z6, z7, z8, z9⟩ := hSx
    go_simp
  simp only [Act.put, List.setIfInBounds_toArray, List.set_cons_zero, List.set_cons_succ]
  refine wpPlan_step (i := 8) rfl ⟨(.int .i64 (bn : Int)), ⟨by rfl, fun wx hSx => ?_⟩, ?_⟩
  · obtain ⟨k1, z4, z5, z6, z7, z8, z9⟩ := hSx
    go_simp
  simp only [Act.put, List.setIfInBounds_toArray, List.set_cons_zero, List.set_cons_succ]
  obtain ⟨d1, d2, d3⟩ := no_box w.drew
  have hRw : R < w.drew.heap.size := rowV_lt HH.out.1.row
  have hgw : g < w.drew.heap.size := World.block_lt_of_cell? _ _ b1
  have hS2 := (⟨(d1.cell (p := ⟨g, n * 3 + 1, none⟩) hgw).trans k1, (d1.cell (p := ⟨R, 4, none⟩) hRw).trans z4, (d1.cell (p := ⟨R, 5, none⟩) hRw).trans z5, (d1.cell (p := ⟨R, 6, none⟩) hRw).trans z6, (d1.cell (p := ⟨R, 7, none⟩) hRw).trans z7, (d1.cell (p := ⟨R, 8, none⟩) hRw).trans z8, (d1.cell (p := ⟨R, 9, none⟩) hRw).trans z9⟩ : _ ∧ _ ∧ _ ∧ _ ∧ _ ∧ _ ∧ _)
  have hown0 := owL_below (owL_below HH.out.2.1 (Below.refl _ _).drew) d1
  have hbel := ((Below.refl w.heap.size w).drew).trans d1
  have fz2 := (d1.frozen (p := ⟨g, n * 3 + 1, none⟩) hgw).trans fz1
  have HB := Lib.hid (And.intro d2 (And.intro d3 (And.intro hown0 (And.intro hbel (And.intro hS2 fz2)))))
  refine wpPlan_keep (i := 9) rfl (by rfl) fun K hK => wp_value14 (.slice (some ⟨w.drew.heap.size, 0, none⟩) 1 1) (w.drew.alloc (.cells #[.int .i64 0, .int .i64 0, .int .i64 0, .string ⟨#[]⟩, .string ⟨#[]⟩, .slice none 0 0] 29)) (by go_simp) (hK _ _ hS2 ?_)
  clear d1 d2 d3 hown0 hbel hS2 fz1 fz2 k1 z4 z5 z6 z7 z8 z9
  simp only [Act.put, List.setIfInBounds_toArray, List.set_cons_zero, List.set_cons_succ]
  generalize hw2 : w.drew.alloc _ = w2 at *
  refine wpPlan_keep (i := 10) rfl (by rfl) fun K hK => wp_append_one (f := fX) (B := B) expr_elem (.tmp 28) (.tmp 34) 27 rfl Tryz.underlying27 (.slice ba bn bc) bl (Sx.no, none, 0) rfl (by have := HB.out.2.2.1; dsimp only [Wb.v] at this; rw [hbn] at this; exact this) w.drew.heap.size 1 rfl HB.out.1 rfl (fX_one _) (by omega) (Nat.le_trans hB HB.out.2.2.2.1.size) ?_
  intro gg cp w6 h1 h2 h3 h4
  rw [hbn] at h1
  have hne : ∀ j, (Value.slice ba bn bc).ownBlock = some j → ¬ g = j ∧ ¬ R = j := fun j e => by
    have hlb := owL_lt HH.out.2.1 j (by dsimp only [Wb.v]; rw [hbn]; exact e)
    have := HH.out.1.lt
    have hww := HH.out.1.wts
    refine ⟨fun e2 => by subst e2; exact owns_apart14 expr_begun HH.out.2.1 hww g rfl (by dsimp only [Wb.v]; rw [hbn]; exact e), by omega⟩
  have hgl : g < w2.heap.size := World.block_lt_of_cell? _ _ HB.out.2.2.2.2.1.1
  have hRl : R < w2.heap.size := World.block_lt_of_cell? _ _ HB.out.2.2.2.2.1.2.1
  have hnF : ∀ {i}, ¬ (Value.slice ba bn bc).ownBlock = some (⟨R, i, none⟩ : Addr).block := fun {i} e => (hne R e).2 rfl
  have k1 := (h2.cell (p := ⟨g, n * 3 + 1, none⟩) hgl (fun e => (hne g e).1 rfl)).trans HB.out.2.2.2.2.1.1
  have fz1 := (h2.frozen (p := ⟨g, n * 3 + 1, none⟩) hgl (fun e => (hne g e).1 rfl)).trans HB.out.2.2.2.2.2
  refine hK _ _ ⟨k1, (h2.cell (p := ⟨R, 4, none⟩) hRl hnF).trans HB.out.2.2.2.2.1.2.1, (h2.cell (p := ⟨R, 5, none⟩) hRl hnF).trans HB.out.2.2.2.2.1.2.2.1, (h2.cell (p := ⟨R, 6, none⟩) hRl hnF).trans HB.out.2.2.2.2.1.2.2.2.1, (h2.cell (p := ⟨R, 7, none⟩) hRl hnF).trans HB.out.2.2.2.2.1.2.2.2.2.1, (h2.cell (p := ⟨R, 8, none⟩) hRl hnF).trans HB.out.2.2.2.2.1.2.2.2.2.2.1, (h2.cell (p := ⟨R, 9, none⟩) hRl hnF).trans HB.out.2.2.2.2.1.2.2.2.2.2.2⟩ ?_
  rw [hbn]
  have hZ := handed_of (gg := gg) (cp := cp) HH.out.1 HB.out.2.2.2.1 (by dsimp only; rw [hbn]; exact h1) (by dsimp only [Wb.v]; rw [hbn]; exact h2) (by dsimp only [Wb.v]; rw [hbn]; exact h3)
  dsimp only at hZ
  rw [hbn, hn] at hZ
  have hcell := owL_at1 (f := fX) (fun _ _ => rfl) h1 bn (by simp [hbn])
  rw [show (bl ++ [((Sx.no, none, 0) : Part14)])[bn]'(by simp [hbn]) = (Sx.no, none, 0) by subst hbn; simp] at hcell
  have q0 := hcell 0 _ rfl
  have q1 := hcell 1 _ rfl
  have q2 := hcell 2 _ rfl
  have q3 := hcell 3 _ rfl
  have q4 := hcell 4 _ rfl
  have q5 := hcell 5 _ rfl
  rw [Nat.add_zero] at q0
  obtain ⟨q0, r0⟩ := q0
  obtain ⟨q1, r1⟩ := q1
  obtain ⟨q2, r2⟩ := q2
  obtain ⟨q3, r3⟩ := q3
  obtain ⟨q4, r4⟩ := q4
  obtain ⟨q5, r5⟩ := q5
  have hgne : ¬ gg = g := fun e => by
    subst e
    rcases h3 with e | e
    · exact (hne gg e).1 rfl
    · omega
  have hgne2 : ¬ g = gg := fun e => hgne e.symm
  have HZ := Lib.hid hZ
  clear h1 h2 h3 h4 hZ hcell hw2 hnF hne hgl hRl
  simp only [Act.put, List.setIfInBounds_toArray, List.set_cons_zero, List.set_cons_succ]
  show wpPlan _ _ (fun _ => True) _ _ _ _ _
  refine wpPlan_step (i := 11) rfl ⟨(.pointer (some ⟨gg, bn * 6, none⟩)), ⟨by rfl, fun wx hSx => ?_⟩, ?_⟩
  · go_simp
    intro hh; omega
  simp only [Act.put, List.setIfInBounds_toArray, List.set_cons_zero, List.set_cons_succ]
  refine wpPlan_step (i := 13) rfl ⟨(.pointer (some ⟨g, n * 3, none⟩)), ⟨by rfl, fun wx hSx => ?_⟩, ?_⟩
  · go_simp
  simp only [Act.put, List.setIfInBounds_toArray, List.set_cons_zero, List.set_cons_succ]
  refine wpPlan_step (i := 14) rfl ⟨(.pointer (some ⟨g, n * 3 + 1, none⟩)), ⟨by rfl, fun wx hSx => ?_⟩, ?_⟩
  · go_simp
  simp only [Act.put, List.setIfInBounds_toArray, List.set_cons_zero, List.set_cons_succ]
  refine both2_skip (x := 12) (y := 15) rfl rfl (by rfl) (by rfl) rfl rfl (put6 w6 gg (bn * 6) y ay cy) ((put6 w6 gg (bn * 6) y ay cy).setCell ⟨g, n * 3 + 1, none⟩ (.slice (some ⟨gg, 0, none⟩) (bn + 1) cp)) (w6.setCell ⟨g, n * 3 + 1, none⟩ (.slice (some ⟨gg, 0, none⟩) (bn + 1) cp)) (put6 (w6.setCell ⟨g, n * 3 + 1, none⟩ (.slice (some ⟨gg, 0, none⟩) (bn + 1) cp)) gg (bn * 6) y ay cy) ?r1 ?r2 ?r3 ?r4 (fun wz => Handed w wz B g gg cp wc V ⟨bop, blev, ba, bc, bl⟩ y ay cy) HZ.out.1 HZ.out.2 ?_
  case r1 => go_simp
  case r2 => go_simp
  case r3 => go_simp
  case r4 => go_simp
  intro wz HZz
  have hF := handed_rdP HH.out.1 (by dsimp only; omega) HZz
  obtain ⟨g', eg, -, -, n0, n1, n2, -, -, -⟩ := rdP_last hF.1
  obtain rfl : g = g' := by cases eg; rfl
  dsimp only [wbMore] at n0 n1 n2
  rw [hn] at n0 n1 n2
  rw [show (bl ++ [(y, ay, cy)]).length = bn + 1 by simp [hbn]] at n1
  have HF := Lib.hid hF
  clear hF eg HZz HZ q0 q1 q2 q3 q4 q5 r0 r1 r2 r3 r4 r5 k1 fz1 b0 b1 b2 c3 HB fz
  have hop : 1 ≤ bop ∧ bop ≤ 16 := by have := HH.out.2.2.2.2.1; dsimp only at this; rcases this with h | h | h | h <;> first | omega | (exact absurd h (by simpa using t1))
  have cL := fun wx hT => levelOf14_any bop hop.1 hop.2 wx hT
  have hmap : (bl.map (·.1) ++ [y]).length = bn + 1 := by simp [hbn]
  generalize cntP bop = C at *
  go_wp2_with fail
  have hlt : ¬ (bn : Int) + 1 < C := by have := hcc.out; omega
  have hdec : decide ((bn : Int) + 1 < C) = false := decide_eq_false hlt
  go_quiet ((go_at_call 51; exact Calls.quiet_of_same (HC.out _)))
  go_upto_region 8 with (fail)
  have hlt9 := HH.out.1.lt
  have G9 := glob_below (glob_only hGL.out HF.out.2.1 (fun k hk e => by rcases e with e | e <;> omega)) (below_drewN (Below.refl wz.heap.size wz) nq)
  have H9 := rdP_below HF.out.1 (below_drewN (Below.refl wz.heap.size wz) nq)
  have O9 := HF.out.2.1.drewN nq
  have n0' : (wz.drewN nq).cell? ⟨g, n * 3, none⟩ = some (.int .i64 bop) := n0
  have n1' : (wz.drewN nq).cell? ⟨g, n * 3 + 1, none⟩ = some (.slice (some ⟨gg, 0, none⟩) (bn + 1) cp) := n1
  have n2' : (wz.drewN nq).cell? ⟨g, n * 3 + 2, none⟩ = some (.int .i64 (blev : Int)) := n2
  clear n0 n1 n2
  generalize wz.drewN nq = wq at *
  have HQ := Lib.hid (And.intro H9 (And.intro O9 (And.intro HF.out.2.2.1 HF.out.2.2.2)))
  have hT9 : Twos wq.drew := twos_below G9.1 (Below.refl _ _).drew
  obtain ⟨x4, x5, x6, x7, x8, x9⟩ := rdP_xcells H9
  have ice := rdP_ice H9
  have i4 := ice 4; have i5 := ice 5; have i6 := ice 6; have i7 := ice 7; have i8 := ice 8; have i9 := ice 9
  have k0 : wq.drew.cell? ⟨g, n * 3, none⟩ = some (.int .i64 bop) := n0'
  have k1 : wq.drew.cell? ⟨g, n * 3 + 1, none⟩ = some (.slice (some ⟨gg, 0, none⟩) (bn + 1) cp) := n1'
  have hrow := rowV_below H9.row (Below.refl wq.heap.size wq).drew (rowV_lt H9.row)
  have hgq : g < wq.drew.heap.size := World.block_lt_of_cell? _ _ n0'
  have HR := Lib.hid hrow
  clear H9 O9 ice HF hrow
  refine wp_region_plan (S := fun wx => wx.cell? ⟨g, n * 3, none⟩ = some (.int .i64 bop) ∧ wx.cell? ⟨g, n * 3 + 1, none⟩ = some (.slice (some ⟨gg, 0, none⟩) (bn + 1) cp)) 21 [(true, 0), (true, 1), (true, 2), (true, 3), (true, 4), (true, 5), (true, 6), (true, 7), (true, 8), (true, 9), (true, 10), (true, 11), (true, 12), (true, 13), (true, 14), (false, 15), (true, 16), (true, 17), (false, 18), (true, 19), (true, 20)] (by kernel_rfl) (fun _ d _ _ _ h => by cases d <;> exact h) (by kernel_rfl) ⟨k0, k1⟩ ?_
  refine wpPlan_step (i := 0) rfl ⟨(.pointer (some ⟨R, 0, none⟩)), ⟨by rfl, fun wx hSx => ?_⟩, ?_⟩
  · obtain ⟨z0, z1⟩ := hSx
    go_simp
  simp only [Act.put, List.setIfInBounds_toArray, List.set_cons_zero, List.set_cons_succ]
  refine wpPlan_step (i := 1) rfl ⟨(.pointer (some ⟨R, 0, none⟩)), ⟨by rfl, fun wx hSx => ?_⟩, ?_⟩
  · obtain ⟨z0, z1⟩ := hSx
    go_simp
  simp only [Act.put, List.setIfInBounds_toArray, List.set_cons_zero, List.set_cons_succ]
  refine wpPlan_step (i := 2) rfl ⟨(.pointer (some ⟨g, n * 3, none⟩)), ⟨by rfl, fun wx hSx => ?_⟩, ?_⟩
  · obtain ⟨z0, z1⟩ := hSx
    go_simp
  simp only [Act.put, List.setIfInBounds_toArray, List.set_cons_zero, List.set_cons_succ]
  refine wpPlan_step (i := 3) rfl ⟨(.pointer (some ⟨g, n * 3, none⟩)), ⟨by rfl, fun wx hSx => ?_⟩, ?_⟩
  · obtain ⟨z0, z1⟩ := hSx
    go_simp
  simp only [Act.put, List.setIfInBounds_toArray, List.set_cons_zero, List.set_cons_succ]
  refine wpPlan_step (i := 4) rfl ⟨(.pointer (some ⟨g, n * 3, none⟩)), ⟨by rfl, fun wx hSx => ?_⟩, ?_⟩
  · obtain ⟨z0, z1⟩ := hSx
    go_simp
  simp only [Act.put, List.setIfInBounds_toArray, List.set_cons_zero, List.set_cons_succ]
  refine wpPlan_step (i := 5) rfl ⟨(.int .i64 bop), ⟨by rfl, fun wx hSx => ?_⟩, ?_⟩
  · obtain ⟨z0, z1⟩ := hSx
    go_simp
  simp only [Act.put, List.setIfInBounds_toArray, List.set_cons_zero, List.set_cons_succ]
  refine wpPlan_step (i := 6) rfl ⟨(.pointer (some ⟨g, n * 3, none⟩)), ⟨by rfl, fun wx hSx => ?_⟩, ?_⟩
  · obtain ⟨z0, z1⟩ := hSx
    go_simp
  simp only [Act.put, List.setIfInBounds_toArray, List.set_cons_zero, List.set_cons_succ]
  refine wpPlan_step (i := 7) rfl ⟨(.pointer (some ⟨g, n * 3, none⟩)), ⟨by rfl, fun wx hSx => ?_⟩, ?_⟩
  · obtain ⟨z0, z1⟩ := hSx
    go_simp
  simp only [Act.put, List.setIfInBounds_toArray, List.set_cons_zero, List.set_cons_succ]
  refine wpPlan_step (i := 8) rfl ⟨(.pointer (some ⟨g, n * 3 + 1, none⟩)), ⟨by rfl, fun wx hSx => ?_⟩, ?_⟩
  · obtain ⟨z0, z1⟩ := hSx
    go_simp
  simp only [Act.put, List.setIfInBounds_toArray, List.set_cons_zero, List.set_cons_succ]
  refine wpPlan_step (i := 9) rfl ⟨(.slice (some ⟨gg, 0, none⟩) (bn + 1) cp), ⟨by rfl, fun wx hSx => ?_⟩, ?_⟩
  · obtain ⟨z0, z1⟩ := hSx
    go_simp
  simp only [Act.put, List.setIfInBounds_toArray, List.set_cons_zero, List.set_cons_succ]
  refine wpPlan_step (i := 10) rfl ⟨(.agg #[.int .i64 bop, .int .i64 0, .int .i64 0, .string ⟨#[]⟩, .string ⟨#[]⟩, .slice (some ⟨gg, 0, none⟩) (bn + 1) cp]), ⟨by rfl, fun wx hSx => ?_⟩, ?_⟩
  · obtain ⟨z0, z1⟩ := hSx
    go_simp
  simp only [Act.put, List.setIfInBounds_toArray, List.set_cons_zero, List.set_cons_succ]
  refine wpPlan_step (i := 11) rfl ⟨(.pointer (some ⟨g, n * 3, none⟩)), ⟨by rfl, fun wx hSx => ?_⟩, ?_⟩
  · obtain ⟨z0, z1⟩ := hSx
    go_simp
  simp only [Act.put, List.setIfInBounds_toArray, List.set_cons_zero, List.set_cons_succ]
  refine wpPlan_step (i := 12) rfl ⟨(.pointer (some ⟨g, n * 3, none⟩)), ⟨by rfl, fun wx hSx => ?_⟩, ?_⟩
  · obtain ⟨z0, z1⟩ := hSx
    go_simp
  simp only [Act.put, List.setIfInBounds_toArray, List.set_cons_zero, List.set_cons_succ]
  refine wpPlan_step (i := 13) rfl ⟨(.pointer (some ⟨g, n * 3, none⟩)), ⟨by rfl, fun wx hSx => ?_⟩, ?_⟩
  · obtain ⟨z0, z1⟩ := hSx
    go_simp
  simp only [Act.put, List.setIfInBounds_toArray, List.set_cons_zero, List.set_cons_succ]
  refine wpPlan_step (i := 14) rfl ⟨(.int .i64 bop), ⟨by rfl, fun wx hSx => ?_⟩, ?_⟩
  · obtain ⟨z0, z1⟩ := hSx
    go_simp
  simp only [Act.put, List.setIfInBounds_toArray, List.set_cons_zero, List.set_cons_succ]
  refine wpPlan_call (i := 15) rfl (by rfl) 23 #[.int .i64 bop] (by go_simp) (cL _ hT9) ?_
  rintro e w7 ⟨rfl, rfl⟩
  refine .inl ⟨_, rfl, ⟨k0, k1⟩, ?_⟩
  simp only [Act.put, List.setIfInBounds_toArray, List.set_cons_zero, List.set_cons_succ]
  refine wpPlan_step (i := 16) rfl ⟨(.pointer (some ⟨R, 0, none⟩)), ⟨by rfl, fun wx hSx => ?_⟩, ?_⟩
  · obtain ⟨z0, z1⟩ := hSx
    go_simp
  simp only [Act.put, List.setIfInBounds_toArray, List.set_cons_zero, List.set_cons_succ]
  refine wpPlan_step (i := 17) rfl ⟨(.pointer (some ⟨R, 4, none⟩)), ⟨by rfl, fun wx hSx => ?_⟩, ?_⟩
  · obtain ⟨z0, z1⟩ := hSx
    go_simp
  simp only [Act.put, List.setIfInBounds_toArray, List.set_cons_zero, List.set_cons_succ]
  have hoP : Only (fun k => k = R) wq.drew ((((((wq.drew.setCell ⟨R, 4, none⟩ (.int .i64 bop)).setCell ⟨R, 5, none⟩ (.int .i64 0)).setCell ⟨R, 6, none⟩ (.int .i64 0)).setCell ⟨R, 7, none⟩ (.string ⟨#[]⟩)).setCell ⟨R, 8, none⟩ (.string ⟨#[]⟩)).setCell ⟨R, 9, none⟩ (.slice (some ⟨gg, 0, none⟩) (bn + 1) cp)) := ((((((Only.refl (fun k => k = R) wq.drew).setCell (g := R) (i := 4) (fun _ => rfl) _).setCell (g := R) (i := 5) (fun _ => rfl) _).setCell (g := R) (i := 6) (fun _ => rfl) _).setCell (g := R) (i := 7) (fun _ => rfl) _).setCell (g := R) (i := 8) (fun _ => rfl) _).setCell (g := R) (i := 9) (fun _ => rfl) _
  have hk0 := (hoP.cell (p := ⟨g, n * 3, none⟩) hgq hRg2).trans k0
  have hk1 := (hoP.cell (p := ⟨g, n * 3 + 1, none⟩) hgq hRg2).trans k1
  have hk2 := (hoP.cell (p := ⟨g, n * 3 + 2, none⟩) hgq hRg2).trans n2'
  have hrP := rowV_stored (rowV_stored (rowV_stored (rowV_stored (rowV_stored (rowV_stored HR.out 4 (.int .i64 bop)) 5 (.int .i64 0)) 6 (.int .i64 0)) 7 (.string ⟨#[]⟩)) 8 (.string ⟨#[]⟩)) 9 (.slice (some ⟨gg, 0, none⟩) (bn + 1) cp)
  have HP := Lib.hid (And.intro hoP (And.intro hrP hk2))
  refine wpPlan_keep (i := 18) rfl (by rfl) fun K hK => wp_skip14 ((((((wq.drew.setCell ⟨R, 4, none⟩ (.int .i64 bop)).setCell ⟨R, 5, none⟩ (.int .i64 0)).setCell ⟨R, 6, none⟩ (.int .i64 0)).setCell ⟨R, 7, none⟩ (.string ⟨#[]⟩)).setCell ⟨R, 8, none⟩ (.string ⟨#[]⟩)).setCell ⟨R, 9, none⟩ (.slice (some ⟨gg, 0, none⟩) (bn + 1) cp)) (by go_simp) (hK _ _ ⟨hk0, hk1⟩ ?_)
  clear hoP hrP hk0 hk1 hk2
  simp only [Act.put]
  generalize hwp : World.setCell _ _ (.slice (some ⟨gg, 0, none⟩) (bn + 1) cp) = wp at *
  refine wpPlan_step (i := 19) rfl ⟨(.pointer (some ⟨R, 0, none⟩)), ⟨by rfl, fun wx hSx => ?_⟩, ?_⟩
  · obtain ⟨z0, z1⟩ := hSx
    go_simp
  simp only [Act.put, List.setIfInBounds_toArray, List.set_cons_zero, List.set_cons_succ]
  refine wpPlan_step (i := 20) rfl ⟨(.pointer (some ⟨R, 10, none⟩)), ⟨by rfl, fun wx hSx => ?_⟩, ?_⟩
  · obtain ⟨z0, z1⟩ := hSx
    go_simp
  simp only [Act.put, List.setIfInBounds_toArray, List.set_cons_zero, List.set_cons_succ]
  show wpList _ _ _ _ _ _
  simp only [List.drop_succ_cons, List.drop_zero]
  clear k0 k1 x4 x5 x6 x7 x8 x9 i4 i5 i6 i7 i8 i9
  have u10 : wp.cell? ⟨R, 10, none⟩ = some (.int .i64 (h : Int)) := rowV_cell HP.out.2.1 10
  have i10 := rowV_frozen HP.out.2.1 10
  go_upto_region 9 with (fail)
  have hrt := rowV_stored HP.out.2.1 10 (.int .i64 (Sx.lvl bop : Nat))
  have hot : Only (fun k => k = R) wq (wp.setCell ⟨R, 10, none⟩ (.int .i64 (Sx.lvl bop : Nat))) := ((Only.of_none (Below.refl wq.heap.size wq).drew).trans HP.out.1 fun k _ e => e).setCell (g := R) (i := 10) (fun _ => rfl) _
  have hk2t : (wp.setCell ⟨R, 10, none⟩ (.int .i64 (Sx.lvl bop : Nat))).cell? ⟨g, n * 3 + 2, none⟩ = some (.int .i64 (blev : Int)) := by rw [cell_other14 _ _ _ _ _ _ (fun e => hRg2 e.1)]; exact HP.out.2.2
  generalize wp.setCell ⟨R, 10, none⟩ _ = wt at *
  have c2 : wt.cell? ⟨R, 2, none⟩ = some (.int .i64 (lev : Int)) := rowV_cell hrt 2
  have c3' : wt.cell? ⟨R, 3, none⟩ = some (.slice (some ⟨g, 0, none⟩) (n + 1) wc) := by
    have e := rowV_cell hrt 3
    have e2 : wt.cell? ⟨R, 3, none⟩ = some (.slice (some ⟨g, 0, none⟩) (V ++ [wbMore ⟨bop, blev, ba, bc, bl⟩ gg cp y ay cy]).length wc) := e
    rw [show (V ++ [wbMore ⟨bop, blev, ba, bc, bl⟩ gg cp y ay cy]).length = n + 1 by simp [hn]] at e2
    exact e2
  have i2 := rowV_frozen hrt 2
  have i3 := rowV_frozen hrt 3
  have k3 : wt.drew.cell? ⟨R, 3, none⟩ = some (.slice (some ⟨g, 0, none⟩) (n + 1) wc) := c3'
  have k2 : wt.drew.cell? ⟨g, n * 3 + 2, none⟩ = some (.int .i64 (blev : Int)) := hk2t
  have HT := Lib.hid (And.intro hrt hot)
  have hRg := hRg2
  clear hrt hot HP u10 i10 n0' n1' n2'
  refine wp_region_plan (S := fun wx => wx.cell? ⟨R, 3, none⟩ = some (.slice (some ⟨g, 0, none⟩) (n + 1) wc) ∧ wx.cell? ⟨g, n * 3 + 2, none⟩ = some (.int .i64 (blev : Int))) 17 [(true, 0), (true, 1), (true, 2), (true, 3), (true, 4), (true, 5), (true, 6), (true, 7), (true, 8), (true, 9), (true, 10), (true, 11), (true, 12), (true, 13), (false, 14), (true, 15), (true, 16)] (by kernel_rfl) (fun _ d _ _ _ h => by cases d <;> exact h) (by kernel_rfl) ⟨k3, k2⟩ ?_
  refine wpPlan_step (i := 0) rfl ⟨(.pointer (some ⟨R, 0, none⟩)), ⟨by rfl, fun wx hSx => ?_⟩, ?_⟩
  · obtain ⟨z3, z2⟩ := hSx
    go_simp
  simp only [Act.put, List.setIfInBounds_toArray, List.set_cons_zero, List.set_cons_succ]
  refine wpPlan_step (i := 1) rfl ⟨(.pointer (some ⟨R, 0, none⟩)), ⟨by rfl, fun wx hSx => ?_⟩, ?_⟩
  · obtain ⟨z3, z2⟩ := hSx
    go_simp
  simp only [Act.put, List.setIfInBounds_toArray, List.set_cons_zero, List.set_cons_succ]
  refine wpPlan_step (i := 2) rfl ⟨(.pointer (some ⟨g, n * 3, none⟩)), ⟨by rfl, fun wx hSx => ?_⟩, ?_⟩
  · obtain ⟨z3, z2⟩ := hSx
    go_simp
  simp only [Act.put, List.setIfInBounds_toArray, List.set_cons_zero, List.set_cons_succ]
  refine wpPlan_step (i := 3) rfl ⟨(.pointer (some ⟨g, n * 3, none⟩)), ⟨by rfl, fun wx hSx => ?_⟩, ?_⟩
  · obtain ⟨z3, z2⟩ := hSx
    go_simp
  simp only [Act.put, List.setIfInBounds_toArray, List.set_cons_zero, List.set_cons_succ]
  refine wpPlan_step (i := 4) rfl ⟨(.pointer (some ⟨g, n * 3 + 2, none⟩)), ⟨by rfl, fun wx hSx => ?_⟩, ?_⟩
  · obtain ⟨z3, z2⟩ := hSx
    go_simp
  simp only [Act.put, List.setIfInBounds_toArray, List.set_cons_zero, List.set_cons_succ]
  refine wpPlan_step (i := 5) rfl ⟨(.int .i64 (blev : Int)), ⟨by rfl, fun wx hSx => ?_⟩, ?_⟩
  · obtain ⟨z3, z2⟩ := hSx
    go_simp
  simp only [Act.put, List.setIfInBounds_toArray, List.set_cons_zero, List.set_cons_succ]
  refine wpPlan_step (i := 6) rfl ⟨(.pointer (some ⟨R, 0, none⟩)), ⟨by rfl, fun wx hSx => ?_⟩, ?_⟩
  · obtain ⟨z3, z2⟩ := hSx
    go_simp
  simp only [Act.put, List.setIfInBounds_toArray, List.set_cons_zero, List.set_cons_succ]
  refine wpPlan_step (i := 7) rfl ⟨(.pointer (some ⟨R, 0, none⟩)), ⟨by rfl, fun wx hSx => ?_⟩, ?_⟩
  · obtain ⟨z3, z2⟩ := hSx
    go_simp
  simp only [Act.put, List.setIfInBounds_toArray, List.set_cons_zero, List.set_cons_succ]
  refine wpPlan_step (i := 8) rfl ⟨(.pointer (some ⟨R, 3, none⟩)), ⟨by rfl, fun wx hSx => ?_⟩, ?_⟩
  · obtain ⟨z3, z2⟩ := hSx
    go_simp
  simp only [Act.put, List.setIfInBounds_toArray, List.set_cons_zero, List.set_cons_succ]
  refine wpPlan_step (i := 9) rfl ⟨(.slice (some ⟨g, 0, none⟩) (n + 1) wc), ⟨by rfl, fun wx hSx => ?_⟩, ?_⟩
  · obtain ⟨z3, z2⟩ := hSx
    go_simp
  simp only [Act.put, List.setIfInBounds_toArray, List.set_cons_zero, List.set_cons_succ]
  refine wpPlan_step (i := 10) rfl ⟨(.int .i64 (n : Int)), ⟨by rfl, fun wx hSx => ?_⟩, ?_⟩
  · obtain ⟨z3, z2⟩ := hSx
    go_simp
  simp only [Act.put, List.setIfInBounds_toArray, List.set_cons_zero, List.set_cons_succ]
  refine wpPlan_step (i := 11) rfl ⟨(.slice (some ⟨g, 0, none⟩) n wc), ⟨by rfl, fun wx hSx => ?_⟩, ?_⟩
  · have q1 := slice_front14 (some ⟨g, 0, none⟩) (n + 1) wc n (by omega) wx
    go_simp
  simp only [Act.put, List.setIfInBounds_toArray, List.set_cons_zero, List.set_cons_succ]
  refine wpPlan_step (i := 12) rfl ⟨(.pointer (some ⟨R, 0, none⟩)), ⟨by rfl, fun wx hSx => ?_⟩, ?_⟩
  · obtain ⟨z3, z2⟩ := hSx
    go_simp
  simp only [Act.put, List.setIfInBounds_toArray, List.set_cons_zero, List.set_cons_succ]
  refine wpPlan_step (i := 13) rfl ⟨(.pointer (some ⟨R, 2, none⟩)), ⟨by rfl, fun wx hSx => ?_⟩, ?_⟩
  · obtain ⟨z3, z2⟩ := hSx
    go_simp
  simp only [Act.put, List.setIfInBounds_toArray, List.set_cons_zero, List.set_cons_succ]
  refine wpPlan_keep (i := 14) rfl (by rfl) fun K hK => wp_skip14 (wt.drew.setCell ⟨R, 2, none⟩ (.int .i64 (blev : Int))) (by have j2 : wt.drew.frozen? ⟨R, 2, none⟩ = false := i2; have m2 : wt.drew.cell? ⟨R, 2, none⟩ = some (.int .i64 (lev : Int)) := c2; go_simp) (hK _ _ ⟨?_, ?_⟩ ?_)
  · rw [cell_other14 _ _ _ _ _ _ (fun e => absurd e.2 (by decide))]; exact k3
  · rw [cell_other14 _ _ _ _ _ _ (fun e => hRg e.1)]; exact k2
  refine wpPlan_step (i := 15) rfl ⟨(.pointer (some ⟨R, 0, none⟩)), ⟨by rfl, fun wx hSx => ?_⟩, ?_⟩
  · obtain ⟨z3, z2⟩ := hSx
    go_simp
  simp only [Act.put, List.setIfInBounds_toArray, List.set_cons_zero, List.set_cons_succ]
  refine wpPlan_step (i := 16) rfl ⟨(.pointer (some ⟨R, 3, none⟩)), ⟨by rfl, fun wx hSx => ?_⟩, ?_⟩
  · obtain ⟨z3, z2⟩ := hSx
    go_simp
  simp only [Act.put, List.setIfInBounds_toArray, List.set_cons_zero, List.set_cons_succ]
  show wpList _ _ _ _ _ (wt.drew.setCell ⟨R, 2, none⟩ (.int .i64 (blev : Int)))
  simp only [List.drop_succ_cons, List.drop_zero]
  have i3b : wt.drew.frozen? ⟨R, 3, none⟩ = false := i3
  go_wp2_with fail
  go_ret
  have hr9 := rowV_stored (rowV_stored (rowV_below HT.out.1 (Below.refl wt.heap.size wt).drew (rowV_lt HT.out.1)) 2 (.int .i64 (blev : Int))) 3 (.slice (some ⟨g, 0, none⟩) n wc)
  have ho9 : Only (fun k => k = R) wq ((wt.drew.setCell ⟨R, 2, none⟩ (.int .i64 (blev : Int))).setCell ⟨R, 3, none⟩ (.slice (some ⟨g, 0, none⟩) n wc)) := (HT.out.2.drew.setCell (g := R) (i := 2) (fun _ => rfl) _).setCell (g := R) (i := 3) (fun _ => rfl) _
  have hfin := rdP_whole (lv := Sx.lvl bop) HQ.out.1 HQ.out.2.2.1 HQ.out.2.2.2 ho9 (by
    have e : (bl.map (fun x => x.1) ++ [y]).length = bn + 1 := hmap
    show RowV _ _ _ (rdC al L.length cap p blev (some ⟨g, 0, none⟩) V.length wc (.mk bop Vl.no Vl.mt (bl.map (·.1) ++ [y])) (some ⟨gg, 0, none⟩) cp (Sx.lvl bop))
    simp only [rdC, Sx.op_mk, Sx.v_mk, Sx.s_mk, Sx.l_mk]
    rw [e, hn]
    exact hr9)
  exact ⟨gg, cp, rfl, _, _, hfin, HQ.out.2.1.trans ho9 fun k _ e => .inl e⟩
end
end Go.Proofs.YtekahmlppaabjaaGreatDoor
