/-
  Layer 14, the program's: a part that was read is handed to what waits for it.
-/
import Derived.Test.YtekahmlppaabjaaGreatDoorZSynPr6
import Derived.Test.YtekahmlppaabjaaGreatDoorPk5
namespace Go.Proofs.YtekahmlppaabjaaGreatDoor
open Go.RowKit
open Sx (X toksOf isT)
theorem begun_size : (Tryz.prog.info? 77).map (·.size) = some 3 := by kernel_rfl
theorem elem_begun : Tryz.prog.elem 54 = 77 := by kernel_rfl
theorem slice_front14 (la : Option Addr) (n cap k : Nat) (hk : k ≤ cap) (w : World) : (Instr.slice 54 (.slice la n cap) none (some (.int .i64 (k : Int))) none).run Tryz.prog w = .ok (.slice la k cap) w := by
  obtain ⟨i0, hi0, hz⟩ := Option.map_eq_some_iff.1 begun_size
  rw [run_slice_h (P := Tryz.prog) w 54 la n cap (by rw [elem_begun]; exact Tryz.underlying54) .i64 k (by omega) (by omega)]
  cases la <;> simp [elem_begun, sizeOf, typeInfo, hi0, Result.andThen, sliced, Addr.add]
theorem wp_skip14 {P : Program} {o : Oper} {a : Act} {w : World} {K : Act → World → Prop} {Q : Exit → Act → World → Prop} (w' : World) (hrun : (execOp a.eval o).run P w = .ok .skip w') (h : K (a.put o.dst undef) w') : Oper.wp P o a w K Q := by
  unfold Oper.wp
  rw [hrun]
  exact h
theorem wpOp_skip14 {P : Program} {ops : Array Oper} {Q : Exit → Act → World → Prop} {i : Nat} {o : Oper} {a : Act} {w : World} {K : Act → World → Prop} (hi : ops[i]? = some o) (hw : Region.wanted o (yielded ops a.tmps) = true) (w' : World) (hrun : (execOp a.eval o).run P w = .ok .skip w') (h : K (a.put o.dst undef) w') : wpOp P ops Q i K a w := by
  unfold wpOp
  rw [hi]
  simp only [hw, if_true]
  exact .inl (wp_skip14 w' hrun h)
theorem cell_other14 (w : World) (g o g' o' : Nat) (v : Value) (h : ¬ (g = g' ∧ o = o')) : (w.setCell ⟨g', o', none⟩ v).cell? ⟨g, o, none⟩ = w.cell? ⟨g, o, none⟩ :=
  World.cell?_setCell_other _ _ _ _ (fun e => h (by injection e with e1 e2; exact ⟨e1.symm, e2.symm⟩))
/-- a cell of an element of a list in block g, written -/
theorem owL_store1 {α : Type} {f : α → List Value} {E k B n c g : Nat} {w : World} {l : List α} (hf : ∀ x, (f x).length = k) (h : OwL f E k w B (.slice (some ⟨g, 0, none⟩) n c) l) (i : Nat) (hi : i < l.length) {j : Nat} (hj : j < k) (u : Value) (y' : α) (hy : f y' = (f l[i]).set j u) :
    OwL f E k (w.setCell ⟨g, i * k + j, none⟩ u) B (.slice (some ⟨g, 0, none⟩) n c) (l.set i y') := by
  obtain ⟨g', c', e, _, h2, _⟩ := owL_store hf h i hi hj u y' hy
  injection e with e1 e2 e3
  injection e1 with e1
  injection e1 with e1
  subst e1
  exact h2
theorem set_last {α : Type} (l : List α) (z z' : α) : (l ++ [z]).set l.length z' = l ++ [z'] := by
  rw [List.set_append_right _ _ (Nat.le_refl _), Nat.sub_self]; rfl
theorem owL_last1 {α : Type} {f : α → List Value} {E k B n c g : Nat} {w : World} {l : List α} {z : α} (hf : ∀ x, (f x).length = k) (h : OwL f E k w B (.slice (some ⟨g, 0, none⟩) n c) (l ++ [z])) {j : Nat} (hj : j < k) (u : Value) (z' : α) (hy : f z' = (f z).set j u) :
    OwL f E k (w.setCell ⟨g, l.length * k + j, none⟩ u) B (.slice (some ⟨g, 0, none⟩) n c) (l ++ [z']) := by
  have := owL_store1 hf h l.length (by simp) hj u z' (by rw [show (l ++ [z])[l.length]'(by simp) = z by simp]; exact hy)
  rwa [set_last] at this
/-- an expression, stored at a place -/
abbrev put6 (w : World) (g o : Nat) (y : X) (ay : Option Addr) (cy : Nat) : World := (((((w.setCell ⟨g, o, none⟩ (.int .i64 y.op)).setCell ⟨g, o + 1, none⟩ (.int .i64 y.v.kind)).setCell ⟨g, o + 2, none⟩ (.int .i64 y.v.n)).setCell ⟨g, o + 3, none⟩ (.string y.v.s)).setCell ⟨g, o + 4, none⟩ (.string y.s)).setCell ⟨g, o + 5, none⟩ (.slice ay y.l.length cy)
theorem put6_only (w : World) (g o : Nat) (y : X) (ay : Option Addr) (cy : Nat) : Only (fun k => k = g) w (put6 w g o y ay cy) :=
  ((((((Only.refl (fun k => k = g) w).setCell (g := g) (i := o) (fun _ => rfl) _).setCell (g := g) (i := o + 1) (fun _ => rfl) _).setCell (g := g) (i := o + 2) (fun _ => rfl) _).setCell (g := g) (i := o + 3) (fun _ => rfl) _).setCell (g := g) (i := o + 4) (fun _ => rfl) _).setCell (g := g) (i := o + 5) (fun _ => rfl) _
theorem put6_owns {w : World} {g B n c : Nat} {l : List Part14} {z : Part14} (h : OwL fX 29 6 w B (.slice (some ⟨g, 0, none⟩) n c) (l ++ [z])) (y : X) (ay : Option Addr) (cy : Nat) :
    OwL fX 29 6 (put6 w g (l.length * 6) y ay cy) B (.slice (some ⟨g, 0, none⟩) n c) (l ++ [(y, ay, cy)]) := by
  obtain ⟨⟨zo, ⟨zk, zn, zs⟩, zt, zl⟩, za, zc⟩ := z
  obtain ⟨yo, ⟨yk, yn, ys⟩, yt, yl⟩ := y
  have h1 := owL_last1 (f := fX) (fun _ => rfl) h (j := 0) (by omega) (.int .i64 yo) (.mk yo ⟨zk, zn, zs⟩ zt zl, za, zc) rfl
  have h2 := owL_last1 (f := fX) (fun _ => rfl) h1 (j := 1) (by omega) (.int .i64 yk) (.mk yo ⟨yk, zn, zs⟩ zt zl, za, zc) rfl
  have h3 := owL_last1 (f := fX) (fun _ => rfl) h2 (j := 2) (by omega) (.int .i64 yn) (.mk yo ⟨yk, yn, zs⟩ zt zl, za, zc) rfl
  have h4 := owL_last1 (f := fX) (fun _ => rfl) h3 (j := 3) (by omega) (.string ys) (.mk yo ⟨yk, yn, ys⟩ zt zl, za, zc) rfl
  have h5 := owL_last1 (f := fX) (fun _ => rfl) h4 (j := 4) (by omega) (.string yt) (.mk yo ⟨yk, yn, ys⟩ yt zl, za, zc) rfl
  exact owL_last1 (f := fX) (fun _ => rfl) h5 (j := 5) (by omega) (.slice ay yl.length cy) (.mk yo ⟨yk, yn, ys⟩ yt yl, ay, cy) rfl
mutual
theorem lat_of {w : World} {S : Nat → Prop} {b : Nat} : ∀ (l : List Part14) (o : Nat), (∀ i (hi : i < l.length), Cells6 w b (o + i * 6) l[i].1 l[i].2.1 l[i].2.2 ∧ XAt w S l[i].1 l[i].2.1) → LAt w S (l.map (·.1)) b o
  | [], o, _ => by rw [List.map_nil, LAt]; trivial
  | x :: r, o, h => by
    rw [List.map_cons, LAt]
    have h0 := h 0 (by simp)
    refine ⟨⟨x.2.1, x.2.2, by simpa using h0.1, h0.2⟩, lat_of r (o + 6) fun i hi => ?_⟩
    have h1 := h (i + 1) (by simpa using hi)
    rw [show o + (i + 1) * 6 = o + 6 + i * 6 by omega] at h1
    exact h1
end
theorem owL_cells6 {w : World} {B g n c : Nat} {l : List Part14} (h : OwL fX 29 6 w B (.slice (some ⟨g, 0, none⟩) n c) l) (i : Nat) (hi : i < l.length) : Cells6 w g (0 + i * 6) l[i].1 l[i].2.1 l[i].2.2 := by
  obtain ⟨g', c', e, hc⟩ := owL_cell (f := fX) (fun _ _ => rfl) h i hi
  injection e with e1 _ _
  injection e1 with e1
  injection e1 with e1
  subst e1
  rw [Nat.zero_add]
  exact ⟨(hc 0 _ rfl).1, (hc 1 _ rfl).1, (hc 2 _ rfl).1, (hc 3 _ rfl).1, (hc 4 _ rfl).1, (hc 5 _ rfl).1⟩
section
variable {w w' : World} {R B : Nat} {S : Nat → Prop} {al : Option Addr} {cap : Nat} {L : List Lx.T} {p lev : Nat} {wa : Option Addr} {wc : Nat} {V : List Wb} {b : Wb} {y : X} {ay : Option Addr} {cy h : Nat}
/-- where the last that waits lies -/
theorem rdP_last (H : RdP w R B S al cap L p lev wa wc (V ++ [b]) y ay cy h) : ∃ g, wa = some ⟨g, 0, none⟩ ∧ w.cell? ⟨R, 3, none⟩ = some (.slice (some ⟨g, 0, none⟩) (V.length + 1) wc) ∧ V.length + 1 ≤ wc ∧
    w.cell? ⟨g, V.length * 3, none⟩ = some (.int .i64 b.op) ∧ w.cell? ⟨g, V.length * 3 + 1, none⟩ = some (.slice b.a b.l.length b.c) ∧ w.cell? ⟨g, V.length * 3 + 2, none⟩ = some (.int .i64 (b.lev : Int)) ∧ w.frozen? ⟨g, V.length * 3 + 1, none⟩ = false ∧ B ≤ g ∧ R < g := by
  have hlen : (V ++ [b]).length = V.length + 1 := by simp
  have hi : V.length < (V ++ [b]).length := by omega
  obtain ⟨g, c, e, hc⟩ := owL_cell (f := fB) (fun _ _ => rfl) H.wts V.length hi
  have e2 : (V ++ [b])[V.length] = b := by simp
  rw [e2] at hc
  injection e with e1 _ e3
  subst e1
  have hlt := owL_lt H.wts g rfl
  have h3 := (rdP_cells H).2.2.2.1
  rw [hlen] at h3
  obtain ⟨_, _, ef, hcap, _⟩ := owL_form H.wts
  injection ef with _ _ ef3
  rw [hlen] at hcap
  have hl := H.lt
  exact ⟨g, rfl, h3, by rw [ef3]; exact hcap, (hc 0 _ rfl).1, (hc 1 _ rfl).1, (hc 2 _ rfl).1, (hc 1 _ rfl).2, hlt.1, by omega⟩
/-- the last that waits is taken away -/
theorem rdP_pop (H : RdP w R B S al cap L p lev wa wc (V ++ [b]) y ay cy h) (lev' : Nat) :
    RdP ((w.setCell ⟨R, 2, none⟩ (.int .i64 (lev' : Int))).setCell ⟨R, 3, none⟩ (.slice wa V.length wc)) R B S al cap L p lev' wa wc V y ay cy h ∧ Only (fun k => k = R) w ((w.setCell ⟨R, 2, none⟩ (.int .i64 (lev' : Int))).setCell ⟨R, 3, none⟩ (.slice wa V.length wc)) := by
  have hlen : (V ++ [b]).length = V.length + 1 := by simp
  have ho : Only (fun k => k = R) w ((w.setCell ⟨R, 2, none⟩ (.int .i64 (lev' : Int))).setCell ⟨R, 3, none⟩ (.slice wa V.length wc)) := Only.setCell (F := fun k => k = R) (Only.setCell (F := fun k => k = R) (Only.refl _ _) (fun _ => rfl) _) (fun _ => rfl) _
  have hr := rowV_stored (rowV_stored H.row 2 (.int .i64 (lev' : Int))) 3 (.slice wa V.length wc)
  have hw := H.wts
  rw [hlen] at hw
  have hV := owL_pop (f := fB) (fun _ => rfl) hw rfl
  have hlt := H.lt
  refine ⟨⟨hr, toks_only H.toks H.alR ho (fun k hk e => by have e2 : k = R := e; omega), owL_only hV ho (fun j e => ?_), fun b' hm => ?_, (List.pairwise_append.1 H.sep).1, xat_only ho (fun j hj e => by have e2 : j = R := e; have := (H.hS j hj).1; omega) _ _ H.part, hlt, Nat.le_trans H.hB ho.size, H.alR, fun j hj => ⟨(H.hS j hj).1, Nat.lt_of_lt_of_le (H.hS j hj).2 ho.size⟩, fun j e => ?_, fun j hj => um_only ho (H.um j hj) fun e => by have e2 : j = R := e; have := (H.hS j hj).1; omega⟩, ho⟩
  · have := (owL_lt hV j e).1
    intro e2
    have e2 : j = R := e2
    omega
  · have hk := H.oks b' (List.mem_append_left _ hm)
    exact wbOk_only hk ho (fun j e e2 => by have e3 : j = R := e2; have := (owL_lt hk.1 j e).1; omega) (fun j hj e => by have e2 : j = R := e; have := (H.hS j hj).1; omega)
  · refine H.sepW j ?_
    cases wa with
    | none => cases e
    | some a => exact e
theorem rdP_has (H : RdP w R B S al cap L p lev wa wc V y ay cy h) (h' : Nat) : RdP (w.setCell ⟨R, 10, none⟩ (.int .i64 (h' : Int))) R B S al cap L p lev wa wc V y ay cy h' ∧ Only (fun k => k = R) w (w.setCell ⟨R, 10, none⟩ (.int .i64 (h' : Int))) := by
  have ho : Only (fun k => k = R) w (w.setCell ⟨R, 10, none⟩ (.int .i64 (h' : Int))) := Only.setCell (F := fun k => k = R) (Only.refl _ _) (fun _ => rfl) _
  exact ⟨rdP_own H ho (rowV_stored H.row 10 (.int .i64 (h' : Int))) H.part, ho⟩
set_option maxRecDepth 100000 in
set_option maxHeartbeats 6400000 in
theorem hand14_bra (H : RdP w R B S al cap L p lev wa wc (V ++ [b]) y ay cy h) (hb : b.op = 0) (hV : V.length ≤ 1000000) :
    Calls Tryz.prog 37 #[.pointer (some ⟨R, 0, none⟩)] w (Stp w R B S al cap L p b.lev V y ay cy 7 true) := by
  obtain ⟨g, rfl, c3, hcap, b0, b1, b2, fz, hBg, hRg⟩ := rdP_last H
  rw [hb] at b0
  have h1 := rdP_has H 7
  have i10 := rdP_ice H 10
  have z10 := (rdP_cells H).2.2.2.2
  obtain ⟨-, -, c2, -, -⟩ := rdP_cells h1.1
  have i2 := rdP_ice h1.1 2
  have i3 := rdP_ice h1.1 3
  have b2' := (h1.2.cell (World.block_lt_of_cell? _ _ b2) (show ¬ g = R by omega)).trans b2
  have c3' := (rdP_last h1.1)
  obtain ⟨g', eg, c3', -⟩ := c3'
  obtain rfl : g = g' := by cases eg; rfl
  have hRg2 : ¬ g = R := by omega
  have HH := Lib.hid (And.intro H h1)
  generalize hblev : b.lev = blev at *
  generalize hn : V.length = n at *
  clear H h1 b1 fz eg
  go_enter Tryz.func37, Tryz.ntmps37
  go_upto_region 9 with (fail)
  change _ at c2
  generalize hw1 : World.setCell w _ _ = w1 at *
  clear hw1 c3 b0 b2 i10 z10
  have k3 : w1.drew.cell? ⟨R, 3, none⟩ = some (.slice (some ⟨g, 0, none⟩) (n + 1) wc) := c3'
  have k2 : w1.drew.cell? ⟨g, n * 3 + 2, none⟩ = some (.int .i64 (blev : Int)) := b2'
  have hRg := hRg2
  refine wp_region_plan (S := fun wx => wx.cell? ⟨R, 3, none⟩ = some (.slice (some ⟨g, 0, none⟩) (n + 1) wc) ∧ wx.cell? ⟨g, n * 3 + 2, none⟩ = some (.int .i64 (blev : Int))) 17 [(true, 0), (true, 1), (true, 2), (true, 3), (true, 4), (true, 5), (true, 6), (true, 7), (true, 8), (true, 9), (true, 10), (true, 11), (true, 12), (true, 13), (false, 14), (true, 15), (true, 16)] (by kernel_rfl) (fun _ d _ _ _ h => by cases d <;> exact h) (by kernel_rfl) ⟨k3, k2⟩ ?_
  refine wpPlan_step (i := 0) rfl ⟨(.pointer (some ⟨R, 0, none⟩)), ⟨by rfl, fun wx hSx => ?_⟩, ?_⟩
  · obtain ⟨z3, z2⟩ := hSx
    go_simp
  simp only [Act.put, List.setIfInBounds_toArray, List.set_cons_zero, List.set_cons_succ]
  refine wpPlan_step (i := 1) rfl ⟨(.pointer (some ⟨R, 0, none⟩)), ⟨by rfl, fun wx hSx => ?_⟩, ?_⟩
  · obtain ⟨z3, z2⟩ := hSx
    go_simp
  simp only [Act.put, List.setIfInBounds_toArray, List.set_cons_zero, List.set_cons_succ]
  refine wpPlan_step (i := 2) rfl ⟨(.pointer (some ⟨g, n * 3, none⟩)), ⟨by rfl, fun wx hSx => ?_⟩, ?_⟩
  · obtain ⟨z3, z2⟩ := hSx
    go_simp
  simp only [Act.put, List.setIfInBounds_toArray, List.set_cons_zero, List.set_cons_succ]
  refine wpPlan_step (i := 3) rfl ⟨(.pointer (some ⟨g, n * 3, none⟩)), ⟨by rfl, fun wx hSx => ?_⟩, ?_⟩
  · obtain ⟨z3, z2⟩ := hSx
    go_simp
  simp only [Act.put, List.setIfInBounds_toArray, List.set_cons_zero, List.set_cons_succ]
  refine wpPlan_step (i := 4) rfl ⟨(.pointer (some ⟨g, n * 3 + 2, none⟩)), ⟨by rfl, fun wx hSx => ?_⟩, ?_⟩
  · obtain ⟨z3, z2⟩ := hSx
    go_simp
  simp only [Act.put, List.setIfInBounds_toArray, List.set_cons_zero, List.set_cons_succ]
  refine wpPlan_step (i := 5) rfl ⟨(.int .i64 (blev : Int)), ⟨by rfl, fun wx hSx => ?_⟩, ?_⟩
  · obtain ⟨z3, z2⟩ := hSx
    go_simp
  simp only [Act.put, List.setIfInBounds_toArray, List.set_cons_zero, List.set_cons_succ]
  refine wpPlan_step (i := 6) rfl ⟨(.pointer (some ⟨R, 0, none⟩)), ⟨by rfl, fun wx hSx => ?_⟩, ?_⟩
  · obtain ⟨z3, z2⟩ := hSx
    go_simp
  simp only [Act.put, List.setIfInBounds_toArray, List.set_cons_zero, List.set_cons_succ]
  refine wpPlan_step (i := 7) rfl ⟨(.pointer (some ⟨R, 0, none⟩)), ⟨by rfl, fun wx hSx => ?_⟩, ?_⟩
  · obtain ⟨z3, z2⟩ := hSx
    go_simp
  simp only [Act.put, List.setIfInBounds_toArray, List.set_cons_zero, List.set_cons_succ]
  refine wpPlan_step (i := 8) rfl ⟨(.pointer (some ⟨R, 3, none⟩)), ⟨by rfl, fun wx hSx => ?_⟩, ?_⟩
  · obtain ⟨z3, z2⟩ := hSx
    go_simp
  simp only [Act.put, List.setIfInBounds_toArray, List.set_cons_zero, List.set_cons_succ]
  refine wpPlan_step (i := 9) rfl ⟨(.slice (some ⟨g, 0, none⟩) (n + 1) wc), ⟨by rfl, fun wx hSx => ?_⟩, ?_⟩
  · obtain ⟨z3, z2⟩ := hSx
    go_simp
  simp only [Act.put, List.setIfInBounds_toArray, List.set_cons_zero, List.set_cons_succ]
  refine wpPlan_step (i := 10) rfl ⟨(.int .i64 (n : Int)), ⟨by rfl, fun wx hSx => ?_⟩, ?_⟩
  · obtain ⟨z3, z2⟩ := hSx
    go_simp
  simp only [Act.put, List.setIfInBounds_toArray, List.set_cons_zero, List.set_cons_succ]
  refine wpPlan_step (i := 11) rfl ⟨(.slice (some ⟨g, 0, none⟩) n wc), ⟨by rfl, fun wx hSx => ?_⟩, ?_⟩
  · have q1 := slice_front14 (some ⟨g, 0, none⟩) (n + 1) wc n (by omega) wx
    go_simp
  simp only [Act.put, List.setIfInBounds_toArray, List.set_cons_zero, List.set_cons_succ]
  refine wpPlan_step (i := 12) rfl ⟨(.pointer (some ⟨R, 0, none⟩)), ⟨by rfl, fun wx hSx => ?_⟩, ?_⟩
  · obtain ⟨z3, z2⟩ := hSx
    go_simp
  simp only [Act.put, List.setIfInBounds_toArray, List.set_cons_zero, List.set_cons_succ]
  refine wpPlan_step (i := 13) rfl ⟨(.pointer (some ⟨R, 2, none⟩)), ⟨by rfl, fun wx hSx => ?_⟩, ?_⟩
  · obtain ⟨z3, z2⟩ := hSx
    go_simp
  simp only [Act.put, List.setIfInBounds_toArray, List.set_cons_zero, List.set_cons_succ]
  refine wpPlan_keep (i := 14) rfl (by rfl) fun K hK => wp_skip14 (w1.drew.setCell ⟨R, 2, none⟩ (.int .i64 (blev : Int))) (by have j2 : w1.drew.frozen? ⟨R, 2, none⟩ = false := i2; have m2 : w1.drew.cell? ⟨R, 2, none⟩ = some (.int .i64 (lev : Int)) := c2; go_simp) (hK _ _ ⟨?_, ?_⟩ ?_)
  · rw [cell_other14 _ _ _ _ _ _ (fun e => absurd e.2 (by decide))]; exact k3
  · rw [cell_other14 _ _ _ _ _ _ (fun e => hRg e.1)]; exact k2
  refine wpPlan_step (i := 15) rfl ⟨(.pointer (some ⟨R, 0, none⟩)), ⟨by rfl, fun wx hSx => ?_⟩, ?_⟩
  · obtain ⟨z3, z2⟩ := hSx
    go_simp
  simp only [Act.put, List.setIfInBounds_toArray, List.set_cons_zero, List.set_cons_succ]
  refine wpPlan_step (i := 16) rfl ⟨(.pointer (some ⟨R, 3, none⟩)), ⟨by rfl, fun wx hSx => ?_⟩, ?_⟩
  · obtain ⟨z3, z2⟩ := hSx
    go_simp
  simp only [Act.put, List.setIfInBounds_toArray, List.set_cons_zero, List.set_cons_succ]
  show wpList _ _ _ _ _ (w1.drew.setCell ⟨R, 2, none⟩ (.int .i64 (blev : Int)))
  simp only [List.drop_succ_cons, List.drop_zero]
  have i3b : w1.drew.frozen? ⟨R, 3, none⟩ = false := i3
  go_wp2_with fail
  go_ret
  have hf := rdP_pop (rdP_below HH.out.2.1 (Below.refl _ _).drew) blev
  rw [hn] at hf
  exact ⟨rfl, _, _, hf.1, ((HH.out.2.2.drew).more hf.2).mono fun k _ e => .inl e⟩
end
end Go.Proofs.YtekahmlppaabjaaGreatDoor
