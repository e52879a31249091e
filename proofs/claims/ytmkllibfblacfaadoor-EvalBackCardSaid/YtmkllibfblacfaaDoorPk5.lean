/-
  Texts of the layers, part 5: Plan3, SynPr7, SynPrB, SynPrC, SynPr8, AppIn, SynPrD, SynPrE, SynPrF, SynPrG, SynPrH, SynPrQ, QRound, Plan3R, SynPrI, MapS, SynPrR, SynPrL, TypMath, TypRes, TypRes2, TypScope, TypBack, TypScope2, TypUp1.
-/
import Derived.Test.YtmkllibfblacfaaDoorPk4
import Derived.Test.YtmkllibfblacfaaDoorPk1
import Derived.Shelf.Abstract
import Derived.Shelf.RegionOpen
import Derived.OwnWalkIn
import Derived.TacticsInMore
import Derived.LoopNIn
import Derived.LoopIn
import Derived.RegionIn
import Derived.Sort.LoopGhostIn
import Derived.LaidEqlPtr
import Derived.Test.YtmkllibfblacfaaDoorPk3
import Derived.OrdersIn
import Derived.TacticsIn
import Derived.RangeFuncCalls
import Derived.Maps.OwnSet
import Derived.BigQuiet
import Derived.WalkKit
import Derived.Below
import Derived.Test.YtmkllibfblacfaaDoorPk2
/-
  A region that draws its order, walked in a plan of two stages, the last two operations of which may come in either order ('x.f = append(x.f, v)' of an element of many cells: which store is the last is left open). One walk, but for these two.
-/
namespace Go.Proofs.YtmkllibfblacfaaDoor
open Go.RowKit
section
variable {P : Program} {ops : Array Oper} {md : Region.Mode} {S : World → Prop} {Q : Exit → Act → World → Prop}
/-- each operation from n on waits for all ahead of n -/
def allB (md : Region.Mode) (ops : Array Oper) (n : Nat) : Bool :=
  (List.range ops.size).all fun t => decide (t < n) || (List.range n).all fun i => Region.waitsFor md ops t i
theorem tail_waits3 {n : Nat} {listed : Array Bool} (hc : allB md ops n = true) :
    ∀ (i : Nat), i < n → listed.getD i true = false → ∀ t, n ≤ t → t ∉ Region.ready md ops listed := by
  intro i hi hui t ht hr
  obtain ⟨_, ot, hot, hall⟩ := mem_ready.1 hr
  have htlt : t < ops.size := (Array.getElem?_eq_some_iff.1 hot).1
  have h1 := List.all_eq_true.1 hc t (List.mem_range.2 htlt)
  rw [Bool.or_eq_true] at h1
  rcases h1 with h1 | h1
  · have := of_decide_eq_true h1; omega
  · obtain ⟨oj, hoj, e, he, hb, hon⟩ := Region.waitsFor_spec (List.all_eq_true.1 h1 i (List.mem_range.2 hi))
    obtain rfl : oj = ot := Option.some.inj (hoj.symm.trans hot)
    have h2 := hall e he hb
    rw [hon, getD_both hui] at h2
    cases h2
/-- the second stage: its plan, then two in either order -/
def planP (md : Region.Mode) (ops : Array Oper) (x y : Nat) : List (Bool × Nat) → Array Bool → Bool
  | [], listed => decide (Region.ready md ops listed = [x, y]) && decide (Region.ready md ops (listed.setIfInBounds x true) = [y]) && decide (Region.ready md ops (listed.setIfInBounds y true) = [x]) && (Region.ready md ops ((listed.setIfInBounds x true).setIfInBounds y true)).isEmpty && (Region.ready md ops ((listed.setIfInBounds y true).setIfInBounds x true)).isEmpty && decide (x < ops.size) && decide (y < ops.size)
  | (true, i) :: r, listed => decide (i < ops.size) && (Region.ready md ops listed).contains i && Region.free md ops listed i && planP md ops x y r (listed.setIfInBounds i true)
  | (false, i) :: r, listed => decide (i < ops.size) && decide (Region.ready md ops listed = [i]) && planP md ops x y r (listed.setIfInBounds i true)
/-- both orders of two operations -/
def Both2 (P : Program) (ops : Array Oper) (Q : Exit → Act → World → Prop) (x y : Nat) (a : Act) (w : World) : Prop :=
  wpOp P ops Q x (fun a' w' => wpOp P ops Q y (Q .normal) a' w') a w ∧ wpOp P ops Q y (fun a' w' => wpOp P ops Q x (Q .normal) a' w') a w
theorem headH_planP {x y : Nat} (hsel : Region.noSelect ops = true) (hQ : ∀ c (d : Option Tmp) v a w, Q (.panic c) (a.put d v) w → Q (.panic c) a w) :
    ∀ (pl : List (Bool × Nat)) (listed : Array Bool) (a : Act) (w : World), HeadInv md ops ops.size listed → planP md ops x y pl listed = true → wpPlan P ops (fun _ => True) Q (Both2 P ops Q x y) pl a w →
    HeadH P md ops (fun _ => True) Q ops.size (fun listed a w => Region.ready md ops listed = [] ∧ Q .normal a w) (pl.length + 2) listed a w
  | [], listed, a, w, _, hB, h => by
    simp only [planP, Bool.and_eq_true, decide_eq_true_eq, List.isEmpty_iff] at hB
    obtain ⟨⟨⟨⟨⟨⟨h1, h2⟩, h3⟩, h4⟩, h5⟩, hx⟩, hy⟩ := hB
    refine ⟨by rw [h1]; simp, fun i hi => ?_⟩
    rw [h1] at hi
    simp only [List.mem_cons, List.not_mem_nil, or_false] at hi
    rcases hi with rfl | rfl
    · refine ⟨hx, wpOp_mono (fun a' w' h6 => ⟨trivial, by rw [h2]; simp, fun j hj => ?_⟩) h.1⟩
      rw [h2] at hj
      obtain rfl : j = y := by simpa using hj
      exact ⟨hy, wpOp_mono (fun a'' w'' h7 => ⟨trivial, h4, h7⟩) h6⟩
    · refine ⟨hy, wpOp_mono (fun a' w' h6 => ⟨trivial, by rw [h3]; simp, fun j hj => ?_⟩) h.2⟩
      rw [h3] at hj
      obtain rfl : j = x := by simpa using hj
      exact ⟨hx, wpOp_mono (fun a'' w'' h7 => ⟨trivial, h5, h7⟩) h6⟩
  | (true, i) :: r, listed, a, w, inv, hB, h => by
    simp only [planP, Bool.and_eq_true, decide_eq_true_eq] at hB
    obtain ⟨⟨⟨hin, hr⟩, hf⟩, hB'⟩ := hB
    have hr' : i ∈ Region.ready md ops listed := by simpa using hr
    obtain ⟨o, v, h0, hy, hK⟩ := h
    rw [List.length_cons, show r.length + 1 + 2 = (r.length + 2) + 1 by omega]
    refine headH_first2 h0 (Region.noSelect_spec hsel) (fun c a w => hQ c o.dst v a w) (fun listed _ i hi _ t ht hr => ?_) hin (fun listed' a' w' hL j hj => by rw [hL.1] at hj; cases hj) (r.length + 2) listed a w inv (Region.free_spec h0 hf) hr' hy trivial
      (headH_planP hsel hQ r _ _ w (inv.set hr' hin) hB' hK)
    obtain ⟨_, ot, hot, _⟩ := mem_ready.1 hr
    have := (Array.getElem?_eq_some_iff.1 hot).1
    omega
  | (false, i) :: r, listed, a, w, inv, hB, h => by
    simp only [planP, Bool.and_eq_true, decide_eq_true_eq] at hB
    obtain ⟨⟨hin, hr⟩, hB'⟩ := hB
    have hr' : i ∈ Region.ready md ops listed := by rw [hr]; simp
    rw [List.length_cons, show r.length + 1 + 2 = (r.length + 2) + 1 by omega]
    refine ⟨fun h0 => (by rw [h0] at hr; cases hr), fun j hj => ?_⟩
    rw [hr] at hj
    obtain rfl : j = i := by simpa using hj
    exact ⟨hin, wpOp_mono (fun a' w' h3 => ⟨trivial, headH_planP hsel hQ r _ _ _ (inv.set hr' hin) hB' h3.2⟩) h⟩
theorem wp_region_plan3 {id : Nat} {a : Act} {w : World} {l : List Oper} (n : Nat) (pl pl2 : List (Bool × Nat)) (x y : Nat) (T : Array Bool) (hm : P.follows .mixedOrders = true) (hQ : ∀ c (d : Option Tmp) v a w, Q (.panic c) (a.put d v) w → Q (.panic c) a w)
    (hB : (Region.noSelect l.toArray && decide (pl.length = n) && decide (n + (pl2.length + 2) = l.toArray.size) && allB .any l.toArray n && planT .any l.toArray n T pl (Array.replicate l.toArray.size false) && (Region.ready .any l.toArray T).all (fun j => decide (n ≤ j)) && planP .any l.toArray x y pl2 T) = true) (hS : S w.drew)
    (h : wpPlan P l.toArray S Q (fun a' w' => wpPlan P l.toArray (fun _ => True) Q (Both2 P l.toArray Q x y) pl2 a' w') pl a w.drew) : (Code.region id l.toArray true).wp P Q a w := by
  simp only [Bool.and_eq_true, decide_eq_true_eq] at hB
  obtain ⟨⟨⟨⟨⟨⟨hsel, hpl⟩, hsz⟩, hall⟩, hplan⟩, hT⟩, hplan2⟩ := hB
  have hT' : ∀ j ∈ Region.ready .any l.toArray T, n ≤ j := fun j hj => of_decide_eq_true (List.all_eq_true.1 hT j hj)
  have inv0 : HeadInv .any l.toArray n (Array.replicate l.toArray.size false) :=
    ⟨by simp, fun j oj _ hl => (by rw [getD_replicate_false] at hl; cases hl), fun t _ ht => getD_in (by simpa using ht) (getD_replicate_false _ _)⟩
  have H := headH_planT (md := .any) hsel hQ (fun listed _ i hi hu => tail_waits3 hall i hi hu) hT' pl _ a w.drew inv0 hplan hS h
  refine wp_region_any hm ?_
  have := headH_any (g := pl2.length + 2) (fun listed' a' w' hL => by
    obtain ⟨hLT, hinv, h2⟩ := hL
    subst hLT
    have inv2 : HeadInv .any l.toArray l.toArray.size listed' := ⟨hinv.size, hinv.closed, fun t h1 h2 => by omega⟩
    have H2 := headH_planP (md := .any) hsel hQ pl2 _ a' w' inv2 hplan2 h2
    exact headH_any (g := 0) (fun listed'' a'' w'' hL2 => hL2) _ _ _ _ H2) _ _ _ _ H
  rw [hpl, hsz] at this
  exact this
end
end Go.Proofs.YtmkllibfblacfaaDoor

/-
  Layer 14, the program's: a part that was read is handed to what waits for it.
-/
namespace Go.Proofs.YtmkllibfblacfaaDoor
open Go.RowKit
open Sx (X toksOf isT)
theorem wp_skip14 {P : Program} {o : Oper} {a : Act} {w : World} {K : Act → World → Prop} {Q : Exit → Act → World → Prop} (w' : World) (hrun : (execOp a.eval o).run P w = .ok .skip w') (h : K (a.put o.dst undef) w') : Oper.wp P o a w K Q := by
  unfold Oper.wp
  rw [hrun]
  exact h
theorem wpOp_skip14 {P : Program} {ops : Array Oper} {Q : Exit → Act → World → Prop} {i : Nat} {o : Oper} {a : Act} {w : World} {K : Act → World → Prop} (hi : ops[i]? = some o) (hw : Region.wanted o (yielded ops a.tmps) = true) (w' : World) (hrun : (execOp a.eval o).run P w = .ok .skip w') (h : K (a.put o.dst undef) w') : wpOp P ops Q i K a w := by
  unfold wpOp
  rw [hi]
  simp only [hw, if_true]
  exact .inl (wp_skip14 w' hrun h)
theorem cell_other14 (w : World) (g o g' o' : Nat) (v : Value) (h : ¬ (g = g' ∧ o = o')) : (w.setCell ⟨g', o', none⟩ v).cell? ⟨g, o, none⟩ = w.cell? ⟨g, o, none⟩ :=
  World.cell?_setCell_other _ _ _ _ (fun e => h (by injection e with e1 e2; exact ⟨e1.symm, e2.symm⟩))
/-- a cell of an element of a list in block g, written -/
theorem owL_store1 {α : Type} {f : α → List Value} {E k B n c g : Nat} {w : World} {l : List α} (hf : ∀ x, (f x).length = k) (h : OwL f E k w B (.slice (some ⟨g, 0, none⟩) n c) l) (i : Nat) (hi : i < l.length) {j : Nat} (hj : j < k) (u : Value) (y' : α) (hy : f y' = (f l[i]).set j u) :
    OwL f E k (w.setCell ⟨g, i * k + j, none⟩ u) B (.slice (some ⟨g, 0, none⟩) n c) (l.set i y') := by
  obtain ⟨g', c', e, _, h2, _⟩ := owL_store hf h i hi hj u y' hy
  injection e with e1 e2 e3
  injection e1 with e1
  injection e1 with e1
  subst e1
  exact h2
theorem set_last {α : Type} (l : List α) (z z' : α) : (l ++ [z]).set l.length z' = l ++ [z'] := by
  rw [List.set_append_right _ _ (Nat.le_refl _), Nat.sub_self]; rfl
theorem owL_last1 {α : Type} {f : α → List Value} {E k B n c g : Nat} {w : World} {l : List α} {z : α} (hf : ∀ x, (f x).length = k) (h : OwL f E k w B (.slice (some ⟨g, 0, none⟩) n c) (l ++ [z])) {j : Nat} (hj : j < k) (u : Value) (z' : α) (hy : f z' = (f z).set j u) :
    OwL f E k (w.setCell ⟨g, l.length * k + j, none⟩ u) B (.slice (some ⟨g, 0, none⟩) n c) (l ++ [z']) := by
  have := owL_store1 hf h l.length (by simp) hj u z' (by rw [show (l ++ [z])[l.length]'(by simp) = z by simp]; exact hy)
  rwa [set_last] at this
/-- an expression, stored at a place -/
abbrev put6 (w : World) (g o : Nat) (y : X) (ay : Option Addr) (cy : Nat) : World := (((((w.setCell ⟨g, o, none⟩ (.int .i64 y.op)).setCell ⟨g, o + 1, none⟩ (.int .i64 y.v.kind)).setCell ⟨g, o + 2, none⟩ (.int .i64 y.v.n)).setCell ⟨g, o + 3, none⟩ (.string y.v.s)).setCell ⟨g, o + 4, none⟩ (.string y.s)).setCell ⟨g, o + 5, none⟩ (.slice ay y.l.length cy)
theorem put6_only (w : World) (g o : Nat) (y : X) (ay : Option Addr) (cy : Nat) : Only (fun k => k = g) w (put6 w g o y ay cy) :=
  ((((((Only.refl (fun k => k = g) w).setCell (g := g) (i := o) (fun _ => rfl) _).setCell (g := g) (i := o + 1) (fun _ => rfl) _).setCell (g := g) (i := o + 2) (fun _ => rfl) _).setCell (g := g) (i := o + 3) (fun _ => rfl) _).setCell (g := g) (i := o + 4) (fun _ => rfl) _).setCell (g := g) (i := o + 5) (fun _ => rfl) _
theorem put6_owns {w : World} {g B n c : Nat} {l : List Part14} {z : Part14} (h : OwL fX 35 6 w B (.slice (some ⟨g, 0, none⟩) n c) (l ++ [z])) (y : X) (ay : Option Addr) (cy : Nat) :
    OwL fX 35 6 (put6 w g (l.length * 6) y ay cy) B (.slice (some ⟨g, 0, none⟩) n c) (l ++ [(y, ay, cy)]) := by
  obtain ⟨⟨zo, ⟨zk, zn, zs⟩, zt, zl⟩, za, zc⟩ := z
  obtain ⟨yo, ⟨yk, yn, ys⟩, yt, yl⟩ := y
  have h1 := owL_last1 (f := fX) (fun _ => rfl) h (j := 0) (by omega) (.int .i64 yo) (.mk yo ⟨zk, zn, zs⟩ zt zl, za, zc) rfl
  have h2 := owL_last1 (f := fX) (fun _ => rfl) h1 (j := 1) (by omega) (.int .i64 yk) (.mk yo ⟨yk, zn, zs⟩ zt zl, za, zc) rfl
  have h3 := owL_last1 (f := fX) (fun _ => rfl) h2 (j := 2) (by omega) (.int .i64 yn) (.mk yo ⟨yk, yn, zs⟩ zt zl, za, zc) rfl
  have h4 := owL_last1 (f := fX) (fun _ => rfl) h3 (j := 3) (by omega) (.string ys) (.mk yo ⟨yk, yn, ys⟩ zt zl, za, zc) rfl
  have h5 := owL_last1 (f := fX) (fun _ => rfl) h4 (j := 4) (by omega) (.string yt) (.mk yo ⟨yk, yn, ys⟩ yt zl, za, zc) rfl
  exact owL_last1 (f := fX) (fun _ => rfl) h5 (j := 5) (by omega) (.slice ay yl.length cy) (.mk yo ⟨yk, yn, ys⟩ yt yl, ay, cy) rfl
mutual
theorem lat_of {w : World} {S : Nat → Prop} {b : Nat} : ∀ (l : List Part14) (o : Nat), (∀ i (hi : i < l.length), Cells6 w b (o + i * 6) l[i].1 l[i].2.1 l[i].2.2 ∧ XAt w S l[i].1 l[i].2.1) → LAt w S (l.map (·.1)) b o
  | [], o, _ => by rw [List.map_nil, LAt]; trivial
  | x :: r, o, h => by
    rw [List.map_cons, LAt]
    have h0 := h 0 (by simp)
    refine ⟨⟨x.2.1, x.2.2, by simpa using h0.1, h0.2⟩, lat_of r (o + 6) fun i hi => ?_⟩
    have h1 := h (i + 1) (by simpa using hi)
    rw [show o + (i + 1) * 6 = o + 6 + i * 6 by omega] at h1
    exact h1
end
theorem owL_cells6 {w : World} {B g n c : Nat} {l : List Part14} (h : OwL fX 35 6 w B (.slice (some ⟨g, 0, none⟩) n c) l) (i : Nat) (hi : i < l.length) : Cells6 w g (0 + i * 6) l[i].1 l[i].2.1 l[i].2.2 := by
  obtain ⟨g', c', e, hc⟩ := owL_cell (f := fX) (fun _ _ => rfl) h i hi
  injection e with e1 _ _
  injection e1 with e1
  injection e1 with e1
  subst e1
  rw [Nat.zero_add]
  exact ⟨(hc 0 _ rfl).1, (hc 1 _ rfl).1, (hc 2 _ rfl).1, (hc 3 _ rfl).1, (hc 4 _ rfl).1, (hc 5 _ rfl).1⟩
section
variable {w w' : World} {R B : Nat} {S : Nat → Prop} {al : Option Addr} {cap : Nat} {L : List Lx.T} {p lev : Nat} {wa : Option Addr} {wc : Nat} {V : List Wb} {b : Wb} {y : X} {ay : Option Addr} {cy h : Nat}
end
end Go.Proofs.YtmkllibfblacfaaDoor

/-
  Layer 14, the program's: the function that goes through an expression and all within it.
-/
namespace Go.Proofs.YtmkllibfblacfaaDoor
open Go.RowKit Go.Shelf
open Sx (X toksOf isT)
attribute [local go_sem] Oper.semAt_some
namespace Sx
mutual
/-- an expression and all within it, each ahead of its parts, with how deep it stands -/
def po : X → Nat → List (X × Nat)
  | .mk o v s l, d => (.mk o v s l, d) :: poL l (d + 1)
def poL : List X → Nat → List (X × Nat)
  | [], _ => []
  | x :: r, d => po x d ++ poL r d
end
theorem po_eq (x : X) (d : Nat) : po x d = (x, d) :: poL x.l (d + 1) := by obtain ⟨_, _, _, _⟩ := x; rw [po]; rfl
theorem poL_drop (l : List X) (i d : Nat) (h : i < l.length) : poL (l.drop i) d = po l[i] d ++ poL (l.drop (i + 1)) d := by
  rw [List.drop_eq_getElem_cons h, poL]
end Sx
/-- a step on the way: where its expression stands (its cell, what it is, where its list lies), how many of its parts were gone through -/
structure St14 where
  b : Nat
  o : Nat
  x : X
  a : Option Addr
  c : Nat
  d : Nat
abbrev fS (t : St14) : List Value := [.pointer (some ⟨t.b, t.o, none⟩), .int .i64 (t.d : Int)]
theorem step_parts : (Tryd.prog.info? 61).map (fun i => (i.zero, i.size, i.bytes)) = some (some (.agg #[.pointer none, .int .i64 0]), 2, 16) := by kernel_rfl
theorem step_elem : ElemOk Tryd.prog 61 2 16 := elemOk_of step_parts rfl (by decide) (by decide)
theorem fS_one (t : St14) : ∀ u ∈ fS t, u.oneCell' = true := by intro u hu; simp [fS] at hu; rcases hu with rfl | rfl <;> rfl
/-- what is still to be gone through, of steps from the outermost on -/
def todo : Nat → List St14 → List (X × Nat)
  | _, [] => []
  | i, t :: r => todo (i + 1) r ++ Sx.poL (t.x.l.drop t.d) (i + 2)
theorem todo_snoc : ∀ (i : Nat) (P : List St14) (t : St14), todo i (P ++ [t]) = Sx.poL (t.x.l.drop t.d) (i + P.length + 2) ++ todo i P
  | i, [], t => by simp [todo]
  | i, s :: P, t => by
    rw [List.cons_append, todo, todo_snoc (i + 1) P t, todo, List.length_cons, List.append_assoc, show i + 1 + P.length + 2 = i + (P.length + 1) + 2 by omega]
mutual
theorem xat_det {w : World} {S S' : Nat → Prop} : ∀ (x x' : X) (ad : Option Addr), XAt w S x ad → XAt w S' x' ad → x.l.length = x'.l.length → x.l = x'.l
  | .mk _ _ _ l, .mk _ _ _ l', ad, h, h', hl => by
    rw [XAt] at h h'
    rcases h with h | ⟨b, o, h1, _, h3⟩
    · subst h
      exact (List.length_eq_zero_iff.1 hl.symm).symm
    · rcases h' with h' | ⟨b', o', h1', _, h3'⟩
      · subst h'
        exact List.length_eq_zero_iff.1 hl
      · rw [h1] at h1'
        injection h1' with h1'
        injection h1' with e1 e2 e3
        subst e1; subst e2
        exact lat_det l l' b o h3 h3' hl
theorem lat_det {w : World} {S S' : Nat → Prop} : ∀ (l l' : List X) (b o : Nat), LAt w S l b o → LAt w S' l' b o → l.length = l'.length → l = l'
  | [], [], _, _, _, _, _ => rfl
  | [], _ :: _, _, _, _, _, h => by simp at h
  | _ :: _, [], _, _, _, _, h => by simp at h
  | x :: r, x' :: r', b, o, h, h', hl => by
    rw [LAt] at h h'
    obtain ⟨⟨a, c, h1, h2⟩, h3⟩ := h
    obtain ⟨⟨a', c', h1', h2'⟩, h3'⟩ := h'
    rw [lat_det r r' b (o + 6) h3 h3' (by simpa using hl)]
    obtain ⟨q0, q1, q2, q3, q4, q5⟩ := h1
    obtain ⟨p0, p1, p2, p3, p4, p5⟩ := h1'
    have e0 := Option.some.inj (q0.symm.trans p0)
    have e1 := Option.some.inj (q1.symm.trans p1)
    have e2 := Option.some.inj (q2.symm.trans p2)
    have e3 := Option.some.inj (q3.symm.trans p3)
    have e4 := Option.some.inj (q4.symm.trans p4)
    have e5 := Option.some.inj (q5.symm.trans p5)
    injection e0 with _ e0; injection e1 with _ e1; injection e2 with _ e2; injection e3 with e3; injection e4 with e4; injection e5 with e5 e6 _
    subst e5
    have hk := xat_det x x' a h2 h2' e6
    obtain ⟨xo, ⟨xk, xn, xs⟩, xt, xl⟩ := x
    obtain ⟨yo, ⟨yk, yn, ys⟩, yt, yl⟩ := x'
    simp only [Sx.op_mk, Sx.v_mk, Sx.s_mk, Sx.l_mk] at e0 e1 e2 e3 e4 hk
    subst e0; subst e1; subst e2; subst e3; subst e4; subst hk
    rfl
end
/-- one place, one expression -/
theorem cells6_det {w : World} {S S' : Nat → Prop} {b o : Nat} {x x' : X} {a a' : Option Addr} {c c' : Nat} (h : Cells6 w b o x a c) (h' : Cells6 w b o x' a' c') (hx : XAt w S x a) (hx' : XAt w S' x' a') : x = x' := by
  have := lat_det (S := S) (S' := S') [x] [x'] b o (by rw [LAt, LAt]; exact ⟨⟨a, c, h, hx⟩, trivial⟩) (by rw [LAt, LAt]; exact ⟨⟨a', c', h', hx'⟩, trivial⟩) rfl
  injection this
theorem xat_in {w : World} {S : Nat → Prop} {b o : Nat} : ∀ (x : X) (ad : Option Addr), XAt w S x ad → 0 < x.l.length → ad = some ⟨b, o, none⟩ → S b
  | .mk _ _ _ l, ad, h, hl, e => by
    rw [XAt] at h
    rcases h with h | ⟨b', o', e', hb, _⟩
    · subst h; exact absurd hl (Nat.not_lt_zero _)
    · rw [e] at e'; cases e'; exact hb
mutual
theorem xat_same {w W : World} {S : Nat → Prop} (hs : ∀ j, S j → W.heap[j]? = w.heap[j]?) : ∀ (x : X) (ad : Option Addr), XAt w S x ad → XAt W S x ad
  | .mk _ _ _ l, ad, h => by
    rw [XAt] at h ⊢
    rcases h with h | ⟨b, o, h1, h2, h3⟩
    · exact .inl h
    · exact .inr ⟨b, o, h1, h2, lat_same hs l b o h2 h3⟩
theorem lat_same {w W : World} {S : Nat → Prop} (hs : ∀ j, S j → W.heap[j]? = w.heap[j]?) : ∀ (l : List X) (b o : Nat), S b → LAt w S l b o → LAt W S l b o
  | [], _, _, _, _ => by rw [LAt]; trivial
  | x :: r, b, o, hb, h => by
    rw [LAt] at h ⊢
    obtain ⟨⟨a, c, h1, h2⟩, h3⟩ := h
    have e : ∀ i, W.cell? ⟨b, i, none⟩ = w.cell? ⟨b, i, none⟩ := fun i => World.cell?_of_block (hs b hb)
    exact ⟨⟨a, c, ⟨(e _).trans h1.1, (e _).trans h1.2.1, (e _).trans h1.2.2.1, (e _).trans h1.2.2.2.1, (e _).trans h1.2.2.2.2.1, (e _).trans h1.2.2.2.2.2⟩, xat_same hs x a h2⟩, lat_same hs r b (o + 6) hb h3⟩
end
section
variable {w0 : World} {m bx : Nat} {Gd : X → Option Addr → Prop} {mk : Prop} {x : X} {a : Option Addr} {c : Nat}
/-- what is handed out -/
abbrev PA (w0 : World) (m : Nat) (Gd : X → Option Addr → Prop) (mk : Prop) := { y : X × Option Addr × Nat × Nat // ((XAt w0 (fun j => j < m) y.1 y.2.1 ∧ Gd y.1 y.2.1) ∨ (mk ∧ y.1 = Sx.no)) ∧ y.2.2.2 ≤ 2000 }
abbrev encP (y : PA w0 m Gd mk) : Array Value := #[xV y.1.1 y.1.2.1 y.1.2.2.1, .int .i64 (y.1.2.2.2 : Int)]
abbrev pxd (y : PA w0 m Gd mk) : X × Nat := (y.1.1, y.1.2.2.2)
/-- the way into x -/
structure WayOk (w0 : World) (m bx : Nat) (Gd : X → Option Addr → Prop) (x : X) (a : Option Addr) (c : Nat) (P : List St14) : Prop where
  at_ : ∀ t ∈ P, (t.b < m ∧ Cells6 w0 t.b t.o t.x t.a t.c) ∨ (t.b = bx ∧ t.o = 0 ∧ t.x = x ∧ t.a = a ∧ t.c = c)
  sub : ∀ t ∈ P, XAt w0 (fun j => j < m) t.x t.a ∧ Gd t.x t.a ∧ t.d ≤ t.x.l.length
  less : P.Pairwise (fun s t => Sx.deep t.x < Sx.deep s.x)
  few : ∀ i (h : i < P.length), Sx.deep P[i].x + i ≤ 1000
/-- what a round keeps -/
def KpP (m bx B2 : Nat) (W W' : World) : Prop := W.heap.size ≤ W'.heap.size ∧ (∀ j, (j < m ∨ j = bx) → j < W.heap.size → W'.heap[j]? = W.heap[j]?) ∧ (∀ (j : Nat) cs fz, W.heap[j]? = some (.cells cs 61 fz) → W'.heap[j]? = W.heap[j]?) ∧ (∀ (j : Nat) (o : Obj), B2 ≤ j → W.heap[j]? = some o → o.isCells = false → W'.heap[j]? = some o)
theorem kpP_t {B2 : Nat} {A B C : World} (h : KpP m bx B2 A B) (k : KpP m bx B2 B C) : KpP m bx B2 A C :=
  ⟨Nat.le_trans h.1 k.1, fun j hj hl => (k.2.1 j hj (Nat.lt_of_lt_of_le hl h.1)).trans (h.2.1 j hj hl), fun j cs fz hc => (k.2.2.1 j cs fz ((h.2.2.1 j cs fz hc).trans hc)).trans (h.2.2.1 j cs fz hc), fun j o hB ho hn => k.2.2.2 j o hB (h.2.2.2 j o hB ho hn) hn⟩
theorem kpP_below {B2 : Nat} {W W' : World} (hb : Below W.heap.size W W') : KpP m bx B2 W W' :=
  ⟨hb.size, fun j _ hl => hb.block j hl, fun j _ _ hc => hb.block j (Array.getElem?_eq_some_iff.1 hc).1, fun j _ _ ho _ => (hb.block j (Array.getElem?_eq_some_iff.1 ho).1).trans ho⟩
theorem surv_only {B T : Nat} {J : World → Prop} (h : Surv B T J) {A A' : World} {r : Option Nat} (hJ : J A) (ho : Only (fun j => r = some j) A A') (hr : ∀ j, r = some j → B ≤ j ∧ ∃ cs fz, A.heap[j]? = some (.cells cs T fz)) : J A' :=
  h A A' r hJ ⟨ho.os, ho.tape, ho.output, ho.size, fun k hk hn => ho.block k hk fun e => hn e.symm⟩ hr
theorem surv_below {B T : Nat} {J : World → Prop} (h : Surv B T J) {A A' : World} (hJ : J A) (hb : Below A.heap.size A A') : J A' :=
  surv_only h (r := none) hJ (Only.of_none (F := fun _ => False) hb |>.mono fun k _ e => e.elim) fun j e => by cases e
/-- a list of steps lies in cells of steps -/
theorem owS_cells {W : World} {B : Nat} {v : Value} {P : List St14} (h : OwL fS 61 2 W B v P) : ∀ j, v.ownBlock = some j → B ≤ j ∧ ∃ cs fz, W.heap[j]? = some (.cells cs 61 fz) := by
  intro j e
  rcases h.2 with ⟨rfl, _⟩ | ⟨g, cap, cur, rfl, hb, hh, _⟩
  · cases e
  · have e2 : g = j := by simpa [Value.ownBlock] using e
    subst e2
    exact ⟨hb, cur, (0, 0), hh⟩
theorem owS_kp {W W' : World} {B B2 : Nat} {v : Value} {P : List St14} (h : OwL fS 61 2 W B v P) (hk : KpP m bx B2 W W') : OwL fS 61 2 W' B v P := by
  refine ⟨h.1, ?_⟩
  rcases h.2 with hn | ⟨g, cap, cur, rfl, hb, hh, r⟩
  · exact .inl hn
  · exact .inr ⟨g, cap, cur, rfl, hb, (hk.2.2.1 g _ _ hh).trans hh, r⟩
/-- the world as it stands beside the way -/
def Side (w0 W : World) (m bx : Nat) (x : X) (a : Option Addr) (c : Nat) : Prop := (∀ j, j < m → W.heap[j]? = w0.heap[j]?) ∧ RowV W bx 35 (xC x a c).toList ∧ m ≤ bx ∧ m ≤ w0.heap.size
theorem side_only {F : Nat → Prop} {W W' : World} (h : Side w0 W m bx x a c) (ho : Only F W W') (hF : ∀ j, F j → m ≤ j ∧ j ≠ bx) : Side w0 W' m bx x a c := by
  refine ⟨fun j hj => ?_, rowV_only h.2.1 ho (fun e => (hF bx e).2 rfl), h.2.2⟩
  have hlt : j < W.heap.size := Nat.lt_trans (Nat.lt_of_lt_of_le hj h.2.2.1) (rowV_lt h.2.1)
  exact (ho.block j hlt fun e => by have := (hF j e).1; omega).trans (h.1 j hj)
theorem side_below {W W' : World} (h : Side w0 W m bx x a c) (hb : Below W.heap.size W W') : Side w0 W' m bx x a c := side_only h (Only.of_none (F := fun _ => False) hb) fun _ h => h.elim
theorem side_kp {W W' : World} {B2 : Nat} (h : Side w0 W m bx x a c) (hk : KpP m bx B2 W W') : Side w0 W' m bx x a c := by
  have hl := rowV_lt h.2.1
  exact ⟨fun j hj => (hk.2.1 j (.inl hj) (by have := h.2.2.1; omega)).trans (h.1 j hj), (hk.2.1 bx (.inr rfl) hl).trans h.2.1, h.2.2⟩
theorem side_cells {W : World} {b o : Nat} {y : X} {ay : Option Addr} {cy : Nat} (h : Side w0 W m bx x a c) (hb : b < m) (hc : Cells6 w0 b o y ay cy) : Cells6 W b o y ay cy := by
  have e : ∀ i, W.cell? ⟨b, i, none⟩ = w0.cell? ⟨b, i, none⟩ := fun i => World.cell?_of_block (h.1 b hb)
  exact ⟨(e _).trans hc.1, (e _).trans hc.2.1, (e _).trans hc.2.2.1, (e _).trans hc.2.2.2.1, (e _).trans hc.2.2.2.2.1, (e _).trans hc.2.2.2.2.2⟩
theorem way_cells {W : World} {P : List St14} (h : Side w0 W m bx x a c) (hw : WayOk w0 m bx Gd x a c P) : ∀ t ∈ P, Cells6 W t.b t.o t.x t.a t.c := fun t ht => by
  rcases hw.at_ t ht with ⟨h1, h2⟩ | ⟨rfl, h2, rfl, rfl, rfl⟩
  · exact side_cells h h1 h2
  · rw [h2]; exact x_cells h.2.1
/-- the next part of the last step: where it stands, and that it stands nowhere on the way -/
theorem way_next {W : World} {P : List St14} {t : St14} (hS : Side w0 W m bx x a c) (hw : WayOk w0 m bx Gd x a c (P ++ [t])) (hd : t.d < t.x.l.length) : ∃ b o ay cy, t.a = some ⟨b, o, none⟩ ∧ b < m ∧ Cells6 w0 b (o + t.d * 6) t.x.l[t.d] ay cy ∧ XAt w0 (fun j => j < m) t.x.l[t.d] ay ∧
    ∀ s ∈ P ++ [t], (⟨s.b, s.o, none⟩ : Addr) ≠ ⟨b, o + t.d * 6, none⟩ := by
  have ht := hw.sub t (by simp)
  obtain ⟨b, o, ay, cy, h1, h2, h3⟩ := xat_at ht.1 t.d hd
  have hb : b < m := xat_in (S := fun j => j < m) t.x t.a ht.1 (Nat.lt_of_le_of_lt (Nat.zero_le _) hd) h1
  refine ⟨b, o, ay, cy, h1, hb, h2, h3, fun s hs e => ?_⟩
  injection e with e1 e2 _
  have hc := way_cells hS hw s hs
  rw [e1, e2] at hc
  have hcW := side_cells hS hb h2
  -- both are read at one place
  have hdeep : Sx.deep t.x.l[t.d] < Sx.deep s.x := by
    have h4 := Sx.deep_at hd
    rw [List.mem_append, List.mem_singleton] at hs
    rcases hs with hs | rfl
    · exact Nat.lt_trans h4 ((List.pairwise_append.1 hw.less).2.2 s hs t (by simp))
    · exact h4
  have hxs : XAt W (fun j => j < m) s.x s.a := xat_same hS.1 _ _ (hw.sub s hs).1
  have hxy : XAt W (fun j => j < m) t.x.l[t.d] ay := xat_same hS.1 _ _ h3
  have := cells6_det hc hcW hxs hxy
  rw [this] at hdeep
  exact Nat.lt_irrefl _ hdeep
end
end Go.Proofs.YtmkllibfblacfaaDoor

/-
  Layer 14, the program's: the function that goes through an expression, walked.
-/
namespace Go.Proofs.YtmkllibfblacfaaDoor
open Go.RowKit Go.Shelf
open Sx (X toksOf isT)
attribute [local go_sem] Oper.semAt_some
theorem expr_ptr : (Tryd.prog.info? 35).map (·.size) = some 6 := by kernel_rfl
/-- two places are compared: they are not one; but where a block is marked the model leaves it open -/
theorem ptr_cmp14 (W : World) (p q : Addr) (hne : p ≠ q) {ca cb : Array Value} {ta tb : TypeId} {fa fb : Nat × Nat} (fp : W.frozen? p = false) (ha : W.heap[p.block]? = some (.cells ca ta fa)) (hb : W.heap[q.block]? = some (.cells cb tb fb)) (sa : ca.size ≠ 0) (sb : cb.size ≠ 0) :
    ∃ bb k, (binOp .eql 59 (.pointer (some p)) (.pointer (some q))).run Tryd.prog W = .ok (.bool bb) (W.drewN k) ∧ ((p.block = q.block ∨ fa = (0, 0)) → bb = false) := by
  obtain ⟨j, hj, hs⟩ := Option.map_eq_some_iff.1 expr_ptr
  have hp := Tryd.underlying59
  have hred : ∀ (bb : Bool) (W' : World), (sameAddr p q).run Tryd.prog W = .ok bb W' → (binOp .eql 59 (.pointer (some p)) (.pointer (some q))).run Tryd.prog W = .ok (.bool bb) W' := fun bb W' h => by
    have h1 : ∀ d : Nat, (Op.equalIn (d + 1) 59 (.pointer (some p)) (.pointer (some q))).run Tryd.prog W = .ok bb W' := fun d => by
      simp [Op.equalIn, run_underlying hp, sizeOf, typeInfo, hj, hs, h]
    simp only [binOp]
    simp [Op.equal, Op.maxDepth, h1 9999]
  by_cases hbl : p.block = q.block
  · exact ⟨false, 0, hred _ _ (by simp [sameAddr, hbl, hne, World.drewN]), fun _ => rfl⟩
  · obtain ⟨lo, hi⟩ := fa
    obtain ⟨l2, h2⟩ := fb
    obtain ⟨n1, e1⟩ := Nat.exists_eq_succ_of_ne_zero sa
    obtain ⟨n2, e2⟩ := Nat.exists_eq_succ_of_ne_zero sb
    simp only [World.frozen?, ha] at fp
    generalize hr : (sameAddr p q).run Tryd.prog W = r at hred
    simp [sameAddr, hbl, World.frozen?, ha, hb, fp, noView, viewAt, World.shape?, mayBeOne, stringish, e1, e2] at hr
    have h1 : W.drew = W.drewN 1 := rfl
    split at hr
    · split at hr
      · rename_i hc
        split at hr
        · exact ⟨false, 0, hred _ _ hr.symm, fun _ => rfl⟩
        · rw [h1] at hr
          refine ⟨_, 1, hred _ _ hr.symm, fun h => ?_⟩
          rcases h with h | h
          · exact absurd h hbl
          · have h4 : hi = 0 := congrArg Prod.snd h
            rw [h4] at hc
            exact absurd hc.2 (Nat.not_lt_zero _)
      · exact ⟨false, 0, hred _ _ hr.symm, fun _ => rfl⟩
    · split at hr
      · rename_i hc
        split at hr
        · exact ⟨false, 0, hred _ _ hr.symm, fun _ => rfl⟩
        · rw [h1] at hr
          refine ⟨_, 1, hred _ _ hr.symm, fun h => ?_⟩
          rcases h with h | h
          · exact absurd h hbl
          · have h4 : hi = 0 := congrArg Prod.snd h
            rw [h4] at hc
            exact absurd hc.1.2 (Nat.not_lt_zero _)
      · exact ⟨false, 0, hred _ _ hr.symm, fun _ => rfl⟩
theorem cell_cells {w : World} {g i : Nat} {v : Value} (h : w.cell? ⟨g, i, none⟩ = some v) : ∃ cs T fz, w.heap[g]? = some (.cells cs T fz) ∧ cs.size ≠ 0 := by
  unfold World.cell? at h
  rcases hb : w.heap[g]? with _ | o
  · simp [hb] at h
  · cases o <;> simp [hb] at h
    rename_i cs T fz
    refine ⟨cs, T, fz, rfl, fun e => ?_⟩
    have hc : cs = #[] := Array.eq_empty_of_size_eq_zero e
    subst hc
    simp at h
section
variable {w0 : World} {m bx B : Nat} {Gd : X → Option Addr → Prop} {mk : Prop} {x : X} {a : Option Addr} {c : Nat}
/-- where the function stands: what it handed out, and the way -/
structure PInv (w0 : World) (m bx B : Nat) (Gd : X → Option Addr → Prop) (mk : Prop) (x : X) (a : Option Addr) (c : Nat) (J : List (PA w0 m Gd mk) → World → Prop) (pre : List (PA w0 m Gd mk)) (P : List St14) (v : Value) (W : World) : Prop where
  say : pre.map pxd ++ todo 0 P = Sx.po x 1
  j : J pre W
  side : Side w0 W m bx x a c
  way : WayOk w0 m bx Gd x a c P
  own : OwL fS 61 2 W B v P
variable {J : List (PA w0 m Gd mk) → World → Prop} {pre : List (PA w0 m Gd mk)} {P : List St14} {t : St14} {v : Value} {W W' : World}
theorem pinv_below (hJ : ∀ s, Surv B 61 (J s)) (h : PInv w0 m bx B Gd mk x a c J pre P v W) (hb : Below W.heap.size W W') : PInv w0 m bx B Gd mk x a c J pre P v W' :=
  ⟨h.say, surv_below (hJ _) h.j hb, side_below h.side hb, h.way, owL_below h.own hb⟩
theorem way_front (h : WayOk w0 m bx Gd x a c (P ++ [t])) : WayOk w0 m bx Gd x a c P :=
  ⟨fun s hs => h.at_ s (List.mem_append_left _ hs), fun s hs => h.sub s (List.mem_append_left _ hs), (List.pairwise_append.1 h.less).1, fun i hi => by
    have := h.few i (by rw [List.length_append]; omega)
    rwa [List.getElem_append_left hi] at this⟩
/-- a step that was gone through -/
theorem pinv_pop {al : Option Addr} {n cp : Nat} (h : PInv w0 m bx B Gd mk x a c J pre (P ++ [t]) (.slice al (n + 1) cp) W) (hn : P.length = n) (hd : t.d = t.x.l.length) : PInv w0 m bx B Gd mk x a c J pre P (.slice al n cp) W := by
  refine ⟨?_, h.j, h.side, way_front h.way, owL_pop (f := fS) (fun _ => rfl) h.own hn⟩
  have := h.say
  rw [todo_snoc, hd, List.drop_length, Sx.poL, List.nil_append] at this
  exact this
/-- what the walk wants of the last step -/
theorem pinv_last {al : Option Addr} {n cp : Nat} (h : PInv w0 m bx B Gd mk x a c J pre (P ++ [t]) (.slice al n cp) W) : ∃ g, al = some ⟨g, 0, none⟩ ∧ n = P.length + 1 ∧ n ≤ cp ∧ cp ≤ maxLen ∧ B ≤ g ∧ g < W.heap.size ∧ n ≤ 1000 ∧
    W.cell? ⟨g, P.length * 2, none⟩ = some (.pointer (some ⟨t.b, t.o, none⟩)) ∧ W.cell? ⟨g, P.length * 2 + 1, none⟩ = some (.int .i64 (t.d : Int)) ∧ W.frozen? ⟨g, P.length * 2 + 1, none⟩ = false ∧
    W.cell? ⟨t.b, t.o + 5, none⟩ = some (.slice t.a t.x.l.length t.c) := by
  have hlen : (P ++ [t]).length = P.length + 1 := by simp
  have hi : P.length < (P ++ [t]).length := by omega
  obtain ⟨g, c', e, hc⟩ := owL_cell (f := fS) (fun _ _ => rfl) h.own P.length hi
  have e2 : (P ++ [t])[P.length] = t := by simp
  rw [e2] at hc
  injection e with e1 e3 e4
  subst e1
  have hlt := owL_lt h.own g rfl
  obtain ⟨_, _, ef, hcap, hmax, _⟩ := owL_form h.own
  injection ef with _ ef2 ef3
  have hfew := h.way.few P.length hi
  rw [e2] at hfew
  have hdp : 1 ≤ Sx.deep t.x := by rw [Sx.deep_eq]; omega
  refine ⟨g, rfl, by omega, by omega, by omega, hlt.1, hlt.2, by omega, (hc 0 _ rfl).1, (hc 1 _ rfl).1, (hc 1 _ rfl).2, (way_cells h.side h.way t (by simp)).2.2.2.2.2⟩
/-- the step's count is one more -/
theorem pinv_done (hJ : ∀ s, Surv B 61 (J s)) {g n cp : Nat} (h : PInv w0 m bx B Gd mk x a c J pre (P ++ [t]) (.slice (some ⟨g, 0, none⟩) n cp) W) (hm : m ≤ B) (hbx : bx < B) (hd : t.d < t.x.l.length) :
    ∃ wq : World, wq = W.setCell ⟨g, P.length * 2 + 1, none⟩ (.int .i64 ((t.d : Int) + 1)) ∧ J pre wq ∧ Side w0 wq m bx x a c ∧ WayOk w0 m bx Gd x a c (P ++ [{ t with d := t.d + 1 }]) ∧ OwL fS 61 2 wq B (.slice (some ⟨g, 0, none⟩) n cp) (P ++ [{ t with d := t.d + 1 }]) ∧
      Only (fun k => k = g) W wq := by
  have ho : Only (fun k => k = g) W (W.setCell ⟨g, P.length * 2 + 1, none⟩ (.int .i64 ((t.d : Int) + 1))) := Only.setCell (F := fun k => k = g) (Only.refl _ _) (fun _ => rfl) _
  have hg := owS_cells h.own g rfl
  refine ⟨_, rfl, surv_only (hJ pre) (r := some g) h.j (ho.mono fun k _ e => by rw [e]) (fun j e => by cases e; exact hg), side_only h.side ho fun j e => ?_, ⟨fun s hs => ?_, fun s hs => ?_, ?_, fun i hi => ?_⟩, owL_last1 (f := fS) (fun _ => rfl) h.own (by omega) _ _ rfl, ho⟩
  · have e2 : j = g := e
    have := hg.1
    omega
  · rw [List.mem_append, List.mem_singleton] at hs
    rcases hs with hs | rfl
    · exact h.way.at_ s (List.mem_append_left _ hs)
    · exact h.way.at_ t (by simp)
  · rw [List.mem_append, List.mem_singleton] at hs
    rcases hs with hs | rfl
    · exact h.way.sub s (List.mem_append_left _ hs)
    · have := h.way.sub t (by simp)
      exact ⟨this.1, this.2.1, hd⟩
  · have := h.way.less
    rw [List.pairwise_append] at this ⊢
    refine ⟨this.1, List.pairwise_singleton _ _, fun s hs u hu => ?_⟩
    rw [List.mem_singleton] at hu
    subst hu
    exact this.2.2 s hs t (by simp)
  · have := h.way.few i (by simpa using hi)
    by_cases hlt : i < P.length
    · rw [List.getElem_append_left hlt] at this ⊢
      exact this
    · obtain rfl : i = P.length := by simp at hi; omega
      simpa using this
/-- a part steps onto the way -/
theorem pinv_push {b o cy : Nat} {ay : Option Addr} (hw : WayOk w0 m bx Gd x a c (P ++ [{ t with d := t.d + 1 }])) (hd : t.d < t.x.l.length) (hb : b < m) (hc : Cells6 w0 b o t.x.l[t.d] ay cy) (hx : XAt w0 (fun j => j < m) t.x.l[t.d] ay) (hG : Gd t.x.l[t.d] ay) :
    WayOk w0 m bx Gd x a c ((P ++ [{ t with d := t.d + 1 }]) ++ [⟨b, o, t.x.l[t.d], ay, cy, 0⟩]) := by
  have hdp := Sx.deep_at hd
  refine ⟨fun s hs => ?_, fun s hs => ?_, ?_, fun i hi => ?_⟩
  · rw [List.mem_append, List.mem_singleton] at hs
    rcases hs with hs | rfl
    · exact hw.at_ s hs
    · exact .inl ⟨hb, hc⟩
  · rw [List.mem_append, List.mem_singleton] at hs
    rcases hs with hs | rfl
    · exact hw.sub s hs
    · exact ⟨hx, hG, Nat.zero_le _⟩
  · rw [List.pairwise_append]
    refine ⟨hw.less, List.pairwise_singleton _ _, fun s hs u hu => ?_⟩
    rw [List.mem_singleton] at hu
    subst hu
    rw [List.mem_append, List.mem_singleton] at hs
    rcases hs with hs | rfl
    · exact Nat.lt_trans hdp ((List.pairwise_append.1 hw.less).2.2 s hs { t with d := t.d + 1 } (by simp))
    · exact hdp
  · by_cases hlt : i < (P ++ [{ t with d := t.d + 1 }]).length
    · have := hw.few i hlt
      rw [List.getElem_append_left hlt]
      exact this
    · obtain rfl : i = (P ++ [{ t with d := t.d + 1 }]).length := by rw [List.length_append] at hi; simp at hi hlt ⊢; omega
      have := hw.few P.length (by simp)
      simp only [List.getElem_concat_length, List.length_append, List.length_singleton] at this ⊢
      omega
theorem say_push {b o cy : Nat} {ay : Option Addr} (h : pre.map pxd ++ todo 0 (P ++ [t]) = Sx.po x 1) (hd : t.d < t.x.l.length) : pre.map pxd ++ (t.x.l[t.d], P.length + 2) :: todo 0 ((P ++ [{ t with d := t.d + 1 }]) ++ [⟨b, o, t.x.l[t.d], ay, cy, 0⟩]) = Sx.po x 1 := by
  rw [todo_snoc, Sx.poL_drop _ _ _ hd, Sx.po_eq] at h
  rw [todo_snoc, todo_snoc, List.drop_zero, ← h]
  simp [Nat.add_assoc]
end
end Go.Proofs.YtmkllibfblacfaaDoor

/-
  Layer 14, the program's: a part that was read is handed to an op that waits for it: that waits for more, or is whole.
-/
namespace Go.Proofs.YtmkllibfblacfaaDoor
open Go.RowKit
open Sx (X toksOf isT)
/-- the op that waits, with one part more -/
abbrev wbMore (b : Wb) (gg cp : Nat) (y : X) (ay : Option Addr) (cy : Nat) : Wb := ⟨b.op, b.lev, some ⟨gg, 0, none⟩, cp, b.l ++ [(y, ay, cy)]⟩
section
variable {w w' : World} {R B : Nat} {S : Nat → Prop} {al : Option Addr} {cap : Nat} {L : List Lx.T} {p lev : Nat} {wc : Nat} {V : List Wb} {b : Wb} {y : X} {ay : Option Addr} {cy h g : Nat}
end
theorem both2_skip {P : Program} {ops : Array Oper} {Q : Exit → Act → World → Prop} {x y : Nat} {ox oy : Oper} {a : Act} {w : World} (hx : ops[x]? = some ox) (hy : ops[y]? = some oy) (wx : Region.wanted ox (yielded ops a.tmps) = true) (wy : Region.wanted oy (yielded ops a.tmps) = true) (dx : ox.dst = none) (dy : oy.dst = none)
    (w1 w12 w2 w21 : World) (r1 : (execOp a.eval ox).run P w = .ok .skip w1) (r2 : (execOp a.eval oy).run P w1 = .ok .skip w12) (r3 : (execOp a.eval oy).run P w = .ok .skip w2) (r4 : (execOp a.eval ox).run P w2 = .ok .skip w21) (G : World → Prop) (h12 : G w12) (h21 : G w21) (h : ∀ wz, G wz → Q .normal a wz) : Both2 P ops Q x y a w := by
  have ex : a.put ox.dst undef = a := by rw [dx]; rfl
  have ey : a.put oy.dst undef = a := by rw [dy]; rfl
  refine ⟨wpOp_skip14 hx wx w1 r1 ?_, wpOp_skip14 hy wy w2 r3 ?_⟩
  · rw [ex]
    refine wpOp_skip14 hy wy w12 r2 ?_
    rw [ey]
    exact h _ h12
  · rw [ey]
    refine wpOp_skip14 hx wx w21 r4 ?_
    rw [ex]
    exact h _ h21
theorem owL_at1 {α : Type} {f : α → List Value} {E k B n c g : Nat} {w : World} {l : List α} (hf : ∀ x ∈ l, (f x).length = k) (h : OwL f E k w B (.slice (some ⟨g, 0, none⟩) n c) l) (i : Nat) (hi : i < l.length) : ∀ j u, (f l[i])[j]? = some u → w.cell? ⟨g, i * k + j, none⟩ = some u ∧ w.frozen? ⟨g, i * k + j, none⟩ = false := by
  obtain ⟨g', c', e, hc⟩ := owL_cell hf h i hi
  injection e with e1 _ _
  injection e1 with e1
  injection e1 with e1
  subst e1
  exact hc
theorem no_box (w : World) : Below w.heap.size w (w.alloc (.cells #[.int .i64 0, .int .i64 0, .int .i64 0, .string ⟨#[]⟩, .string ⟨#[]⟩, .slice none 0 0] 35)) ∧ RowV (w.alloc (.cells #[.int .i64 0, .int .i64 0, .int .i64 0, .string ⟨#[]⟩, .string ⟨#[]⟩, .slice none 0 0] 35)) w.heap.size 35 (fX (Sx.no, none, 0)) ∧ (w.alloc (.cells #[.int .i64 0, .int .i64 0, .int .i64 0, .string ⟨#[]⟩, .string ⟨#[]⟩, .slice none 0 0] 35)).heap.size = w.heap.size + 1 :=
  ⟨(no_new w).2.1, (no_new w).1, (no_new w).2.2⟩
section
variable {w w' : World} {R B : Nat} {S : Nat → Prop} {al : Option Addr} {cap : Nat} {L : List Lx.T} {p lev : Nat} {wa : Option Addr} {wc : Nat} {V : List Wb} {b : Wb} {y : X} {ay : Option Addr} {cy h : Nat}
end
end Go.Proofs.YtmkllibfblacfaaDoor

/-
  An append of one element, as an operation of a walk in a fence.
-/
namespace Go.Proofs.YtmkllibfblacfaaDoor
open Go.RowKit
section
variable {α : Type} {f : α → List Value} {E k bytes : Nat} {P : Program} {w : World} {B : Nat}
/-- one element more, as an operation of a walk in a fence: its box at block N -/
theorem wpListIn_append_one14 {F : Fence} {n : Nat} (he : ElemOk P E k bytes) {ops : Array Oper} {rest : List Oper} {o : Oper} {a : Act} {Q : Exit → Act → World → Prop} (hgd : o.guard = none) (s x : Operand) (t : TypeId)
    (ho : o.op = .call { callee := .builtin .append, args := #[s, x], argTypes := #[t, t] }) (ht : P.underlying t = some (.slice E)) (v : Value) (l : List α) (y : α) (hs : a.eval s = v) (hown : OwL f E k w B v l) (N c : Nat) (hx : a.eval x = .slice (some ⟨N, 0, none⟩) 1 c)
    (hN : RowV w N E (f y)) (hfl : (f y).length = k) (h1 : ∀ u ∈ f y, u.oneCell' = true) (hl : l.length ≤ 1000000) (hB : B ≤ w.heap.size)
    (h : ∀ v' w', OwL f E k w' B v' (l ++ [y]) → Only (fun j => v.ownBlock = some j) w w' → wpListIn F n P ops Q rest (a.put o.dst v') w') :
    wpListIn F n P ops Q (o :: rest) a w := by
  obtain ⟨i, z, hi, hz, hsz, hby, hzs, hk, hb⟩ := he
  refine wpListIn_append_own w hgd s x t ho B E i z k bytes ht hi hz hsz hby hzs hk v l.length (l.flatMap f) hs hown ⟨N, 0, none⟩ 1 c (f y) hx (by rw [hfl, Nat.one_mul]) (fun j u hj => by rw [Addr.add_mid, Nat.zero_add, rowV_cell hN]; exact hj) h1 (by unfold maxLen; omega) ?_ hB ?_
  · have := Nat.mul_le_mul (show l.length + 1 ≤ 1000001 by omega) hb
    omega
  · intro v' w' h2 h3 _
    refine h v' w' ?_ ((Only.refl _ w).grown h3 fun j _ e => e)
    unfold OwL
    rw [List.flatMap_append, List.length_append]
    simpa using h2
end
end Go.Proofs.YtmkllibfblacfaaDoor

/-
  Layer 14, the program's: the function that goes through an expression, whole.
-/
namespace Go.Proofs.YtmkllibfblacfaaDoor
open Go.RowKit Go.Shelf
open Sx (X toksOf isT)
attribute [local go_sem] Oper.semAt_some
/-- cut short, by a part that may not be -/
def CutP (x : X) (ys : List (X × Nat)) : Prop := ∃ pre d rest, pre ++ rest = Sx.po x 1 ∧ ys = pre ++ [(Sx.no, d)]
set_option maxRecDepth 100000 in
set_option maxHeartbeats 25600000 in
theorem parts14_hands {n : Nat} (hn : 1 ≤ n) {w0 w : World} {m bx B2 : Nat} {Gd : X → Option Addr → Prop} {mk : Prop} {x : X} {a : Option Addr} {c : Nat} (hx : XAt w0 (fun j => j < m) x a) (hGx : Gd x a)
    (hG : ∀ y ay, Gd y ay → y.l.length ≤ maxLen ∧ ∀ (i : Nat) (h : i < y.l.length) b o az cz, ay = some ⟨b, o, none⟩ → Cells6 w0 b (o + i * 6) y.l[i] az cz → Gd y.l[i] az ∧ w0.frozen? ⟨b, o + i * 6, none⟩ = false ∧ (mk ∨ ∃ cs T, w0.heap[b]? = some (.cells cs T (0, 0))))
    (hd : Sx.deep x ≤ 1000) (hS : Side w0 w m bx x a c) :
    Hands (α := PA w0 m Gd mk) n Tryd.prog 23 #[.pointer (some ⟨bx, 0, none⟩)] encP (KpP m bx B2) (fun ys => ys.map pxd = Sx.po x 1 ∨ (mk ∧ CutP x (ys.map pxd))) (fun pre => (∃ rest, pre.map pxd ++ rest = Sx.po x 1) ∨ (mk ∧ CutP x (pre.map pxd))) (Sx.po x 1).length 61 w := by
  intro l J Jx W hbw _ hJs0 hJxs0 hY h0
  have hJs := fun s => (hJs0 s).surv (Nat.le_refl _)
  have hJxs := fun s => (hJxs0 s).surv (Nat.le_refl _)
  clear hJs0 hJxs0
  have hSW : Side w0 W m bx x a c := by
    have hl := rowV_lt hS.2.1
    refine ⟨fun j hj => (hbw.block j (Nat.lt_trans (Nat.lt_of_lt_of_le hj hS.2.2.1) hl)).trans (hS.1 j hj), (hbw.block bx hl).trans hS.2.1, hS.2.2⟩
  have hbxW := rowV_lt hSW.2.1
  have hmW : m ≤ W.heap.size := by have := hSW.2.2.1; omega
  obtain ⟨c0, c1, c2, c3, c4, c5⟩ := x_cells hSW.2.1
  simp only [Nat.zero_add] at c0 c1 c2 c3 c4 c5
  refine callsIn_of_wp Tryd.func23 rfl trivial ?_
  simp only [Tryd.ntmps23, List.size_toArray, List.length_cons, List.length_nil, Nat.reduceAdd, Nat.reduceSub, Array.replicate_succ, Array.replicate_zero, List.push_toArray, List.append_toArray, List.nil_append, List.cons_append]
  have hx1 : ((XAt w0 (fun j => j < m) x a ∧ Gd x a) ∨ (mk ∧ x = Sx.no)) ∧ 1 ≤ 2000 := ⟨.inl ⟨hx, hGx⟩, Nat.le_of_ble_eq_true rfl⟩
  obtain ⟨fn, tmps, assign, body, hy, hR⟩ := hY [] ⟨(x, a, c, 1), hx1⟩ W h0 (by rw [Sx.po_eq]; simp)
  dsimp only [encP, xV, xC] at hy
  rw [show ((1 : Nat) : Int) = 1 from rfl] at hy
  gi_wp2
  refine hR.mono ?_
  rintro e w4 (⟨rfl, hJ4, hk4⟩ | ⟨rfl, hJ4, -⟩)
  · have hS4 := side_kp hSW hk4
    have hs4 := hk4.1
    have hnr : RowV (w4.alloc (.cells #[.pointer (some ⟨bx, 0, none⟩), .int .i64 0] 61)) w4.heap.size 61 (fS ⟨bx, 0, x, a, c, 0⟩) := rowV_new w4 61 [_, _]
    have hnb : Below w4.heap.size w4 (w4.alloc (.cells #[.pointer (some ⟨bx, 0, none⟩), .int .i64 0] 61)) := (Below.refl w4.heap.size w4).alloc (Nat.le_refl _) _
    have I4 : ∃ P, P = [(⟨bx, 0, x, a, c, 0⟩ : St14)] ∧ PInv w0 m bx W.heap.size Gd mk x a c J [⟨(x, a, c, 1), hx1⟩] P (.slice (some ⟨w4.heap.size, 0, none⟩) 1 1) (w4.alloc (.cells #[.pointer (some ⟨bx, 0, none⟩), .int .i64 0] 61)) := by
      refine ⟨_, rfl, ?_, surv_below (hJs _) hJ4 hnb, side_below hS4 hnb, ⟨fun s hs => ?_, fun s hs => ?_, List.pairwise_singleton _ _, fun i hi => ?_⟩, owL_one (f := fS) hnr hs4 rfl⟩
      · rw [Sx.po_eq]; simp [todo]
      · rw [List.mem_singleton] at hs; subst hs; exact .inr ⟨rfl, rfl, rfl, rfl, rfl⟩
      · rw [List.mem_singleton] at hs; subst hs; exact ⟨hx, hGx, Nat.zero_le _⟩
      · obtain rfl : i = 0 := by simpa using hi
        exact hd
    clear hnr hnb
    have H4 := Lib.hid I4
    clear I4
    gi_wp2
    gi_loopg [3, 4] (2 * (todo 0 [(⟨bx, 0, x, a, c, 0⟩ : St14)]).length + 1) (fun k v3 v4 wr => ∃ (pre : List (PA w0 m Gd mk)) (P : List St14) (al : Option Addr) (cp : Nat), v3 = .slice al P.length cp ∧ v4 = .int .i64 (P.length : Int) ∧ k = 2 * (todo 0 P).length + P.length ∧ Hid (PInv w0 m bx W.heap.size Gd mk x a c J pre P (.slice al P.length cp) wr))
    case atStart =>
      obtain ⟨_, rfl, I4⟩ := H4.out
      exact ⟨_, [⟨bx, 0, x, a, c, 0⟩], _, _, rfl, rfl, rfl, Lib.hid I4⟩
    case round =>
      obtain ⟨pre, P, al, cp, rfl, rfl, rfl, HI⟩ := hrel
      rcases List.eq_nil_or_concat P with rfl | ⟨P, t, rfl⟩
      · gi_wp2
        go_end0
        have hsay := HI.out.say
        rw [todo, List.append_nil] at hsay
        exact ⟨⟨_, rfl⟩, .inl ⟨pre, .inl hsay, HI.out.j⟩⟩
      · have hlen : (P ++ [t]).length = P.length + 1 := by simp
        rw [List.concat_eq_append, hlen] at HI ⊢
        obtain ⟨g, rfl, -, hcp, hmax, hBg, hgs, hfew, z0, z1, fz1, z5⟩ := pinv_last HI.out
        have htd := (HI.out.way.sub t (by simp)).2.2
        generalize hN : P.length = N at *
        by_cases hdl : t.d = t.x.l.length
        · have hq : (((t.d : Nat) : Int) == ((t.x.l.length : Nat) : Int)) = true := by simp [hdl]
          gi_wp2
          gi_region
          all_goals
            gi_wp2
            gi_roundg (2 * (todo 0 P).length + N)
            · exact ⟨pre, P, _, cp, by rw [hN], by rw [hN], by rw [hN], by rw [hN]; exact Lib.hid (pinv_pop (pinv_below hJs HI.out (Below.refl _ _).drew) hN hdl)⟩
            · rw [List.concat_eq_append, todo_snoc, hdl, List.drop_length, Sx.poL, List.nil_append, hlen]
              omega
        · have hlt : t.d < t.x.l.length := by omega
          have hq : (((t.d : Nat) : Int) == ((t.x.l.length : Nat) : Int)) = false := by simp; omega
          have hGt := (HI.out.way.sub t (by simp)).2.1
          have hGl := (hG _ _ hGt).1
          have hI2 := pinv_below hJs HI.out ((Below.refl wr.heap.size wr).drew.trans (Below.refl _ wr.drew).drew)
          obtain ⟨b, o, ay, cy, ha, hbm, hcy, hxy, hne⟩ := way_next hI2.side hI2.way hlt
          obtain ⟨hGy, hfy, hmk⟩ := (hG _ _ hGt).2 t.d hlt b o ay cy ha hcy
          obtain ⟨wq, hwq, hJq, hSq, hWq, hOq, hoq⟩ := pinv_done hJs hI2 hmW hbxW hlt
          rw [hN] at hwq
          rw [ha] at z5
          obtain ⟨y0, y1, y2, y3, y4, y5⟩ := side_cells HI.out.side hbm hcy
          have hwq2 : wq = (wr.setCell ⟨g, N * 2 + 1, none⟩ (.int .i64 ((t.d : Int) + 1))).drew.drew := hwq
          have hbg : ¬ b = g := by omega
          have hi2 : (N + 1) / 2 < (P ++ [t]).length := by omega
          have hp2 := (owL_at1 (f := fS) (fun _ _ => rfl) HI.out.own ((N + 1) / 2) hi2 0 _ rfl).1
          rw [Nat.add_zero] at hp2
          have hn2 := hne _ (List.getElem_mem hi2)
          have hc2 := (way_cells hSq hI2.way _ (List.getElem_mem hi2)).1
          generalize (P ++ [t])[(N + 1) / 2] = s2 at hp2 hn2 hc2
          -- the two places are compared
          have hcq := (side_cells hSq hbm hcy).1
          obtain ⟨cs1, T1, f1, e1, ne1⟩ := cell_cells hcq
          obtain ⟨cs2, T2, f2, e2, ne2⟩ := cell_cells hc2
          have hbq := hSq.1 b hbm
          have hfq : wq.frozen? ⟨b, o + t.d * 6, none⟩ = false := by
            rw [← hfy]; unfold World.frozen?; rw [hbq]
          obtain ⟨bb, k, hcmp, hbb⟩ := ptr_cmp14 wq ⟨b, o + t.d * 6, none⟩ ⟨s2.b, s2.o, none⟩ (fun e => hn2 e.symm) hfq e1 e2 ne1 ne2
          have hbb2 : bb = true → mk := fun hb => by
            rcases hmk with h | ⟨cs, T, h⟩
            · exact h
            · rw [hbq, h] at e1
              injection e1 with e1
              injection e1 with _ _ e1
              have := hbb (.inr e1.symm)
              rw [hb] at this; cases this
          have hsay := say_push (b := b) (o := o + t.d * 6) (ay := ay) (cy := cy) HI.out.say hlt
          rw [hN] at hsay
          have hpl : pre.length < (Sx.po x 1).length := by rw [← hsay]; simp
          have hwk : Below wq.heap.size wq (wq.drewN k) := ⟨rfl, rfl, rfl, Nat.le_refl _, fun _ _ => rfl⟩
          generalize wq.drewN k = wk at hcmp hwk
          have hJk := surv_below (hJs _) hJq hwk
          have hSk := side_below hSq hwk
          have hOk := owL_below hOq hwk
          obtain ⟨v0, v1, v2, v3, v4, v5⟩ := side_cells hSk hbm hcy
          have hcast : ((N + 2 : Nat) : Int) = (N : Int) + 1 + 1 := by omega
          have hHQ := Lib.hid (And.intro hSk (And.intro hWq (And.intro hOk (And.intro hcy (And.intro hxy (And.intro hGy hsay))))))
          clear hJq hSq hWq hOq hoq hcy hne hwq hSk hOk hn2 hc2 hcq e1 e2 ne1 ne2 hbq hfq hfy hmk hbb hI2 hGt
          unfold maxLen at hGl
          cases bb with
          | true =>
            obtain ⟨fn, tmps, assign, body, hy, hR⟩ := hY pre ⟨(Sx.no, none, 0, N + 2), .inr ⟨hbb2 rfl, rfl⟩, (by omega : N + 2 ≤ 2000)⟩ _ hJk hpl
            have hen : encP (⟨(Sx.no, none, 0, N + 2), .inr ⟨hbb2 rfl, rfl⟩, (by omega : N + 2 ≤ 2000)⟩ : PA w0 m Gd mk) = #[.agg #[.int .i64 0, .int .i64 0, .int .i64 0, .string ⟨#[]⟩, .string ⟨#[]⟩, .slice none 0 0], .int .i64 ((N : Int) + 1 + 1)] := by
              rw [← hcast]; rfl
            rw [hen] at hy
            clear hJk hsay hwk
            rw [hwq2] at hcmp
            clear hwq2
            gi_wp2
            gi_region
            all_goals
              gi_wp2
              gi_region
              all_goals
                gi_wp2
                refine hR.mono ?_
                have hcut : mk ∧ CutP x ((pre ++ [(⟨(Sx.no, none, 0, N + 2), .inr ⟨hbb2 rfl, rfl⟩, (by omega : N + 2 ≤ 2000)⟩ : PA w0 m Gd mk)]).map pxd) := ⟨hbb2 rfl, pre.map pxd, N + 2, _, hHQ.out.2.2.2.2.2.2, by simp⟩
                rintro e w5 (⟨rfl, hJ5, hk5⟩ | ⟨rfl, hJ5, -⟩)
                · gi_wp2
                  refine bodyPost_ret (results_none rfl _ _ _) rfl ?_
                  exact ⟨⟨_, rfl⟩, .inl ⟨_, .inr hcut, hJ5⟩⟩
                · gi_wp2
                  refine bodyPost_ret (results_none rfl _ _ _) rfl ?_
                  exact ⟨⟨_, rfl⟩, .inr ⟨_, .inr hcut, hJ5⟩⟩
          | false =>
            obtain ⟨fn, tmps, assign, body, hy, hR⟩ := hY pre ⟨(t.x.l[t.d], ay, cy, N + 2), .inl ⟨hxy, hGy⟩, (by omega : N + 2 ≤ 2000)⟩ _ hJk hpl
            dsimp only [encP, xV, xC] at hy
            rw [hcast] at hy
            clear hJk hsay hwk
            rw [hwq2] at hcmp
            clear hwq2
            gi_wp2
            gi_region
            all_goals
              gi_wp2
              gi_region
              all_goals
                gi_wp2
                refine hR.mono ?_
                rintro e w5 (⟨rfl, hJ5, hk5⟩ | ⟨rfl, hJ5, -⟩)
                · have hnr : RowV (w5.alloc (.cells #[.pointer (some ⟨b, o + t.d * 6, none⟩), .int .i64 0] 61)) w5.heap.size 61 (fS ⟨b, o + t.d * 6, t.x.l[t.d], ay, cy, 0⟩) := rowV_new w5 61 [_, _]
                  have hnb : Below w5.heap.size w5 (w5.alloc (.cells #[.pointer (some ⟨b, o + t.d * 6, none⟩), .int .i64 0] 61)) := (Below.refl w5.heap.size w5).alloc (Nat.le_refl _) _
                  have hJ6 := surv_below (hJs _) hJ5 hnb
                  have hS6 := side_below (side_kp hHQ.out.1 hk5) hnb
                  have hO6 := owL_below (owS_kp hHQ.out.2.2.1 hk5) hnb
                  have hs5 : W.heap.size ≤ w5.heap.size := Nat.le_trans (Nat.le_of_lt (Nat.lt_of_le_of_lt hBg (owL_lt hHQ.out.2.2.1 g rfl).2)) hk5.1
                  have H6 := Lib.hid (And.intro hJ6 (And.intro hS6 (And.intro hO6 hnr)))
                  clear hJ6 hS6 hO6 hnr hJ5 hk5 v0 v1 v2 v3 v4 v5
                  gi_wp2_with (gi_at_builtin; refine wpListIn_append_one14 (f := fS) (B := W.heap.size) step_elem rfl _ _ 62 rfl Tryd.underlying62 (.slice (some ⟨g, 0, none⟩) (N + 1) cp) (P ++ [{ t with d := t.d + 1 }]) (⟨b, o + t.d * 6, t.x.l[t.d], ay, cy, 0⟩ : St14) rfl H6.out.2.2.1 w5.heap.size 1 rfl H6.out.2.2.2 rfl (fS_one _) (by simp; omega) (by have := hnb.size; omega) ?_; intro v' w7 ho7 hg7; obtain ⟨a7, c7, he7, -⟩ := owL_form ho7; subst he7; have H7 := Lib.hid (And.intro ho7 hg7); clear ho7 hg7)
                  have hlen2 : ((P ++ [{ t with d := t.d + 1 }]) ++ [(⟨b, o + t.d * 6, t.x.l[t.d], ay, cy, 0⟩ : St14)]).length = N + 2 := by simp [hN]
                  have hcast2 : (N : Int) + 1 + 1 = ((N + 2 : Nat) : Int) := by omega
                  gi_roundg (2 * (todo 0 ((P ++ [{ t with d := t.d + 1 }]) ++ [(⟨b, o + t.d * 6, t.x.l[t.d], ay, cy, 0⟩ : St14)])).length + (N + 2))
                  · refine ⟨pre ++ [⟨(t.x.l[t.d], ay, cy, N + 2), .inl ⟨hxy, hGy⟩, (by omega : N + 2 ≤ 2000)⟩], (P ++ [{ t with d := t.d + 1 }]) ++ [(⟨b, o + t.d * 6, t.x.l[t.d], ay, cy, 0⟩ : St14)], a7, c7, by rw [hlen2], by rw [hlen2, hcast2], by rw [hlen2], ?_⟩
                    have hgo := owS_cells H6.out.2.2.1 g rfl
                    have ho7 : Only (fun j => j = g) (w5.alloc (.cells #[.pointer (some ⟨b, o + t.d * 6, none⟩), .int .i64 0] 61)) w7 := H7.out.2.mono fun k _ e => by
                      have e2 : some g = some k := e
                      injection e2 with e2
                      exact e2.symm
                    refine Lib.hid ⟨?_, surv_only (hJs _) (r := some g) H6.out.1 (ho7.mono fun k _ e => by rw [e]) (fun j e => by cases e; exact hgo), side_only H6.out.2.1 ho7 (fun j e => by have e2 : j = g := e; omega), pinv_push hHQ.out.2.1 hlt hbm hHQ.out.2.2.2.1 hxy hGy, H7.out.1⟩
                    have := hHQ.out.2.2.2.2.2.2
                    rw [List.map_append, List.append_assoc]
                    exact this
                  · have h1 := congrArg List.length hHQ.out.2.2.2.2.2.2
                    have h2 := congrArg List.length HI.out.say
                    rw [List.length_append] at h1 h2
                    rw [List.length_cons] at h1
                    rw [List.concat_eq_append, hlen]
                    omega
                · gi_wp2
                  refine bodyPost_ret (results_none rfl _ _ _) rfl ?_
                  exact ⟨⟨_, rfl⟩, .inr ⟨_, .inl ⟨_, by have := hHQ.out.2.2.2.2.2.2; rw [List.map_append, List.append_assoc]; exact this⟩, hJ5⟩⟩
  · gi_wp2
    refine bodyPost_ret (results_none rfl _ _ _) rfl ?_
    exact ⟨⟨_, rfl⟩, .inr ⟨_, .inl ⟨_, by rw [Sx.po_eq]; rfl⟩, hJ4⟩⟩
end Go.Proofs.YtmkllibfblacfaaDoor

/-
  Layer 14, the program's: whether an expression may be, whatever its parts are.
-/
namespace Go.Proofs.YtmkllibfblacfaaDoor
open Go.RowKit
open Sx (X)
namespace Sx
/-- may it be, whatever its parts are? -/
def rightN (x : X) : Bool :=
  if x.op = 1 then decide (Vl.right x.v) && (decide (0 ≤ x.v.n) && (decide (x.s = Vl.mt) && decide (x.l.length = 0)))
  else if x.op = 2 then decide (x.v = Vl.no) && (Lx.nameB x.s && decide (x.l.length = 0))
  else decide (0 < cntP x.op) && (decide ((x.l.length : Int) = cntP x.op) && (decide (x.v = Vl.no) && decide (x.s = Vl.mt)))
end Sx
theorem v_no (v : Vl.V) (h : v = Vl.no) : v.kind = 0 ∧ v.n = 0 ∧ v.s = Vl.mt := by subst h; exact ⟨rfl, rfl, rfl⟩
set_option maxRecDepth 100000 in
set_option maxHeartbeats 25600000 in
theorem right14_any (x : X) (hok : Sx.okX x) (hs : x.s.size ≤ 1000000) (a : Option Addr) (c : Nat) (w : World) (hE : ErrR w) : Calls Tryd.prog 18 #[xV x a c] w fun e w' => e = .returned (.bool (Sx.rightN x)) ∧ Below w.heap.size w w' := by
  have hB0 := Lib.hid (x_new x a c w).2.1
  obtain ⟨hnn, hvs, hss, hlen⟩ := Sx.okX_is hok
  have HL := Lib.hid fun (wr : World) (hb : Below (w.alloc (.cells (xC x a c) 35)).heap.size (w.alloc (.cells (xC x a c) 35)) wr) => x_look hb
  obtain ⟨⟨c0, c1, c2, c3, c4, c5⟩, _⟩ := HL.out _ (Below.refl _ _)
  simp only [Nat.zero_add] at c0 c1 c2 c3 c4 c5
  have e1 := mt_beq x.s
  have e2 := fun wx => eql_val x.v Vl.no wx
  unfold maxLen at hlen
  by_cases h1 : x.op = 1
  · have hR : Sx.rightN x = (decide (Vl.right x.v) && (decide (0 ≤ x.v.n) && (decide (x.s = Vl.mt) && decide (x.l.length = 0)))) := if_pos h1
    have q1 : (x.op == 1) = true := by simp [h1]
    have cV := fun wx => check12_any x.v wx
    have l1 : (((x.l.length : Nat) : Int) == 0) = decide (x.l.length = 0) := by by_cases h : x.l.length = 0 <;> simp [h]
    by_cases hv : Vl.right x.v
    · rw [decide_eq_true hv, Bool.true_and] at hR
      rw [checkE_ok hv] at cV
      have HC := Lib.hid cV
      clear cV
      generalize decide (x.l.length = 0) = b4 at *
      generalize decide (x.s = Vl.mt) = b3 at *
      cases b3 <;> cases b4 <;> (by_cases h0 : 0 ≤ x.v.n) <;> (first | rw [decide_eq_true h0] at hR | rw [decide_eq_false h0] at hR) <;>
      · have HR := Lib.hid hR
        clear hR
        go_enter Tryd.func18, Tryd.ntmps18
        go_wp2_with ((go_at_call 20; refine (HC.out _).mono ?_; rintro e w1 ⟨rfl, hb⟩; obtain ⟨⟨k0, k1, k2, k3, k4, k5⟩, hBw⟩ := HL.out w1 hb; simp only [Nat.zero_add] at k0 k1 k2 k3 k4 k5; have HBw := Lib.hid hBw; clear hBw hb))
        go_ret
        exact ⟨ret_bool (by rw [HR.out]; rfl), HBw.out⟩
    · rw [decide_eq_false hv, Bool.false_and] at hR
      rw [checkE_bad hv] at cV
      have HC := Lib.hid cV
      have HR := Lib.hid hR
      clear cV hR
      go_enter Tryd.func18, Tryd.ntmps18
      go_wp2_with ((go_at_call 20; refine (HC.out _).mono ?_; rintro e w1 ⟨rfl, hb⟩; obtain ⟨⟨k0, k1, k2, k3, k4, k5⟩, hBw⟩ := HL.out w1 hb; simp only [Nat.zero_add] at k0 k1 k2 k3 k4 k5; have HBw := Lib.hid hBw; clear hBw hb))
      go_ret
      exact ⟨ret_bool (by rw [HR.out]), HBw.out⟩
  · by_cases h2 : x.op = 2
    · have hR : Sx.rightN x = (decide (x.v = Vl.no) && (Lx.nameB x.s && decide (x.l.length = 0))) := by unfold Sx.rightN; rw [if_neg h1, if_pos h2]
      have q1 : (x.op == 1) = false := by simp [h1]
      have q2 : (x.op == 2) = true := by simp [h2]
      have l1 : (((x.l.length : Nat) : Int) == 0) = decide (x.l.length = 0) := by by_cases h : x.l.length = 0 <;> simp [h]
      have cN := fun wx (hx : ErrR wx) => Name13_any x.s wx hs hx
      have HE := Lib.hid fun (wr : World) (hb : Below (w.alloc (.cells (xC x a c) 35)).heap.size (w.alloc (.cells (xC x a c) 35)) wr) => errR_below hE (x_look hb).2
      generalize decide (x.l.length = 0) = b4 at *
      generalize Lx.nameB x.s = b3 at *
      have HC := Lib.hid cN
      clear cN
      dsimp only [valV, Vl.no] at e2
      cases hvn : decide (x.v = Vl.no)
      all_goals
        dsimp only [Vl.no] at hvn
        rw [hvn] at e2
        rw [show decide (x.v = Vl.no) = _ from hvn] at hR
      · have HR := Lib.hid hR
        clear hR
        go_enter Tryd.func18, Tryd.ntmps18
        go_wp2_with fail
        go_ret
        exact ⟨ret_bool (by rw [HR.out]; rfl), hB0.out⟩
      · cases b3 <;> cases b4 <;>
        · have HR := Lib.hid hR
          clear hR
          go_enter Tryd.func18, Tryd.ntmps18
          go_wp2_with ((go_at_call 24; refine (HC.out _ (HE.out _ (Below.refl _ _))).mono ?_; rintro e w1 ⟨rfl, hb⟩; obtain ⟨⟨k0, k1, k2, k3, k4, k5⟩, hBw⟩ := HL.out w1 hb; simp only [Nat.zero_add] at k0 k1 k2 k3 k4 k5; have HBw := Lib.hid hBw; clear hBw hb))
          go_ret
          exact ⟨ret_bool (by rw [HR.out]; rfl), HBw.out⟩
    · have hR : Sx.rightN x = (decide (0 < cntP x.op) && (decide ((x.l.length : Int) = cntP x.op) && (decide (x.v = Vl.no) && decide (x.s = Vl.mt)))) := by unfold Sx.rightN; rw [if_neg h1, if_neg h2]
      have q1 : (x.op == 1) = false := by simp [h1]
      have q2 : (x.op == 2) = false := by simp [h2]
      have HC := Lib.hid fun wx => count14_any x.op wx
      generalize cntP x.op = CN at *
      have l1 : (((x.l.length : Nat) : Int) == CN) = decide ((x.l.length : Int) = CN) := by by_cases h : (x.l.length : Int) = CN <;> simp [h]
      generalize decide ((x.l.length : Int) = CN) = b2 at *
      generalize decide (x.s = Vl.mt) = b4 at *
      dsimp only [valV, Vl.no] at e2
      by_cases h0 : 0 < CN
      · rw [decide_eq_true h0, Bool.true_and] at hR
        cases hvn : decide (x.v = Vl.no)
        all_goals
          dsimp only [Vl.no] at hvn
          rw [hvn] at e2
          rw [show decide (x.v = Vl.no) = _ from hvn] at hR
        all_goals
          cases b2 <;> cases b4 <;>
          · have HR := Lib.hid hR
            clear hR
            go_enter Tryd.func18, Tryd.ntmps18
            go_wp2_with ((go_at_call 25; refine (HC.out _).mono ?_; rintro e w1 ⟨rfl, rfl⟩))
            go_ret
            exact ⟨ret_bool (by rw [HR.out]; rfl), hB0.out⟩
      · rw [decide_eq_false h0, Bool.false_and] at hR
        have HR := Lib.hid hR
        clear hR
        go_enter Tryd.func18, Tryd.ntmps18
        go_wp2_with ((go_at_call 25; refine (HC.out _).mono ?_; rintro e w1 ⟨rfl, rfl⟩))
        go_ret
        exact ⟨ret_bool (by rw [HR.out]), hB0.out⟩
end Go.Proofs.YtmkllibfblacfaaDoor

/-
  Layer 14, the program's: an expression in memory, as all calls want it; Check.
-/
namespace Go.Proofs.YtmkllibfblacfaaDoor
open Go.RowKit Go.Shelf
open Sx (X)
attribute [local go_sem] Oper.semAt_some
mutual
/-- an expression in memory, below block m: no cell of it is frozen, and its rows bear no mark (but where mk) -/
def XOk (w : World) (m : Nat) (mk : Prop) : X → Option Addr → Prop
  | .mk _ _ _ l, ad => l = [] ∨ ∃ b o, ad = some ⟨b, o, none⟩ ∧ b < m ∧ (mk ∨ ∃ cs T, w.heap[b]? = some (.cells cs T (0, 0))) ∧ LOk w m mk l b o
def LOk (w : World) (m : Nat) (mk : Prop) : List X → Nat → Nat → Prop
  | [], _, _ => True
  | x :: r, b, o => w.frozen? ⟨b, o, none⟩ = false ∧ (∃ a c, Cells6 w b o x a c ∧ XOk w m mk x a) ∧ LOk w m mk r b (o + 6)
end
mutual
theorem xok_at {w : World} {m : Nat} {mk : Prop} : ∀ (x : X) (ad : Option Addr), XOk w m mk x ad → XAt w (fun j => j < m) x ad
  | .mk _ _ _ l, ad, h => by
    rw [XOk] at h; rw [XAt]
    rcases h with h | ⟨b, o, h1, h2, _, h3⟩
    · exact .inl h
    · exact .inr ⟨b, o, h1, h2, lok_at l b o h3⟩
theorem lok_at {w : World} {m : Nat} {mk : Prop} : ∀ (l : List X) (b o : Nat), LOk w m mk l b o → LAt w (fun j => j < m) l b o
  | [], _, _, _ => by rw [LAt]; trivial
  | x :: r, b, o, h => by
    rw [LOk] at h; rw [LAt]
    obtain ⟨_, ⟨a, c, h1, h2⟩, h3⟩ := h
    exact ⟨⟨a, c, h1, xok_at x a h2⟩, lok_at r b (o + 6) h3⟩
end
mutual
theorem xok_same {w W : World} {m m' : Nat} {mk : Prop} (hm : m ≤ m') (hs : ∀ j, j < m → W.heap[j]? = w.heap[j]?) : ∀ (x : X) (ad : Option Addr), XOk w m mk x ad → XOk W m' mk x ad
  | .mk _ _ _ l, ad, h => by
    rw [XOk] at h ⊢
    rcases h with h | ⟨b, o, h1, h2, h4, h3⟩
    · exact .inl h
    · exact .inr ⟨b, o, h1, by omega, by rw [hs b h2]; exact h4, lok_same hm hs l b o h2 h3⟩
theorem lok_same {w W : World} {m m' : Nat} {mk : Prop} (hm : m ≤ m') (hs : ∀ j, j < m → W.heap[j]? = w.heap[j]?) : ∀ (l : List X) (b o : Nat), b < m → LOk w m mk l b o → LOk W m' mk l b o
  | [], _, _, _, _ => by rw [LOk]; trivial
  | x :: r, b, o, hb, h => by
    rw [LOk] at h ⊢
    obtain ⟨h0, ⟨a, c, h1, h2⟩, h3⟩ := h
    have e : ∀ i, W.cell? ⟨b, i, none⟩ = w.cell? ⟨b, i, none⟩ := fun i => World.cell?_of_block (hs b hb)
    exact ⟨by unfold World.frozen? at h0 ⊢; rw [hs b hb]; exact h0, ⟨a, c, ⟨(e _).trans h1.1, (e _).trans h1.2.1, (e _).trans h1.2.2.1, (e _).trans h1.2.2.2.1, (e _).trans h1.2.2.2.2.1, (e _).trans h1.2.2.2.2.2⟩, xok_same hm hs x a h2⟩, lok_same hm hs r b (o + 6) hb h3⟩
end
theorem lok_get {w : World} {m : Nat} {mk : Prop} : ∀ (l : List X) (b o : Nat), LOk w m mk l b o → ∀ i (h : i < l.length), w.frozen? ⟨b, o + i * 6, none⟩ = false ∧ ∃ a c, Cells6 w b (o + i * 6) l[i] a c ∧ XOk w m mk l[i] a
  | [], _, _, _, i, h => absurd h (Nat.not_lt_zero _)
  | x :: r, b, o, hk, 0, _ => by
    rw [LOk] at hk
    simp only [Nat.zero_mul, Nat.add_zero, List.getElem_cons_zero]
    exact ⟨hk.1, hk.2.1⟩
  | x :: r, b, o, hk, i + 1, h => by
    rw [LOk] at hk
    have := lok_get r b (o + 6) hk.2.2 i (by simpa using h)
    rw [show o + (i + 1) * 6 = o + 6 + i * 6 by omega]
    exact this
theorem cells6_a {w : World} {b o : Nat} {x : X} {a a' : Option Addr} {c c' : Nat} (h : Cells6 w b o x a c) (h' : Cells6 w b o x a' c') : a = a' := by
  have e := Option.some.inj (h.2.2.2.2.2.symm.trans h'.2.2.2.2.2)
  injection e
theorem xok_get {w : World} {m : Nat} {mk : Prop} {x : X} {b o : Nat} (h : XOk w m mk x (some ⟨b, o, none⟩)) (i : Nat) (hi : i < x.l.length) : b < m ∧ (mk ∨ ∃ cs T, w.heap[b]? = some (.cells cs T (0, 0))) ∧ w.frozen? ⟨b, o + i * 6, none⟩ = false ∧ ∃ a c, Cells6 w b (o + i * 6) x.l[i] a c ∧ XOk w m mk x.l[i] a := by
  obtain ⟨op, v, s, l⟩ := x
  rw [XOk] at h
  rcases h with h | ⟨b', o', h1, h2, h3, h4⟩
  · subst h; exact absurd hi (Nat.not_lt_zero _)
  · cases h1
    have := lok_get l b o h4 i hi
    exact ⟨h2, h3, this.1, this.2⟩
namespace Sx
mutual
/-- its texts are short, its lists and numbers as they may be -/
def fine : X → Prop
  | .mk op v s l => okX (.mk op v s l) ∧ s.size ≤ 1000000 ∧ fineL l
def fineL : List X → Prop
  | [] => True
  | x :: r => fine x ∧ fineL r
end
theorem fineL_at : ∀ (l : List X), fineL l → ∀ i (h : i < l.length), fine l[i]
  | [], _, i, h => absurd h (Nat.not_lt_zero _)
  | x :: r, hk, 0, _ => by rw [fineL] at hk; exact hk.1
  | x :: r, hk, i + 1, h => by rw [fineL] at hk; exact fineL_at r hk.2 i (by simpa using h)
theorem fine_is {x : X} (h : fine x) : okX x ∧ x.s.size ≤ 1000000 ∧ ∀ i (hi : i < x.l.length), fine x.l[i] := by
  obtain ⟨op, v, s, l⟩ := x
  rw [fine] at h
  exact ⟨h.1, h.2.1, fun i hi => fineL_at l h.2.2 i hi⟩
theorem fine_no : fine no := by
  unfold no
  rw [fine, okX, okL, fineL]
  exact ⟨⟨⟨by decide, by decide⟩, Nat.zero_le _, Nat.zero_le _, Nat.zero_le _, trivial⟩, Nat.zero_le _, trivial⟩
end Sx
/-- what the function that goes through an expression knows of each part -/
abbrev Gd14 (w : World) (m : Nat) (mk : Prop) (y : X) (ad : Option Addr) : Prop := XOk w m mk y ad ∧ Sx.fine y
theorem gd14 {w : World} {m : Nat} {mk : Prop} : ∀ y ay, Gd14 w m mk y ay → y.l.length ≤ maxLen ∧ ∀ (i : Nat) (h : i < y.l.length) b o az cz, ay = some ⟨b, o, none⟩ → Cells6 w b (o + i * 6) y.l[i] az cz → Gd14 w m mk y.l[i] az ∧ w.frozen? ⟨b, o + i * 6, none⟩ = false ∧ (mk ∨ ∃ cs T, w.heap[b]? = some (.cells cs T (0, 0))) := by
  intro y ay h
  have hf := Sx.fine_is h.2
  refine ⟨(Sx.okX_is hf.1).2.2.2, fun i hi b o az cz e hc => ?_⟩
  subst e
  obtain ⟨_, h3, h4, a', c', h5, h6⟩ := xok_get h.1 i hi
  have e2 := cells6_a hc h5
  subst e2
  exact ⟨⟨h6, hf.2.2 i hi⟩, h4, h3⟩
theorem kpP_only {F : Nat → Prop} {m bx B2 : Nat} {W W' : World} (ho : Only F W W') (hF : ∀ k, F k → m ≤ k ∧ k ≠ bx ∧ ∃ cs T fz, W.heap[k]? = some (.cells cs T fz) ∧ T ≠ 61) : KpP m bx B2 W W' := by
  refine ⟨ho.size, fun j hj hl => ho.block j hl fun h => ?_, fun j cs fz hc => ho.block j (Array.getElem?_eq_some_iff.1 hc).1 fun h => ?_, fun j o _ hoj hn => (ho.block j (Array.getElem?_eq_some_iff.1 hoj).1 fun h => ?_).trans hoj⟩
  · have := hF j h
    rcases hj with hj | hj
    · omega
    · exact this.2.1 hj
  · obtain ⟨_, _, cs', T, fz', h1, h2⟩ := hF j h
    rw [hc] at h1
    injection h1 with h1
    injection h1 with _ h1
    exact h2 h1.symm
  · obtain ⟨_, _, cs', T, fz', h1, h2⟩ := hF j h
    rw [hoj] at h1
    injection h1 with h1
    rw [h1] at hn
    cases hn
theorem kpP_put {m bx B2 l : Nat} {W : World} {o : Obj} (o' : Obj) (hl : m ≤ l) (hb : l ≠ bx) (h2 : l < B2) (ho : W.heap[l]? = some o) (hc : o.isCells = false) : KpP m bx B2 W (W.putObj l o') := by
  have hp := putObj_only W l o'
  refine ⟨hp.size, fun j hj hlt => hp.block j hlt fun h => ?_, fun j cs fz hj => hp.block j (Array.getElem?_eq_some_iff.1 hj).1 fun h => ?_, fun j o2 hB hj hn => (hp.block j (Array.getElem?_eq_some_iff.1 hj).1 fun h => ?_).trans hj⟩
  · have e : j = l := h
    rcases hj with hj | hj <;> omega
  · have e : j = l := h
    subst e
    rw [ho] at hj
    injection hj with hj
    rw [hj] at hc
    cases hc
  · have e : j = l := h
    omega
theorem survR_and {B T : Nat} {J J' : World → Prop} (h : SurvR B T J) (h' : SurvR B T J') : SurvR B T (fun W => J W ∧ J' W) := fun A A' row hJ hg hr => ⟨h A A' row hJ.1 hg hr, h' A A' row hJ.2 hg hr⟩
theorem survR_const {B T : Nat} (p : Prop) : SurvR B T (fun _ => p) := fun _ _ _ h _ _ => h
theorem survR_row {B T g E : Nat} {l : List Value} (hg : g < B) : SurvR B T (fun W => RowV W g E l) := fun A A' row hJ hgr hr =>
  (hgr.block g (rowV_lt hJ) fun e => by have := (hr g e.symm).1; omega).trans hJ
theorem survR_below {B T N : Nat} {w : World} (hN : N ≤ B) (hw : N ≤ w.heap.size) : SurvR B T (fun W => Below N w W) := fun A A' row hJ hgr hr =>
  hJ.trans ⟨hgr.os, hgr.tape, hgr.output, hgr.size, fun k hk => hgr.block k (by have := hJ.size; omega) fun e => by have := (hr k e.symm).1; omega⟩
end Go.Proofs.YtmkllibfblacfaaDoor

/-
  Layer 14, the program's: Check.
-/
namespace Go.Proofs.YtmkllibfblacfaaDoor
open Go.RowKit Go.Shelf
open Sx (X)
attribute [local go_sem] Oper.semAt_some
/-- may each of these be? -/
def Sx.allR (l : List (X × Nat)) : Bool := l.all fun p => Sx.rightN p.1
theorem Sx.allR_app (l l' : List (X × Nat)) : Sx.allR (l ++ l') = (Sx.allR l && Sx.allR l') := List.all_append
theorem results_errno15 {fn : Func} {q : Tmp} (h : fn.results = #[.cell q 22]) (tmps : Array Value) (w : World) (g : Nat) (n : Int) (hp : tmps.getD q undef = .pointer (some ⟨g, 0, none⟩)) (hr : RowV w g 22 [.int .i64 n]) :
    (results fn tmps).run Tryd.prog w = .ok (.int .i64 n) w := by
  have hl : (loadVar 22 ⟨g, 0, none⟩).run Tryd.prog w = .ok (.int .i64 n) w := by
    have c := rowV_cell hr 0
    simp only [List.getElem?_cons_zero] at c
    go_simp
  have hp' : tmps[q]?.getD undef = .pointer (some ⟨g, 0, none⟩) := by simpa using hp
  simp [results, h, hp', asAddr, hl]
theorem rowV_put15 {W : World} {g T D : Nat} {l : List Value} (h : RowV W g T l) (hD : g ≠ D) (o' : Obj) : RowV (W.putObj D o') g T l := rowV_only h (putObj_only W D o') fun e => hD e
/-- a store into a row of one cell -/
theorem rowV_set15 {W : World} {g T : Nat} {u : Value} (h : RowV W g T [u]) (v : Value) : RowV (W.setCell ⟨g, 0, none⟩ v) g T [v] := rowV_stored h 0 v
set_option maxRecDepth 100000 in
theorem parts14_any (x : X) (a : Option Addr) (c : Nat) (w : World) : Calls Tryd.prog 17 #[xV x a c] w fun e w' => e = .returned (.func (.func 23) #[] #[.pointer (some ⟨w.heap.size, 0, none⟩)]) ∧ w' = w.alloc (.cells (xC x a c) 35) := by
  go_enter Tryd.func17, Tryd.ntmps17
  go_wp2_with fail
  go_ret
  exact ⟨rfl, rfl⟩
set_option maxRecDepth 100000 in
set_option maxHeartbeats 12800000 in
theorem check14_any {mk : Prop} (x : X) (a : Option Addr) (c : Nat) (w : World) (hX : XOk w w.heap.size mk x a) (hf : Sx.fine x) (hd : Sx.deep x ≤ 1000) (hE : ErrR w) :
    Calls Tryd.prog 13 #[xV x a c] w fun e w' => ∃ r : Int, e = .returned (.int .i64 r) ∧ Below w.heap.size w w' ∧ ((r = 0 ∧ Sx.allR (Sx.po x 1) = true) ∨ (r = 2 ∧ (Sx.allR (Sx.po x 1) = false ∨ mk))) := by
  have cP := fun wx => parts14_any x a c wx
  have HC := Lib.hid cP
  clear cP
  have hB0 := Lib.hid (x_new x a c w).2.1
  have HL := Lib.hid fun (wr : World) (hb : Below (w.alloc (.cells (xC x a c) 35)).heap.size (w.alloc (.cells (xC x a c) 35)) wr) => x_look hb
  obtain ⟨⟨c0, c1, c2, c3, c4, c5⟩, _⟩ := HL.out _ (Below.refl _ _)
  simp only [Nat.zero_add] at c0 c1 c2 c3 c4 c5
  refine (callsIn_wide (n := 6)).1 ?_
  refine callsIn_of_wp_marks Tryd.func13 rfl trivial ?_ rfl
  simp only [Tryd.ntmps13, List.size_toArray, List.length_cons, List.length_nil, Nat.reduceAdd, Nat.reduceSub, Array.replicate_succ, Array.replicate_zero, List.push_toArray, List.append_toArray, List.nil_append, List.cons_append]
  gi_wp2_with (refine ⟨trivial, ?_⟩; gi_at_call 17; refine (callsIn_wide.2 (HC.out _)).mono ?_; rintro e w1 ⟨rfl, rfl⟩)
  obtain ⟨W3, hW3⟩ : ∃ W3, ((w.alloc (.cells (xC x a c) 35)).alloc (.cells #[.int .i64 0] 22)).alloc (.cells (xC x a c) 35) = W3 := ⟨_, rfl⟩
  have hB3 : Below w.heap.size w W3 := by
    rw [← hW3]
    exact (((Below.refl w.heap.size w).alloc (Nat.le_refl _) _).alloc (by simp) _).alloc (by simp; omega) _
  have hs3 : W3.heap.size = w.heap.size + 3 := by rw [← hW3]; simp
  have hr1 : RowV W3 (w.heap.size + 1) 22 [.int .i64 0] := by
    rw [← hW3]
    have := rowV_new (w.alloc (.cells (xC x a c) 35)) 22 [.int .i64 0]
    rw [World.size_alloc] at this
    exact rowV_alloc this _
  have hr2 : RowV W3 (w.heap.size + 2) 35 (xC x a c).toList := by
    rw [← hW3]
    have := rowV_new ((w.alloc (.cells (xC x a c) 35)).alloc (.cells #[.int .i64 0] 22)) 35 (xC x a c).toList
    rw [World.size_alloc, World.size_alloc] at this
    exact this
  rw [hW3]
  clear c0 c1 c2 c3 c4 c5
  have hSide : Side w W3 w.heap.size (w.heap.size + 2) x a c := ⟨fun j hj => hB3.block j hj, hr2, by omega, Nat.le_refl _⟩
  generalize hN : w.heap.size = N at *
  obtain ⟨I, eI⟩ : ∃ I : List (PA w N (Gd14 w N mk) mk) → World → Prop, I = fun pre W => (RowV W (N + 1) 22 [.int .i64 0] ∧ Below N w W) ∧ Sx.allR (pre.map pxd) = true := ⟨_, rfl⟩
  obtain ⟨Ix, eIx⟩ : ∃ I : List (PA w N (Gd14 w N mk) mk) → World → Prop, I = fun pre W => (RowV W (N + 1) 22 [.int .i64 2] ∧ Below N w W) ∧ Sx.allR (pre.map pxd) = false := ⟨_, rfl⟩
  replace eI := Lib.hid eI
  replace eIx := Lib.hid eIx
  refine wpIn_hands (n := 6) (gf := 23) (lb := #[.pointer (some ⟨N + 1 + 1, 0, none⟩)]) rfl (enters_of Tryd.func23 (by kernel_rfl) rfl)
    (parts14_hands (n := 6 - 1) (by omega) (B2 := W3.heap.size + 2) (Gd := Gd14 w N mk) (mk := mk) (xok_at x a hX) ⟨hX, hf⟩ gd14 hd hSide) (Below.refl _ _) (fun _ => rfl) kpP_t
    (fun W o o' h1 h2 => kpP_put o' (by omega) (by omega) (by omega) h1 h2)
    I Ix (fun s => by rw [eI.out]; exact survR_and (survR_and (survR_row (by omega)) (survR_below (by omega) (by omega))) (survR_const _))
    (fun s => by rw [eIx.out]; exact survR_and (survR_and (survR_row (by omega)) (survR_below (by omega) (by omega))) (survR_const _))
    (by rw [eI.out]; exact ⟨⟨hr1, hB3⟩, rfl⟩) ?round ?done ?stop
  case round =>
    rintro pre ⟨⟨z, az, cz, dz⟩, hz⟩ W hI hlen hsz
    rw [eI.out] at hI
    obtain ⟨⟨hr, hB⟩, hall⟩ := hI
    have hfz : Sx.fine z := by
      rcases hz.1 with h | h
      · exact h.2.2
      · have e : z = Sx.no := h.2
        rw [e]; exact Sx.fine_no
    obtain ⟨hokz, hsmz, _⟩ := Sx.fine_is hfz
    dsimp only [encP, xV, xC]
    have hnb := (x_new z az cz W).2
    have hnr := (x_new z az cz W).1
    dsimp only [xC] at hnb hnr
    gi_wp2
    refine ⟨⟨hnb.1.block _ (by omega), hnb.1.block _ (by omega)⟩, kpP_below hnb.1, fun W2 ho2 hI2 => ?_⟩
    have hr2 := rowV_only hnr ho2 (by omega)
    have hs2 := ho2.size
    rw [eI.out] at hI2
    obtain ⟨⟨hrr, hBB⟩, -⟩ := hI2 pre ⟨⟨rowV_alloc hr _, hB.alloc (by have := hB.size; omega) _⟩, hall⟩
    clear hI2
    obtain ⟨c0, c1, c2, c3, c4, c5⟩ := x_cells (x := z) (a := az) (c := cz) hr2
    simp only [Nat.zero_add] at c0 c1 c2 c3 c4 c5
    have fr := rowV_frozen hrr 0
    have hE2 : ErrR W2 := errR_below hE (by rw [hN]; exact hBB)
    have HR := Lib.hid (right14_any z hokz hsmz az cz W2 hE2)
    rw [hnb.2] at hs2
    have hsnoc : Sx.allR ((pre ++ [(⟨(z, az, cz, dz), hz⟩ : PA w N (Gd14 w N mk) mk)]).map pxd) = Sx.rightN z := by
      rw [List.map_append, Sx.allR_app, hall, Bool.true_and]
      exact Bool.and_true _
    generalize Sx.rightN z = rz at *
    have H2 := Lib.hid (And.intro hrr (And.intro hBB hr2))
    clear hrr hBB hr2 hnb hnr ho2 hr
    cases rz with
    | true =>
      gi_wp2_with (refine ⟨trivial, ?_⟩; gi_at_call 18; refine (CallsIn.inRound _ (callsIn_wide.2 HR.out)).mono ?_; rintro e w5 ⟨rfl, hb5⟩)
      rw [eI.out]
      exact ⟨⟨hb5.block _ (by omega), hb5.block _ (by omega)⟩, kpP_below hb5, ⟨rowV_below H2.out.1 hb5 (rowV_lt H2.out.1), H2.out.2.1.trans (hb5.mono (by have := H2.out.2.1.size; omega))⟩, hsnoc⟩
    | false =>
      gi_wp2_with (refine ⟨trivial, ?_⟩; gi_at_call 18; refine (CallsIn.inRound _ (callsIn_wide.2 HR.out)).mono ?_; rintro e w5 ⟨rfl, hb5⟩; have r5 := rowV_below H2.out.1 hb5 (rowV_lt H2.out.1); have f5 := rowV_frozen r5 0; have cr5 := rowV_cell r5 0; simp only [List.getElem?_cons_zero] at cr5)
      have ho := (Only.refl (fun k => k = N + 1) w5).setCell (g := N + 1) (i := 0) (fun _ => rfl) (.int .i64 2)
      have hs5 := hb5.size
      rw [eIx.out]
      refine ⟨⟨(ho.block _ (by omega) (by omega)).trans (hb5.block _ (by omega)), (ho.block _ (by omega) (by omega)).trans (hb5.block _ (by omega))⟩, kpP_t (kpP_below hb5) (kpP_only ho (fun k hk => ⟨by omega, by omega, by rw [show k = N + 1 from hk]; exact ⟨_, _, _, r5, by decide⟩⟩)), ⟨rowV_set15 r5 _, (H2.out.2.1.trans (hb5.mono (by have := H2.out.2.1.size; omega))).trans (ho.below (fun k _ hk => by omega) (by have := H2.out.2.1.size; omega))⟩, hsnoc⟩
  case done =>
    rintro xs W hSx hI hK
    rw [eI.out] at hI
    obtain ⟨⟨hr, hB⟩, hall⟩ := hI
    rw [hs3] at hK
    have fr := rowV_frozen hr 0
    have cr := rowV_cell hr 0
    simp only [List.getElem?_cons_zero] at cr
    have hsW : N ≤ W.heap.size := by have := hB.size; omega
    gi_wp2
    have ho := (Only.refl (fun k => k = N + 1) W).setCell (g := N + 1) (i := 0) (fun _ => rfl) (.int .i64 0)
    have hK2 := (ho.block (N + 3) (Array.getElem?_eq_some_iff.1 hK).1 (by omega)).trans hK
    refine ⟨by simp, .inl ⟨_, _, rfl, run_takeDeferred hK2, ?_⟩⟩
    refine ⟨_, results_errno15 rfl _ _ (N + 1) _ rfl (rowV_put15 (rowV_set15 hr _) (by omega) _), 0, rfl, ?_, ?_⟩
    · try rw [hN]
      exact (hB.trans (ho.below (fun k _ hk => by omega) hsW)).trans ((putObj_only _ _ _).below (fun k _ hk => by omega) (by have := ho.size; omega))
    · rcases hSx with hSx | ⟨hmk, pre, d, rest, h1, h2⟩
      · rw [hSx] at hall; exact .inl ⟨rfl, hall⟩
      · rw [h2, Sx.allR_app] at hall
        have : Sx.rightN Sx.no = false := by decide
        rw [show Sx.allR [(Sx.no, d)] = false by unfold Sx.allR; simp [this], Bool.and_false] at hall
        cases hall
  case stop =>
    rintro pre W hSp hI hK
    rw [eIx.out] at hI
    obtain ⟨⟨hr, hB⟩, hall⟩ := hI
    rw [hs3] at hK
    have hsW : N ≤ W.heap.size := by have := hB.size; omega
    gi_wp2
    refine ⟨by simp, .inl ⟨_, _, rfl, run_takeDeferred hK, ?_⟩⟩
    refine ⟨_, results_errno15 rfl _ _ (N + 1) _ rfl (rowV_put15 hr (by omega) _), 2, rfl, ?_, .inr ⟨rfl, ?_⟩⟩
    · try rw [hN]
      exact hB.trans ((putObj_only _ _ _).below (fun k _ hk => by omega) (by omega))
    · rcases hSp with ⟨rest, h1⟩ | ⟨hmk, _⟩
      · refine .inl ?_
        rw [← h1, Sx.allR_app, hall, Bool.false_and]
      · exact .inr hmk
end Go.Proofs.YtmkllibfblacfaaDoor

/-
  Layer 14, the program's: Deep.
-/
namespace Go.Proofs.YtmkllibfblacfaaDoor
open Go.RowKit Go.Shelf
open Sx (X)
attribute [local go_sem] Oper.semAt_some
namespace Sx
/-- the greatest depth among these -/
def maxD (l : List (X × Nat)) : Nat := (l.map (·.2)).foldr max 0
theorem maxD_cons (p : X × Nat) (l : List (X × Nat)) : maxD (p :: l) = max p.2 (maxD l) := rfl
theorem maxD_app : ∀ (l l' : List (X × Nat)), maxD (l ++ l') = max (maxD l) (maxD l')
  | [], l' => by rw [List.nil_append]; unfold maxD; simp
  | p :: l, l' => by rw [List.cons_append, maxD_cons, maxD_cons, maxD_app l l', Nat.max_assoc]
mutual
theorem maxD_po : ∀ (x : X) (d : Nat), maxD (po x d) + 1 = d + deep x
  | .mk o v s l, d => by
    rw [po, maxD_cons, deep]
    have := maxD_poL l (d + 1)
    show max d _ + 1 = _
    rcases this with ⟨h1, h2⟩ | ⟨h1, h2⟩ <;> omega
theorem maxD_poL : ∀ (l : List X) (d : Nat), (maxD (poL l d) = 0 ∧ deepL l = 0) ∨ (maxD (poL l d) + 1 = d + deepL l ∧ 1 ≤ deepL l)
  | [], d => by rw [poL, deepL]; exact .inl ⟨rfl, rfl⟩
  | x :: r, d => by
    rw [poL, maxD_app, deepL]
    have h1 := maxD_po x d
    have h2 := maxD_poL r d
    have h3 := deep_pos x
    refine .inr ?_
    rcases h2 with ⟨h4, h5⟩ | ⟨h4, h5⟩ <;> omega
end
end Sx
theorem rowV_int15 {W : World} {g : Nat} {n : Int} (h : RowV W g 3 [.int .i64 n]) : W.cell? ⟨g, 0, none⟩ = some (.int .i64 n) := rowV_cell h 0
end Go.Proofs.YtmkllibfblacfaaDoor

/-
  Layer 14, the program's: the function that hands out an expression's names, each as often as it stands.
-/
namespace Go.Proofs.YtmkllibfblacfaaDoor
open Go.RowKit Go.Shelf
open Sx (X)
attribute [local go_sem] Oper.semAt_some
namespace Sx
/-- the names among these -/
def nmL (l : List (X × Nat)) : List ByteArray := (l.filter fun p => decide (p.1.op = 2)).map fun p => p.1.s
theorem nmL_app (l l' : List (X × Nat)) : nmL (l ++ l') = nmL l ++ nmL l' := by unfold nmL; rw [List.filter_append, List.map_append]
theorem nmL_len (l : List (X × Nat)) : (nmL l).length ≤ l.length := by unfold nmL; rw [List.length_map]; exact List.length_filter_le ..
mutual
theorem nmL_po : ∀ (x : X) (d : Nat), nmL (po x d) = allN x
  | .mk op v s l, d => by
    rw [po, allN, ← nmL_poL l (d + 1)]
    have e : (X.mk op v s l, d) :: poL l (d + 1) = [(X.mk op v s l, d)] ++ poL l (d + 1) := rfl
    rw [e, nmL_app]
    congr 1
    unfold nmL
    by_cases h : op = 2
    · rw [if_pos h]; simp [h]
    · rw [if_neg h]; simp [h]
theorem nmL_poL : ∀ (l : List X) (d : Nat), nmL (poL l d) = allL l
  | [], d => by rw [poL, allL]; rfl
  | x :: r, d => by rw [poL, allL, nmL_app, nmL_po x d, nmL_poL r d]
end
end Sx
/-- a round's contract at the wide fence holds within another round, at whatever figure -/
theorem roundIn_wide {m m' k : Nat} {P : Program} {l : Nat} {f : FuncId} {tmps : Array Value} {assign body : Code} {w : World} {R : Ending → World → Prop} (h : RoundIn Fence.wide m P l f tmps assign body w R) : RoundIn (Fence.wide.inRound k) m' P l f tmps assign body w R := ⟨h.1, fun c cs _ => h.2 c cs fun _ hd => by cases hd⟩
/-- a name, not too long -/
abbrev NmA := { s : ByteArray // s.size ≤ 1000000 }
abbrev encN (s : NmA) : Array Value := #[.string s.1]
/-- what a round keeps, of which it knows that it lays texts alone -/
def KpN (m B2 : Nat) (W W' : World) : Prop := W.heap.size ≤ W'.heap.size ∧ (∀ j, j < m → j < W.heap.size → W'.heap[j]? = W.heap[j]?) ∧ (∀ (j : Nat) cs fz, W.heap[j]? = some (.cells cs 61 fz) → W'.heap[j]? = W.heap[j]?) ∧ (∀ (j : Nat) cs T fz, B2 ≤ j → W.heap[j]? = some (.cells cs T fz) → T ≠ 9 → W'.heap[j]? = W.heap[j]?) ∧ (∀ (j : Nat) (o : Obj), B2 ≤ j → W.heap[j]? = some o → o.isCells = false → W'.heap[j]? = some o)
theorem kpN_t {m B2 : Nat} {A B C : World} (h : KpN m B2 A B) (k : KpN m B2 B C) : KpN m B2 A C :=
  ⟨Nat.le_trans h.1 k.1, fun j hj hl => (k.2.1 j hj (Nat.lt_of_lt_of_le hl h.1)).trans (h.2.1 j hj hl), fun j cs fz hc => (k.2.2.1 j cs fz ((h.2.2.1 j cs fz hc).trans hc)).trans (h.2.2.1 j cs fz hc),
    fun j cs T fz hB hc hT => (k.2.2.2.1 j cs T fz hB ((h.2.2.2.1 j cs T fz hB hc hT).trans hc) hT).trans (h.2.2.2.1 j cs T fz hB hc hT), fun j o hB ho hn => k.2.2.2.2 j o hB (h.2.2.2.2 j o hB ho hn) hn⟩
theorem kpN_p {m bx B2 B3 : Nat} {W W' : World} (h : KpN m B2 W W') (hb : B2 ≤ bx) (hB : B2 ≤ B3) (hx : ∃ cs T fz, W.heap[bx]? = some (.cells cs T fz) ∧ T ≠ 9) : KpP m bx B3 W W' := by
  refine ⟨h.1, fun j hj hl => ?_, h.2.2.1, fun j o hj ho hn => h.2.2.2.2 j o (by omega) ho hn⟩
  rcases hj with hj | rfl
  · exact h.2.1 j hj hl
  · obtain ⟨cs, T, fz, h1, h2⟩ := hx
    exact h.2.2.2.1 j cs T fz hb h1 h2
section
variable {w0 : World} {m : Nat} {mk : Prop}
theorem pa_fine (y : PA w0 m (Gd14 w0 m mk) mk) : Sx.fine y.1.1 := by
  obtain ⟨⟨z, az, cz, dz⟩, hz⟩ := y
  rcases hz.1 with h | h
  · exact h.2.2
  · have e : z = Sx.no := h.2
    show Sx.fine z
    rw [e]; exact Sx.fine_no
/-- the names among what was handed out -/
def nmP (l : List (PA w0 m (Gd14 w0 m mk) mk)) : List NmA := (l.filter fun y => decide (y.1.1.op = 2)).map fun y => ⟨y.1.1.s, (Sx.fine_is (pa_fine y)).2.1⟩
theorem nmP_val (l : List (PA w0 m (Gd14 w0 m mk) mk)) : (nmP l).map (·.1) = Sx.nmL (l.map pxd) := by
  unfold nmP Sx.nmL
  rw [List.filter_map, List.map_map, List.map_map]
  rfl
theorem nmP_snoc (l : List (PA w0 m (Gd14 w0 m mk) mk)) (y : PA w0 m (Gd14 w0 m mk) mk) : nmP (l ++ [y]) = if y.1.1.op = 2 then nmP l ++ [⟨y.1.1.s, (Sx.fine_is (pa_fine y)).2.1⟩] else nmP l := by
  unfold nmP
  rw [List.filter_append, List.map_append]
  by_cases h : y.1.1.op = 2
  · rw [if_pos h]; simp [h]
  · rw [if_neg h]; simp [h]
theorem nmP_len (l : List (PA w0 m (Gd14 w0 m mk) mk)) : (nmP l).length ≤ l.length := by unfold nmP; rw [List.length_map]; exact List.length_filter_le ..
end
/-- which names were handed out -/
def NmS (mk : Prop) (x : X) (ys : List NmA) : Prop := ∃ pre rest, pre ++ rest = Sx.po x 1 ∧ ys.map (·.1) = Sx.nmL pre ∧ (rest = [] ∨ mk)
def NmE (x : X) (ys : List NmA) : Prop := ∃ pre rest, pre ++ rest = Sx.po x 1 ∧ ys.map (·.1) = Sx.nmL pre
end Go.Proofs.YtmkllibfblacfaaDoor

/-
  A region that draws its order, in a round of a range over a function: by the plain law (QTail), where no operation of it is a 'defer' and the round's post lets nothing be outgrown.
-/
namespace Go.Proofs.YtmkllibfblacfaaDoor
open Go.RowKit
def noDefer (l : List Oper) : Bool := l.all fun o => match o.op with | .defer _ => false | _ => true
section
variable {P : Program} {ops : Array Oper} {md : Region.Mode} {Q : Exit → Act → World → Prop} {r n : Nat}
theorem stepsIn_round {m m' : Machine} (h : Go.Steps P m m') : StepsIn (Machine.fenced P (Fence.wide.inRound r)) P m m' := stepsIn_wide.2 h
theorem wpIn_of_wp {o : Oper} {a : Act} {w : World} {K K' : Act → World → Prop} (hd : ∀ c, o.op ≠ .defer c) (hK : ∀ a w, K a w → K' a w) (h : o.wp P a w K Q) : o.wpIn (Fence.wide.inRound r) n P a w K' Q := by
  unfold Oper.wpIn
  refine ⟨fun _ _ => trivial, ?_⟩
  rw [Fence.inRound_round, Oper.semAt_some _ _ _ hd]
  unfold Oper.wp at h
  have hdep : (Fence.wide.inRound r).depth.isSome = true → 1 ≤ n := fun h => by cases h
  generalize (execOp a.eval o).run P w = res at *
  cases res with
  | ok x w' =>
    cases x with
    | value v => exact hK _ _ h
    | skip => exact hK _ _ h
    | defer d => exact hK _ _ h
    | enter f args =>
      refine ⟨hdep, CallsIn.inRound r (callsIn_wide.2 (Calls.mono h fun e w'' he => ?_))⟩
      cases e with
      | returned v => exact hK _ _ he
      | panicked c => exact he
      | outgrown => exact he
    | row row args =>
      refine ⟨hdep, fun c cs _ => ?_⟩
      obtain ⟨v, w'', hR, hs⟩ := (show Rows P row args w' _ from h) c cs
      exact ⟨v, w'', hK _ _ hR, stepsIn_round hs⟩
    | _ => exact False.elim h
  | halt x w' =>
    cases x <;> first | exact h | exact False.elim h
theorem wpOpIn_of_wpOp {i : Nat} {a : Act} {w : World} {K K' : Act → World → Prop} (hd : noDefer ops.toList = true) (hNo : ∀ a w, ¬ Q .outgrown a w) (hK : ∀ a w, K a w → K' a w) (h : wpOp P ops Q i K a w) : wpOpIn (Fence.wide.inRound r) n P ops Q i K' a w := by
  unfold wpOp at h
  unfold wpOpIn
  cases ho : ops[i]? with
  | none => rw [ho] at h; exact hK _ _ h
  | some o =>
    rw [ho] at h
    dsimp only at h ⊢
    have hmem : o ∈ ops.toList := by
      have := Array.mem_of_getElem? ho
      simpa using this
    have hdo : ∀ c, o.op ≠ .defer c := fun c hc => by
      have := List.all_eq_true.1 hd o hmem
      rw [hc] at this
      cases this
    split
    · rename_i hw
      rw [if_pos hw] at h
      rcases h with h | ⟨_, a', w', h⟩
      · exact wpIn_of_wp hdo hK h
      · exact absurd h (hNo _ _)
    · rename_i hw
      rw [if_neg hw] at h
      exact ⟨fun _ _ => trivial, hK _ _ h⟩
theorem wpAnyIn_of_wpAny (hd : noDefer ops.toList = true) (hNo : ∀ a w, ¬ Q .outgrown a w) : ∀ (fuel : Nat) (listed : Array Bool) (a : Act) (w : World), wpAny P md ops Q fuel listed a w → wpAnyIn (Fence.wide.inRound r) n P md ops Q fuel listed a w
  | 0, _, _, _, h => h
  | fuel + 1, _, _, _, h => ⟨h.1, fun i hi => wpOpIn_of_wpOp hd hNo (fun a' w' => wpAnyIn_of_wpAny hd hNo fuel _ a' w') (h.2 i hi)⟩
variable {C : World → Prop}
theorem wpIn_round_quiet_tail {id : Nat} {a : Act} {w : World} {l : List Oper} (k : Nat) (hm : P.follows .mixedOrders = true) (hB : Region.lexTailB .any l.toArray k = true) (hd : noDefer l = true) (hNo : ∀ a w, ¬ Q .outgrown a w) (hC : C w.drew)
    (h : wpQuiet P l.toArray C (fun a' => ∀ w', C w' → wpList P l.toArray Q (l.drop k) a' w') (l.take k) a) : (Code.region id l.toArray true).wpIn (Fence.wide.inRound r) n P Q a w := by
  simp only [Region.lexTailB, Bool.and_eq_true, decide_eq_true_eq] at hB
  obtain ⟨⟨⟨⟨hsel, hn⟩, hs⟩, hc⟩, hlex⟩ := hB
  have hn' : k < l.length := by simpa using hn
  have htl : (l.take k).length = k := by simp; omega
  have hdl : (l.drop k).length = l.toArray.size - k := by simp
  have inv0 : HeadInv .any l.toArray k (Array.replicate l.toArray.size false) :=
    ⟨by simp, fun j oj _ hl => (by rw [getD_replicate_false] at hl; cases hl), fun t _ ht => getD_in (by simpa using ht) (getD_replicate_false _ _)⟩
  have H := headQ_lex (md := .any) (g := l.toArray.size - k) hsel hs hc hn (l.take k) 0 _ a (fun j hj => by
    have hj' : j < k := by rw [htl] at hj; exact hj
    simp [hj']) (by simpa using htl) inv0 (by rw [htl]; exact hlex) h
  have := headQ_any (Q := Q) (g := l.toArray.size - k) (fun listed a' hL w' hw' => by
    have := wpAny_of_seq (md := .any) (Q' := Q) (l.drop k) k listed a' w' (fun j => by simp [List.getElem?_drop]) (by rw [hdl]; exact hL.1) (hL.2 w' hw')
    rwa [hdl] at this) _ _ _ H w.drew hC
  rw [htl, show k + (l.toArray.size - k) = l.toArray.size by omega] at this
  exact wpIn_region_any hm (wpAnyIn_of_wpAny (by simpa using hd) hNo _ _ _ _ this)
end
section
variable {F : Fence} {n : Nat} {P : Program} {w : World} {ops : Array Oper} {rest : List Oper} {o : Oper} {a : Act} {Q : Exit → Act → World → Prop}
/-- a whole array stored, inside a fence -/
theorem wpListIn_store_row (hgd : o.guard = none) (ty : TypeId) (x y : Operand) (ho : o.op = .store ty x y)
    (g : Nat) (cells : Array Value) (hx : a.eval x = .pointer (some ⟨g, 0, none⟩)) (hy : a.eval y = .agg cells)
    (t : TypeId) (old : Array Value) (hg : w.heap[g]? = some (.cells old t (0, 0))) (hi : (P.info? ty).map (·.size) = some cells.size)
    (hold : old.size = cells.size) (h1 : cells.all (·.oneCell') = true)
    (h : wpListIn F n P ops Q rest (a.put o.dst undef) (w.setRow g cells)) : wpListIn F n P ops Q (o :: rest) a w := by
  refine wpListIn_plain hgd fun K hK => ?_
  unfold Oper.wpIn
  refine ⟨?_, ?_⟩
  · simp [Oper.about, ho]
  · rw [Oper.semAt_plain F _ _ (by rw [ho]; intro c hc'; cases hc')]
    unfold execOp
    simp only [ho, hx, hy, Instr.storeAt, Instr.sureAddr, Sem.run_bind, Sem.run_pure, Result.andThen_ok, run_storeVar_row w g t ty old cells hg hi hold h1]
    exact hK _ _ h
/-- a key struck out of a map, inside a fence -/
theorem wpListIn_run_delete (hgd : o.guard = none) (m x : Operand) (t k : TypeId) (hop : o.op = Op.call { callee := Callee.builtin Builtin.delete, args := #[m, x], argTypes := #[t, k] })
    (mv key : Value) (hm : a.eval m = mv) (hx : a.eval x = key) (w' : World) (hrun : (Builtin.delete_ #[t, k] o.type #[mv, key]).run P w = .ok (.tuple #[]) w')
    (h : wpListIn F n P ops Q rest (a.put o.dst (.tuple #[])) w') : wpListIn F n P ops Q (o :: rest) a w := by
  refine wpListIn_plain hgd fun K hK => ?_
  unfold Oper.wpIn
  refine ⟨?_, ?_⟩
  · simp [Oper.about, hop, resolve, Target.leads, Sem.run_pure]
  · rw [Oper.semAt_plain F _ _ (by rw [hop]; intro c hc'; cases hc')]
    simp [execOp, hop, resolve, invoke, builtin, hm, hx, hrun, Result.andThen]
    exact hK _ _ h
end
end Go.Proofs.YtmkllibfblacfaaDoor

/-
  Plan3's law, in a round of a range over a function.
-/
namespace Go.Proofs.YtmkllibfblacfaaDoor
open Go.RowKit
section
variable {P : Program} {ops : Array Oper} {md : Region.Mode} {S : World → Prop} {Q : Exit → Act → World → Prop}
theorem wpIn_region_plan3 {id rr nn : Nat} {a : Act} {w : World} {l : List Oper} (n : Nat) (pl pl2 : List (Bool × Nat)) (x y : Nat) (T : Array Bool) (hm : P.follows .mixedOrders = true) (hQ : ∀ c (d : Option Tmp) v a w, Q (.panic c) (a.put d v) w → Q (.panic c) a w)
    (hd : noDefer l = true) (hNo : ∀ a w, ¬ Q .outgrown a w) (hB : (Region.noSelect l.toArray && decide (pl.length = n) && decide (n + (pl2.length + 2) = l.toArray.size) && allB .any l.toArray n && planT .any l.toArray n T pl (Array.replicate l.toArray.size false) && (Region.ready .any l.toArray T).all (fun j => decide (n ≤ j)) && planP .any l.toArray x y pl2 T) = true) (hS : S w.drew)
    (h : wpPlan P l.toArray S Q (fun a' w' => wpPlan P l.toArray (fun _ => True) Q (Both2 P l.toArray Q x y) pl2 a' w') pl a w.drew) : (Code.region id l.toArray true).wpIn (Fence.wide.inRound rr) nn P Q a w := by
  simp only [Bool.and_eq_true, decide_eq_true_eq] at hB
  obtain ⟨⟨⟨⟨⟨⟨hsel, hpl⟩, hsz⟩, hall⟩, hplan⟩, hT⟩, hplan2⟩ := hB
  have hT' : ∀ j ∈ Region.ready .any l.toArray T, n ≤ j := fun j hj => of_decide_eq_true (List.all_eq_true.1 hT j hj)
  have inv0 : HeadInv .any l.toArray n (Array.replicate l.toArray.size false) :=
    ⟨by simp, fun j oj _ hl => (by rw [getD_replicate_false] at hl; cases hl), fun t _ ht => getD_in (by simpa using ht) (getD_replicate_false _ _)⟩
  have H := headH_planT (md := .any) hsel hQ (fun listed _ i hi hu => tail_waits3 hall i hi hu) hT' pl _ a w.drew inv0 hplan hS h
  refine wpIn_region_any hm (wpAnyIn_of_wpAny (by simpa using hd) hNo _ _ _ _ ?_)
  have := headH_any (g := pl2.length + 2) (fun listed' a' w' hL => by
    obtain ⟨hLT, hinv, h2⟩ := hL
    subst hLT
    have inv2 : HeadInv .any l.toArray l.toArray.size listed' := ⟨hinv.size, hinv.closed, fun t h1 h2 => by omega⟩
    have H2 := headH_planP (md := .any) hsel hQ pl2 _ a' w' inv2 hplan2 h2
    exact headH_any (g := 0) (fun listed'' a'' w'' hL2 => hL2) _ _ _ _ H2) _ _ _ _ H
  rw [hpl, hsz] at this
  exact this
end
end Go.Proofs.YtmkllibfblacfaaDoor

/-
  Layer 14, the program's: an expression and all within it, in a list.
-/
namespace Go.Proofs.YtmkllibfblacfaaDoor
open Go.RowKit Go.Shelf
open Sx (X)
attribute [local go_sem] Oper.semAt_some
section
variable {B T E k N : Nat}
theorem survR_own {α : Type} {f : α → List Value} {v : Value} {l : List α} {B' : Nat} (hE : E ≠ T) : SurvR B T (fun W => OwL f E k W B' v l) := fun A A' row hJ hg hr => by
  refine ⟨hJ.1, ?_⟩
  rcases hJ.2 with hn | ⟨g, cap, cur, e, hb, hh, r⟩
  · exact .inl hn
  · refine .inr ⟨g, cap, cur, e, hb, (hg.block g (Array.getElem?_eq_some_iff.1 hh).1 fun e2 => ?_).trans hh, r⟩
    obtain ⟨_, o, ho, hc⟩ := hr g e2.symm
    rw [hh] at ho
    injection ho with ho
    subst ho
    rcases hc with hc | ⟨cs, fz, hc⟩
    · cases hc
    · injection hc with _ hc
      exact hE hc
theorem survR_ex {β : Type} {J : β → World → Prop} (h : ∀ b, SurvR B T (J b)) : SurvR B T (fun W => ∃ b, J b W) := fun A A' row hJ hg hr => by
  obtain ⟨b, hb⟩ := hJ
  exact ⟨b, h b A A' row hb hg hr⟩
end
/-- an append of a part: both orders of its last two stores -/
theorem app_both {W6 : World} {N gg cp n B T : Nat} {LL : List Part14} {u : Value} (hown : OwL fX 35 6 W6 B (.slice (some ⟨gg, 0, none⟩) (n + 1) cp) (LL ++ [(Sx.no, none, 0)])) (hn : LL.length = n) (hr : RowV W6 N T [u]) (hg : gg ≠ N) (z : X) (az : Option Addr) (cz : Nat) (v : Value) :
    (OwL fX 35 6 ((put6 W6 gg (n * 6) z az cz).setCell ⟨N, 0, none⟩ v) B (.slice (some ⟨gg, 0, none⟩) (n + 1) cp) (LL ++ [(z, az, cz)]) ∧ RowV ((put6 W6 gg (n * 6) z az cz).setCell ⟨N, 0, none⟩ v) N T [v] ∧ Only (fun k => k = gg ∨ k = N) W6 ((put6 W6 gg (n * 6) z az cz).setCell ⟨N, 0, none⟩ v)) ∧
    (OwL fX 35 6 (put6 (W6.setCell ⟨N, 0, none⟩ v) gg (n * 6) z az cz) B (.slice (some ⟨gg, 0, none⟩) (n + 1) cp) (LL ++ [(z, az, cz)]) ∧ RowV (put6 (W6.setCell ⟨N, 0, none⟩ v) gg (n * 6) z az cz) N T [v] ∧ Only (fun k => k = gg ∨ k = N) W6 (put6 (W6.setCell ⟨N, 0, none⟩ v) gg (n * 6) z az cz)) := by
  subst hn
  have ost := fun (wx : World) => (Only.refl (fun k => k = N) wx).setCell (g := N) (i := 0) (fun _ => rfl) v
  have hb : ∀ {j}, (Value.slice (some ⟨gg, 0, none⟩) (LL.length + 1) cp).ownBlock = some j → gg = j := fun e => by simpa [Value.ownBlock] using e
  refine ⟨⟨owL_only (put6_owns hown z az cz) (ost _) fun j e e2 => hg ((hb e).trans e2), rowV_set15 (rowV_only hr (put6_only W6 gg (LL.length * 6) z az cz) fun e => hg e.symm) v, ((put6_only W6 gg (LL.length * 6) z az cz).mono fun k _ e => .inl e).trans (ost _) fun k _ e => .inr e⟩,
    ⟨put6_owns (owL_only hown (ost W6) fun j e e2 => hg ((hb e).trans e2)) z az cz, rowV_only (rowV_set15 hr v) (put6_only _ gg (LL.length * 6) z az cz) fun e => hg e.symm, ((ost W6).mono fun k _ e => .inr e).trans (put6_only _ gg (LL.length * 6) z az cz) fun k _ e => .inl e⟩⟩
theorem owL_base14 {α : Type} {f : α → List Value} {E k B B' : Nat} {w : World} {v : Value} {l : List α} (h : OwL f E k w B v l) (hB : B' ≤ B) : OwL f E k w B' v l := by
  refine ⟨h.1, ?_⟩
  rcases h.2 with hn | ⟨g, cap, cur, e, hb, r⟩
  · exact .inl hn
  · exact .inr ⟨g, cap, cur, e, Nat.le_trans hB hb, r⟩
abbrev pick {w0 : World} {m : Nat} {Gd : X → Option Addr → Prop} {mk : Prop} (y : PA w0 m Gd mk) : Part14 := (y.1.1, y.1.2.1, y.1.2.2.1)
end Go.Proofs.YtmkllibfblacfaaDoor

/-
  A map of string keys and elements of one kind (ints, or nothing), told by a function: what it holds, how many; a lookup, a store.
-/
namespace Go.Proofs.YtmkllibfblacfaaDoor
open Go.RowKit
open Go.Maps (Keyed)
/-- elements as values, and as literals: each in one way -/
structure CodedS {σ : Type} (enc : σ → Value) (lit : σ → Lit) : Prop where
  inj : ∀ a b, enc a = enc b → a = b
  ljn : ∀ a b, lit a = lit b → a = b
noncomputable def encS {σ : Type} (enc : σ → Value) (lit : σ → Lit) (v : Value) : Option (DataW Unit × List MemPlace) := by
  classical exact if h : ∃ s : σ, v = enc s then some (.lit (lit h.choose), []) else none
section
variable {σ : Type} {enc : σ → Value} {lit : σ → Lit}
theorem encS_mk (hc : CodedS enc lit) (s : σ) : encS enc lit (enc s) = some (.lit (lit s), []) := by
  unfold encS
  have hx : ∃ t, enc s = enc t := ⟨s, rfl⟩
  rw [dif_pos hx]
  have := hc.inj _ _ hx.choose_spec
  rw [← this]
theorem encS_inv {v : Value} {z : DataW Unit × List MemPlace} (h : encS enc lit v = some z) : ∃ s, v = enc s ∧ z = (.lit (lit s), []) := by
  unfold encS at h
  split at h
  · rename_i hx
    exact ⟨_, hx.choose_spec, by simpa using h.symm⟩
  · cases h
theorem keyedS : Keyed Tryd.prog 9 := Maps.string_keyed Tryd.underlying9
abbrev kS (s : ByteArray) : Lit := .string s.data.toList
theorem kS_inj {s t : ByteArray} (h : kS s = kS t) : s = t := by
  have h1 : s.data.toList = t.data.toList := by injection h
  cases s; cases t
  simpa using h1
theorem keyS (s : ByteArray) (h : s.size ≤ maxLen) : keyOf Tryd.prog 9 (.string s) = some (kS s) := Go.WideMaps.keyOf_string_mk Tryd.underlying9 h
/-- block b is a map that holds just what f says: n elements -/
def MapS (enc : σ → Value) (lit : σ → Lit) (w : World) (b n : Nat) (f : ByteArray → Option σ) : Prop :=
  ∃ D : DataW Unit, w.ownsMap Tryd.prog 9 (encS enc lit) b (Maps.size D) D ∧ Maps.size D = n ∧ ∀ i, match f i with | none => Maps.has D (kS i) = false | some s => Maps.has D (kS i) = true ∧ ∀ z, D.atKey (kS i) z = .lit (lit s)
variable {w w' : World} {b n : Nat} {f : ByteArray → Option σ}
theorem ownsMap_tightS {P : Program} {t n : Nat} {R : Value → Option (DataW Unit × List MemPlace)} {D : DataW Unit} (h : w.ownsMap P t R b n D) : w.ownsMap P t R b (Maps.size D) D := by
  obtain ⟨es, clock, hb, F, _, hD⟩ := h
  refine ⟨es, clock, hb, F, ?_, hD⟩
  rw [hD]
  have : Maps.size (DataW.map ((es.toList.map (Go.WideElems.rg P t R)).foldr DataW.insert [])) = es.size := by simp [Maps.size, length_sorted]
  rw [this]; exact Nat.le_refl _
theorem mapS_new (w : World) (hf : ∀ i, f i = none) : MapS enc lit (w.alloc (.map #[] 0)) w.heap.size 0 f := by
  refine ⟨.map [], World.ownsMap_made w _ _ _, rfl, fun i => ?_⟩
  rw [hf]; rfl
theorem mapS_lt (h : MapS enc lit w b n f) : b < w.heap.size := by
  obtain ⟨D, h1, _⟩ := h
  exact h1.lt
theorem mapS_is (h : MapS enc lit w b n f) : ∃ es c, w.heap[b]? = some (.map es c) := by
  obtain ⟨D, ⟨es, c, h, _⟩, _⟩ := h
  exact ⟨es, c, h⟩
theorem mapS_block (h : MapS enc lit w b n f) (hb : w'.heap[b]? = w.heap[b]?) : MapS enc lit w' b n f := by
  obtain ⟨D, ⟨es, c, h1, h2⟩, h3⟩ := h
  exact ⟨D, ⟨es, c, hb.trans h1, h2⟩, h3⟩
theorem mapS_only {F : Nat → Prop} (h : MapS enc lit w b n f) (ho : Only F w w') (hn : ¬ F b) : MapS enc lit w' b n f := mapS_block h (ho.block b (mapS_lt h) hn)
theorem mapS_below (h : MapS enc lit w b n f) (hb : Below w.heap.size w w') : MapS enc lit w' b n f := mapS_block h (hb.block b (mapS_lt h))
variable {mt et : TypeId} {z0 : σ}
/-- m[i], with 'ok' -/
theorem mapS_look (hc : CodedS enc lit) (hmt : Tryd.prog.underlying mt = some (.map 9 et)) (hz : ∀ w, (zeroValue et).run Tryd.prog w = .ok (enc z0) w) (h : MapS enc lit w b n f) (i : ByteArray) (hi : i.size ≤ maxLen) :
    (Instr.lookup mt (.map (some b)) (.string i) true).run Tryd.prog w = .ok (.tuple #[enc ((f i).getD z0), .bool (f i).isSome]) w := by
  obtain ⟨D, h1, _, h3⟩ := h
  obtain ⟨v, ps, hr, hv⟩ := h1.look_ok keyedS hmt (hz w) (encS_mk hc z0) (keyS i hi)
  obtain ⟨s, s2, s3⟩ := encS_inv hv
  have h3 := h3 i
  have e3 := (Prod.mk.injEq _ _ _ _ ▸ s3).1
  cases ht : f i with
  | some t =>
    rw [ht] at h3
    obtain ⟨ha, hb⟩ := h3
    rw [hb] at e3
    have : t = s := hc.ljn _ _ (by injection e3)
    rw [hr, ha, s2, ← this]; rfl
  | none =>
    rw [ht] at h3
    rw [Maps.atKey_of_not_has h3] at e3
    have : z0 = s := hc.ljn _ _ (by injection e3)
    rw [hr, h3, s2, ← this]; rfl
/-- m[i] = x -/
theorem mapS_put (hc : CodedS enc lit) (hmt : Tryd.prog.underlying mt = some (.map 9 et)) (h : MapS enc lit w b n f) (hn : n < 1000000) (i : ByteArray) (hi : i.size ≤ maxLen) (s : σ) :
    ∃ w', (Instr.mapUpdate mt (.map (some b)) (.string i) (enc s)).run Tryd.prog w = .ok () w' ∧ MapS enc lit w' b (if (f i).isSome = true then n else n + 1) (fun j => if j = i then some s else f j) ∧ Only (fun j => j = b) w w' := by
  obtain ⟨D, h1, h2, h3⟩ := h
  obtain ⟨w', hr, hm, hg⟩ := h1.update keyedS hmt (by unfold maxLen; omega) (keyS i hi) (encS_mk hc s)
  refine ⟨w', hr, ⟨_, ownsMap_tightS hm, ?_, fun j => ?_⟩, (Only.refl _ w).grown hg fun j _ e => by cases e; rfl⟩
  · rw [Maps.size_put (h1.tidy keyedS), h2]
    have := h3 i
    cases hf : f i with
    | none => rw [hf] at this; rw [if_neg (by rw [this]; simp), if_neg (by simp)]
    | some t => rw [hf] at this; rw [if_pos this.1, if_pos (by simp)]
  by_cases e : j = i
  · subst e
    dsimp only; rw [if_pos rfl]
    exact ⟨Maps.has_put_same h1.isMap (keyedS.key (keyS _ hi)) _, fun z => Maps.atKey_put_same h1.isMap (keyedS.key (keyS _ hi)) _ _⟩
  · dsimp only; rw [if_neg e]
    have hne : kS j ≠ kS i := fun x => e (kS_inj x)
    have := h3 j
    cases hfj : f j with
    | none => rw [hfj] at this; exact (Maps.has_put_other hne _).trans this
    | some t =>
      rw [hfj] at this
      exact ⟨(Maps.has_put_other hne _).trans this.1, fun z => (Maps.atKey_put_other hne _ _).trans (this.2 z)⟩
end
end Go.Proofs.YtmkllibfblacfaaDoor

/-
  Layer 14, the program's: Names.
-/
namespace Go.Proofs.YtmkllibfblacfaaDoor
open Go.RowKit Go.Shelf
open Sx (X)
attribute [local go_sem] Oper.semAt_some
abbrev fStr (s : ByteArray) : List Value := [.string s]
theorem str_parts : (Tryd.prog.info? 9).map (fun i => (i.zero, i.size, i.bytes)) = some (some (.string ⟨#[]⟩), 1, 16) := by kernel_rfl
theorem str_elem14 : ElemOk Tryd.prog 9 1 16 := elemOk_of str_parts rfl (by decide) (by decide)
theorem fStr_one (s : ByteArray) : ∀ u ∈ fStr s, u.oneCell' = true := by intro u hu; simp [fStr] at hu; subst hu; rfl
abbrev unitV (_ : Unit) : Value := .agg #[]
abbrev unitL (_ : Unit) : Lit := .int .i64 0
theorem codedU : CodedS unitV unitL := ⟨fun _ _ _ => rfl, fun _ _ _ => rfl⟩
/-- the set of a list of names -/
def setS (l : List ByteArray) (s : ByteArray) : Option Unit := if Sx.memB s l = true then some () else none
theorem setS_in {l : List ByteArray} {s : ByteArray} (h : Sx.memB s l = true) : setS l s = some () := if_pos h
theorem setS_out {l : List ByteArray} {s : ByteArray} (h : ¬ Sx.memB s l = true) : setS l s = none := if_neg h
theorem setS_add (l : List ByteArray) (s : ByteArray) : setS (l ++ [s]) = fun j => if j = s then some () else setS l j := by
  funext j
  unfold setS
  have e : Sx.memB j (l ++ [s]) = (Sx.memB j l || decide (s = j)) := by unfold Sx.memB; rw [List.any_append]; simp
  rw [e]
  by_cases h : j = s
  · subst h; simp
  · have h2 : decide (s = j) = false := decide_eq_false fun x => h x.symm
    rw [if_neg h, h2, Bool.or_false]
theorem survR_map {B T b n : Nat} {f : ByteArray → Option Unit} (hb : b < B) : SurvR B T (fun W => MapS unitV unitL W b n f) := fun _ _ _ hJ hg hr =>
  mapS_block hJ (hg.block b (mapS_lt hJ) fun e => by have := (hr b e.symm).1; omega)
theorem addN_len (l : List ByteArray) : (Sx.addN [] l).length ≤ l.length := by
  obtain ⟨r, h1, h2⟩ := Sx.addN_sub l []
  rw [h1, List.nil_append]
  exact h2.length_le
theorem kpN_put {m B2 l : Nat} {W : World} {o : Obj} (o' : Obj) (hl : m ≤ l) (h2 : l < B2) (ho : W.heap[l]? = some o) (hc : o.isCells = false) : KpN m B2 W (W.putObj l o') := by
  have hp := putObj_only W l o'
  refine ⟨hp.size, fun j hj hlt => hp.block j hlt fun h => ?_, fun j cs fz hj => hp.block j (Array.getElem?_eq_some_iff.1 hj).1 fun h => ?_, fun j cs T fz hB hj hT => hp.block j (Array.getElem?_eq_some_iff.1 hj).1 fun h => ?_, fun j o2 hB hj hn => (hp.block j (Array.getElem?_eq_some_iff.1 hj).1 fun h => ?_).trans hj⟩
  · have e : j = l := h
    omega
  · have e : j = l := h
    subst e
    rw [ho] at hj
    injection hj with hj
    rw [hj] at hc
    cases hc
  · have e : j = l := h
    omega
  · have e : j = l := h
    omega
theorem kpN_below {m B2 : Nat} {W W' : World} (hb : Below W.heap.size W W') : KpN m B2 W W' :=
  ⟨hb.size, fun j _ hl => hb.block j hl, fun j _ _ hc => hb.block j (Array.getElem?_eq_some_iff.1 hc).1, fun j _ _ _ _ hc _ => hb.block j (Array.getElem?_eq_some_iff.1 hc).1, fun j _ _ ho _ => (hb.block j (Array.getElem?_eq_some_iff.1 ho).1).trans ho⟩
/-- a turn of blocks that are the caller's own, or hold texts -/
theorem kpN_only {F : Nat → Prop} {m B2 : Nat} {W W' : World} (ho : Only F W W') (hF : ∀ k, F k → m ≤ k ∧ (k < B2 ∧ (∀ cs fz, W.heap[k]? ≠ some (.cells cs 61 fz)) ∨ ∃ cs fz, W.heap[k]? = some (.cells cs 9 fz))) : KpN m B2 W W' := by
  refine ⟨ho.size, fun j hj hl => ho.block j hl fun h => ?_, fun j cs fz hc => ho.block j (Array.getElem?_eq_some_iff.1 hc).1 fun h => ?_, fun j cs T fz hB hc hT => ho.block j (Array.getElem?_eq_some_iff.1 hc).1 fun h => ?_, fun j o hB hoj hn => (ho.block j (Array.getElem?_eq_some_iff.1 hoj).1 fun h => ?_).trans hoj⟩
  · have := (hF j h).1; omega
  · rcases (hF j h).2 with h1 | ⟨cs', fz', h1⟩
    · exact h1.2 cs fz hc
    · rw [hc] at h1
      injection h1 with h1
      injection h1 with _ h1
      exact absurd h1 (by decide)
  · rcases (hF j h).2 with h1 | ⟨cs', fz', h1⟩
    · omega
    · rw [hc] at h1
      injection h1 with h1
      injection h1 with _ h1
      exact hT h1
  · rcases (hF j h).2 with h1 | ⟨cs', fz', h1⟩
    · omega
    · rw [hoj] at h1
      injection h1 with h1
      rw [h1] at hn
      cases hn
/-- a list of texts lies in cells of texts -/
theorem owStr_cells {W : World} {B : Nat} {v : Value} {l : List ByteArray} (h : OwL fStr 9 1 W B v l) : ∀ j, v.ownBlock = some j → B ≤ j ∧ j < W.heap.size ∧ ∃ cs, W.heap[j]? = some (.cells cs 9 (0, 0)) := by
  intro j e
  rcases h.2 with ⟨rfl, _⟩ | ⟨g, cap, cur, rfl, hb, hh, _⟩
  · cases e
  · have e2 : g = j := by simpa [Value.ownBlock] using e
    subst e2
    exact ⟨hb, (Array.getElem?_eq_some_iff.1 hh).1, cur, hh⟩
/-- what Names tells -/
def NamesP (mk : Prop) (x : X) (w : World) (e : Ending) (w' : World) : Prop :=
  ∃ (ao : Option Addr) (cp : Nat) (LL : List ByteArray), e = .returned (.slice ao LL.length cp) ∧ OwL fStr 9 1 w' w.heap.size (.slice ao LL.length cp) LL ∧ Below w.heap.size w w' ∧ ∃ pre rest, pre ++ rest = Sx.po x 1 ∧ LL = Sx.addN [] (Sx.nmL pre) ∧ (rest = [] ∨ mk)
end Go.Proofs.YtmkllibfblacfaaDoor

/-
  Layer 14 (plain): an expression may be where each part may be.
-/
namespace Go.Proofs.YtmkllibfblacfaaDoor
open Sx (X)
namespace Sx
theorem cnt_count (op : Int) (h1 : op ≠ 1) (h2 : op ≠ 2) : (0 < cntP op ∧ count op = cntP op) ∨ (cntP op = 0 ∧ count op = -1) := by
  unfold count cntP
  (repeat' split) <;> omega
theorem allR_cons (p : X × Nat) (l : List (X × Nat)) : allR (p :: l) = (rightN p.1 && allR l) := rfl
theorem right_node (x : X) (r : Bool) (hl : rightL x.l = r) (h0 : x.l = [] → r = true) : right x = (rightN x && r) := by
  rw [right_eq, hl]
  unfold rightN
  by_cases h1 : x.op = 1
  · rw [if_pos h1, if_pos h1, show count x.op = 0 by rw [h1]; rfl]
    by_cases hz : x.l.length = 0
    · have e := h0 (List.length_eq_zero_iff.1 hz)
      rw [e, hz]
      by_cases hv : Vl.right x.v
      · have hn : (decide (x.v.kind ≠ 1) || decide (0 ≤ x.v.n)) = decide (0 ≤ x.v.n) := by
          rcases hv with ⟨hk, hn, _⟩ | ⟨hk, _⟩ | ⟨hk, hn, _⟩ | ⟨hk, hn, _⟩
          · rw [hk, hn]; rfl
          · rw [hk]; rfl
          · rw [hk, hn]; rfl
          · rw [hk]; rcases hn with hn | hn <;> rw [hn] <;> rfl
        rw [hn, decide_eq_true hv]
        cases decide (x.s = Vl.mt) <;> cases decide (0 ≤ x.v.n) <;> rfl
      · rw [decide_eq_false hv]
        cases decide (x.s = Vl.mt) <;> rfl
    · rw [decide_eq_false (show ¬ ((x.l.length : Nat) : Int) = 0 by omega), decide_eq_false hz]
      cases decide (Vl.right x.v) <;> cases decide (0 ≤ x.v.n) <;> cases decide (x.s = Vl.mt) <;> rfl
  · rw [if_neg h1, if_neg h1]
    by_cases h2 : x.op = 2
    · rw [if_pos h2, if_pos h2, show count x.op = 0 by rw [h2]; rfl]
      by_cases hz : x.l.length = 0
      · have e := h0 (List.length_eq_zero_iff.1 hz)
        rw [e, hz]
        cases decide (x.v = Vl.no) <;> cases Lx.nameB x.s <;> rfl
      · rw [decide_eq_false (show ¬ ((x.l.length : Nat) : Int) = 0 by omega), decide_eq_false hz]
        cases decide (x.v = Vl.no) <;> cases Lx.nameB x.s <;> rfl
    · rw [if_neg h2, if_neg h2]
      rcases cnt_count x.op h1 h2 with ⟨h3, h4⟩ | ⟨h3, h4⟩
      · rw [h4, decide_eq_true h3]
        cases decide ((x.l.length : Int) = cntP x.op) <;> cases decide (x.v = Vl.no) <;> cases decide (x.s = Vl.mt) <;> cases r <;> rfl
      · rw [h4, h3, decide_eq_false (show ¬ ((x.l.length : Nat) : Int) = -1 by omega)]
        rfl
mutual
theorem right_parts : ∀ (x : X) (d : Nat), right x = allR (po x d)
  | .mk o v s l, d => by
    rw [po, allR_cons]
    exact right_node (.mk o v s l) _ (rightL_parts l (d + 1)) fun e => by
      have e2 : l = [] := e
      rw [e2, poL]; rfl
theorem rightL_parts : ∀ (l : List X) (d : Nat), rightL l = allR (poL l d)
  | [], d => by rw [poL]; rfl
  | x :: r, d => by
    rw [poL, allR_app, rightL, right_parts x d, rightL_parts r d]
end
end Sx
end Go.Proofs.YtmkllibfblacfaaDoor

/-
  Layer 15 (plain): which kind an expression's value has; by a stack, each part behind its own parts; with a value in place of null.
-/
namespace Go.Proofs.YtmkllibfblacfaaDoor
open Sx (X)
namespace Ty
/-- do two kinds go together? -/
def fits (a b : Int) : Bool := decide (a = b) || (decide (a = 0) || decide (b = 0))
def all (want : Int) (ks : List Int) : Bool := ks.all fun k => fits k want
def some2 (a b : Int) : Int := if a = 0 then b else a
/-- the kind of what an op makes of parts of these kinds, and whether they may be its parts -/
def result (op : Int) (ks : List Int) : Int × Bool :=
  if op = 4 then (if all 1 ks then (1, true) else (2, all 2 ks))
  else if op = 8 ∨ op = 9 then (3, fits (ks.getD 0 0) (ks.getD 1 0))
  else if op = 10 ∨ op = 11 ∨ op = 12 ∨ op = 13 then (3, fits (ks.getD 0 0) (ks.getD 1 0) && !decide (some2 (ks.getD 0 0) (ks.getD 1 0) = 3))
  else if op = 14 ∨ op = 15 then (3, all 3 ks)
  else if op = 16 then (some2 (ks.getD 1 0) (ks.getD 2 0), all 3 [ks.getD 0 0] && fits (ks.getD 1 0) (ks.getD 2 0))
  else (1, all 1 ks)
/-- a column: its name, its kind -/
abbrev Col := ByteArray × Int
/-- the kind of the first column of a name -/
def look (cs : List Col) (s : ByteArray) : Option Int := (cs.find? fun c => decide (c.1 = s)).map (·.2)
/-- the kind, and the error, of an expression whose parts have these kinds -/
def own (cs : List Col) (x : X) (ks : List Int) : Int × Int :=
  if x.op = 1 then (x.v.kind, 0)
  else if x.op = 2 then (match look cs x.s with | some k => (k, 0) | none => (0, 13))
  else if (result x.op ks).2 = true then ((result x.op ks).1, 0) else (0, 14)
mutual
/-- an expression's kind, or its first error -/
def kd (cs : List Col) : X → Int × Int
  | .mk o v s l => if (kdL cs l).2 = 0 then own cs (.mk o v s l) (kdL cs l).1 else (0, (kdL cs l).2)
def kdL (cs : List Col) : List X → List Int × Int
  | [] => ([], 0)
  | x :: r => if (kd cs x).2 = 0 then (if (kdL cs r).2 = 0 then ((kd cs x).1 :: (kdL cs r).1, 0) else ([], (kdL cs r).2)) else ([], (kd cs x).2)
end
theorem kd_eq (cs : List Col) (x : X) : kd cs x = if (kdL cs x.l).2 = 0 then own cs x (kdL cs x.l).1 else (0, (kdL cs x.l).2) := by obtain ⟨o, v, s, l⟩ := x; rw [kd]; rfl
theorem kdL_len (cs : List Col) : ∀ l, (kdL cs l).2 = 0 → (kdL cs l).1.length = l.length
  | [], _ => rfl
  | x :: r, h => by
    rw [kdL] at h ⊢
    by_cases h1 : (kd cs x).2 = 0
    · rw [if_pos h1] at h ⊢
      by_cases h2 : (kdL cs r).2 = 0
      · rw [if_pos h2] at h ⊢
        show (_ :: (kdL cs r).1).length = _
        rw [List.length_cons, List.length_cons, kdL_len cs r h2]
      · rw [if_neg h2] at h; exact absurd h h2
    · rw [if_neg h1] at h; exact absurd h h1
mutual
/-- an expression and all within it, each behind its parts -/
def up : X → List X
  | .mk o v s l => upL l ++ [.mk o v s l]
def upL : List X → List X
  | [] => []
  | x :: r => up x ++ upL r
end
theorem up_eq (x : X) : up x = upL x.l ++ [x] := by obtain ⟨_, _, _, _⟩ := x; rw [up]; rfl
theorem upL_drop (l : List X) (i : Nat) (h : i < l.length) : upL (l.drop i) = up l[i] ++ upL (l.drop (i + 1)) := by
  rw [List.drop_eq_getElem_cons h, upL]
/-- one step: the kinds of what is whole already, the last ones those of the parts -/
def stp (cs : List Col) (st : List Int) (y : X) : List Int × Int :=
  if (own cs y (st.drop (st.length - y.l.length))).2 = 0 then (st.take (st.length - y.l.length) ++ [(own cs y (st.drop (st.length - y.l.length))).1], 0) else ([], (own cs y (st.drop (st.length - y.l.length))).2)
/-- through a list -/
def run (cs : List Col) : List X → List Int → List Int × Int
  | [], st => (st, 0)
  | y :: r, st => if (stp cs st y).2 = 0 then run cs r (stp cs st y).1 else ([], (stp cs st y).2)
theorem run_app (cs : List Col) : ∀ (l l' : List X) (st : List Int), run cs (l ++ l') st = if (run cs l st).2 = 0 then run cs l' (run cs l st).1 else ([], (run cs l st).2)
  | [], l', st => by rw [List.nil_append, run, if_pos rfl]
  | y :: r, l', st => by
    rw [List.cons_append, run, run]
    by_cases h : (stp cs st y).2 = 0
    · rw [if_pos h, if_pos h, run_app cs r l']
    · rw [if_neg h, if_neg h]
      show _ = if (stp cs st y).2 = 0 then _ else _
      rw [if_neg h]
mutual
theorem run_up (cs : List Col) : ∀ (x : X) (st : List Int), run cs (up x) st = if (kd cs x).2 = 0 then (st ++ [(kd cs x).1], 0) else ([], (kd cs x).2)
  | .mk o v s l, st => by
    rw [up, run_app, run_upL cs l st, kd]
    by_cases h : (kdL cs l).2 = 0
    · rw [if_pos h, if_pos h]
      have hl := kdL_len cs l h
      show (if (0 : Int) = 0 then _ else _) = _
      rw [if_pos rfl, run]
      have e1 : (st ++ (kdL cs l).1).length - l.length = st.length := by rw [List.length_append]; omega
      have e2 : stp cs (st ++ (kdL cs l).1) (.mk o v s l) = if (own cs (.mk o v s l) (kdL cs l).1).2 = 0 then (st ++ [(own cs (.mk o v s l) (kdL cs l).1).1], 0) else ([], (own cs (.mk o v s l) (kdL cs l).1).2) := by
        unfold stp
        rw [show (X.mk o v s l).l = l from rfl, e1, List.drop_left, List.take_left]
      dsimp only
      rw [e2]
      by_cases h2 : (own cs (.mk o v s l) (kdL cs l).1).2 = 0
      · rw [if_pos h2]
        show (if (0 : Int) = 0 then _ else _) = _
        rw [if_pos rfl, run]
      · rw [if_neg h2]
        show (if (own cs (.mk o v s l) (kdL cs l).1).2 = 0 then _ else _) = _
        rw [if_neg h2]
    · simp only [if_neg h]
theorem run_upL (cs : List Col) : ∀ (l : List X) (st : List Int), run cs (upL l) st = if (kdL cs l).2 = 0 then (st ++ (kdL cs l).1, 0) else ([], (kdL cs l).2)
  | [], st => by rw [upL, run, kdL, if_pos rfl, List.append_nil]
  | x :: r, st => by
    rw [upL, run_app, run_up cs x st, kdL]
    by_cases h : (kd cs x).2 = 0
    · rw [if_pos h, if_pos h]
      show (if (0 : Int) = 0 then _ else _) = _
      rw [if_pos rfl]
      dsimp only
      rw [run_upL cs r]
      by_cases h2 : (kdL cs r).2 = 0
      · rw [if_pos h2, if_pos h2]
        show _ = if (0 : Int) = 0 then _ else _
        rw [if_pos rfl, List.append_assoc]; rfl
      · rw [if_neg h2, if_neg h2]
        show _ = if (kdL cs r).2 = 0 then _ else _
        rw [if_neg h2]
    · simp only [if_neg h]
end
mutual
/-- an expression with another one in place of each null -/
def withX (y : X) : X → X
  | .mk o v s l => if o = 1 ∧ v = Vl.no then y else .mk o v s (withL y l)
def withL (y : X) : List X → List X
  | [] => []
  | x :: r => withX y x :: withL y r
end
/-- how a kind and a kind with a value in place of null go together -/
def Rel (k a b : Int) : Prop := b = a ∨ (a = 0 ∧ b = k) ∨ (a = 1 ∧ b = 2)
end Ty
end Go.Proofs.YtmkllibfblacfaaDoor

/-
  Layer 15, the program's: which kinds go together, and what an op makes of its parts' kinds.
-/
namespace Go.Proofs.YtmkllibfblacfaaDoor
open Go.RowKit
/-- a list of kinds, read -/
def ReadsK (w : World) (a : Option Addr) (ks : List Int) : Prop := ∀ i (h : i < ks.length), ∃ b off, a = some ⟨b, off, none⟩ ∧ w.cell? ⟨b, off + i, none⟩ = some (.int .i64 ks[i])
theorem readsK_below {w w' : World} {a : Option Addr} {ks : List Int} (h : ReadsK w a ks) (hb : Below w.heap.size w w') : ReadsK w' a ks := fun i hi => by
  obtain ⟨b, off, e, hc⟩ := h i hi
  exact ⟨b, off, e, (hb.cell (World.block_lt_of_cell? _ _ hc)).trans hc⟩
namespace Ty
theorem all_take {want : Int} {ks : List Int} {k : Nat} (h : ∀ y ∈ ks.take k, fits y want = true) (hk : k < ks.length) (hp : fits ks[k] want = true) : ∀ y ∈ ks.take (k + 1), fits y want = true := by
  intro y hy
  rw [List.take_succ_eq_append_getElem hk, List.mem_append] at hy
  rcases hy with hy | hy
  · exact h y hy
  · simp at hy; subst hy; exact hp
theorem all_full {want : Int} {ks : List Int} {k : Nat} (h : ∀ y ∈ ks.take k, fits y want = true) (hk : ¬ k < ks.length) : all want ks = true := by
  rw [List.take_of_length_le (by omega)] at h
  exact List.all_eq_true.2 h
theorem all_not {want : Int} {ks : List Int} {k : Nat} (hk : k < ks.length) (hp : fits ks[k] want = false) : all want ks = false := by
  cases h : all want ks with
  | false => rfl
  | true => rw [List.all_eq_true.1 h _ (List.getElem_mem hk)] at hp; cases hp
end Ty
end Go.Proofs.YtmkllibfblacfaaDoor

/-
  Layer 15, the program's: what an op makes of its parts' kinds.
-/
namespace Go.Proofs.YtmkllibfblacfaaDoor
open Go.RowKit
namespace Ty
theorem res_add {ks : List Int} : result 4 ks = if all 1 ks then (1, true) else (2, all 2 ks) := rfl
theorem res_eq {op : Int} {ks : List Int} (h : op = 8 ∨ op = 9) : result op ks = (3, fits (ks.getD 0 0) (ks.getD 1 0)) := by unfold result; rw [if_neg (by omega), if_pos h]
theorem res_lt {op : Int} {ks : List Int} (h : op = 10 ∨ op = 11 ∨ op = 12 ∨ op = 13) : result op ks = (3, fits (ks.getD 0 0) (ks.getD 1 0) && !decide (some2 (ks.getD 0 0) (ks.getD 1 0) = 3)) := by unfold result; rw [if_neg (by omega), if_neg (by omega), if_pos h]
theorem res_and {op : Int} {ks : List Int} (h : op = 14 ∨ op = 15) : result op ks = (3, all 3 ks) := by unfold result; rw [if_neg (by omega), if_neg (by omega), if_neg (by omega), if_pos h]
theorem res_if {ks : List Int} : result 16 ks = (some2 (ks.getD 1 0) (ks.getD 2 0), all 3 [ks.getD 0 0] && fits (ks.getD 1 0) (ks.getD 2 0)) := rfl
theorem res_num {op : Int} {ks : List Int} (h : op < 4 ∨ (5 ≤ op ∧ op ≤ 7) ∨ 17 ≤ op) : result op ks = (1, all 1 ks) := by unfold result; rw [if_neg (by omega), if_neg (by omega), if_neg (by omega), if_neg (by omega), if_neg (by omega)]
/-- how many parts an op wants at least -/
def need (op : Int) : Nat := if 8 ≤ op ∧ op ≤ 13 then 2 else if op = 16 then 3 else 0
end Ty
/-- what result tells -/
def ResP (op : Int) (ks : List Int) (w : World) (e : Ending) (w' : World) : Prop := e = .returned (.tuple #[.int .i64 (Ty.result op ks).1, .bool (Ty.result op ks).2]) ∧ Below w.heap.size w w'
theorem readsK_at {w : World} {a : Option Addr} {ks : List Int} (h : ReadsK w a ks) {k : Nat} (hk : k < ks.length) {b off : Nat} (ha : a = some ⟨b, off, none⟩) : w.cell? ⟨b, off + k, none⟩ = some (.int .i64 (ks.getD k 0)) := by
  obtain ⟨b', off', e, hc⟩ := h k hk
  rw [ha] at e
  cases e
  rw [hc, List.getD_eq_getElem?_getD, List.getElem?_eq_getElem hk]; rfl
theorem wanted_of {ops : Array Oper} {o : Oper} {tmps : Array Value} {j d : Nat} {bb want : Bool} (hg : o.guard = some (j, want)) (hd : (ops[j]?).bind (·.dst) = some d) (ht : tmps.getD d undef = .bool bb) : Region.wanted o (yielded ops tmps) = (bb == want) := by
  have h1 : tmps[d]? = some (.bool bb) := by
    rw [Array.getD_eq_getD_getElem?] at ht
    cases h : tmps[d]? with
    | none => rw [h] at ht; cases ht
    | some v => rw [h] at ht; exact congrArg some ht
  unfold Region.wanted yielded
  rw [hg]
  simp [hd, h1]
def ifFtrue (b off n c : Nat) (k0 k1 k2 SM : Int) (B : Bool) : Nat → Value → World → Prop
  | 0, v, _ => v = (.slice (some ⟨b, off, none⟩) n c)
  | 1, v, _ => v = (.pointer (some ⟨b, off + 1, none⟩))
  | 2, v, _ => v = (.int .i64 k1)
  | 3, v, _ => v = (.slice (some ⟨b, off, none⟩) n c)
  | 4, v, _ => v = (.pointer (some ⟨b, off + 2, none⟩))
  | 5, v, _ => v = (.int .i64 k2)
  | 6, v, _ => v = (.int .i64 SM)
  | 7, v, _ => v = (.slice (some ⟨b, off, none⟩) n c)
  | 8, v, _ => v = (.pointer (some ⟨b, off, none⟩))
  | 9, v, _ => v = (.int .i64 k0)
  | 10, v, w => ∃ g, v = .slice (some ⟨g, 0, none⟩) 1 1 ∧ w.cell? ⟨g, 0, none⟩ = some (.int .i64 k0)
  | 11, v, _ => v = (.bool true)
  | 12, v, _ => v = (.bool true)
  | 13, v, _ => v = (.slice (some ⟨b, off, none⟩) n c)
  | 14, v, _ => v = (.pointer (some ⟨b, off + 1, none⟩))
  | 15, v, _ => v = (.int .i64 k1)
  | 16, v, _ => v = (.slice (some ⟨b, off, none⟩) n c)
  | 17, v, _ => v = (.pointer (some ⟨b, off + 2, none⟩))
  | 18, v, _ => v = (.int .i64 k2)
  | 19, v, _ => v = (.bool B)
  | 20, v, _ => v = (.bool B)
  | 21, v, _ => v = (.int .i64 SM)
  | 22, v, _ => v = (.bool B)
  | _, _, _ => True
theorem ifFtrue_up (b off n c : Nat) (k0 k1 k2 SM : Int) (B : Bool) : ∀ j u (wx wy : World), Below wx.heap.size wx wy → ifFtrue b off n c k0 k1 k2 SM B j u wx → ifFtrue b off n c k0 k1 k2 SM B j u wy := by
  intro j u wx wy hb h
  match j, h with
  | 10, ⟨g, e, hc⟩ => exact ⟨g, e, (hb.cell (World.block_lt_of_cell? _ _ hc)).trans hc⟩
  | 0, h => exact h
  | 1, h => exact h
  | 2, h => exact h
  | 3, h => exact h
  | 4, h => exact h
  | 5, h => exact h
  | 6, h => exact h
  | 7, h => exact h
  | 8, h => exact h
  | 9, h => exact h
  | 11, h => exact h
  | 12, h => exact h
  | 13, h => exact h
  | 14, h => exact h
  | 15, h => exact h
  | 16, h => exact h
  | 17, h => exact h
  | 18, h => exact h
  | 19, h => exact h
  | 20, h => exact h
  | 21, h => exact h
  | 22, h => exact h
  | _ + 23, _ => trivial
def ifFfalse (b off n c : Nat) (k0 k1 k2 SM : Int) (_B : Bool) : Nat → Value → World → Prop
  | 0, v, _ => v = (.slice (some ⟨b, off, none⟩) n c)
  | 1, v, _ => v = (.pointer (some ⟨b, off + 1, none⟩))
  | 2, v, _ => v = (.int .i64 k1)
  | 3, v, _ => v = (.slice (some ⟨b, off, none⟩) n c)
  | 4, v, _ => v = (.pointer (some ⟨b, off + 2, none⟩))
  | 5, v, _ => v = (.int .i64 k2)
  | 6, v, _ => v = (.int .i64 SM)
  | 7, v, _ => v = (.slice (some ⟨b, off, none⟩) n c)
  | 8, v, _ => v = (.pointer (some ⟨b, off, none⟩))
  | 9, v, _ => v = (.int .i64 k0)
  | 10, v, w => ∃ g, v = .slice (some ⟨g, 0, none⟩) 1 1 ∧ w.cell? ⟨g, 0, none⟩ = some (.int .i64 k0)
  | 11, v, _ => v = (.bool false)
  | 12, v, _ => v = (.bool false)
  | 20, v, _ => v = (.bool false)
  | 21, v, _ => v = (.int .i64 SM)
  | 22, v, _ => v = (.bool false)
  | _, _, _ => True
theorem ifFfalse_up (b off n c : Nat) (k0 k1 k2 SM : Int) (B : Bool) : ∀ j u (wx wy : World), Below wx.heap.size wx wy → ifFfalse b off n c k0 k1 k2 SM B j u wx → ifFfalse b off n c k0 k1 k2 SM B j u wy := by
  intro j u wx wy hb h
  match j, h with
  | 10, ⟨g, e, hc⟩ => exact ⟨g, e, (hb.cell (World.block_lt_of_cell? _ _ hc)).trans hc⟩
  | 0, h => exact h
  | 1, h => exact h
  | 2, h => exact h
  | 3, h => exact h
  | 4, h => exact h
  | 5, h => exact h
  | 6, h => exact h
  | 7, h => exact h
  | 8, h => exact h
  | 9, h => exact h
  | 11, h => exact h
  | 12, h => exact h
  | 13, h => exact h
  | 14, h => exact h
  | 15, h => exact h
  | 16, h => exact h
  | 17, h => exact h
  | 18, h => exact h
  | 19, h => exact h
  | 20, h => exact h
  | 21, h => exact h
  | 22, h => exact h
  | _ + 23, _ => trivial
end Go.Proofs.YtmkllibfblacfaaDoor

/-
  Layer 15, the program's: the kinds of columns by their names; the kind of an expression whose parts have some kinds.
-/
namespace Go.Proofs.YtmkllibfblacfaaDoor
open Go.RowKit
open Sx (X)
abbrev kEnc (k : Int) : Value := .int .i64 k
abbrev kLit (k : Int) : Lit := .int .i64 k
theorem codedK : CodedS kEnc kLit := ⟨fun a b h => by injection h, fun a b h => by injection h⟩
theorem zeroK (w : World) : (zeroValue 27).run Tryd.prog w = .ok (kEnc 0) w := by kernel_rfl
/-- the kinds of columns, as a map -/
abbrev ScopeS (w : World) (b n : Nat) (cs : List Ty.Col) : Prop := MapS kEnc kLit w b n (Ty.look cs)
theorem Ty.look_nil (s : ByteArray) : Ty.look [] s = none := rfl
theorem Ty.look_cons (c : Ty.Col) (cs : List Ty.Col) : Ty.look (c :: cs) = fun s => if s = c.1 then some c.2 else Ty.look cs s := by
  funext s
  unfold Ty.look
  rw [List.find?_cons]
  by_cases h : s = c.1
  · rw [if_pos h, decide_eq_true h.symm]; rfl
  · rw [if_neg h, decide_eq_false fun e => h e.symm]
end Go.Proofs.YtmkllibfblacfaaDoor

/-
  Layer 15, the program's: columns from the last one on (slices.Backward), handed out.
-/
namespace Go.Proofs.YtmkllibfblacfaaDoor
open Go.RowKit Go.Shelf
open Sx (X)
attribute [local go_sem] Oper.semAt_some
/-- a column: its name, its kind, its order's list -/
structure ColV where
  name : ByteArray
  kind : Int
  oa : Option Addr
  on : Nat
  oc : Nat
/-- what counts of it -/
def colK (c : ColV) : Ty.Col := (c.name, c.kind)
abbrev colV (c : ColV) : Value := .agg #[.string c.name, .int .i64 c.kind, .slice c.oa c.on c.oc]
/-- a list of columns, read -/
def ReadsC (w : World) (al : Option Addr) (l : List ColV) : Prop := ∀ i (h : i < l.length), ∃ b off, al = some ⟨b, off, none⟩ ∧ w.cell? ⟨b, off + i * 3, none⟩ = some (.string l[i].name) ∧ w.cell? ⟨b, off + i * 3 + 1, none⟩ = some (.int .i64 l[i].kind) ∧ w.cell? ⟨b, off + i * 3 + 2, none⟩ = some (.slice l[i].oa l[i].on l[i].oc)
theorem readsC_below {w w' : World} {al : Option Addr} {l : List ColV} (h : ReadsC w al l) (hb : Below w.heap.size w w') : ReadsC w' al l := fun i hi => by
  obtain ⟨b, off, e, h0, h1, h2⟩ := h i hi
  exact ⟨b, off, e, (hb.cell (World.block_lt_of_cell? _ _ h0)).trans h0, (hb.cell (World.block_lt_of_cell? _ _ h1)).trans h1, (hb.cell (World.block_lt_of_cell? _ _ h2)).trans h2⟩
/-- what a round keeps: the blocks below m, and block bx -/
def KpB (m bx : Nat) (W W' : World) : Prop := W.heap.size ≤ W'.heap.size ∧ ∀ j, (j < m ∨ j = bx) → j < W.heap.size → W'.heap[j]? = W.heap[j]?
theorem kpB_t {m bx : Nat} {A B C : World} (h : KpB m bx A B) (k : KpB m bx B C) : KpB m bx A C :=
  ⟨Nat.le_trans h.1 k.1, fun j hj hl => (k.2 j hj (Nat.lt_of_lt_of_le hl h.1)).trans (h.2 j hj hl)⟩
theorem kpB_below {m bx : Nat} {W W' : World} (hb : Below W.heap.size W W') : KpB m bx W W' := ⟨hb.size, fun j _ hl => hb.block j hl⟩
theorem kpB_only {F : Nat → Prop} {m bx : Nat} {W W' : World} (ho : Only F W W') (hF : ∀ k, F k → m ≤ k ∧ k ≠ bx) : KpB m bx W W' :=
  ⟨ho.size, fun j hj hl => ho.block j hl fun h => by have := hF j h; omega⟩
theorem kpB_put {m bx l : Nat} {W : World} (o' : Obj) (hl : m ≤ l) (hb : l ≠ bx) : KpB m bx W (W.putObj l o') := kpB_only (putObj_only W l o') fun k e => by have e2 : k = l := e; omega
/-- the columns lie as they lay -/
theorem readsC_side {w0 W : World} {m bx : Nat} {al : Option Addr} {l : List ColV} (h : ReadsC w0 al l) (hm : ∀ b off, al = some ⟨b, off, none⟩ → l ≠ [] → b < m) (hW : ∀ j, (j < m ∨ j = bx) → W.heap[j]? = w0.heap[j]?) : ReadsC W al l := fun i hi => by
  obtain ⟨b, off, e, h0, h1, h2⟩ := h i hi
  have hb := hW b (.inl (hm b off e fun e => by subst e; cases hi))
  have hc : ∀ k, W.cell? ⟨b, k, none⟩ = w0.cell? ⟨b, k, none⟩ := fun k => by unfold World.cell?; rw [hb]
  exact ⟨b, off, e, (hc _).trans h0, (hc _).trans h1, (hc _).trans h2⟩
/-- a column and where it stands; its name is not too long -/
abbrev ColA := { y : Nat × ColV // y.2.name.size ≤ 1000000 }
abbrev encB (y : ColA) : Array Value := #[.int .i64 (y.1.1 : Int), colV y.1.2]
set_option maxRecDepth 100000 in
theorem back15_call (al : Option Addr) (n cap : Nat) (w : World) : Calls Tryd.prog 43 #[.slice al n cap] w fun e w' => e = .returned (.func (.func 60) #[] #[.pointer (some ⟨w.heap.size, 0, none⟩)]) ∧ w' = w.alloc (.cells #[.slice al n cap] 41) := by
  go_enter Tryd.func43, Tryd.ntmps43
  go_wp2_with fail
  go_ret
  exact ⟨rfl, rfl⟩
set_option maxRecDepth 100000 in
set_option maxHeartbeats 12800000 in
theorem back15_hands {n : Nat} (hn : 1 ≤ n) {w0 : World} {m bx T : Nat} {al : Option Addr} {L : List ColV} {cap : Nat} (hL : L.length ≤ 1000000) (hr : RowV w0 bx 41 [.slice al L.length cap]) (hC : ReadsC w0 al L) (hNm : ∀ c ∈ L, c.name.size ≤ 1000000) (hm : ∀ b off, al = some ⟨b, off, none⟩ → L ≠ [] → b < m) (hms : m ≤ w0.heap.size) :
    Hands (α := ColA) n Tryd.prog 60 #[.pointer (some ⟨bx, 0, none⟩)] encB (KpB m bx) (fun ys => ys.map (·.1.2) = L.reverse) (fun ys => ∃ rest, ys.map (·.1.2) ++ rest = L.reverse) L.length T w0 := by
  intro l J Jx W hbw _ hJs0 hJxs0 hY h0
  have hJs := fun s => (hJs0 s).surv (Nat.le_refl _)
  have hbx := rowV_lt hr
  have hSW : ∀ j, (j < m ∨ j = bx) → W.heap[j]? = w0.heap[j]? := fun j hj => hbw.block j (by omega)
  have hrW := rowV_below hr hbw hbx
  have k0 := rowV_cell hrW 0
  simp only [List.getElem?_cons_zero] at k0
  clear hJs0 hJxs0 hrW
  generalize hNL : L.length = N at *
  refine callsIn_of_wp Tryd.func60 rfl trivial ?_
  simp only [Tryd.ntmps60, List.size_toArray, List.length_cons, List.length_nil, Nat.reduceAdd, Nat.reduceSub, Array.replicate_succ, Array.replicate_zero, List.push_toArray, List.append_toArray, List.nil_append, List.cons_append]
  gi_wp2
  gi_loopg [3] N (fun kk v3 wr => ∃ (k : Nat) (pre : List ColA), k = kk ∧ v3 = .int .i64 ((k : Int) - 1) ∧ k ≤ N ∧ pre.length + k = N ∧ Hid (pre.map (·.1.2) ++ (L.take k).reverse = L.reverse ∧ J pre wr ∧ (∀ j, (j < m ∨ j = bx) → wr.heap[j]? = w0.heap[j]?)))
  case atStart =>
    exact ⟨N, [], rfl, rfl, Nat.le_refl _, by simp, Lib.hid ⟨by rw [← hNL, List.take_length]; rfl, h0, hSW⟩⟩
  case round =>
    obtain ⟨k, pre, rfl, rfl, hkN, hpk, HI⟩ := hrel
    rcases Nat.eq_zero_or_pos k with rfl | hk0
    · have t1 : decide (((0 : Nat) : Int) - 1 ≥ 0) = false := by decide
      gi_wp2
      go_end0
      obtain ⟨h1, h2, _⟩ := HI.out
      rw [List.take_zero, List.reverse_nil, List.append_nil] at h1
      exact ⟨⟨_, rfl⟩, .inl ⟨pre, h1, h2⟩⟩
    · obtain ⟨k, rfl⟩ : ∃ q, k = q + 1 := ⟨k - 1, by omega⟩
      have ek : ((k + 1 : Nat) : Int) - 1 = (k : Int) := by omega
      rw [ek]
      have hkL : k < L.length := by omega
      have t1 : decide ((k : Int) ≥ 0) = true := decide_eq_true (by omega)
      have hCr := readsC_side hC hm HI.out.2.2
      obtain ⟨b, off, rfl, d0, d1, d2⟩ := hCr k hkL
      have hrr : RowV wr bx 41 [.slice (some ⟨b, off, none⟩) N cap] := (HI.out.2.2 bx (.inr rfl)).trans hr
      have k1 := rowV_cell hrr 0
      simp only [List.getElem?_cons_zero] at k1
      have hpl : pre.length < N := by omega
      obtain ⟨fn, tmps, assign, body, hy, hR⟩ := hY pre ⟨(k, L[k]), hNm _ (List.getElem_mem hkL)⟩ wr HI.out.2.1 hpl
      dsimp only [encB, colV] at hy
      have hsn : (pre ++ [(⟨(k, L[k]), hNm _ (List.getElem_mem hkL)⟩ : ColA)]).map (·.1.2) ++ (L.take k).reverse = L.reverse := by
        have h1 := HI.out.1
        rw [List.take_succ_eq_append_getElem hkL, List.reverse_append] at h1
        rw [List.map_append, List.append_assoc]
        exact h1
      have hSr := Lib.hid HI.out.2.2
      have hszr : ∀ j, (j < m ∨ j = bx) → j < wr.heap.size := fun j hj => by
        have h1 := HI.out.2.2 j hj
        have h2 : j < w0.heap.size := by omega
        rw [Array.getElem?_eq_getElem h2] at h1
        exact (Array.getElem?_eq_some_iff.1 h1).1
      have HSN := Lib.hid (And.intro hsn hszr)
      clear hsn hrr hCr hszr
      generalize hcc : (⟨(k, L[k]), hNm _ (List.getElem_mem hkL)⟩ : ColA) = c at *
      have e1 : L[k] = c.1.2 := by rw [← hcc]
      rw [e1] at hy d0 d1 d2
      clear hcc e1
      gi_wp2
      refine hR.mono ?_
      rintro e w5 (⟨rfl, hJ5, hk5⟩ | ⟨rfl, hJ5, -⟩)
      · gi_wp2
        gi_roundg k
        · exact ⟨k, pre ++ [c], rfl, rfl, by omega, by rw [List.length_append]; simp; omega, Lib.hid ⟨HSN.out.1, hJ5, fun j hj => (hk5.2 j hj (HSN.out.2 j hj)).trans (hSr.out j hj)⟩⟩
        · omega
      · gi_wp2
        refine bodyPost_ret (results_none rfl _ _ _) rfl ?_
        exact ⟨⟨_, rfl⟩, .inr ⟨_, ⟨_, HSN.out.1⟩, hJ5⟩⟩
end Go.Proofs.YtmkllibfblacfaaDoor

/-
  Layer 15, the program's: the kinds of columns by their names, made.
-/
namespace Go.Proofs.YtmkllibfblacfaaDoor
open Go.RowKit Go.Shelf
open Sx (X)
attribute [local go_sem] Oper.semAt_some
/-- of what was handed out from the last one on -/
abbrev colsR (l : List ColA) : List Ty.Col := (l.map fun y => colK y.1.2).reverse
theorem colsR_snoc (l : List ColA) (y : ColA) : colsR (l ++ [y]) = colK y.1.2 :: colsR l := by
  unfold colsR
  rw [List.map_append, List.reverse_append]; rfl
theorem survR_mapK {B T b n : Nat} {f : ByteArray → Option Int} (hb : b < B) : SurvR B T (fun W => MapS kEnc kLit W b n f) := fun _ _ _ hJ hg hr =>
  mapS_block hJ (hg.block b (mapS_lt hJ) fun e => by have := (hr b e.symm).1; omega)
/-- what scopeOf tells -/
def ScopeP (cs : List Ty.Col) (w : World) (e : Ending) (w' : World) : Prop := ∃ mb mn, e = .returned (.map (some mb)) ∧ w.heap.size ≤ mb ∧ ScopeS w' mb mn cs ∧ Below w.heap.size w w'
end Go.Proofs.YtmkllibfblacfaaDoor

/-
  Layer 15, the program's: the function that goes through an expression, each part behind its own parts: the way, and its steps.
-/
namespace Go.Proofs.YtmkllibfblacfaaDoor
open Go.RowKit Go.Shelf
open Sx (X)
attribute [local go_sem] Oper.semAt_some
namespace Upw
/-- what is still to be handed out, of steps from the outermost on -/
def todo : List St14 → List X
  | [] => []
  | t :: r => todo r ++ (Ty.upL (t.x.l.drop t.d) ++ [t.x])
theorem todo_snoc : ∀ (P : List St14) (t : St14), todo (P ++ [t]) = (Ty.upL (t.x.l.drop t.d) ++ [t.x]) ++ todo P
  | [], t => by simp [todo]
  | s :: P, t => by rw [List.cons_append, todo, todo_snoc P t, todo, List.append_assoc]
theorem todo_len : ∀ (P : List St14), P.length ≤ (todo P).length
  | [] => Nat.le_refl _
  | s :: P => by
    have := todo_len P
    rw [todo, List.length_append, List.length_append, List.length_cons, List.length_singleton]; omega
section
variable {w0 : World} {m bx : Nat} {Gd : X → Option Addr → Prop} {x : X} {a : Option Addr} {c : Nat}
/-- what is handed out -/
abbrev UA (w0 : World) (m : Nat) (Gd : X → Option Addr → Prop) := { y : X × Option Addr × Nat // XAt w0 (fun j => j < m) y.1 y.2.1 ∧ Gd y.1 y.2.1 }
abbrev encU (y : UA w0 m Gd) : Array Value := #[xV y.1.1 y.1.2.1 y.1.2.2]
end
section
variable {w0 : World} {m bx B : Nat} {Gd : X → Option Addr → Prop} {x : X} {a : Option Addr} {c : Nat}
variable {J : List (UA w0 m Gd) → World → Prop} {pre : List (UA w0 m Gd)} {P : List St14} {t : St14} {v : Value} {W W' : World}
theorem say_push {b o cy : Nat} {ay : Option Addr} (h : pre.map (·.1.1) ++ todo (P ++ [t]) = Ty.up x) (hd : t.d < t.x.l.length) : pre.map (·.1.1) ++ todo ((P ++ [{ t with d := t.d + 1 }]) ++ [⟨b, o, t.x.l[t.d], ay, cy, 0⟩]) = Ty.up x := by
  rw [todo_snoc, Ty.upL_drop _ _ hd, Ty.up_eq t.x.l[t.d]] at h
  rw [todo_snoc, todo_snoc, List.drop_zero, ← h]
  simp
end
end Upw
end Go.Proofs.YtmkllibfblacfaaDoor
