/-
  Layer 14, the program's: the function that goes through an expression and all within it.
-/
import Derived.Test.YtekahmlppaabjaaGreatDoorPk6
import Derived.Test.YtekahmlppaabjaaGreatDoorZSynPr7
import Derived.Shelf.Abstract
import Derived.Shelf.RegionOpen
import Derived.OwnWalkIn
import Derived.TacticsInMore
import Derived.LoopNIn
import Derived.LoopIn
import Derived.RegionIn
import Derived.Sort.LoopGhostIn
namespace Go.Proofs.YtekahmlppaabjaaGreatDoor
open Go.RowKit Go.Shelf
open Sx (X toksOf isT)
attribute [local go_sem] Oper.semAt_some
namespace Sx
mutual
/-- an expression and all within it, each ahead of its parts, with how deep it stands -/
def po : X → Nat → List (X × Nat)
  | .mk o v s l, d => (.mk o v s l, d) :: poL l (d + 1)
def poL : List X → Nat → List (X × Nat)
  | [], _ => []
  | x :: r, d => po x d ++ poL r d
end
theorem po_eq (x : X) (d : Nat) : po x d = (x, d) :: poL x.l (d + 1) := by obtain ⟨_, _, _, _⟩ := x; rw [po]; rfl
theorem poL_drop (l : List X) (i d : Nat) (h : i < l.length) : poL (l.drop i) d = po l[i] d ++ poL (l.drop (i + 1)) d := by
  rw [List.drop_eq_getElem_cons h, poL]
end Sx
/-- a step on the way: where its expression stands (its cell, what it is, where its list lies), how many of its parts were gone through -/
structure St14 where
  b : Nat
  o : Nat
  x : X
  a : Option Addr
  c : Nat
  d : Nat
abbrev fS (t : St14) : List Value := [.pointer (some ⟨t.b, t.o, none⟩), .int .i64 (t.d : Int)]
theorem step_parts : (Tryz.prog.info? 82).map (fun i => (i.zero, i.size, i.bytes)) = some (some (.agg #[.pointer none, .int .i64 0]), 2, 16) := by kernel_rfl
theorem step_elem : ElemOk Tryz.prog 82 2 16 := elemOk_of step_parts rfl (by decide) (by decide)
theorem fS_one (t : St14) : ∀ u ∈ fS t, u.oneCell' = true := by intro u hu; simp [fS] at hu; rcases hu with rfl | rfl <;> rfl
/-- what is still to be gone through, of steps from the outermost on -/
def todo : Nat → List St14 → List (X × Nat)
  | _, [] => []
  | i, t :: r => todo (i + 1) r ++ Sx.poL (t.x.l.drop t.d) (i + 2)
theorem todo_snoc : ∀ (i : Nat) (P : List St14) (t : St14), todo i (P ++ [t]) = Sx.poL (t.x.l.drop t.d) (i + P.length + 2) ++ todo i P
  | i, [], t => by simp [todo]
  | i, s :: P, t => by
    rw [List.cons_append, todo, todo_snoc (i + 1) P t, todo, List.length_cons, List.append_assoc, show i + 1 + P.length + 2 = i + (P.length + 1) + 2 by omega]
mutual
theorem xat_det {w : World} {S S' : Nat → Prop} : ∀ (x x' : X) (ad : Option Addr), XAt w S x ad → XAt w S' x' ad → x.l.length = x'.l.length → x.l = x'.l
  | .mk _ _ _ l, .mk _ _ _ l', ad, h, h', hl => by
    rw [XAt] at h h'
    rcases h with h | ⟨b, o, h1, _, h3⟩
    · subst h
      exact (List.length_eq_zero_iff.1 hl.symm).symm
    · rcases h' with h' | ⟨b', o', h1', _, h3'⟩
      · subst h'
        exact List.length_eq_zero_iff.1 hl
      · rw [h1] at h1'
        injection h1' with h1'
        injection h1' with e1 e2 e3
        subst e1; subst e2
        exact lat_det l l' b o h3 h3' hl
theorem lat_det {w : World} {S S' : Nat → Prop} : ∀ (l l' : List X) (b o : Nat), LAt w S l b o → LAt w S' l' b o → l.length = l'.length → l = l'
  | [], [], _, _, _, _, _ => rfl
  | [], _ :: _, _, _, _, _, h => by simp at h
  | _ :: _, [], _, _, _, _, h => by simp at h
  | x :: r, x' :: r', b, o, h, h', hl => by
    rw [LAt] at h h'
    obtain ⟨⟨a, c, h1, h2⟩, h3⟩ := h
    obtain ⟨⟨a', c', h1', h2'⟩, h3'⟩ := h'
    rw [lat_det r r' b (o + 6) h3 h3' (by simpa using hl)]
    obtain ⟨q0, q1, q2, q3, q4, q5⟩ := h1
    obtain ⟨p0, p1, p2, p3, p4, p5⟩ := h1'
    have e0 := Option.some.inj (q0.symm.trans p0)
    have e1 := Option.some.inj (q1.symm.trans p1)
    have e2 := Option.some.inj (q2.symm.trans p2)
    have e3 := Option.some.inj (q3.symm.trans p3)
    have e4 := Option.some.inj (q4.symm.trans p4)
    have e5 := Option.some.inj (q5.symm.trans p5)
    injection e0 with _ e0; injection e1 with _ e1; injection e2 with _ e2; injection e3 with e3; injection e4 with e4; injection e5 with e5 e6 _
    subst e5
    have hk := xat_det x x' a h2 h2' e6
    obtain ⟨xo, ⟨xk, xn, xs⟩, xt, xl⟩ := x
    obtain ⟨yo, ⟨yk, yn, ys⟩, yt, yl⟩ := x'
    simp only [Sx.op_mk, Sx.v_mk, Sx.s_mk, Sx.l_mk] at e0 e1 e2 e3 e4 hk
    subst e0; subst e1; subst e2; subst e3; subst e4; subst hk
    rfl
end
/-- one place, one expression -/
theorem cells6_det {w : World} {S S' : Nat → Prop} {b o : Nat} {x x' : X} {a a' : Option Addr} {c c' : Nat} (h : Cells6 w b o x a c) (h' : Cells6 w b o x' a' c') (hx : XAt w S x a) (hx' : XAt w S' x' a') : x = x' := by
  have := lat_det (S := S) (S' := S') [x] [x'] b o (by rw [LAt, LAt]; exact ⟨⟨a, c, h, hx⟩, trivial⟩) (by rw [LAt, LAt]; exact ⟨⟨a', c', h', hx'⟩, trivial⟩) rfl
  injection this
theorem xat_in {w : World} {S : Nat → Prop} {b o : Nat} : ∀ (x : X) (ad : Option Addr), XAt w S x ad → 0 < x.l.length → ad = some ⟨b, o, none⟩ → S b
  | .mk _ _ _ l, ad, h, hl, e => by
    rw [XAt] at h
    rcases h with h | ⟨b', o', e', hb, _⟩
    · subst h; exact absurd hl (Nat.not_lt_zero _)
    · rw [e] at e'; cases e'; exact hb
mutual
theorem xat_same {w W : World} {S : Nat → Prop} (hs : ∀ j, S j → W.heap[j]? = w.heap[j]?) : ∀ (x : X) (ad : Option Addr), XAt w S x ad → XAt W S x ad
  | .mk _ _ _ l, ad, h => by
    rw [XAt] at h ⊢
    rcases h with h | ⟨b, o, h1, h2, h3⟩
    · exact .inl h
    · exact .inr ⟨b, o, h1, h2, lat_same hs l b o h2 h3⟩
theorem lat_same {w W : World} {S : Nat → Prop} (hs : ∀ j, S j → W.heap[j]? = w.heap[j]?) : ∀ (l : List X) (b o : Nat), S b → LAt w S l b o → LAt W S l b o
  | [], _, _, _, _ => by rw [LAt]; trivial
  | x :: r, b, o, hb, h => by
    rw [LAt] at h ⊢
    obtain ⟨⟨a, c, h1, h2⟩, h3⟩ := h
    have e : ∀ i, W.cell? ⟨b, i, none⟩ = w.cell? ⟨b, i, none⟩ := fun i => World.cell?_of_block (hs b hb)
    exact ⟨⟨a, c, ⟨(e _).trans h1.1, (e _).trans h1.2.1, (e _).trans h1.2.2.1, (e _).trans h1.2.2.2.1, (e _).trans h1.2.2.2.2.1, (e _).trans h1.2.2.2.2.2⟩, xat_same hs x a h2⟩, lat_same hs r b (o + 6) hb h3⟩
end
section
variable {w0 : World} {m bx : Nat} {Gd : X → Option Addr → Prop} {mk : Prop} {x : X} {a : Option Addr} {c : Nat}
/-- what is handed out -/
abbrev PA (w0 : World) (m : Nat) (Gd : X → Option Addr → Prop) (mk : Prop) := { y : X × Option Addr × Nat × Nat // ((XAt w0 (fun j => j < m) y.1 y.2.1 ∧ Gd y.1 y.2.1) ∨ (mk ∧ y.1 = Sx.no)) ∧ y.2.2.2 ≤ 2000 }
abbrev encP (y : PA w0 m Gd mk) : Array Value := #[xV y.1.1 y.1.2.1 y.1.2.2.1, .int .i64 (y.1.2.2.2 : Int)]
abbrev pxd (y : PA w0 m Gd mk) : X × Nat := (y.1.1, y.1.2.2.2)
/-- the way into x -/
structure WayOk (w0 : World) (m bx : Nat) (Gd : X → Option Addr → Prop) (x : X) (a : Option Addr) (c : Nat) (P : List St14) : Prop where
  at_ : ∀ t ∈ P, (t.b < m ∧ Cells6 w0 t.b t.o t.x t.a t.c) ∨ (t.b = bx ∧ t.o = 0 ∧ t.x = x ∧ t.a = a ∧ t.c = c)
  sub : ∀ t ∈ P, XAt w0 (fun j => j < m) t.x t.a ∧ Gd t.x t.a ∧ t.d ≤ t.x.l.length
  less : P.Pairwise (fun s t => Sx.deep t.x < Sx.deep s.x)
  few : ∀ i (h : i < P.length), Sx.deep P[i].x + i ≤ 1000
/-- what a round keeps -/
def KpP (m bx B2 : Nat) (W W' : World) : Prop := W.heap.size ≤ W'.heap.size ∧ (∀ j, (j < m ∨ j = bx) → j < W.heap.size → W'.heap[j]? = W.heap[j]?) ∧ (∀ (j : Nat) cs fz, W.heap[j]? = some (.cells cs 82 fz) → W'.heap[j]? = W.heap[j]?) ∧ (∀ (j : Nat) (o : Obj), B2 ≤ j → W.heap[j]? = some o → o.isCells = false → W'.heap[j]? = some o)
theorem kpP_t {B2 : Nat} {A B C : World} (h : KpP m bx B2 A B) (k : KpP m bx B2 B C) : KpP m bx B2 A C :=
  ⟨Nat.le_trans h.1 k.1, fun j hj hl => (k.2.1 j hj (Nat.lt_of_lt_of_le hl h.1)).trans (h.2.1 j hj hl), fun j cs fz hc => (k.2.2.1 j cs fz ((h.2.2.1 j cs fz hc).trans hc)).trans (h.2.2.1 j cs fz hc), fun j o hB ho hn => k.2.2.2 j o hB (h.2.2.2 j o hB ho hn) hn⟩
theorem kpP_below {B2 : Nat} {W W' : World} (hb : Below W.heap.size W W') : KpP m bx B2 W W' :=
  ⟨hb.size, fun j _ hl => hb.block j hl, fun j _ _ hc => hb.block j (Array.getElem?_eq_some_iff.1 hc).1, fun j _ _ ho _ => (hb.block j (Array.getElem?_eq_some_iff.1 ho).1).trans ho⟩
theorem surv_only {B T : Nat} {J : World → Prop} (h : Surv B T J) {A A' : World} {r : Option Nat} (hJ : J A) (ho : Only (fun j => r = some j) A A') (hr : ∀ j, r = some j → B ≤ j ∧ ∃ cs fz, A.heap[j]? = some (.cells cs T fz)) : J A' :=
  h A A' r hJ ⟨ho.os, ho.tape, ho.output, ho.size, fun k hk hn => ho.block k hk fun e => hn e.symm⟩ hr
theorem surv_below {B T : Nat} {J : World → Prop} (h : Surv B T J) {A A' : World} (hJ : J A) (hb : Below A.heap.size A A') : J A' :=
  surv_only h (r := none) hJ (Only.of_none (F := fun _ => False) hb |>.mono fun k _ e => e.elim) fun j e => by cases e
/-- a list of steps lies in cells of steps -/
theorem owS_cells {W : World} {B : Nat} {v : Value} {P : List St14} (h : OwL fS 82 2 W B v P) : ∀ j, v.ownBlock = some j → B ≤ j ∧ ∃ cs fz, W.heap[j]? = some (.cells cs 82 fz) := by
  intro j e
  rcases h.2 with ⟨rfl, _⟩ | ⟨g, cap, cur, rfl, hb, hh, _⟩
  · cases e
  · have e2 : g = j := by simpa [Value.ownBlock] using e
    subst e2
    exact ⟨hb, cur, (0, 0), hh⟩
theorem owS_kp {W W' : World} {B B2 : Nat} {v : Value} {P : List St14} (h : OwL fS 82 2 W B v P) (hk : KpP m bx B2 W W') : OwL fS 82 2 W' B v P := by
  refine ⟨h.1, ?_⟩
  rcases h.2 with hn | ⟨g, cap, cur, rfl, hb, hh, r⟩
  · exact .inl hn
  · exact .inr ⟨g, cap, cur, rfl, hb, (hk.2.2.1 g _ _ hh).trans hh, r⟩
/-- the world as it stands beside the way -/
def Side (w0 W : World) (m bx : Nat) (x : X) (a : Option Addr) (c : Nat) : Prop := (∀ j, j < m → W.heap[j]? = w0.heap[j]?) ∧ RowV W bx 29 (xC x a c).toList ∧ m ≤ bx ∧ m ≤ w0.heap.size
theorem side_only {F : Nat → Prop} {W W' : World} (h : Side w0 W m bx x a c) (ho : Only F W W') (hF : ∀ j, F j → m ≤ j ∧ j ≠ bx) : Side w0 W' m bx x a c := by
  refine ⟨fun j hj => ?_, rowV_only h.2.1 ho (fun e => (hF bx e).2 rfl), h.2.2⟩
  have hlt : j < W.heap.size := Nat.lt_trans (Nat.lt_of_lt_of_le hj h.2.2.1) (rowV_lt h.2.1)
  exact (ho.block j hlt fun e => by have := (hF j e).1; omega).trans (h.1 j hj)
theorem side_below {W W' : World} (h : Side w0 W m bx x a c) (hb : Below W.heap.size W W') : Side w0 W' m bx x a c := side_only h (Only.of_none (F := fun _ => False) hb) fun _ h => h.elim
theorem side_kp {W W' : World} {B2 : Nat} (h : Side w0 W m bx x a c) (hk : KpP m bx B2 W W') : Side w0 W' m bx x a c := by
  have hl := rowV_lt h.2.1
  exact ⟨fun j hj => (hk.2.1 j (.inl hj) (by have := h.2.2.1; omega)).trans (h.1 j hj), (hk.2.1 bx (.inr rfl) hl).trans h.2.1, h.2.2⟩
theorem side_cells {W : World} {b o : Nat} {y : X} {ay : Option Addr} {cy : Nat} (h : Side w0 W m bx x a c) (hb : b < m) (hc : Cells6 w0 b o y ay cy) : Cells6 W b o y ay cy := by
  have e : ∀ i, W.cell? ⟨b, i, none⟩ = w0.cell? ⟨b, i, none⟩ := fun i => World.cell?_of_block (h.1 b hb)
  exact ⟨(e _).trans hc.1, (e _).trans hc.2.1, (e _).trans hc.2.2.1, (e _).trans hc.2.2.2.1, (e _).trans hc.2.2.2.2.1, (e _).trans hc.2.2.2.2.2⟩
theorem way_cells {W : World} {P : List St14} (h : Side w0 W m bx x a c) (hw : WayOk w0 m bx Gd x a c P) : ∀ t ∈ P, Cells6 W t.b t.o t.x t.a t.c := fun t ht => by
  rcases hw.at_ t ht with ⟨h1, h2⟩ | ⟨rfl, h2, rfl, rfl, rfl⟩
  · exact side_cells h h1 h2
  · rw [h2]; exact x_cells h.2.1
/-- the next part of the last step: where it stands, and that it stands nowhere on the way -/
theorem way_next {W : World} {P : List St14} {t : St14} (hS : Side w0 W m bx x a c) (hw : WayOk w0 m bx Gd x a c (P ++ [t])) (hd : t.d < t.x.l.length) : ∃ b o ay cy, t.a = some ⟨b, o, none⟩ ∧ b < m ∧ Cells6 w0 b (o + t.d * 6) t.x.l[t.d] ay cy ∧ XAt w0 (fun j => j < m) t.x.l[t.d] ay ∧
    ∀ s ∈ P ++ [t], (⟨s.b, s.o, none⟩ : Addr) ≠ ⟨b, o + t.d * 6, none⟩ := by
  have ht := hw.sub t (by simp)
  obtain ⟨b, o, ay, cy, h1, h2, h3⟩ := xat_at ht.1 t.d hd
  have hb : b < m := xat_in (S := fun j => j < m) t.x t.a ht.1 (Nat.lt_of_le_of_lt (Nat.zero_le _) hd) h1
  refine ⟨b, o, ay, cy, h1, hb, h2, h3, fun s hs e => ?_⟩
  injection e with e1 e2 _
  have hc := way_cells hS hw s hs
  rw [e1, e2] at hc
  have hcW := side_cells hS hb h2
  -- both are read at one place
  have hdeep : Sx.deep t.x.l[t.d] < Sx.deep s.x := by
    have h4 := Sx.deep_at hd
    rw [List.mem_append, List.mem_singleton] at hs
    rcases hs with hs | rfl
    · exact Nat.lt_trans h4 ((List.pairwise_append.1 hw.less).2.2 s hs t (by simp))
    · exact h4
  have hxs : XAt W (fun j => j < m) s.x s.a := xat_same hS.1 _ _ (hw.sub s hs).1
  have hxy : XAt W (fun j => j < m) t.x.l[t.d] ay := xat_same hS.1 _ _ h3
  have := cells6_det hc hcW hxs hxy
  rw [this] at hdeep
  exact Nat.lt_irrefl _ hdeep
end
end Go.Proofs.YtekahmlppaabjaaGreatDoor
