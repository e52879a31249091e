/-
  Layer 15, the program's: the function that goes through an expression, each part behind its own parts: the way, and its steps.
-/
import Derived.Test.YtmkckbidfpinfaaDoorPk5
import Derived.Test.YtmkckbidfpinfaaDoorZTypMath
namespace Go.Proofs.YtmkckbidfpinfaaDoor
open Go.RowKit Go.Shelf
open Sx (X)
attribute [local go_sem] Oper.semAt_some
namespace Upw
theorem step_parts : (Tryd.prog.info? 92).map (fun i => (i.zero, i.size, i.bytes)) = some (some (.agg #[.pointer none, .int .i64 0]), 2, 16) := by kernel_rfl
theorem step_elem : ElemOk Tryd.prog 92 2 16 := elemOk_of step_parts rfl (by decide) (by decide)
/-- what is still to be handed out, of steps from the outermost on -/
def todo : List St14 → List X
  | [] => []
  | t :: r => todo r ++ (Ty.upL (t.x.l.drop t.d) ++ [t.x])
theorem todo_snoc : ∀ (P : List St14) (t : St14), todo (P ++ [t]) = (Ty.upL (t.x.l.drop t.d) ++ [t.x]) ++ todo P
  | [], t => by simp [todo]
  | s :: P, t => by rw [List.cons_append, todo, todo_snoc P t, todo, List.append_assoc]
theorem todo_len : ∀ (P : List St14), P.length ≤ (todo P).length
  | [] => Nat.le_refl _
  | s :: P => by
    have := todo_len P
    rw [todo, List.length_append, List.length_append, List.length_cons, List.length_singleton]; omega
section
variable {w0 : World} {m bx : Nat} {Gd : X → Option Addr → Prop} {x : X} {a : Option Addr} {c : Nat}
/-- what is handed out -/
abbrev UA (w0 : World) (m : Nat) (Gd : X → Option Addr → Prop) := { y : X × Option Addr × Nat // XAt w0 (fun j => j < m) y.1 y.2.1 ∧ Gd y.1 y.2.1 }
abbrev encU (y : UA w0 m Gd) : Array Value := #[xV y.1.1 y.1.2.1 y.1.2.2]
/-- what a round keeps -/
def KpU (m bx B2 : Nat) (W W' : World) : Prop := W.heap.size ≤ W'.heap.size ∧ (∀ j, (j < m ∨ j = bx) → j < W.heap.size → W'.heap[j]? = W.heap[j]?) ∧ (∀ (j : Nat) cs fz, W.heap[j]? = some (.cells cs 92 fz) → W'.heap[j]? = W.heap[j]?) ∧ (∀ (j : Nat) (o : Obj), B2 ≤ j → W.heap[j]? = some o → o.isCells = false → W'.heap[j]? = some o)
theorem kpU_t {B2 : Nat} {A B C : World} (h : KpU m bx B2 A B) (k : KpU m bx B2 B C) : KpU m bx B2 A C :=
  ⟨Nat.le_trans h.1 k.1, fun j hj hl => (k.2.1 j hj (Nat.lt_of_lt_of_le hl h.1)).trans (h.2.1 j hj hl), fun j cs fz hc => (k.2.2.1 j cs fz ((h.2.2.1 j cs fz hc).trans hc)).trans (h.2.2.1 j cs fz hc), fun j o hB ho hn => k.2.2.2 j o hB (h.2.2.2 j o hB ho hn) hn⟩
theorem kpU_below {B2 : Nat} {W W' : World} (hb : Below W.heap.size W W') : KpU m bx B2 W W' :=
  ⟨hb.size, fun j _ hl => hb.block j hl, fun j _ _ hc => hb.block j (Array.getElem?_eq_some_iff.1 hc).1, fun j _ _ ho _ => (hb.block j (Array.getElem?_eq_some_iff.1 ho).1).trans ho⟩
/-- a list of steps lies in cells of steps -/
theorem owU_cells {W : World} {B : Nat} {v : Value} {P : List St14} (h : OwL fS 92 2 W B v P) : ∀ j, v.ownBlock = some j → B ≤ j ∧ ∃ cs fz, W.heap[j]? = some (.cells cs 92 fz) := by
  intro j e
  rcases h.2 with ⟨rfl, _⟩ | ⟨g, cap, cur, rfl, hb, hh, _⟩
  · cases e
  · have e2 : g = j := by simpa [Value.ownBlock] using e
    subst e2
    exact ⟨hb, cur, (0, 0), hh⟩
theorem owU_kp {W W' : World} {B B2 : Nat} {v : Value} {P : List St14} (h : OwL fS 92 2 W B v P) (hk : KpU m bx B2 W W') : OwL fS 92 2 W' B v P := by
  refine ⟨h.1, ?_⟩
  rcases h.2 with hn | ⟨g, cap, cur, rfl, hb, hh, r⟩
  · exact .inl hn
  · exact .inr ⟨g, cap, cur, rfl, hb, (hk.2.2.1 g _ _ hh).trans hh, r⟩
theorem side_kpU {W W' : World} {B2 : Nat} (h : Side w0 W m bx x a c) (hk : KpU m bx B2 W W') : Side w0 W' m bx x a c := by
  have hl := rowV_lt h.2.1
  exact ⟨fun j hj => (hk.2.1 j (.inl hj) (by have := h.2.2.1; omega)).trans (h.1 j hj), (hk.2.1 bx (.inr rfl) hl).trans h.2.1, h.2.2⟩
end
section
variable {w0 : World} {m bx B : Nat} {Gd : X → Option Addr → Prop} {x : X} {a : Option Addr} {c : Nat}
/-- where the function stands: what it handed out, and the way -/
structure PInv (w0 : World) (m bx B : Nat) (Gd : X → Option Addr → Prop) (x : X) (a : Option Addr) (c : Nat) (J : List (UA w0 m Gd) → World → Prop) (pre : List (UA w0 m Gd)) (P : List St14) (v : Value) (W : World) : Prop where
  say : pre.map (·.1.1) ++ todo P = Ty.up x
  j : J pre W
  side : Side w0 W m bx x a c
  way : WayOk w0 m bx Gd x a c P
  own : OwL fS 92 2 W B v P
variable {J : List (UA w0 m Gd) → World → Prop} {pre : List (UA w0 m Gd)} {P : List St14} {t : St14} {v : Value} {W W' : World}
theorem pinv_below (hJ : ∀ s, Surv B 92 (J s)) (h : PInv w0 m bx B Gd x a c J pre P v W) (hb : Below W.heap.size W W') : PInv w0 m bx B Gd x a c J pre P v W' :=
  ⟨h.say, surv_below (hJ _) h.j hb, side_below h.side hb, h.way, owL_below h.own hb⟩
/-- a step that was gone through -/
theorem pinv_pop {al : Option Addr} {n cp : Nat} (h : PInv w0 m bx B Gd x a c J pre (P ++ [t]) (.slice al (n + 1) cp) W) (hn : P.length = n) (hd : t.d = t.x.l.length) : pre.map (·.1.1) ++ t.x :: todo P = Ty.up x ∧ Side w0 W m bx x a c ∧ WayOk w0 m bx Gd x a c P ∧ OwL fS 92 2 W B (.slice al n cp) P := by
  refine ⟨?_, h.side, way_front h.way, owL_pop (f := fS) (fun _ => rfl) h.own hn⟩
  have := h.say
  rw [todo_snoc, hd, List.drop_length, Ty.upL, List.nil_append] at this
  exact this
/-- what the walk wants of the last step -/
theorem pinv_last {al : Option Addr} {n cp : Nat} (h : PInv w0 m bx B Gd x a c J pre (P ++ [t]) (.slice al n cp) W) : ∃ g, al = some ⟨g, 0, none⟩ ∧ n = P.length + 1 ∧ n ≤ cp ∧ cp ≤ maxLen ∧ B ≤ g ∧ g < W.heap.size ∧ n ≤ 1000 ∧
    W.cell? ⟨g, P.length * 2, none⟩ = some (.pointer (some ⟨t.b, t.o, none⟩)) ∧ W.cell? ⟨g, P.length * 2 + 1, none⟩ = some (.int .i64 (t.d : Int)) ∧ W.frozen? ⟨g, P.length * 2 + 1, none⟩ = false ∧
    W.cell? ⟨t.b, t.o + 5, none⟩ = some (.slice t.a t.x.l.length t.c) := by
  have hlen : (P ++ [t]).length = P.length + 1 := by simp
  have hi : P.length < (P ++ [t]).length := by omega
  obtain ⟨g, c', e, hc⟩ := owL_cell (f := fS) (fun _ _ => rfl) h.own P.length hi
  have e2 : (P ++ [t])[P.length] = t := by simp
  rw [e2] at hc
  injection e with e1 e3 e4
  subst e1
  have hlt := owL_lt h.own g rfl
  obtain ⟨_, _, ef, hcap, hmax, _⟩ := owL_form h.own
  injection ef with _ ef2 ef3
  have hfew := h.way.few P.length hi
  rw [e2] at hfew
  have hdp : 1 ≤ Sx.deep t.x := by rw [Sx.deep_eq]; omega
  refine ⟨g, rfl, by omega, by omega, by omega, hlt.1, hlt.2, by omega, (hc 0 _ rfl).1, (hc 1 _ rfl).1, (hc 1 _ rfl).2, (way_cells h.side h.way t (by simp)).2.2.2.2.2⟩
/-- the step's count is one more -/
theorem pinv_done (hJ : ∀ s, Surv B 92 (J s)) {g n cp : Nat} (h : PInv w0 m bx B Gd x a c J pre (P ++ [t]) (.slice (some ⟨g, 0, none⟩) n cp) W) (hm : m ≤ B) (hbx : bx < B) (hd : t.d < t.x.l.length) :
    ∃ wq : World, wq = W.setCell ⟨g, P.length * 2 + 1, none⟩ (.int .i64 ((t.d : Int) + 1)) ∧ J pre wq ∧ Side w0 wq m bx x a c ∧ WayOk w0 m bx Gd x a c (P ++ [{ t with d := t.d + 1 }]) ∧ OwL fS 92 2 wq B (.slice (some ⟨g, 0, none⟩) n cp) (P ++ [{ t with d := t.d + 1 }]) ∧
      Only (fun k => k = g) W wq := by
  have ho : Only (fun k => k = g) W (W.setCell ⟨g, P.length * 2 + 1, none⟩ (.int .i64 ((t.d : Int) + 1))) := Only.setCell (F := fun k => k = g) (Only.refl _ _) (fun _ => rfl) _
  have hg := owU_cells h.own g rfl
  refine ⟨_, rfl, surv_only (hJ pre) (r := some g) h.j (ho.mono fun k _ e => by rw [e]) (fun j e => by cases e; exact hg), side_only h.side ho fun j e => ?_, ⟨fun s hs => ?_, fun s hs => ?_, ?_, fun i hi => ?_⟩, owL_last1 (f := fS) (fun _ => rfl) h.own (by omega) _ _ rfl, ho⟩
  · have e2 : j = g := e
    have := hg.1
    omega
  · rw [List.mem_append, List.mem_singleton] at hs
    rcases hs with hs | rfl
    · exact h.way.at_ s (List.mem_append_left _ hs)
    · exact h.way.at_ t (by simp)
  · rw [List.mem_append, List.mem_singleton] at hs
    rcases hs with hs | rfl
    · exact h.way.sub s (List.mem_append_left _ hs)
    · have := h.way.sub t (by simp)
      exact ⟨this.1, this.2.1, hd⟩
  · have := h.way.less
    rw [List.pairwise_append] at this ⊢
    refine ⟨this.1, List.pairwise_singleton _ _, fun s hs u hu => ?_⟩
    rw [List.mem_singleton] at hu
    subst hu
    exact this.2.2 s hs t (by simp)
  · have := h.way.few i (by simpa using hi)
    by_cases hlt : i < P.length
    · rw [List.getElem_append_left hlt] at this ⊢
      exact this
    · obtain rfl : i = P.length := by simp at hi; omega
      simpa using this
theorem say_push {b o cy : Nat} {ay : Option Addr} (h : pre.map (·.1.1) ++ todo (P ++ [t]) = Ty.up x) (hd : t.d < t.x.l.length) : pre.map (·.1.1) ++ todo ((P ++ [{ t with d := t.d + 1 }]) ++ [⟨b, o, t.x.l[t.d], ay, cy, 0⟩]) = Ty.up x := by
  rw [todo_snoc, Ty.upL_drop _ _ hd, Ty.up_eq t.x.l[t.d]] at h
  rw [todo_snoc, todo_snoc, List.drop_zero, ← h]
  simp
end
end Upw
end Go.Proofs.YtmkckbidfpinfaaDoor
