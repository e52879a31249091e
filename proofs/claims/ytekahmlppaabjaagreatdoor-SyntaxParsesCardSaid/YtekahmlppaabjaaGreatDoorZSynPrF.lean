/-
  Layer 14, the program's: an expression in memory, as all calls want it; Check.
-/
import Derived.Test.YtekahmlppaabjaaGreatDoorZSynPrE
import Derived.Test.YtekahmlppaabjaaGreatDoorPk6
namespace Go.Proofs.YtekahmlppaabjaaGreatDoor
open Go.RowKit Go.Shelf
open Sx (X)
attribute [local go_sem] Oper.semAt_some
mutual
/-- an expression in memory, below block m: no cell of it is frozen, and its rows bear no mark (but where mk) -/
def XOk (w : World) (m : Nat) (mk : Prop) : X → Option Addr → Prop
  | .mk _ _ _ l, ad => l = [] ∨ ∃ b o, ad = some ⟨b, o, none⟩ ∧ b < m ∧ (mk ∨ ∃ cs T, w.heap[b]? = some (.cells cs T (0, 0))) ∧ LOk w m mk l b o
def LOk (w : World) (m : Nat) (mk : Prop) : List X → Nat → Nat → Prop
  | [], _, _ => True
  | x :: r, b, o => w.frozen? ⟨b, o, none⟩ = false ∧ (∃ a c, Cells6 w b o x a c ∧ XOk w m mk x a) ∧ LOk w m mk r b (o + 6)
end
mutual
theorem xok_at {w : World} {m : Nat} {mk : Prop} : ∀ (x : X) (ad : Option Addr), XOk w m mk x ad → XAt w (fun j => j < m) x ad
  | .mk _ _ _ l, ad, h => by
    rw [XOk] at h; rw [XAt]
    rcases h with h | ⟨b, o, h1, h2, _, h3⟩
    · exact .inl h
    · exact .inr ⟨b, o, h1, h2, lok_at l b o h3⟩
theorem lok_at {w : World} {m : Nat} {mk : Prop} : ∀ (l : List X) (b o : Nat), LOk w m mk l b o → LAt w (fun j => j < m) l b o
  | [], _, _, _ => by rw [LAt]; trivial
  | x :: r, b, o, h => by
    rw [LOk] at h; rw [LAt]
    obtain ⟨_, ⟨a, c, h1, h2⟩, h3⟩ := h
    exact ⟨⟨a, c, h1, xok_at x a h2⟩, lok_at r b (o + 6) h3⟩
end
mutual
theorem xok_same {w W : World} {m m' : Nat} {mk : Prop} (hm : m ≤ m') (hs : ∀ j, j < m → W.heap[j]? = w.heap[j]?) : ∀ (x : X) (ad : Option Addr), XOk w m mk x ad → XOk W m' mk x ad
  | .mk _ _ _ l, ad, h => by
    rw [XOk] at h ⊢
    rcases h with h | ⟨b, o, h1, h2, h4, h3⟩
    · exact .inl h
    · exact .inr ⟨b, o, h1, by omega, by rw [hs b h2]; exact h4, lok_same hm hs l b o h2 h3⟩
theorem lok_same {w W : World} {m m' : Nat} {mk : Prop} (hm : m ≤ m') (hs : ∀ j, j < m → W.heap[j]? = w.heap[j]?) : ∀ (l : List X) (b o : Nat), b < m → LOk w m mk l b o → LOk W m' mk l b o
  | [], _, _, _, _ => by rw [LOk]; trivial
  | x :: r, b, o, hb, h => by
    rw [LOk] at h ⊢
    obtain ⟨h0, ⟨a, c, h1, h2⟩, h3⟩ := h
    have e : ∀ i, W.cell? ⟨b, i, none⟩ = w.cell? ⟨b, i, none⟩ := fun i => World.cell?_of_block (hs b hb)
    exact ⟨by unfold World.frozen? at h0 ⊢; rw [hs b hb]; exact h0, ⟨a, c, ⟨(e _).trans h1.1, (e _).trans h1.2.1, (e _).trans h1.2.2.1, (e _).trans h1.2.2.2.1, (e _).trans h1.2.2.2.2.1, (e _).trans h1.2.2.2.2.2⟩, xok_same hm hs x a h2⟩, lok_same hm hs r b (o + 6) hb h3⟩
end
theorem lok_get {w : World} {m : Nat} {mk : Prop} : ∀ (l : List X) (b o : Nat), LOk w m mk l b o → ∀ i (h : i < l.length), w.frozen? ⟨b, o + i * 6, none⟩ = false ∧ ∃ a c, Cells6 w b (o + i * 6) l[i] a c ∧ XOk w m mk l[i] a
  | [], _, _, _, i, h => absurd h (Nat.not_lt_zero _)
  | x :: r, b, o, hk, 0, _ => by
    rw [LOk] at hk
    simp only [Nat.zero_mul, Nat.add_zero, List.getElem_cons_zero]
    exact ⟨hk.1, hk.2.1⟩
  | x :: r, b, o, hk, i + 1, h => by
    rw [LOk] at hk
    have := lok_get r b (o + 6) hk.2.2 i (by simpa using h)
    rw [show o + (i + 1) * 6 = o + 6 + i * 6 by omega]
    exact this
theorem cells6_a {w : World} {b o : Nat} {x : X} {a a' : Option Addr} {c c' : Nat} (h : Cells6 w b o x a c) (h' : Cells6 w b o x a' c') : a = a' := by
  have e := Option.some.inj (h.2.2.2.2.2.symm.trans h'.2.2.2.2.2)
  injection e
theorem xok_get {w : World} {m : Nat} {mk : Prop} {x : X} {b o : Nat} (h : XOk w m mk x (some ⟨b, o, none⟩)) (i : Nat) (hi : i < x.l.length) : b < m ∧ (mk ∨ ∃ cs T, w.heap[b]? = some (.cells cs T (0, 0))) ∧ w.frozen? ⟨b, o + i * 6, none⟩ = false ∧ ∃ a c, Cells6 w b (o + i * 6) x.l[i] a c ∧ XOk w m mk x.l[i] a := by
  obtain ⟨op, v, s, l⟩ := x
  rw [XOk] at h
  rcases h with h | ⟨b', o', h1, h2, h3, h4⟩
  · subst h; exact absurd hi (Nat.not_lt_zero _)
  · cases h1
    have := lok_get l b o h4 i hi
    exact ⟨h2, h3, this.1, this.2⟩
namespace Sx
mutual
/-- its texts are short, its lists and numbers as they may be -/
def fine : X → Prop
  | .mk op v s l => okX (.mk op v s l) ∧ s.size ≤ 1000000 ∧ fineL l
def fineL : List X → Prop
  | [] => True
  | x :: r => fine x ∧ fineL r
end
theorem fineL_at : ∀ (l : List X), fineL l → ∀ i (h : i < l.length), fine l[i]
  | [], _, i, h => absurd h (Nat.not_lt_zero _)
  | x :: r, hk, 0, _ => by rw [fineL] at hk; exact hk.1
  | x :: r, hk, i + 1, h => by rw [fineL] at hk; exact fineL_at r hk.2 i (by simpa using h)
theorem fine_is {x : X} (h : fine x) : okX x ∧ x.s.size ≤ 1000000 ∧ ∀ i (hi : i < x.l.length), fine x.l[i] := by
  obtain ⟨op, v, s, l⟩ := x
  rw [fine] at h
  exact ⟨h.1, h.2.1, fun i hi => fineL_at l h.2.2 i hi⟩
theorem fine_no : fine no := by
  unfold no
  rw [fine, okX, okL, fineL]
  exact ⟨⟨⟨by decide, by decide⟩, Nat.zero_le _, Nat.zero_le _, Nat.zero_le _, trivial⟩, Nat.zero_le _, trivial⟩
end Sx
/-- what the function that goes through an expression knows of each part -/
abbrev Gd14 (w : World) (m : Nat) (mk : Prop) (y : X) (ad : Option Addr) : Prop := XOk w m mk y ad ∧ Sx.fine y
theorem gd14 {w : World} {m : Nat} {mk : Prop} : ∀ y ay, Gd14 w m mk y ay → y.l.length ≤ maxLen ∧ ∀ (i : Nat) (h : i < y.l.length) b o az cz, ay = some ⟨b, o, none⟩ → Cells6 w b (o + i * 6) y.l[i] az cz → Gd14 w m mk y.l[i] az ∧ w.frozen? ⟨b, o + i * 6, none⟩ = false ∧ (mk ∨ ∃ cs T, w.heap[b]? = some (.cells cs T (0, 0))) := by
  intro y ay h
  have hf := Sx.fine_is h.2
  refine ⟨(Sx.okX_is hf.1).2.2.2, fun i hi b o az cz e hc => ?_⟩
  subst e
  obtain ⟨_, h3, h4, a', c', h5, h6⟩ := xok_get h.1 i hi
  have e2 := cells6_a hc h5
  subst e2
  exact ⟨⟨h6, hf.2.2 i hi⟩, h4, h3⟩
theorem kpP_only {F : Nat → Prop} {m bx B2 : Nat} {W W' : World} (ho : Only F W W') (hF : ∀ k, F k → m ≤ k ∧ k ≠ bx ∧ ∃ cs T fz, W.heap[k]? = some (.cells cs T fz) ∧ T ≠ 82) : KpP m bx B2 W W' := by
  refine ⟨ho.size, fun j hj hl => ho.block j hl fun h => ?_, fun j cs fz hc => ho.block j (Array.getElem?_eq_some_iff.1 hc).1 fun h => ?_, fun j o _ hoj hn => (ho.block j (Array.getElem?_eq_some_iff.1 hoj).1 fun h => ?_).trans hoj⟩
  · have := hF j h
    rcases hj with hj | hj
    · omega
    · exact this.2.1 hj
  · obtain ⟨_, _, cs', T, fz', h1, h2⟩ := hF j h
    rw [hc] at h1
    injection h1 with h1
    injection h1 with _ h1
    exact h2 h1.symm
  · obtain ⟨_, _, cs', T, fz', h1, h2⟩ := hF j h
    rw [hoj] at h1
    injection h1 with h1
    rw [h1] at hn
    cases hn
theorem kpP_put {m bx B2 l : Nat} {W : World} {o : Obj} (o' : Obj) (hl : m ≤ l) (hb : l ≠ bx) (h2 : l < B2) (ho : W.heap[l]? = some o) (hc : o.isCells = false) : KpP m bx B2 W (W.putObj l o') := by
  have hp := putObj_only W l o'
  refine ⟨hp.size, fun j hj hlt => hp.block j hlt fun h => ?_, fun j cs fz hj => hp.block j (Array.getElem?_eq_some_iff.1 hj).1 fun h => ?_, fun j o2 hB hj hn => (hp.block j (Array.getElem?_eq_some_iff.1 hj).1 fun h => ?_).trans hj⟩
  · have e : j = l := h
    rcases hj with hj | hj <;> omega
  · have e : j = l := h
    subst e
    rw [ho] at hj
    injection hj with hj
    rw [hj] at hc
    cases hc
  · have e : j = l := h
    omega
theorem survR_and {B T : Nat} {J J' : World → Prop} (h : SurvR B T J) (h' : SurvR B T J') : SurvR B T (fun W => J W ∧ J' W) := fun A A' row hJ hg hr => ⟨h A A' row hJ.1 hg hr, h' A A' row hJ.2 hg hr⟩
theorem survR_const {B T : Nat} (p : Prop) : SurvR B T (fun _ => p) := fun _ _ _ h _ _ => h
theorem survR_row {B T g E : Nat} {l : List Value} (hg : g < B) : SurvR B T (fun W => RowV W g E l) := fun A A' row hJ hgr hr =>
  (hgr.block g (rowV_lt hJ) fun e => by have := (hr g e.symm).1; omega).trans hJ
theorem survR_below {B T N : Nat} {w : World} (hN : N ≤ B) (hw : N ≤ w.heap.size) : SurvR B T (fun W => Below N w W) := fun A A' row hJ hgr hr =>
  hJ.trans ⟨hgr.os, hgr.tape, hgr.output, hgr.size, fun k hk => hgr.block k (by have := hJ.size; omega) fun e => by have := (hr k e.symm).1; omega⟩
end Go.Proofs.YtekahmlppaabjaaGreatDoor
