/-
  Layer 9: the document's count of parts: what its copy of a list with a pair more leaves behind, whatever the order.
-/
import Derived.Test.YtjlglfhnnipjaaaRely
import Derived.Test.YtjlglfhnnipjaaaPairCut
import Derived.Test.YtjlglfhnnipjaaaNodCell
import Derived.Test.YtjlglfhnnipjaaaNodParts
namespace Go.Proofs.Ytjlglfhnnipjaaa
open Go.RowKit
/-- what is at hand ahead of the copy: the boxes N (the node) and M (the pairs so far), the pair -/
structure Few where
  N : Nat
  M : Nat
  B : Nat
  leaf : Bool
  ab : Nat
  off : Nat
  n : Nat
  c : Nat
  k : Nat
  va : Option Addr
  vc : Nat
  now : Nd.Prs
  x : ByteArray × ByteArray
/-- what each operation has yielded -/
def FewV (F : Few) (st : Nat → Option Value) : Nat → Value → World → Prop
  | 0, v, _ => v = .pointer (some ⟨F.N, 0, none⟩)
  | 1, v, _ => v = .bool F.leaf
  | 2, v, w => st 5 = none → ∃ g, v = .slice (some ⟨g, 0, none⟩) 0 0 ∧ RowV w g 33 [] ∧ F.B ≤ g
  | 3, v, _ => v = .pointer (some ⟨F.M, 1, none⟩)
  | 4, v, _ => v = .slice F.va F.now.length F.vc
  | 5, v, w => st 12 = none → w.ownsRow F.B 33 2 v F.now.length (pairsC F.now)
  | 6, v, _ => v = .pointer (some ⟨F.N, 1, none⟩)
  | 7, v, _ => v = .slice (some ⟨F.ab, F.off, none⟩) F.n F.c
  | 8, v, _ => v = .int .i64 (F.k : Int)
  | 9, v, _ => v = .pointer (some ⟨F.ab, F.off + F.k * 2, none⟩)
  | 10, v, _ => v = .agg #[.string F.x.1, .string F.x.2]
  | 11, v, w => st 12 = none → ∃ h, v = .slice (some ⟨h, 0, none⟩) 1 1 ∧ RowV w h 33 [.string F.x.1, .string F.x.2] ∧ F.B ≤ h
  | 12, v, w => (st 5).isSome = true ∧ w.ownsRow F.B 33 2 v (F.now.length + 1) (pairsC (F.now ++ [F.x]))
  | 13, v, _ => ∃ u, st 12 = some u ∧ v = .agg #[.bool F.leaf, u]
  | 14, v, w => ∃ g, v = .pointer (some ⟨g, 0, none⟩) ∧ F.B ≤ g ∧ (st 15 = none → RowV w g 24 [.bool false, .slice none 0 0])
  | 15, _, w => ∃ u g, st 12 = some u ∧ st 14 = some (.pointer (some ⟨g, 0, none⟩)) ∧ RowV w g 24 [.bool F.leaf, u]
  | _, _, _ => True
def FewG (F : Few) (w0 : World) (st : Nat → Option Value) (w : World) : Prop := Below F.B w0 w ∧ ∀ j v, st j = some v → FewV F st j v w
theorem came_none {st : Nat → Option Value} {i j : Nat} {u : Value} (h : came st i u j = none) : st j = none := by
  unfold came at h
  split at h
  · cases h
  · exact h
theorem came_some {st : Nat → Option Value} {i j : Nat} {u v : Value} (hn : st i = none) (h : st j = some v) : came st i u j = some v := by
  rw [came_far (fun e => by rw [e, hn] at h; cases h)]; exact h
theorem fewV_came {F : Few} {st : Nat → Option Value} {i : Nat} {u : Value} (hn : st i = none) : ∀ j v w, FewV F st j v w → FewV F (came st i u) j v w
  | 0, _, _, h => h
  | 1, _, _, h => h
  | 2, _, _, h => fun x => h (came_none x)
  | 3, _, _, h => h
  | 4, _, _, h => h
  | 5, _, _, h => fun x => h (came_none x)
  | 6, _, _, h => h
  | 7, _, _, h => h
  | 8, _, _, h => h
  | 9, _, _, h => h
  | 10, _, _, h => h
  | 11, _, _, h => fun x => h (came_none x)
  | 12, _, _, h => ⟨by
      obtain ⟨y, hy⟩ := Option.isSome_iff_exists.1 h.1
      rw [came_some hn hy]; rfl, h.2⟩
  | 13, _, _, ⟨y, hy, e⟩ => ⟨y, came_some hn hy, e⟩
  | 14, _, _, ⟨g, e, hg, h⟩ => ⟨g, e, hg, fun x => h (came_none x)⟩
  | 15, _, _, ⟨y, g, h1, h2, h3⟩ => ⟨y, g, came_some hn h1, came_some hn h2, h3⟩
  | _ + 16, _, _, h => h
theorem fewV_alloc {F : Few} {st : Nat → Option Value} (o : Obj) : ∀ j v w, FewV F st j v w → FewV F st j v (w.alloc o)
  | 0, _, _, h => h
  | 1, _, _, h => h
  | 2, _, _, h => fun x => by obtain ⟨g, e, hr, hb⟩ := h x; exact ⟨g, e, rowV_alloc hr o, hb⟩
  | 3, _, _, h => h
  | 4, _, _, h => h
  | 5, _, _, h => fun x => World.ownsRow.alloc (h x) o
  | 6, _, _, h => h
  | 7, _, _, h => h
  | 8, _, _, h => h
  | 9, _, _, h => h
  | 10, _, _, h => h
  | 11, _, _, h => fun x => by obtain ⟨g, e, hr, hb⟩ := h x; exact ⟨g, e, rowV_alloc hr o, hb⟩
  | 12, _, _, h => ⟨h.1, World.ownsRow.alloc h.2 o⟩
  | 13, _, _, h => h
  | 14, _, _, ⟨g, e, hg, h⟩ => ⟨g, e, hg, fun x => rowV_alloc (h x) o⟩
  | 15, _, _, ⟨y, g, h1, h2, h3⟩ => ⟨y, g, h1, h2, rowV_alloc h3 o⟩
  | _ + 16, _, _, h => h
/-- an operation that turns nothing -/
theorem fewG_pure {F : Few} {w0 w : World} {st : Nat → Option Value} {i : Nat} {u : Value} (h : FewG F w0 st w) (hn : st i = none) (hu : FewV F (came st i u) i u w) : FewG F w0 (came st i u) w := by
  refine ⟨h.1, fun j v hj => ?_⟩
  by_cases e : j = i
  · subst e
    rw [came_at] at hj
    cases hj; exact hu
  · rw [came_far e] at hj
    exact fewV_came hn j v w (h.2 j v hj)
/-- one that makes a block -/
theorem fewG_alloc {F : Few} {w0 w : World} {st : Nat → Option Value} {i : Nat} {u : Value} {o : Obj} (h : FewG F w0 st w) (hB : F.B ≤ w0.heap.size) (hn : st i = none) (hu : FewV F (came st i u) i u (w.alloc o)) : FewG F w0 (came st i u) (w.alloc o) := by
  refine ⟨h.1.alloc (Nat.le_trans hB h.1.size) o, fun j v hj => ?_⟩
  by_cases e : j = i
  · subst e
    rw [came_at] at hj
    cases hj; exact hu
  · rw [came_far e] at hj
    exact fewV_came hn j v _ (fewV_alloc o j v w (h.2 j v hj))
theorem rowV_apart {w : World} {g h T T' : Nat} {l m : List Value} (h1 : RowV w g T l) (h2 : RowV w h T' m) (hne : T ≠ T' ∨ l ≠ m) : g ≠ h := by
  rintro rfl
  have e : w.heap[g]? = some (.cells l.toArray T) := h1
  have e2 : w.heap[g]? = some (.cells m.toArray T') := h2
  rw [e] at e2
  simp at e2
  rcases hne with hne | hne
  · exact hne e2.2
  · exact hne e2.1
theorem rowV_own_apart {w : World} {g T E B n : Nat} {l xs : List Value} {v : Value} (h1 : RowV w g T l) (h2 : w.ownsRow B E 2 v n xs) (hne : T ≠ E) : v.ownBlock ≠ some g := by
  intro hv
  rcases h2.2 with ⟨rfl, _⟩ | ⟨g', cap, cur, rfl, _, hh, _⟩
  · cases hv
  · have e1 : g' = g := by simpa [Value.ownBlock] using hv
    subst e1
    have e : w.heap[g']? = some (.cells l.toArray T) := h1
    rw [hh] at e
    simp at e
    exact hne e.2.symm
theorem rowV_grown {w w' : World} {g T : Nat} {l : List Value} {r : Option Nat} (h : RowV w g T l) (hg : w.grownBy w' r) (hne : r ≠ some g) : RowV w' g T l := (hg.block g (rowV_lt h) (fun e => hne e.symm)).trans h
theorem own_empty {w : World} {g B : Nat} (h : RowV w g 33 []) (hB : B ≤ g) : w.ownsRow B 33 2 (.slice (some ⟨g, 0, none⟩) 0 0) 0 (pairsC []) :=
  ⟨rfl, .inr ⟨g, 0, #[], rfl, hB, h, Nat.le_refl _, Nat.zero_le _, rfl, rfl⟩⟩
end Go.Proofs.Ytjlglfhnnipjaaa
