/-
  Layer 15, the program's: Kind.
-/
import Derived.Test.YtmkllibfblacfaaGreatDoorPk3
import Derived.Test.YtmkllibfblacfaaGreatDoorZTypUp2
import Derived.Test.YtmkllibfblacfaaGreatDoorZTypMath2
namespace Go.Proofs.YtmkllibfblacfaaGreatDoor
open Go.RowKit Go.Shelf
open Sx (X)
attribute [local go_sem] Oper.semAt_some
namespace Upw
/-- the first of a list, in its own row -/
theorem owL_take15 {α : Type} {f : α → List Value} {E k B : Nat} (hf : ∀ x, (f x).length = k) {w : World} {al : Option Addr} {cp : Nat} : ∀ (d : Nat) {l : List α}, d ≤ l.length → OwL f E k w B (.slice al l.length cp) l → OwL f E k w B (.slice al (l.length - d) cp) (l.take (l.length - d))
  | 0, l, _, h => by rw [Nat.sub_zero, List.take_length]; exact h
  | d + 1, l, hd, h => by
    have h1 := owL_take15 hf d (by omega) h
    have hlt : l.length - (d + 1) < l.length := by omega
    have e : l.length - d = (l.length - (d + 1)) + 1 := by omega
    rw [e, List.take_succ_eq_append_getElem hlt] at h1
    exact owL_pop hf h1 (by rw [List.length_take]; omega)
theorem owL_block {α : Type} {f : α → List Value} {E k B : Nat} {w : World} {v : Value} {l : List α} (h : OwL f E k w B v l) : ∀ j, v.ownBlock = some j → B ≤ j ∧ j < w.heap.size ∧ ∃ cs fz, w.heap[j]? = some (.cells cs E fz) := by
  intro j e
  rcases h.2 with ⟨rfl, _⟩ | ⟨g, cap, cur, rfl, hb, hh, _⟩
  · cases e
  · obtain rfl : g = j := by simpa [Value.ownBlock] using e
    exact ⟨hb, (Array.getElem?_eq_some_iff.1 hh).1, _, _, hh⟩
end Upw
end Go.Proofs.YtmkllibfblacfaaGreatDoor
