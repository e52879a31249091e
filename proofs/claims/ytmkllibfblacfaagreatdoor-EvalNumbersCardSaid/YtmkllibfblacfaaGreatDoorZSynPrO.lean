/-
  Layer 14, the program's: Parse.
-/
import Derived.Test.YtmkllibfblacfaaGreatDoorZSynPrA
import Derived.Test.YtmkllibfblacfaaGreatDoorZSynDeep
import Derived.Test.YtmkllibfblacfaaGreatDoorPk3
namespace Go.Proofs.YtmkllibfblacfaaGreatDoor
open Go.RowKit
open Sx (X toksOf isT)
namespace Lx
theorem right_size {t : T} (h : right t) : t.s.size ≤ 1000000 := by
  obtain ⟨k, s, n, a⟩ := t
  rcases h with ⟨rfl, _, _, _, h⟩ | ⟨rfl, h, h2⟩ | ⟨rfl, _, h9⟩ | ⟨rfl, h, _⟩
  · have : s.size ≤ 16 := h
    show s.size ≤ _; omega
  · have : s = Vl.mt := h2
    show s.size ≤ _; rw [this]; exact Nat.zero_le _
  · have : s.size ≤ 40 := h9.1
    show s.size ≤ _; omega
  · have hm : ∀ m ∈ marks, m.length ≤ 85 := by decide
    have h1 := hm _ h
    have hl : s.data.toList.length = s.size := Array.length_toList ..
    show s.size ≤ _
    have h2 : s.data.toList.length ≤ 85 := h1
    omega
end Lx
mutual
/-- an unmarked row has no frozen cell -/
theorem xok_of_xat {w : World} : ∀ (x : X) (ad : Option Addr), XAt w (fun j => ∃ cs T, w.heap[j]? = some (.cells cs T (0, 0))) x ad → XOk w w.heap.size False x ad
  | .mk _ _ _ l, ad, h => by
    rw [XAt] at h; rw [XOk]
    rcases h with h | ⟨b, o, h1, h2, h3⟩
    · exact .inl h
    · obtain ⟨cs, T, h4⟩ := h2
      exact .inr ⟨b, o, h1, (Array.getElem?_eq_some_iff.1 h4).1, .inr ⟨cs, T, h4⟩, lok_of_lat l b o cs T h4 h3⟩
theorem lok_of_lat {w : World} : ∀ (l : List X) (b o : Nat) (cs : Array Value) (T : TypeId), w.heap[b]? = some (.cells cs T (0, 0)) → LAt w (fun j => ∃ cs T, w.heap[j]? = some (.cells cs T (0, 0))) l b o → LOk w w.heap.size False l b o
  | [], _, _, _, _, _, _ => by rw [LOk]; trivial
  | x :: r, b, o, cs, T, hb, h => by
    rw [LAt] at h; rw [LOk]
    obtain ⟨⟨a, c, h1, h2⟩, h3⟩ := h
    exact ⟨by unfold World.frozen?; rw [hb]; simp, ⟨a, c, h1, xok_of_xat x a h2⟩, lok_of_lat r b (o + 6) cs T hb h3⟩
end
end Go.Proofs.YtmkllibfblacfaaGreatDoor
