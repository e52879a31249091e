/-
  Layer 15: which columns there may be: the document's Columns, At and Fits; are columns few?
-/
import Derived.Test.YtmkllibfblacfaaDoorZTypCols
namespace Go.Proofs.YtmkllibfblacfaaDoor
open Go.RowKit Go.Shelf
attribute [local go_sem] Oper.semAt_some
/-- the number of the first column of a name, or -1 -/
def AtP (L : List ColV) (nm : ByteArray) (r : Int) : Prop := (∃ k, ∃ h : k < L.length, r = (k : Int) ∧ L[k].name = nm ∧ ∀ j (hj : j < L.length), j < k → L[j].name ≠ nm) ∨ (r = -1 ∧ ∀ j (hj : j < L.length), L[j].name ≠ nm)
theorem atP_lt {L : List ColV} {nm : ByteArray} {k : Nat} {r : Int} (hk : k < L.length) (e : L[k].name = nm) (h : AtP L nm r) : decide (r < (k : Int)) = (L.take k).any (fun c => decide (c.name = nm)) := by
  rcases h with ⟨m, hm, rfl, hm1, hm2⟩ | ⟨_, h⟩
  · by_cases hlt : m < k
    · rw [decide_eq_true (by omega), eq_comm, List.any_eq_true]
      refine ⟨L[m], ?_, decide_eq_true hm1⟩
      exact List.mem_iff_getElem.2 ⟨m, by rw [List.length_take]; omega, by rw [List.getElem_take]⟩
    · rw [decide_eq_false (by omega), eq_comm, List.any_eq_false]
      intro c hc
      obtain ⟨j, hj, e2⟩ := List.mem_iff_getElem.1 hc
      rw [List.length_take] at hj
      rw [List.getElem_take] at e2
      rw [decide_eq_true_eq, ← e2]
      exact hm2 j (by omega) (by omega)
  · exact absurd e (h k hk)
/-- few columns with short names -/
def fewC (L : List ColV) : Bool := decide (L.length ≤ 12) && L.all fun c => decide (c.name.size ≤ 300)
theorem fewC_long {L : List ColV} (h : 12 < L.length) : fewC L = false := by unfold fewC; rw [decide_eq_false (by omega)]; rfl
theorem fewC_no {L : List ColV} {k : Nat} (hk : k < L.length) (h : 300 < L[k].name.size) : fewC L = false := by
  unfold fewC
  rw [show (L.all fun c => decide (c.name.size ≤ 300)) = false from ?_, Bool.and_false]
  rw [List.all_eq_false]
  exact ⟨L[k], List.getElem_mem hk, by rw [decide_eq_true_eq]; omega⟩
theorem fewC_yes {L : List ColV} (h0 : L.length ≤ 12) (h : ∀ j (hj : j < L.length), L[j].name.size ≤ 300) : fewC L = true := by
  unfold fewC
  rw [decide_eq_true h0, Bool.true_and, List.all_eq_true]
  intro c hc
  obtain ⟨j, hj, e⟩ := List.mem_iff_getElem.1 hc
  rw [decide_eq_true_eq, ← e]
  exact h j hj
theorem fewC_is {L : List ColV} (h : fewC L = true) : L.length ≤ 12 ∧ ∀ c ∈ L, c.name.size ≤ 300 := by
  unfold fewC at h
  rw [Bool.and_eq_true, decide_eq_true_eq, List.all_eq_true] at h
  exact ⟨h.1, fun c hc => by have := h.2 c hc; rwa [decide_eq_true_eq] at this⟩
end Go.Proofs.YtmkllibfblacfaaDoor
