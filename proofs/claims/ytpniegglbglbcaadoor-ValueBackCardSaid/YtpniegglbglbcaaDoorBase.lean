/-
  Small words that every layer uses: ends of a walk, strings unlike, slices that read as strings, blocks above.
-/
import Derived.WalkKit
import Derived.WalkSpells
import Derived.WalkLawsBesides
import Derived.Deep.Draws
import Derived.Deep.QuietTactic
import Derived.BigQuiet
import Derived.OpenShut
import Derived.Lib.Hide
import Derived.Below
namespace Go.Proofs.YtpniegglbglbcaaDoor
open Go.RowKit

theorem ret_int {k : IntKind} {a b : Int} (h : a = b) : Ending.returned (.int k a) = .returned (.int k b) := by rw [h]
theorem ret_str {a b : ByteArray} (h : a = b) : Ending.returned (.string a) = .returned (.string b) := by rw [h]
theorem str_ne (A : ByteArray) (h : 0 < A.size) : ¬ A.toList = [] ∧ (!A.toList.isEmpty) = true := by
  have h1 : ¬ A.toList = [] := by
    rw [ByteArray.toList_eq]; intro h2
    have := congrArg List.length h2
    have e : A.data.size = A.size := rfl
    rw [Array.length_toList, List.length_nil] at this; omega
  refine ⟨h1, ?_⟩
  cases hA : A.toList with
  | nil => exact absurd hA h1
  | cons a l => rfl
theorem str_neq {A B : ByteArray} (h : A ≠ B) : ¬ A.toList = B.toList := by
  rw [ByteArray.toList_eq, ByteArray.toList_eq]; exact fun h2 => h (Go.WideShapes.bytes_inj h2)
theorem str_beq {A B : ByteArray} (h : ¬ A.toList = B.toList) : (A.toList == B.toList) = false := by simpa using h
theorem below_two {w w1 w2 : World} (h1 : Below w.heap.size w w1) (h2 : Below w1.heap.size w1 w2) : Below w.heap.size w w2 := h1.trans (h2.mono h1.size)
/-- the slice at a reads as the strings l -/
def ReadsS (w : World) (a : Option Addr) (l : List ByteArray) : Prop := ∀ i (h : i < l.length), ∃ b off, a = some ⟨b, off, none⟩ ∧ w.cell? ⟨b, off + i, none⟩ = some (.string (l[i]))
theorem readsS_none (w : World) (a : Option Addr) : ReadsS w a [] := by intro i hi; simp at hi
theorem readsS_open {w : World} {a : Addr} {len cap : Nat} {ss : List ByteArray} (hl : len ≤ cap) (hm : cap ≤ maxLen) (hz : ss.length = cap)
    (hcell : ∀ i, i < ss.length → w.cell? (a.add i) = some (.string (ss.getD i ByteArray.empty))) (hws : ∀ s ∈ ss, s.size ≤ maxLen) :
    ∃ l : List ByteArray, l.length = len ∧ l.length ≤ maxLen ∧ (∀ x ∈ l, x.size ≤ maxLen) ∧ ReadsS w (some a) l := by
  refine ⟨ss.take len, by rw [List.length_take]; omega, by rw [List.length_take]; omega, fun x hx => hws x (List.mem_of_mem_take hx), ?_⟩
  intro i hi
  have hi2 : i < ss.length := by rw [List.length_take] at hi; omega
  obtain ⟨b, off, spot⟩ := a
  have hc := hcell i hi2
  have hs : spot = none := by
    have h0 := hcell 0 (by omega)
    simpa [Addr.add] using World.cell?_spot h0
  subst hs
  refine ⟨b, off, rfl, ?_⟩
  have e : (⟨b, off, none⟩ : Addr).add i = ⟨b, off + i, none⟩ := by unfold Addr.add; split <;> simp_all
  rw [e] at hc
  rw [hc, List.getElem_take]
  simp [List.getD, List.getElem?_eq_getElem hi2]
theorem readsS_below {w w' : World} {a : Option Addr} {l : List ByteArray} (h : ReadsS w a l) (hb : Below w.heap.size w w') : ReadsS w' a l := by
  intro i hi
  obtain ⟨b, off, h1, h2⟩ := h i hi
  exact ⟨b, off, h1, by rw [hb.cell (World.block_lt_of_cell? w _ h2)]; exact h2⟩
end Go.Proofs.YtpniegglbglbcaaDoor
