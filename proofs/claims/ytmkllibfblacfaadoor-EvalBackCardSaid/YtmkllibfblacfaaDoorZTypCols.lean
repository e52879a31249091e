/-
  Layer 15: which columns there may be: the program's Columns, and the document's.
-/
import Derived.Test.YtmkllibfblacfaaDoorPk5
import Derived.Test.YtmkllibfblacfaaDoorPk4
import Derived.Test.YtmkllibfblacfaaDoorPk2
namespace Go.Proofs.YtmkllibfblacfaaDoor
open Go.RowKit Go.Shelf
attribute [local go_sem] Oper.semAt_some
namespace Ty
/-- why a column may not be: the names ahead of it, its own, its kind -/
def badC (pre : List ByteArray) (nm : ByteArray) (k : Int) : Int := if (Lx.nameB nm && !(pre.any fun a => decide (a = nm))) = true then (if 1 ≤ k ∧ k ≤ 3 then 0 else 14) else 13
def bad (L : List ColV) (j : Nat) : Int := badC ((L.take j).map (·.name)) (L.getD j ⟨Vl.mt, 0, none, 0, 0⟩).name (L.getD j ⟨Vl.mt, 0, none, 0, 0⟩).kind
/-- why columns may not be -/
def ColsR (L : List ColV) (r : Int) : Prop := (6 < L.length ∧ r = 24) ∨ (L.length ≤ 6 ∧ ((∃ k, k < L.length ∧ (∀ j, j < k → bad L j = 0) ∧ bad L k = r ∧ r ≠ 0) ∨ ((∀ j, j < L.length → bad L j = 0) ∧ r = 0)))
theorem colsR_one {L : List ColV} {r q : Int} (h : ColsR L r) (g : ColsR L q) : r = q := by
  rcases h with ⟨h1, h2⟩ | ⟨h1, h2⟩
  · rcases g with ⟨g1, g2⟩ | ⟨g1, g2⟩
    · rw [h2, g2]
    · omega
  · rcases g with ⟨g1, g2⟩ | ⟨g1, g2⟩
    · omega
    · rcases h2 with ⟨k, hk, hk1, hk2, hk3⟩ | ⟨hk, h3⟩
      · rcases g2 with ⟨m, hm, hm1, hm2, hm3⟩ | ⟨hm, g3⟩
        · rcases Nat.lt_trichotomy k m with h | h | h
          · exact absurd (hk2.symm.trans (hm1 k h)) hk3
          · subst h; rw [← hk2, hm2]
          · exact absurd (hm2.symm.trans (hk1 m h)) hm3
        · exact absurd (hk2.symm.trans (hm k hk)) hk3
      · rcases g2 with ⟨m, hm, hm1, hm2, hm3⟩ | ⟨hm, g3⟩
        · exact absurd (hm2.symm.trans (hk m hm)) hm3
        · rw [h3, g3]
theorem bad_at {L : List ColV} {k : Nat} (h : k < L.length) : bad L k = badC ((L.take k).map (·.name)) L[k].name L[k].kind := by unfold bad; rw [List.getD_eq_getElem?_getD, List.getElem?_eq_getElem h]; rfl
theorem bad_13a {L : List ColV} {k : Nat} (h : k < L.length) (h1 : Lx.nameB L[k].name = false) : bad L k = 13 := by rw [bad_at h]; unfold badC; rw [h1]; rfl
theorem bad_13b {L : List ColV} {k : Nat} (h : k < L.length) (h1 : (L.take k).any (fun c => decide (c.name = L[k].name)) = true) : bad L k = 13 := by
  rw [bad_at h]; unfold badC
  have : ((L.take k).map (·.name)).any (fun a => decide (a = L[k].name)) = true := by rw [List.any_map]; exact h1
  rw [this, Bool.not_true, Bool.and_false]; rfl
theorem bad_14 {L : List ColV} {k : Nat} (h : k < L.length) (h0 : Lx.nameB L[k].name = true) (h1 : (L.take k).any (fun c => decide (c.name = L[k].name)) = false) : bad L k = if 1 ≤ L[k].kind ∧ L[k].kind ≤ 3 then 0 else 14 := by
  rw [bad_at h]; unfold badC
  have : ((L.take k).map (·.name)).any (fun a => decide (a = L[k].name)) = false := by rw [List.any_map]; exact h1
  rw [this, h0]; rfl
end Ty
theorem readsC_at {w : World} {al : Option Addr} {L : List ColV} (h : ReadsC w al L) {k : Nat} (hk : k < L.length) : ∃ b off, al = some ⟨b, off, none⟩ ∧ w.cell? ⟨b, off + k * 3, none⟩ = some (.string L[k].name) ∧ w.cell? ⟨b, off + k * 3 + 1, none⟩ = some (.int .i64 L[k].kind) ∧ w.cell? ⟨b, off + k * 3 + 2, none⟩ = some (.slice L[k].oa L[k].on L[k].oc) := h k hk
theorem readsC_take {w : World} {al : Option Addr} {L : List ColV} (h : ReadsC w al L) (k : Nat) : ReadsC w al (L.take k) := fun i hi => by
  rw [List.length_take] at hi
  obtain ⟨b, off, e, h0, h1, h2⟩ := h i (by omega)
  rw [List.getElem_take]
  exact ⟨b, off, e, h0, h1, h2⟩
theorem col_size15 : (Tryd.prog.info? 40).map (·.size) = some 3 := by kernel_rfl
theorem elem_col15 : Tryd.prog.elem 41 = 40 := by kernel_rfl
theorem slice_frontC15 (la : Option Addr) (n cap k : Nat) (hk : k ≤ cap) (w : World) : (Instr.slice 41 (.slice la n cap) none (some (.int .i64 (k : Int))) none).run Tryd.prog w = .ok (.slice la k cap) w := by
  obtain ⟨i0, hi0, hz⟩ := Option.map_eq_some_iff.1 col_size15
  rw [run_slice_h (P := Tryd.prog) w 41 la n cap (by rw [elem_col15]; exact Tryd.underlying41) .i64 k (by omega) (by omega)]
  cases la <;> simp [elem_col15, sizeOf, typeInfo, hi0, Result.andThen, sliced, Addr.add]
/-- is one among them of that name? -/
def IxC (L : List ColV) (nm : ByteArray) (w : World) (e : Ending) (w' : World) : Prop :=
  ∃ r : Int, e = .returned (.int .i64 r) ∧ decide (r ≥ 0) = (L.any fun c => decide (c.name = nm)) ∧ Below w.heap.size w w'
theorem ixC_yes {L : List ColV} {nm : ByteArray} {k : Nat} (hk : k < L.length) (h : L[k].name = nm) : decide ((k : Int) ≥ 0) = (L.any fun c => decide (c.name = nm)) := by
  rw [decide_eq_true (by omega), eq_comm, List.any_eq_true]
  exact ⟨L[k], List.getElem_mem hk, decide_eq_true h⟩
theorem ixC_no {L : List ColV} {nm : ByteArray} (h : ∀ j (hj : j < L.length), L[j].name ≠ nm) : decide ((-1 : Int) ≥ 0) = (L.any fun c => decide (c.name = nm)) := by
  rw [decide_eq_false (by omega), eq_comm, List.any_eq_false]
  intro c hc
  obtain ⟨j, hj, e⟩ := List.mem_iff_getElem.1 hc
  rw [decide_eq_true_eq, ← e]
  exact h j hj
end Go.Proofs.YtmkllibfblacfaaDoor
