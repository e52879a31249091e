/-
  Layer 15, the program's: Kind.
-/
import Derived.Test.YtmkllibfblacfaaDoorPk5
import Derived.Test.YtmkllibfblacfaaDoorZTypUp2
import Derived.Test.YtmkllibfblacfaaDoorZTypMath2
import Derived.Test.YtmkllibfblacfaaDoorPk6
namespace Go.Proofs.YtmkllibfblacfaaDoor
open Go.RowKit Go.Shelf
open Sx (X)
attribute [local go_sem] Oper.semAt_some
namespace Upw
abbrev fK (k : Int) : List Value := [.int .i64 k]
theorem kind_parts : (Tryd.prog.info? 27).map (fun i => (i.zero, i.size, i.bytes)) = some (some (.int .i64 0), 1, 8) := by kernel_rfl
theorem kind_elem : ElemOk Tryd.prog 27 1 8 := elemOk_of kind_parts rfl (by decide) (by decide)
theorem fK_one (k : Int) : ∀ u ∈ fK k, u.oneCell' = true := by intro u hu; simp [fK] at hu; subst hu; rfl
/-- what Kind tells -/
def KindP (mk : Prop) (cs : List Ty.Col) (x : X) (w : World) (e : Ending) (w' : World) : Prop :=
  ∃ k r : Int, e = .returned (.tuple #[.int .i64 k, .int .i64 r]) ∧ Below w.heap.size w w' ∧ ((k, r) = (if Sx.allR (Sx.po x 1) = true then Ty.kd cs x else ((0 : Int), (2 : Int))) ∨ (mk ∧ k = 0 ∧ r = 2))
theorem results_cells15 {fn : Func} {p q : Tmp} (h : fn.results = #[.cell p 27, .cell q 22]) (tmps : Array Value) (w : World) (g g' : Nat) (k r : Int) (hp : tmps.getD p undef = .pointer (some ⟨g, 0, none⟩)) (hq : tmps.getD q undef = .pointer (some ⟨g', 0, none⟩)) (hk : RowV w g 27 [.int .i64 k]) (hr : RowV w g' 22 [.int .i64 r]) :
    (results fn tmps).run Tryd.prog w = .ok (.tuple #[.int .i64 k, .int .i64 r]) w := by
  have hl : (loadVar 27 ⟨g, 0, none⟩).run Tryd.prog w = .ok (.int .i64 k) w := by
    have c := rowV_cell hk 0
    simp only [List.getElem?_cons_zero] at c
    go_simp
  have hl2 : (loadVar 22 ⟨g', 0, none⟩).run Tryd.prog w = .ok (.int .i64 r) w := by
    have c := rowV_cell hr 0
    simp only [List.getElem?_cons_zero] at c
    go_simp
  have hp' : tmps[p]?.getD undef = .pointer (some ⟨g, 0, none⟩) := by simpa using hp
  have hq' : tmps[q]?.getD undef = .pointer (some ⟨g', 0, none⟩) := by simpa using hq
  simp [results, h, hp', hq', asAddr, hl, hl2]
/-- the first of a list, in its own row -/
theorem owL_take15 {α : Type} {f : α → List Value} {E k B : Nat} (hf : ∀ x, (f x).length = k) {w : World} {al : Option Addr} {cp : Nat} : ∀ (d : Nat) {l : List α}, d ≤ l.length → OwL f E k w B (.slice al l.length cp) l → OwL f E k w B (.slice al (l.length - d) cp) (l.take (l.length - d))
  | 0, l, _, h => by rw [Nat.sub_zero, List.take_length]; exact h
  | d + 1, l, hd, h => by
    have h1 := owL_take15 hf d (by omega) h
    have hlt : l.length - (d + 1) < l.length := by omega
    have e : l.length - d = (l.length - (d + 1)) + 1 := by omega
    rw [e, List.take_succ_eq_append_getElem hlt] at h1
    exact owL_pop hf h1 (by rw [List.length_take]; omega)
theorem _root_.Go.Proofs.YtmkllibfblacfaaDoor.Ty.kd_err {cs : List Ty.Col} : ∀ (x : X), (Ty.kd cs x).2 ≠ 0 → (Ty.kd cs x).1 = 0
  | .mk o v s l, h => by
    rw [Ty.kd] at h ⊢
    split
    · rename_i h0
      rw [if_pos h0] at h
      unfold Ty.own at h ⊢
      split
      · rename_i h1; rw [if_pos h1] at h; exact absurd rfl h
      · rename_i h1
        rw [if_neg h1] at h
        split
        · rename_i h2
          rw [if_pos h2] at h
          cases hl : Ty.look cs (X.mk o v s l).s with
          | none => rfl
          | some k => rw [hl] at h; exact absurd rfl h
        · rename_i h2
          rw [if_neg h2] at h
          split
          · rename_i h3; rw [if_pos h3] at h; exact absurd rfl h
          · rfl
    · rfl
mutual
theorem mem_up : ∀ (x y : X) (d : Nat), y ∈ Ty.up x → ∃ d', (y, d') ∈ Sx.po x d
  | .mk o v s l, y, d, h => by
    rw [Ty.up, List.mem_append, List.mem_singleton] at h
    rw [Sx.po]
    rcases h with h | h
    · obtain ⟨d', h⟩ := mem_upL l y (d + 1) h
      exact ⟨d', List.mem_cons_of_mem _ h⟩
    · subst h; exact ⟨d, List.mem_cons_self ..⟩
theorem mem_upL : ∀ (l : List X) (y : X) (d : Nat), y ∈ Ty.upL l → ∃ d', (y, d') ∈ Sx.poL l d
  | [], y, d, h => by rw [Ty.upL] at h; cases h
  | x :: r, y, d, h => by
    rw [Ty.upL, List.mem_append] at h
    rw [Sx.poL]
    rcases h with h | h
    · obtain ⟨d', h⟩ := mem_up x y d h
      exact ⟨d', List.mem_append_left _ h⟩
    · obtain ⟨d', h⟩ := mem_upL r y d h
      exact ⟨d', List.mem_append_right _ h⟩
end
theorem need_right {y : X} (h : Sx.rightN y = true) : Ty.need y.op ≤ y.l.length := by
  unfold Sx.rightN at h
  unfold Ty.need
  by_cases h1 : y.op = 1
  · rw [h1]; simp
  by_cases h2 : y.op = 2
  · rw [h2]; simp
  rw [if_neg h1, if_neg h2] at h
  simp only [Bool.and_eq_true, decide_eq_true_eq] at h
  obtain ⟨h3, h4, _⟩ := h
  have h5 : (8 ≤ y.op ∧ y.op ≤ 13 → cntP y.op = 2) ∧ (y.op = 16 → cntP y.op = 3) := by
    refine ⟨fun h => ?_, fun h => by rw [h]; decide⟩
    have : y.op = 8 ∨ y.op = 9 ∨ y.op = 10 ∨ y.op = 11 ∨ y.op = 12 ∨ y.op = 13 := by omega
    rcases this with e | e | e | e | e | e <;> rw [e] <;> decide
  split
  · rename_i h6; have := h5.1 h6; omega
  · split
    · rename_i h6; have := h5.2 h6; omega
    · exact Nat.zero_le _
theorem owL_block {α : Type} {f : α → List Value} {E k B : Nat} {w : World} {v : Value} {l : List α} (h : OwL f E k w B v l) : ∀ j, v.ownBlock = some j → B ≤ j ∧ j < w.heap.size ∧ ∃ cs fz, w.heap[j]? = some (.cells cs E fz) := by
  intro j e
  rcases h.2 with ⟨rfl, _⟩ | ⟨g, cap, cur, rfl, hb, hh, _⟩
  · cases e
  · obtain rfl : g = j := by simpa [Value.ownBlock] using e
    exact ⟨hb, (Array.getElem?_eq_some_iff.1 hh).1, _, _, hh⟩
theorem kind_size15 : (Tryd.prog.info? 27).map (·.size) = some 1 := by kernel_rfl
/-- the kinds from one on, read where the slice of them begins -/
theorem owL_from15 {w : World} {B cp FR : Nat} {al : Option Addr} {l : List Int} (h : OwL fK 27 1 w B (.slice al l.length cp) l) (hFR : FR ≤ l.length) : ReadsK w (if cp = FR then al else al.map (·.add (FR * 1))) (l.drop FR) := by
  intro i hi
  rw [List.length_drop] at hi
  obtain ⟨g, c', e, hc⟩ := owL_cell (f := fK) (fun _ _ => rfl) h (FR + i) (by omega)
  injection e with e1 _ e3
  subst e1; subst e3
  have hcap : l.length ≤ cp := by
    obtain ⟨_, _, e, hh, _⟩ := owL_form h
    injection e with _ _ e
    subst e; exact hh
  have hne : ¬ cp = FR := by omega
  rw [if_neg hne]
  refine ⟨g, FR, by simp [Addr.add]; exact fun h => h.symm, ?_⟩
  have h := (hc 0 _ rfl).1
  rw [Nat.mul_one, Nat.add_zero] at h
  rw [List.getElem_drop]; exact h
end Upw
end Go.Proofs.YtmkllibfblacfaaDoor
