/-
  Layer 14, the program's: an expression is read, with a list of what waits.
-/
import Derived.Test.YtmkllibfblacfaaDoorPk5
import Derived.Test.YtmkllibfblacfaaDoorPk6
import Derived.Deep.LoopGhost
namespace Go.Proofs.YtmkllibfblacfaaDoor
open Go.RowKit
open Sx (X toksOf isT)
def FrR (R : Nat) (a : Act) : Prop := ∃ u1 u2 u3 u4 u5 u6 u7 u8 u9 u10 u11 u12 u13 u14 u15 u16 u17 u18 u19 u20 u21 u22 u23 u24 u25 u26 u27 u28 u29 u30 u31 u32 u33 u34 u35 u36 u37 u38 u39 u40 u41 u42 u43 u44 : Value, a = { tmps := #[.pointer (some ⟨R, 0, none⟩), u1, u2, u3, u4, u5, u6, u7, u8, u9, u10, u11, u12, u13, u14, u15, u16, u17, u18, u19, u20, u21, u22, u23, u24, u25, u26, u27, u28, u29, u30, u31, u32, u33, u34, u35, u36, u37, u38, u39, u40, u41, u42, u43, u44], defers := [] }
theorem toks_lt {L : List Lx.T} {p : Nat} (h : (toksOf L p).isSome = true) : p < L.length := by
  rcases Nat.lt_or_ge p L.length with hh | hh
  · exact hh
  · rw [toksOf_no hh] at h; cases h
theorem leafO_lt {L : List Lx.T} {p : Nat} {x : X} (h : Sx.leafO (toksOf L p) = some x) : p < L.length := by
  refine toks_lt ?_
  cases hh : toksOf L p with
  | none => rw [hh] at h; cases h
  | some t => rfl
theorem opOf_lt {L : List Lx.T} {p : Nat} {op : Int} (h : Sx.opOf (toksOf L p) = some op) : p < L.length := toks_lt (Sx.isT_some (Sx.opOf_some h).2)
theorem map_snoc {ws : List Wb} {V : List Sx.B} {b : Sx.B} (h : ws.map toB = V ++ [b]) : ∃ V' b', ws = V' ++ [b'] ∧ V'.map toB = V ∧ toB b' = b := by
  obtain ⟨V', r, rfl, h1, h2⟩ := List.map_eq_append_iff.1 h
  obtain ⟨b', r', rfl, h3, h4⟩ := List.map_eq_cons_iff.1 h2
  obtain rfl := List.map_eq_nil_iff.1 h4
  exact ⟨V', b', rfl, h1, h3⟩
theorem cnt_of {b : Sx.B} (h : b.op = 0 ∨ b.op = 3 ∨ b.op = 16 ∨ (4 ≤ b.op ∧ b.op ≤ 15)) (h0 : b.op ≠ 0) : Sx.count b.op = cntP b.op := by
  obtain ⟨op, l, v⟩ := b
  simp only at h h0 ⊢
  unfold Sx.count cntP
  rcases h with h | h | h | h
  · exact absurd h h0
  · subst h; rfl
  · subst h; rfl
  · rw [if_neg (by omega), if_neg (by omega), if_neg (by omega), if_pos h, if_neg (by omega), if_pos h]
theorem cnt_le (op : Int) : cntP op ≤ 3 := by unfold cntP; (repeat' split) <;> omega
theorem exit_then {P : Program} {c : Code} {a : Act} {w : World} {Q Q' : Exit → Act → World → Prop} (h : c.wp P Q' a w) (hq : ∀ e a w, Q' e a w → Q e a w) : c.wp P Q a w := Code.wp_mono hq h
theorem ask_kind {b : Sx.B} {k : Int} {s : List UInt8} (h : Sx.askW b = some (k, s)) : ((k = 1 ∧ Lx.word false s = s.length ∧ s ≠ []) ∨ (k = 4 ∧ s ∈ Lx.marks)) ∧ 0 < (Lx.mk s).size := by
  unfold Sx.askW at h
  split at h
  · cases h; exact ⟨.inr ⟨rfl, by decide⟩, by decide⟩
  · split at h
    · cases h; exact ⟨.inl ⟨rfl, by decide, by decide⟩, by decide⟩
    · split at h
      · cases h; exact ⟨.inl ⟨rfl, by decide, by decide⟩, by decide⟩
      · cases h
end Go.Proofs.YtmkllibfblacfaaDoor
