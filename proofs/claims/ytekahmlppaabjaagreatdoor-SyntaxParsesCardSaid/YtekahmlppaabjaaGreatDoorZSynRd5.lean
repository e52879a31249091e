/-
  Layer 14: the document's reader of tokens: read.
-/
import Derived.Test.YtekahmlppaabjaaGreatDoorZSynRd4
namespace Go.Proofs.YtekahmlppaabjaaGreatDoor
open Go.RowKit
open Sx (X toksOf isT)
theorem Sx.ifR_eq (L : List Lx.T) (f p : Nat) (hi : isT (toksOf L p) 1 [105, 102] = true) : Sx.ifR (fun q => Sx.rd (toksOf L) f 0 q) L p = Sx.rd (toksOf L) (f + 1) 0 p := by
  rw [Sx.rd_if hi]
  unfold Sx.ifR
  simp only
  generalize Sx.rd (toksOf L) f 0 (p + 1) = r1
  obtain ⟨o1, q1⟩ := r1
  cases o1 with
  | none => rfl
  | some a =>
    cases ht : isT (toksOf L q1) 1 [116, 104, 101, 110] with
    | false => simp [Sx.stB, Sx.stP, Sx.nx, ht, Sx.ifS]
    | true =>
      simp only [Sx.stB, Sx.stP, Sx.nx, ht, Option.isNone_some, Bool.false_or, Bool.not_true, Bool.false_eq_true, if_false, if_true]
      generalize Sx.rd (toksOf L) f 0 (q1 + 1) = r2
      obtain ⟨o2, q2⟩ := r2
      cases o2 with
      | none => rfl
      | some b =>
        cases he : isT (toksOf L q2) 1 [101, 108, 115, 101] with
        | false => simp [Sx.ifS, he]
        | true =>
          simp only [he, Option.isNone_some, Bool.false_or, Bool.not_true, Bool.false_eq_true, if_false, if_true]
          generalize Sx.rd (toksOf L) f 0 (q2 + 1) = r3
          obtain ⟨o3, q3⟩ := r3
          cases o3 <;> rfl
theorem Sx.negR_eq (L : List Lx.T) (f p : Nat) (hi : isT (toksOf L p) 4 [45] = true) : Sx.negR (Sx.rd (toksOf L) f 6 (p + 1)) = Sx.rd (toksOf L) (f + 1) 6 p := by
  rw [Sx.rd_neg hi]
  generalize Sx.rd (toksOf L) f 6 (p + 1) = r
  obtain ⟨o, q⟩ := r
  cases o <;> rfl
theorem Sx.fst_rd (L : List Lx.T) (f p : Nat) : Sx.fst L p (Sx.rd (toksOf L) f 0 (p + 1)) = Sx.rd (toksOf L) (f + 1) 7 p := by
  rw [Sx.rd_7]; unfold Sx.fst
  cases toksOf L p with
  | none => rfl
  | some t =>
    simp only
    cases Sx.leaf t with
    | some x => rfl
    | none => rfl
/-- what is read from a place on, at a level -/
theorem rread14_any {R : Nat} {al : Option Addr} {cap : Nat} {L : List Lx.T} (hL : L.length ≤ 1000000000) (hLS : ∀ t ∈ L, t.s.size ≤ maxLen) (hLr : ∀ t ∈ L, Lx.right t ∧ t.n ≤ Lx.maxI) (f : Nat) :
    ∀ lev p w, lev ≤ 7 → p ≤ L.length → 10 * (L.length - p) + (8 - lev) ≤ f → Rdr w R al cap L p false → Calls Tryz.prog 21 #[.pointer (some ⟨R, 0, none⟩), .int .i64 ((lev : Nat) : Int)] w (RdPost R al cap L (Sx.rd (toksOf L) f lev p) w) := by
  have hg := Sx.toksOf_right hLr
  have hout := fun f => (Sx.rd_out hg f).1
  have lt_of : ∀ p k s, isT (toksOf L p) k s = true → p < L.length := fun p k s h => by
    have := Sx.isT_some h
    rcases Nat.lt_or_ge p L.length with hh | hh
    · exact hh
    · rw [toksOf_no hh] at this; cases this
  induction f using Nat.strongRecOn with
  | ind f ih =>
    intro lev p w h7 hp hf h
    obtain ⟨f0, rfl⟩ : ∃ f0, f = f0 + 1 := ⟨f - 1, by omega⟩
    by_cases l7 : lev = 7
    · subst l7
      refine rread14_7 h fun w' h' => ?_
      rcases Nat.lt_or_ge p L.length with hh | hh
      · have ho := hout f0 0 (p + 1) hh
        rw [← Sx.fst_rd]
        exact rfirst14_one h' hh hL hLS _ (by have := ho.2.1; omega) fun w2 h2 => ih f0 (by omega) 0 (p + 1) w2 (by omega) hh (by omega) h2
      · have e : Sx.rd (toksOf L) (f0 + 1) 7 p = (none, p) := by rw [← Sx.fst_rd]; unfold Sx.fst; rw [toksOf_no hh]
        rw [e]
        exact rfirst14_no h' (.inr hh)
    · by_cases l0 : lev = 0
      · subst l0
        cases hi : isT (toksOf L p) 1 [105, 102] with
        | false =>
          rw [Sx.rd_up0 f0 hi]
          exact rread14_0 h hi fun w' h' => ih f0 (by omega) 1 p w' (by omega) hp (by omega) h'
        | true =>
          rw [← Sx.ifR_eq L f0 p hi]
          refine rread14_if (fun q => Sx.rd (toksOf L) f0 0 q) h (lt_of _ _ _ hi) hL (fun q hq => ⟨(hout f0 0 q hq).1, (hout f0 0 q hq).2.1⟩) hi fun q b w' hpq hq h' => ?_
          cases b with
          | true => exact rread14_b h' 0
          | false => exact ih f0 (by omega) 0 q w' (by omega) hq (by omega) h'
      · by_cases l6 : lev = 6
        · subst l6
          cases hi : isT (toksOf L p) 4 [45] with
          | false =>
            rw [Sx.rd_up6 f0 hi]
            exact rread14_6 h hi fun w' h' => ih f0 (by omega) 7 p w' (by omega) hp (by omega) h'
          | true =>
            have hlt := lt_of _ _ _ hi
            rw [← Sx.negR_eq L f0 p hi]
            exact rread14_neg h (by omega) hi fun w' h' => ih f0 (by omega) 6 (p + 1) w' (by omega) hlt (by omega) h'
        · have hm := Sx.rd_mid (g := toksOf L) f0 (lev := lev) (p := p) (by omega) (by omega)
          refine rread14_mid lev f0 (Sx.rd (toksOf L) (f0 + 1) lev p) (by omega) (by omega) h hp hL (by omega) (fun q e => by rw [hm, e]) (fun x q e => by rw [hm, e]) (fun f' q hq => ?_) (fun f' q w' hf' hq hfq h' => ih f' (by omega) (lev + 1) q w' (by omega) hq (by omega) h')
          have ho := hout f' (lev + 1) q hq
          exact ⟨ho.1, ho.2.1, fun x hx => (ho.2.2 x hx).2.2⟩
end Go.Proofs.YtekahmlppaabjaaGreatDoor
