/-
  Layer 14, the program's: an expression and all within it, in a list.
-/
import Derived.Test.YtmkckbidfpinfaaDoorPk5
namespace Go.Proofs.YtmkckbidfpinfaaDoor
open Go.RowKit Go.Shelf
open Sx (X)
attribute [local go_sem] Oper.semAt_some
section
variable {B T E k N : Nat}
theorem survR_own {α : Type} {f : α → List Value} {v : Value} {l : List α} {B' : Nat} (hE : E ≠ T) : SurvR B T (fun W => OwL f E k W B' v l) := fun A A' row hJ hg hr => by
  refine ⟨hJ.1, ?_⟩
  rcases hJ.2 with hn | ⟨g, cap, cur, e, hb, hh, r⟩
  · exact .inl hn
  · refine .inr ⟨g, cap, cur, e, hb, (hg.block g (Array.getElem?_eq_some_iff.1 hh).1 fun e2 => ?_).trans hh, r⟩
    obtain ⟨_, o, ho, hc⟩ := hr g e2.symm
    rw [hh] at ho
    injection ho with ho
    subst ho
    rcases hc with hc | ⟨cs, fz, hc⟩
    · cases hc
    · injection hc with _ hc
      exact hE hc
theorem survR_ex {β : Type} {J : β → World → Prop} (h : ∀ b, SurvR B T (J b)) : SurvR B T (fun W => ∃ b, J b W) := fun A A' row hJ hg hr => by
  obtain ⟨b, hb⟩ := hJ
  exact ⟨b, h b A A' row hb hg hr⟩
end
/-- an append of a part: both orders of its last two stores -/
theorem app_both {W6 : World} {N gg cp n B T : Nat} {LL : List Part14} {u : Value} (hown : OwL fX 36 6 W6 B (.slice (some ⟨gg, 0, none⟩) (n + 1) cp) (LL ++ [(Sx.no, none, 0)])) (hn : LL.length = n) (hr : RowV W6 N T [u]) (hg : gg ≠ N) (z : X) (az : Option Addr) (cz : Nat) (v : Value) :
    (OwL fX 36 6 ((put6 W6 gg (n * 6) z az cz).setCell ⟨N, 0, none⟩ v) B (.slice (some ⟨gg, 0, none⟩) (n + 1) cp) (LL ++ [(z, az, cz)]) ∧ RowV ((put6 W6 gg (n * 6) z az cz).setCell ⟨N, 0, none⟩ v) N T [v] ∧ Only (fun k => k = gg ∨ k = N) W6 ((put6 W6 gg (n * 6) z az cz).setCell ⟨N, 0, none⟩ v)) ∧
    (OwL fX 36 6 (put6 (W6.setCell ⟨N, 0, none⟩ v) gg (n * 6) z az cz) B (.slice (some ⟨gg, 0, none⟩) (n + 1) cp) (LL ++ [(z, az, cz)]) ∧ RowV (put6 (W6.setCell ⟨N, 0, none⟩ v) gg (n * 6) z az cz) N T [v] ∧ Only (fun k => k = gg ∨ k = N) W6 (put6 (W6.setCell ⟨N, 0, none⟩ v) gg (n * 6) z az cz)) := by
  subst hn
  have ost := fun (wx : World) => (Only.refl (fun k => k = N) wx).setCell (g := N) (i := 0) (fun _ => rfl) v
  have hb : ∀ {j}, (Value.slice (some ⟨gg, 0, none⟩) (LL.length + 1) cp).ownBlock = some j → gg = j := fun e => by simpa [Value.ownBlock] using e
  refine ⟨⟨owL_only (put6_owns hown z az cz) (ost _) fun j e e2 => hg ((hb e).trans e2), rowV_set15 (rowV_only hr (put6_only W6 gg (LL.length * 6) z az cz) fun e => hg e.symm) v, ((put6_only W6 gg (LL.length * 6) z az cz).mono fun k _ e => .inl e).trans (ost _) fun k _ e => .inr e⟩,
    ⟨put6_owns (owL_only hown (ost W6) fun j e e2 => hg ((hb e).trans e2)) z az cz, rowV_only (rowV_set15 hr v) (put6_only _ gg (LL.length * 6) z az cz) fun e => hg e.symm, ((ost W6).mono fun k _ e => .inr e).trans (put6_only _ gg (LL.length * 6) z az cz) fun k _ e => .inl e⟩⟩
theorem owL_base14 {α : Type} {f : α → List Value} {E k B B' : Nat} {w : World} {v : Value} {l : List α} (h : OwL f E k w B v l) (hB : B' ≤ B) : OwL f E k w B' v l := by
  refine ⟨h.1, ?_⟩
  rcases h.2 with hn | ⟨g, cap, cur, e, hb, r⟩
  · exact .inl hn
  · exact .inr ⟨g, cap, cur, e, Nat.le_trans hB hb, r⟩
abbrev pick {w0 : World} {m : Nat} {Gd : X → Option Addr → Prop} {mk : Prop} (y : PA w0 m Gd mk) : Part14 := (y.1.1, y.1.2.1, y.1.2.2.1)
end Go.Proofs.YtmkckbidfpinfaaDoor
