/-
  Layer 14, the program's: Names.
-/
import Derived.Test.YtmkckbidfpinfaaDoorPk5
import Derived.Test.YtmkckbidfpinfaaDoorZSynPrI
namespace Go.Proofs.YtmkckbidfpinfaaDoor
open Go.RowKit Go.Shelf
open Sx (X)
attribute [local go_sem] Oper.semAt_some
abbrev fStr (s : ByteArray) : List Value := [.string s]
theorem str_parts : (Tryd.prog.info? 9).map (fun i => (i.zero, i.size, i.bytes)) = some (some (.string ⟨#[]⟩), 1, 16) := by kernel_rfl
theorem str_elem14 : ElemOk Tryd.prog 9 1 16 := elemOk_of str_parts rfl (by decide) (by decide)
theorem fStr_one (s : ByteArray) : ∀ u ∈ fStr s, u.oneCell' = true := by intro u hu; simp [fStr] at hu; subst hu; rfl
abbrev unitV (_ : Unit) : Value := .agg #[]
abbrev unitL (_ : Unit) : Lit := .int .i64 0
theorem codedU : CodedS unitV unitL := ⟨fun _ _ _ => rfl, fun _ _ _ => rfl⟩
/-- the set of a list of names -/
def setS (l : List ByteArray) (s : ByteArray) : Option Unit := if Sx.memB s l = true then some () else none
theorem setS_in {l : List ByteArray} {s : ByteArray} (h : Sx.memB s l = true) : setS l s = some () := if_pos h
theorem setS_out {l : List ByteArray} {s : ByteArray} (h : ¬ Sx.memB s l = true) : setS l s = none := if_neg h
theorem setS_add (l : List ByteArray) (s : ByteArray) : setS (l ++ [s]) = fun j => if j = s then some () else setS l j := by
  funext j
  unfold setS
  have e : Sx.memB j (l ++ [s]) = (Sx.memB j l || decide (s = j)) := by unfold Sx.memB; rw [List.any_append]; simp
  rw [e]
  by_cases h : j = s
  · subst h; simp
  · have h2 : decide (s = j) = false := decide_eq_false fun x => h x.symm
    rw [if_neg h, h2, Bool.or_false]
theorem survR_map {B T b n : Nat} {f : ByteArray → Option Unit} (hb : b < B) : SurvR B T (fun W => MapS unitV unitL W b n f) := fun _ _ _ hJ hg hr =>
  mapS_block hJ (hg.block b (mapS_lt hJ) fun e => by have := (hr b e.symm).1; omega)
theorem addN_len (l : List ByteArray) : (Sx.addN [] l).length ≤ l.length := by
  obtain ⟨r, h1, h2⟩ := Sx.addN_sub l []
  rw [h1, List.nil_append]
  exact h2.length_le
theorem kpN_put {m B2 l : Nat} {W : World} {o : Obj} (o' : Obj) (hl : m ≤ l) (h2 : l < B2) (ho : W.heap[l]? = some o) (hc : o.isCells = false) : KpN m B2 W (W.putObj l o') := by
  have hp := putObj_only W l o'
  refine ⟨hp.size, fun j hj hlt => hp.block j hlt fun h => ?_, fun j cs fz hj => hp.block j (Array.getElem?_eq_some_iff.1 hj).1 fun h => ?_, fun j cs T fz hB hj hT => hp.block j (Array.getElem?_eq_some_iff.1 hj).1 fun h => ?_, fun j o2 hB hj hn => (hp.block j (Array.getElem?_eq_some_iff.1 hj).1 fun h => ?_).trans hj⟩
  · have e : j = l := h
    omega
  · have e : j = l := h
    subst e
    rw [ho] at hj
    injection hj with hj
    rw [hj] at hc
    cases hc
  · have e : j = l := h
    omega
  · have e : j = l := h
    omega
theorem kpN_below {m B2 : Nat} {W W' : World} (hb : Below W.heap.size W W') : KpN m B2 W W' :=
  ⟨hb.size, fun j _ hl => hb.block j hl, fun j _ _ hc => hb.block j (Array.getElem?_eq_some_iff.1 hc).1, fun j _ _ _ _ hc _ => hb.block j (Array.getElem?_eq_some_iff.1 hc).1, fun j _ _ ho _ => (hb.block j (Array.getElem?_eq_some_iff.1 ho).1).trans ho⟩
/-- a turn of blocks that are the caller's own, or hold texts -/
theorem kpN_only {F : Nat → Prop} {m B2 : Nat} {W W' : World} (ho : Only F W W') (hF : ∀ k, F k → m ≤ k ∧ (k < B2 ∧ (∀ cs fz, W.heap[k]? ≠ some (.cells cs 83 fz)) ∨ ∃ cs fz, W.heap[k]? = some (.cells cs 9 fz))) : KpN m B2 W W' := by
  refine ⟨ho.size, fun j hj hl => ho.block j hl fun h => ?_, fun j cs fz hc => ho.block j (Array.getElem?_eq_some_iff.1 hc).1 fun h => ?_, fun j cs T fz hB hc hT => ho.block j (Array.getElem?_eq_some_iff.1 hc).1 fun h => ?_, fun j o hB hoj hn => (ho.block j (Array.getElem?_eq_some_iff.1 hoj).1 fun h => ?_).trans hoj⟩
  · have := (hF j h).1; omega
  · rcases (hF j h).2 with h1 | ⟨cs', fz', h1⟩
    · exact h1.2 cs fz hc
    · rw [hc] at h1
      injection h1 with h1
      injection h1 with _ h1
      exact absurd h1 (by decide)
  · rcases (hF j h).2 with h1 | ⟨cs', fz', h1⟩
    · omega
    · rw [hc] at h1
      injection h1 with h1
      injection h1 with _ h1
      exact hT h1
  · rcases (hF j h).2 with h1 | ⟨cs', fz', h1⟩
    · omega
    · rw [hoj] at h1
      injection h1 with h1
      rw [h1] at hn
      cases hn
/-- a list of texts lies in cells of texts -/
theorem owStr_cells {W : World} {B : Nat} {v : Value} {l : List ByteArray} (h : OwL fStr 9 1 W B v l) : ∀ j, v.ownBlock = some j → B ≤ j ∧ j < W.heap.size ∧ ∃ cs, W.heap[j]? = some (.cells cs 9 (0, 0)) := by
  intro j e
  rcases h.2 with ⟨rfl, _⟩ | ⟨g, cap, cur, rfl, hb, hh, _⟩
  · cases e
  · have e2 : g = j := by simpa [Value.ownBlock] using e
    subst e2
    exact ⟨hb, (Array.getElem?_eq_some_iff.1 hh).1, cur, hh⟩
/-- what Names tells -/
def NamesP (mk : Prop) (x : X) (w : World) (e : Ending) (w' : World) : Prop :=
  ∃ (ao : Option Addr) (cp : Nat) (LL : List ByteArray), e = .returned (.slice ao LL.length cp) ∧ OwL fStr 9 1 w' w.heap.size (.slice ao LL.length cp) LL ∧ Below w.heap.size w w' ∧ ∃ pre rest, pre ++ rest = Sx.po x 1 ∧ LL = Sx.addN [] (Sx.nmL pre) ∧ (rest = [] ∨ mk)
end Go.Proofs.YtmkckbidfpinfaaDoor
