/-
  Layer 15 (plain): which kind an expression's value has; by a stack, each part behind its own parts; with a value in place of null.
-/
import Derived.Test.YtmkckbidfpinfaaDoorZSynPrL
namespace Go.Proofs.YtmkckbidfpinfaaDoor
open Sx (X)
namespace Ty
/-- do two kinds go together? -/
def fits (a b : Int) : Bool := decide (a = b) || (decide (a = 0) || decide (b = 0))
def all (want : Int) (ks : List Int) : Bool := ks.all fun k => fits k want
def some2 (a b : Int) : Int := if a = 0 then b else a
/-- the kind of what an op makes of parts of these kinds, and whether they may be its parts -/
def result (op : Int) (ks : List Int) : Int × Bool :=
  if op = 4 then (if all 1 ks then (1, true) else (2, all 2 ks))
  else if op = 8 ∨ op = 9 then (3, fits (ks.getD 0 0) (ks.getD 1 0))
  else if op = 10 ∨ op = 11 ∨ op = 12 ∨ op = 13 then (3, fits (ks.getD 0 0) (ks.getD 1 0) && !decide (some2 (ks.getD 0 0) (ks.getD 1 0) = 3))
  else if op = 14 ∨ op = 15 then (3, all 3 ks)
  else if op = 16 then (some2 (ks.getD 1 0) (ks.getD 2 0), all 3 [ks.getD 0 0] && fits (ks.getD 1 0) (ks.getD 2 0))
  else (1, all 1 ks)
/-- a column: its name, its kind -/
abbrev Col := ByteArray × Int
/-- the kind of the first column of a name -/
def look (cs : List Col) (s : ByteArray) : Option Int := (cs.find? fun c => decide (c.1 = s)).map (·.2)
/-- the kind, and the error, of an expression whose parts have these kinds -/
def own (cs : List Col) (x : X) (ks : List Int) : Int × Int :=
  if x.op = 1 then (x.v.kind, 0)
  else if x.op = 2 then (match look cs x.s with | some k => (k, 0) | none => (0, 13))
  else if (result x.op ks).2 = true then ((result x.op ks).1, 0) else (0, 14)
mutual
/-- an expression's kind, or its first error -/
def kd (cs : List Col) : X → Int × Int
  | .mk o v s l => if (kdL cs l).2 = 0 then own cs (.mk o v s l) (kdL cs l).1 else (0, (kdL cs l).2)
def kdL (cs : List Col) : List X → List Int × Int
  | [] => ([], 0)
  | x :: r => if (kd cs x).2 = 0 then (if (kdL cs r).2 = 0 then ((kd cs x).1 :: (kdL cs r).1, 0) else ([], (kdL cs r).2)) else ([], (kd cs x).2)
end
theorem kd_eq (cs : List Col) (x : X) : kd cs x = if (kdL cs x.l).2 = 0 then own cs x (kdL cs x.l).1 else (0, (kdL cs x.l).2) := by obtain ⟨o, v, s, l⟩ := x; rw [kd]; rfl
theorem kdL_len (cs : List Col) : ∀ l, (kdL cs l).2 = 0 → (kdL cs l).1.length = l.length
  | [], _ => rfl
  | x :: r, h => by
    rw [kdL] at h ⊢
    by_cases h1 : (kd cs x).2 = 0
    · rw [if_pos h1] at h ⊢
      by_cases h2 : (kdL cs r).2 = 0
      · rw [if_pos h2] at h ⊢
        show (_ :: (kdL cs r).1).length = _
        rw [List.length_cons, List.length_cons, kdL_len cs r h2]
      · rw [if_neg h2] at h; exact absurd h h2
    · rw [if_neg h1] at h; exact absurd h h1
mutual
/-- an expression and all within it, each behind its parts -/
def up : X → List X
  | .mk o v s l => upL l ++ [.mk o v s l]
def upL : List X → List X
  | [] => []
  | x :: r => up x ++ upL r
end
theorem up_eq (x : X) : up x = upL x.l ++ [x] := by obtain ⟨_, _, _, _⟩ := x; rw [up]; rfl
theorem upL_drop (l : List X) (i : Nat) (h : i < l.length) : upL (l.drop i) = up l[i] ++ upL (l.drop (i + 1)) := by
  rw [List.drop_eq_getElem_cons h, upL]
/-- one step: the kinds of what is whole already, the last ones those of the parts -/
def stp (cs : List Col) (st : List Int) (y : X) : List Int × Int :=
  if (own cs y (st.drop (st.length - y.l.length))).2 = 0 then (st.take (st.length - y.l.length) ++ [(own cs y (st.drop (st.length - y.l.length))).1], 0) else ([], (own cs y (st.drop (st.length - y.l.length))).2)
/-- through a list -/
def run (cs : List Col) : List X → List Int → List Int × Int
  | [], st => (st, 0)
  | y :: r, st => if (stp cs st y).2 = 0 then run cs r (stp cs st y).1 else ([], (stp cs st y).2)
theorem run_app (cs : List Col) : ∀ (l l' : List X) (st : List Int), run cs (l ++ l') st = if (run cs l st).2 = 0 then run cs l' (run cs l st).1 else ([], (run cs l st).2)
  | [], l', st => by rw [List.nil_append, run, if_pos rfl]
  | y :: r, l', st => by
    rw [List.cons_append, run, run]
    by_cases h : (stp cs st y).2 = 0
    · rw [if_pos h, if_pos h, run_app cs r l']
    · rw [if_neg h, if_neg h]
      show _ = if (stp cs st y).2 = 0 then _ else _
      rw [if_neg h]
mutual
theorem run_up (cs : List Col) : ∀ (x : X) (st : List Int), run cs (up x) st = if (kd cs x).2 = 0 then (st ++ [(kd cs x).1], 0) else ([], (kd cs x).2)
  | .mk o v s l, st => by
    rw [up, run_app, run_upL cs l st, kd]
    by_cases h : (kdL cs l).2 = 0
    · rw [if_pos h, if_pos h]
      have hl := kdL_len cs l h
      show (if (0 : Int) = 0 then _ else _) = _
      rw [if_pos rfl, run]
      have e1 : (st ++ (kdL cs l).1).length - l.length = st.length := by rw [List.length_append]; omega
      have e2 : stp cs (st ++ (kdL cs l).1) (.mk o v s l) = if (own cs (.mk o v s l) (kdL cs l).1).2 = 0 then (st ++ [(own cs (.mk o v s l) (kdL cs l).1).1], 0) else ([], (own cs (.mk o v s l) (kdL cs l).1).2) := by
        unfold stp
        rw [show (X.mk o v s l).l = l from rfl, e1, List.drop_left, List.take_left]
      dsimp only
      rw [e2]
      by_cases h2 : (own cs (.mk o v s l) (kdL cs l).1).2 = 0
      · rw [if_pos h2]
        show (if (0 : Int) = 0 then _ else _) = _
        rw [if_pos rfl, run]
      · rw [if_neg h2]
        show (if (own cs (.mk o v s l) (kdL cs l).1).2 = 0 then _ else _) = _
        rw [if_neg h2]
    · simp only [if_neg h]
theorem run_upL (cs : List Col) : ∀ (l : List X) (st : List Int), run cs (upL l) st = if (kdL cs l).2 = 0 then (st ++ (kdL cs l).1, 0) else ([], (kdL cs l).2)
  | [], st => by rw [upL, run, kdL, if_pos rfl, List.append_nil]
  | x :: r, st => by
    rw [upL, run_app, run_up cs x st, kdL]
    by_cases h : (kd cs x).2 = 0
    · rw [if_pos h, if_pos h]
      show (if (0 : Int) = 0 then _ else _) = _
      rw [if_pos rfl]
      dsimp only
      rw [run_upL cs r]
      by_cases h2 : (kdL cs r).2 = 0
      · rw [if_pos h2, if_pos h2]
        show _ = if (0 : Int) = 0 then _ else _
        rw [if_pos rfl, List.append_assoc]; rfl
      · rw [if_neg h2, if_neg h2]
        show _ = if (kdL cs r).2 = 0 then _ else _
        rw [if_neg h2]
    · simp only [if_neg h]
end
mutual
/-- an expression with another one in place of each null -/
def withX (y : X) : X → X
  | .mk o v s l => if o = 1 ∧ v = Vl.no then y else .mk o v s (withL y l)
def withL (y : X) : List X → List X
  | [] => []
  | x :: r => withX y x :: withL y r
end
/-- how a kind and a kind with a value in place of null go together -/
def Rel (k a b : Int) : Prop := b = a ∨ (a = 0 ∧ b = k) ∨ (a = 1 ∧ b = 2)
end Ty
end Go.Proofs.YtmkckbidfpinfaaDoor
