/-
  Layer 14, the program's: two lists of expressions, part by part.
-/
import Derived.Test.YtmkllibfblacfaaDoorPk5
import Derived.Test.YtmkllibfblacfaaDoorPk4
namespace Go.Proofs.YtmkllibfblacfaaDoor
open Go.RowKit Go.Shelf
open Sx (X)
namespace Sx
/-- the same but for their parts, of which they have as many -/
def alikeB (x y : X) : Bool := decide (x.op = y.op) && (decide (x.v = y.v) && (decide (x.s = y.s) && decide (x.l.length = y.l.length)))
theorem alike_is {x y : X} (h : alikeB x y = true) : x.op = y.op ∧ x.v = y.v ∧ x.s = y.s ∧ x.l.length = y.l.length := by
  simpa [alikeB, Bool.and_eq_true, decide_eq_true_eq] using h
theorem alike_self (x : X) : alikeB x x = true := by simp [alikeB]
/-- an expression and all within it -/
def nodes (x : X) : List X := (po x 1).map (·.1)
def nodesL (l : List X) : List X := (poL l 1).map (·.1)
mutual
theorem po_fst : ∀ (x : X) (d e : Nat), (po x d).map (·.1) = (po x e).map (·.1)
  | .mk o v s l, d, e => by rw [po, po, List.map_cons, List.map_cons, poL_fst l (d + 1) (e + 1)]
theorem poL_fst : ∀ (l : List X) (d e : Nat), (poL l d).map (·.1) = (poL l e).map (·.1)
  | [], d, e => by rw [poL, poL]
  | x :: r, d, e => by rw [poL, poL, List.map_append, List.map_append, po_fst x d e, poL_fst r d e]
end
theorem nodes_eq (x : X) : nodes x = x :: nodesL x.l := by
  unfold nodes nodesL
  rw [po_eq, List.map_cons, poL_fst x.l 2 1]
theorem nodesL_cons (x : X) (r : List X) : nodesL (x :: r) = nodes x ++ nodesL r := by
  unfold nodes nodesL
  rw [poL, List.map_append]
theorem nodesL_nil : nodesL [] = [] := by unfold nodesL; rw [poL]; rfl
def alikeL : List X → List X → Bool
  | [], [] => true
  | x :: r, y :: r' => alikeB x y && alikeL r r'
  | _, _ => false
theorem alikeL_self : ∀ l : List X, alikeL l l = true
  | [] => rfl
  | x :: r => by rw [alikeL, alike_self, alikeL_self r]; rfl
mutual
theorem alike_nodes : ∀ (x y : X) (r r' : List X), alikeL (nodes x ++ r) (nodes y ++ r') = true → x = y ∧ alikeL r r' = true
  | .mk o v s l, y, r, r', h => by
    rw [nodes_eq, nodes_eq y, List.cons_append, List.cons_append, alikeL, Bool.and_eq_true] at h
    obtain ⟨h1, h2, h3, h4⟩ := alike_is h.1
    obtain ⟨h5, h6⟩ := alike_nodesL l y.l r r' h4 h.2
    obtain ⟨o', v', s', l'⟩ := y
    simp only [op_mk, v_mk, s_mk, l_mk] at h1 h2 h3 h5
    subst h1; subst h2; subst h3; subst h5
    exact ⟨rfl, h6⟩
theorem alike_nodesL : ∀ (l l' : List X) (r r' : List X), l.length = l'.length → alikeL (nodesL l ++ r) (nodesL l' ++ r') = true → l = l' ∧ alikeL r r' = true
  | [], [], r, r', _, h => by rw [nodesL_nil] at h; exact ⟨rfl, h⟩
  | [], _ :: _, _, _, h, _ => by simp at h
  | _ :: _, [], _, _, h, _ => by simp at h
  | x :: l, y :: l', r, r', hl, h => by
    rw [nodesL_cons, nodesL_cons, List.append_assoc, List.append_assoc] at h
    obtain ⟨h1, h2⟩ := alike_nodes x y _ _ h
    obtain ⟨h3, h4⟩ := alike_nodesL l l' r r' (by simpa using hl) h2
    exact ⟨by rw [h1, h3], h4⟩
end
/-- no other expression has the same list -/
theorem same_nodes (x y : X) : alikeL (nodes x) (nodes y) = true ↔ x = y := by
  refine ⟨fun hc => ?_, fun h => by subst h; exact alikeL_self _⟩
  exact (alike_nodes x y [] [] (by rw [List.append_nil, List.append_nil]; exact hc)).1
theorem alikeL_take : ∀ (l l' : List X) (k : Nat) (h : k < l.length) (h' : k < l'.length), alikeL (l.take k) (l'.take k) = true → alikeL (l.take (k + 1)) (l'.take (k + 1)) = alikeB l[k] l'[k]
  | [], _, _, h, _, _ => absurd h (Nat.not_lt_zero _)
  | _ :: _, [], _, _, h, _ => absurd h (Nat.not_lt_zero _)
  | x :: r, y :: r', 0, _, _, _ => by simp [alikeL]
  | x :: r, y :: r', k + 1, h, h', ha => by
    rw [List.take_succ_cons, List.take_succ_cons, alikeL, Bool.and_eq_true] at ha
    rw [List.take_succ_cons, List.take_succ_cons, alikeL, ha.1, Bool.true_and, alikeL_take r r' k (by simpa using h) (by simpa using h') ha.2]
    rfl
theorem alikeL_bad : ∀ (l l' : List X) (k : Nat) (h : k < l.length) (h' : k < l'.length), alikeB l[k] l'[k] = false → alikeL l l' = false
  | [], _, _, h, _, _ => absurd h (Nat.not_lt_zero _)
  | _ :: _, [], _, _, h, _ => absurd h (Nat.not_lt_zero _)
  | x :: r, y :: r', 0, _, _, hb => by rw [alikeL, show alikeB x y = false from hb, Bool.false_and]
  | x :: r, y :: r', k + 1, h, h', hb => by rw [alikeL, alikeL_bad r r' k (by simpa using h) (by simpa using h') hb, Bool.and_false]
theorem alikeL_len : ∀ (l l' : List X), l.length ≠ l'.length → alikeL l l' = false
  | [], [], h => absurd rfl h
  | [], _ :: _, _ => rfl
  | _ :: _, [], _ => rfl
  | x :: r, y :: r', h => by rw [alikeL, alikeL_len r r' (by simpa using h), Bool.and_false]
end Sx
end Go.Proofs.YtmkllibfblacfaaDoor
