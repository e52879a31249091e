/-
  Layer 13: two lists of tokens compared, the document's.
-/
import Derived.Test.YtmpfnokddpbgcaaDoorZLexJoin
namespace Go.Proofs.YtmpfnokddpbgcaaDoor
open Go.RowKit
namespace Lx
/-- what is compared of a token -/
def key (p : Bool) (t : T) : T := if p then t else strip t
def SameK (p : Bool) (L M : List T) (k : Nat) : Prop := (L.map (key p)).take k = (M.map (key p)).take k
theorem sameK_next {p : Bool} {L M : List T} {k : Nat} (h : SameK p L M k) (h1 : k < L.length) (h2 : k < M.length) (hx : key p L[k] = key p M[k]) : SameK p L M (k + 1) := by
  have h1' : k < (L.map (key p)).length := by simpa using h1
  have h2' : k < (M.map (key p)).length := by simpa using h2
  show (L.map (key p)).take (k + 1) = (M.map (key p)).take (k + 1)
  rw [List.take_succ_eq_append_getElem h1', List.take_succ_eq_append_getElem h2', List.getElem_map, List.getElem_map, hx, show (L.map (key p)).take k = (M.map (key p)).take k from h]
theorem sameK_full {p : Bool} {L M : List T} {k : Nat} (h : SameK p L M k) (hl : L.length = M.length) (hk : ¬ k < L.length) : L.map (key p) = M.map (key p) := by
  unfold SameK at h
  rwa [List.take_of_length_le (by rw [List.length_map]; omega), List.take_of_length_le (by rw [List.length_map]; omega)] at h
theorem sameK_not {p : Bool} {L M : List T} {k : Nat} (h1 : k < L.length) (h2 : k < M.length) (hx : ¬ key p L[k] = key p M[k]) : ¬ L.map (key p) = M.map (key p) := fun e => by
  have h1' : k < (L.map (key p)).length := by simpa using h1
  have h2' : k < (M.map (key p)).length := by simpa using h2
  have h3 : (L.map (key p))[k]? = (M.map (key p))[k]? := by rw [e]
  rw [List.getElem?_eq_getElem h1', List.getElem?_eq_getElem h2', List.getElem_map, List.getElem_map] at h3
  exact hx (Option.some.inj h3)
theorem key_kind {p : Bool} {a b : T} (h : key p a = key p b) : a.kind = b.kind := by
  cases p with
  | false =>
    have e : (strip a).kind = (strip b).kind := by rw [show strip a = strip b from h]
    exact e
  | true => exact congrArg T.kind (show a = b from h)
theorem key_s {p : Bool} {a b : T} (h : key p a = key p b) : a.s = b.s := by
  cases p with
  | false =>
    have e : (strip a).s = (strip b).s := by rw [show strip a = strip b from h]
    exact e
  | true => exact congrArg T.s (show a = b from h)
theorem key_n {p : Bool} {a b : T} (h : key p a = key p b) : a.n = b.n := by
  cases p with
  | false =>
    have e : (strip a).n = (strip b).n := by rw [show strip a = strip b from h]
    exact e
  | true => exact congrArg T.n (show a = b from h)
end Lx
end Go.Proofs.YtmpfnokddpbgcaaDoor
