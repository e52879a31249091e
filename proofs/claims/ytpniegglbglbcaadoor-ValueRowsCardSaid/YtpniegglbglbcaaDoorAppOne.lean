/-
  Lists that a call makes, of elements of k cells each (told by f): one element more; read.
-/
import Derived.Test.YtpniegglbglbcaaDoorOnly
import Derived.Test.YtpniegglbglbcaaDoorListAt
import Derived.Deep.AppendLies
namespace Go.Proofs.YtpniegglbglbcaaDoor
open Go.RowKit
/-- what an append asks of the elements' type -/
def ElemOk (P : Program) (E k bytes : Nat) : Prop := ∃ i z, P.info? E = some i ∧ i.zero = some z ∧ i.size = k ∧ i.bytes = bytes ∧ z.cells.size = k ∧ 0 < k ∧ bytes ≤ 1000
theorem elemOk_of {P : Program} {E k bytes : Nat} {z : Value} (h : (P.info? E).map (fun i => (i.zero, i.size, i.bytes)) = some (some z, k, bytes)) (hz : z.cells.size = k) (hk : 0 < k) (hb : bytes ≤ 1000) : ElemOk P E k bytes := by
  obtain ⟨i, hi, e⟩ := Option.map_eq_some_iff.1 h
  simp only [Prod.mk.injEq] at e
  exact ⟨i, z, hi, e.1, e.2.1, e.2.2, hz, hk, hb⟩
section
variable {α : Type} {f : α → List Value} {E k bytes : Nat} {P : Program} {w : World} {B : Nat}
/-- the slice v, its row from block B on, holds the elements l -/
def OwL (f : α → List Value) (E k : Nat) (w : World) (B : Nat) (v : Value) (l : List α) : Prop := w.ownsRow B E k v l.length (l.flatMap f)
theorem owL_nil (w : World) : OwL f E k w B (.slice none 0 0) [] := World.ownsRow_nil _ _ _ _
theorem owL_below {w' : World} {v : Value} {l : List α} (h : OwL f E k w B v l) (hb : Below w.heap.size w w') : OwL f E k w' B v l :=
  ownsRow_only h (Only.of_none (F := fun _ => False) hb) fun _ _ x => x
theorem owL_only {F : Nat → Prop} {w' : World} {v : Value} {l : List α} (h : OwL f E k w B v l) (ho : Only F w w') (hn : ∀ j, v.ownBlock = some j → ¬ F j) : OwL f E k w' B v l := ownsRow_only h ho hn
theorem owL_lt {v : Value} {l : List α} (h : OwL f E k w B v l) : ∀ j, v.ownBlock = some j → B ≤ j ∧ j < w.heap.size := World.ownsRow.lt h
theorem owL_form {v : Value} {l : List α} (h : OwL f E k w B v l) : ∃ a c, v = .slice a l.length c ∧ l.length ≤ c ∧ c ≤ maxLen ∧ (∀ x, a = some x → ∃ g, x = ⟨g, 0, none⟩ ∧ B ≤ g ∧ g < w.heap.size ∧ v.ownBlock = some g) ∧ (a = none → l = []) := by
  rcases h.2 with ⟨rfl, h0⟩ | ⟨g, cap, cur, rfl, hb, hh, u1, u2, u3, u4⟩
  · have : l = [] := List.eq_nil_of_length_eq_zero h0
    subst this
    exact ⟨none, 0, rfl, Nat.le_refl _, Nat.zero_le _, ⟨fun x e => (by cases e), fun _ => rfl⟩⟩
  · exact ⟨_, _, rfl, u1, u2, fun x e => (by cases e; exact ⟨g, rfl, hb, (Array.getElem?_eq_some_iff.1 hh).1, rfl⟩), fun e => (by cases e)⟩
/-- cell j of element i -/
theorem owL_cell {v : Value} {l : List α} (hf : ∀ x ∈ l, (f x).length = k) (h : OwL f E k w B v l) (i : Nat) (hi : i < l.length) : ∃ g c, v = .slice (some ⟨g, 0, none⟩) l.length c ∧ ∀ j u, (f l[i])[j]? = some u → w.cell? ⟨g, i * k + j, none⟩ = some u ∧ w.frozen? ⟨g, i * k + j, none⟩ = false := by
  rcases h.2 with ⟨rfl, h0⟩ | ⟨g, cap, cur, rfl, hb, hh, u1, u2, u3, u4⟩
  · omega
  · refine ⟨g, cap, rfl, fun j u hj => ?_⟩
    have hrow : RowV w g E cur.toList := hh
    have hjk : j < k := by rw [← hf _ (List.getElem_mem hi)]; exact (List.getElem?_eq_some_iff.1 hj).1
    refine ⟨?_, rowV_frozen hrow _⟩
    have h1 := flat_at f k l hf i hi j hjk
    have hlt : i * k + j < l.length * k := by
      have := Nat.mul_le_mul_right k (show i + 1 ≤ l.length from hi)
      rw [Nat.add_mul, Nat.one_mul] at this
      omega
    have h2 : (cur.toList.take (l.length * k))[i * k + j]? = cur.toList[i * k + j]? := by rw [List.getElem?_take, if_pos hlt]
    rw [rowV_cell hrow, ← h2, u4, h1]
    exact hj
/-- one element more, as an operation of a walk: its box at block N -/
theorem wpList_append_one (he : ElemOk P E k bytes) {ops : Array Oper} {rest : List Oper} {o : Oper} {a : Act} {Q : Exit → Act → World → Prop} (hgd : o.guard = none) (s x : Operand) (t : TypeId)
    (ho : o.op = .call { callee := .builtin .append, args := #[s, x], argTypes := #[t, t] }) (ht : P.underlying t = some (.slice E)) (v : Value) (l : List α) (y : α) (hs : a.eval s = v) (hown : OwL f E k w B v l) (N c : Nat) (hx : a.eval x = .slice (some ⟨N, 0, none⟩) 1 c)
    (hN : RowV w N E (f y)) (hfl : (f y).length = k) (h1 : ∀ u ∈ f y, u.oneCell' = true) (hl : l.length ≤ 1000000) (hB : B ≤ w.heap.size)
    (h : ∀ g cap w', OwL f E k w' B (.slice (some ⟨g, 0, none⟩) (l.length + 1) cap) (l ++ [y]) → Only (fun j => v.ownBlock = some j) w w' → (v.ownBlock = some g ∨ g = w.heap.size) → g < w'.heap.size → wpList P ops Q rest (a.put o.dst (.slice (some ⟨g, 0, none⟩) (l.length + 1) cap)) w') :
    wpList P ops Q (o :: rest) a w := by
  obtain ⟨i, z, hi, hz, hsz, hby, hzs, hk, hb⟩ := he
  refine wpList_append_lies w hgd s x t ho B E i z k bytes ht hi hz hsz hby hzs hk v l.length (l.flatMap f) hs hown ⟨N, 0, none⟩ 1 c (f y) hx (by rw [hfl, Nat.one_mul]) (fun j u hj => by rw [Addr.add_mid, Nat.zero_add, rowV_cell hN]; exact hj) h1 (by omega) (by unfold maxLen; omega) ?_ hB _ rfl ?_
  · have := Nat.mul_le_mul (show l.length + 1 ≤ 1000001 by omega) hb
    omega
  · intro g cap w' h2 h3 h4 h5
    refine h g cap w' ?_ ((Only.refl _ w).grown h3 fun j _ e => e) h4 h5
    unfold OwL
    rw [List.flatMap_append, List.length_append]
    simpa using h2
/-- .. as one operation -/
theorem wp_append_one (he : ElemOk P E k bytes) {o : Oper} {a : Act} {K : Act → World → Prop} {Q : Exit → Act → World → Prop} (s x : Operand) (t : TypeId)
    (ho : o.op = .call { callee := .builtin .append, args := #[s, x], argTypes := #[t, t] }) (ht : P.underlying t = some (.slice E)) (v : Value) (l : List α) (y : α) (hs : a.eval s = v) (hown : OwL f E k w B v l) (N c : Nat) (hx : a.eval x = .slice (some ⟨N, 0, none⟩) 1 c)
    (hN : RowV w N E (f y)) (hfl : (f y).length = k) (h1 : ∀ u ∈ f y, u.oneCell' = true) (hl : l.length ≤ 1000000) (hB : B ≤ w.heap.size)
    (h : ∀ g cap w', OwL f E k w' B (.slice (some ⟨g, 0, none⟩) (l.length + 1) cap) (l ++ [y]) → Only (fun j => v.ownBlock = some j) w w' → (v.ownBlock = some g ∨ g = w.heap.size) → g < w'.heap.size → K (a.put o.dst (.slice (some ⟨g, 0, none⟩) (l.length + 1) cap)) w') :
    Oper.wp P o a w K Q := by
  obtain ⟨i, z, hi, hz, hsz, hby, hzs, hk, hb⟩ := he
  refine wp_append_lies w s x t ho B E i z k bytes ht hi hz hsz hby hzs hk v l.length (l.flatMap f) hs hown ⟨N, 0, none⟩ 1 c (f y) hx (by rw [hfl, Nat.one_mul]) (fun j u hj => by rw [Addr.add_mid, Nat.zero_add, rowV_cell hN]; exact hj) h1 (by omega) (by unfold maxLen; omega) ?_ hB _ rfl ?_
  · have := Nat.mul_le_mul (show l.length + 1 ≤ 1000001 by omega) hb
    omega
  · intro g cap w' h2 h3 h4 h5
    refine h g cap w' ?_ ((Only.refl _ w).grown h3 fun j _ e => e) h4 h5
    unfold OwL
    rw [List.flatMap_append, List.length_append]
    simpa using h2
end
end Go.Proofs.YtpniegglbglbcaaDoor
