/-
  A list in memory that is appended to: its elements of k cells each, one behind the other; what lies behind its length is its own.
-/
import Derived.Test.YtpniegglbglbcaaDoorDskArr
import Derived.Deep.DeepAppendWide
import Derived.ArgAppend
namespace Go.Proofs.YtpniegglbglbcaaDoor
open Go.RowKit

section
variable {α : Type} (f : α → List Value) (k : Nat) (E : TypeId)
/-- the slice (la, its length, cap) holds the list W; its block is of S and none of Av -/
def ListAt (w : World) (S Av : Nat → Prop) (la : Option Addr) (cap : Nat) (W : List α) : Prop :=
  (la = none ∧ cap = 0 ∧ W = []) ∨ ∃ g r, la = some ⟨g, 0, none⟩ ∧ RowV w g E (W.flatMap f ++ r) ∧ W.length ≤ cap ∧ cap ≤ maxLen ∧ ¬ Av g ∧ S g ∧ W.length * k + r.length = cap * k
theorem listAt_nil (w : World) (S Av : Nat → Prop) : ListAt f k E w S Av none 0 [] := .inl ⟨rfl, rfl, rfl⟩
variable {f k E} {w w' : World} {S S' Av Av' : Nat → Prop} {la : Option Addr} {cap : Nat} {W : List α}
theorem listAt_only {F : Nat → Prop} (h : ListAt f k E w S Av la cap W) (ho : Only F w w') (hn : ∀ a, la = some a → ¬ F a.block) : ListAt f k E w' S Av la cap W := by
  rcases h with h | ⟨g, r, h1, h2, h3⟩
  · exact .inl h
  · exact .inr ⟨g, r, h1, rowV_only h2 ho (hn _ h1), h3⟩
theorem listAt_mono (h : ListAt f k E w S Av la cap W) (hs : ∀ j, j < w.heap.size → S j → S' j) (ha : ∀ j, j < w.heap.size → Av' j → Av j) : ListAt f k E w S' Av' la cap W := by
  rcases h with h | ⟨g, r, h1, h2, h3, h4, h5, h6, h7⟩
  · exact .inl h
  · exact .inr ⟨g, r, h1, h2, h3, h4, fun h => h5 (ha _ (rowV_lt h2) h), hs _ (rowV_lt h2) h6, h7⟩
theorem listAt_block (h : ListAt f k E w S Av la cap W) : ∀ a, la = some a → ∃ g, a = ⟨g, 0, none⟩ ∧ g < w.heap.size ∧ S g ∧ ¬ Av g := by
  rintro a rfl
  rcases h with ⟨h1, _⟩ | ⟨g, r, h1, h2, h3, h4, h5, h6, h7⟩
  · cases h1
  · cases h1; exact ⟨g, rfl, rowV_lt h2, h6, h5⟩
theorem listAt_len (h : ListAt f k E w S Av la cap W) : W.length ≤ cap ∧ cap ≤ maxLen := by
  rcases h with ⟨_, h2, h3⟩ | ⟨g, r, h1, h2, h3, h4, _⟩
  · rw [h2, h3]; exact ⟨Nat.le_refl _, Nat.zero_le _⟩
  · exact ⟨h3, h4⟩
/-- cell j of element i -/
theorem listAt_cell (h : ListAt f k E w S Av la cap W) (hf : ∀ x ∈ W, (f x).length = k) (i : Nat) (hi : i < W.length) : ∃ g, la = some ⟨g, 0, none⟩ ∧ ∀ j v, (f W[i])[j]? = some v → w.cell? ⟨g, i * k + j, none⟩ = some v ∧ w.frozen? ⟨g, i * k + j, none⟩ = false := by
  rcases h with ⟨_, _, h3⟩ | ⟨g, r, h1, h2, _⟩
  · subst h3; simp at hi
  · refine ⟨g, h1, fun j v hj => ⟨?_, rowV_frozen h2 _⟩⟩
    have hjk : j < k := by rw [← hf _ (List.getElem_mem hi)]; exact (List.getElem?_eq_some_iff.1 hj).1
    have hle := Nat.mul_le_mul_right k (show i + 1 ≤ W.length from hi)
    rw [Nat.add_mul, Nat.one_mul] at hle
    rw [rowV_cell h2, List.getElem?_append_left (by rw [flat_len f k W hf]; omega), flat_at f k W hf i hi j hjk]
    exact hj
theorem room_more (k n r c : Nat) (h : n * k + r = c * k) (h2 : (n + 1) * k ≤ c * k) : (n + 1) * k + (r - k) = c * k := by
  rw [Nat.add_mul, Nat.one_mul] at h2 ⊢
  generalize n * k = a at *
  generalize c * k = b at *
  omega
theorem listAt_owns (h : ListAt f k E w S Av la cap W) (hf : ∀ x ∈ W, (f x).length = k) : w.ownsRow 0 E k (.slice la W.length cap) W.length (W.flatMap f) := by
  have hl := flat_len f k W hf
  refine ⟨hl, ?_⟩
  rcases h with ⟨h1, h2, h3⟩ | ⟨g, r, h1, h2, h3, h4, _, _, h7⟩
  · left; rw [h1, h2, h3]; exact ⟨rfl, rfl⟩
  · right
    refine ⟨g, cap, (W.flatMap f ++ r).toArray, by rw [h1], Nat.zero_le _, h2, h3, h4, ?_, ?_⟩
    · rw [List.size_toArray, List.length_append, hl]; exact h7
    · rw [← hl]; simp
/-- one element more -/
theorem append_list {P : Program} (t ty : TypeId) (i : TypeInfo) (z : Value) (bytes : Nat) (ht : P.underlying t = some (.slice E)) (hi : P.info? E = some i) (hz : i.zero = some z) (hsize : i.size = k) (hby : i.bytes = bytes) (hzs : z.cells.size = k) (hk : 0 < k)
    (h : ListAt f k E w S Av la cap W) (hf : ∀ x ∈ W, (f x).length = k) (x : α) (hx : (f x).length = k) (h1 : ∀ v ∈ f x, v.oneCell' = true) (N : Nat) (hN : RowV w N E (f x)) (hW : ((W.length + 1) + (W.length + 1) / 4 + 192) * bytes ≤ 281474976710656) (hW2 : (W.length + 1) * bytes ≤ 140737488355328) (hm : W.length + 1 ≤ maxLen)
    (hAv : ∀ j, Av j → j < w.heap.size) :
    ∃ la' cap' w', (Builtin.append_ #[t, t] ty #[.slice la W.length cap, .slice (some ⟨N, 0, none⟩) 1 1]).run P w = .ok (.slice la' (W.length + 1) cap') w' ∧
      ListAt f k E w' (fun j => S j ∨ w.heap.size ≤ j) Av la' cap' (W ++ [x]) ∧ Only (fun j => S j ∧ ¬ Av j) w w' := by
  have hsnoc : (W ++ [x]).flatMap f = W.flatMap f ++ f x := by rw [List.flatMap_append]; simp
  have hnews : ∀ j u, (f x)[j]? = some u → w.cell? ((⟨N, 0, none⟩ : Addr).add j) = some u := fun j u hj => by
    rw [Addr.add_mid, Nat.zero_add, rowV_cell hN]; exact hj
  have hb := listAt_block h
  have hlen := flat_len f k W hf
  have fin : ∀ (v' : Value) (w' : World) (row : Option Nat), w'.ownsRow w.heap.size E k v' (W.length + 1) (W.flatMap f ++ f x) → w.grownBy w' row → (∀ j, row = some j → S j ∧ ¬ Av j) →
      ∃ la' cap', v' = .slice la' (W.length + 1) cap' ∧ ListAt f k E w' (fun j => S j ∨ w.heap.size ≤ j) Av la' cap' (W ++ [x]) ∧ Only (fun j => S j ∧ ¬ Av j) w w' := by
    intro v' w' row ho hg hrow
    rcases ho.2 with ⟨_, h0⟩ | ⟨g', cap', cur, rfl, hb', hh, u1, u2, u3, u4⟩
    · omega
    · refine ⟨_, _, rfl, .inr ⟨g', cur.toList.drop ((W.length + 1) * k), rfl, ?_, by simpa using u1, u2, fun h => by have := hAv _ h; omega, .inr hb', ?_⟩, (Only.refl _ w).grown hg (by intro j _ e; exact hrow j e)⟩
      · rw [hsnoc, ← u4, List.take_append_drop]; exact hh
      · have hcl : cur.toList.length = cur.size := Array.length_toList
        rw [List.length_drop, hcl, u3, List.length_append, List.length_singleton]
        have := Nat.mul_le_mul_right k u1
        omega
  rcases h with ⟨rfl, rfl, rfl⟩ | ⟨g, r, rfl, hg, hcap, hmax, hav, hS, hsz⟩
  · obtain ⟨v', w', hr, ho, hgr, _⟩ := run_append_own_wide (P := P) w w.heap.size t ty E i z k bytes ht hi hz hsize hby hzs hk _ 0 [] (World.ownsRow_nil w w.heap.size E k)
      ⟨N, 0, none⟩ 1 1 (f x) (by rw [hx, Nat.one_mul]) hnews h1 (by unfold maxLen; omega) (by simpa using hW) (Nat.le_refl _)
    obtain ⟨la', cap', rfl, rest⟩ := fin v' w' _ (by simpa using ho) hgr (by intro j e; simp [Value.ownBlock] at e)
    exact ⟨la', cap', w', hr, rest⟩
  · by_cases hroom : W.length < cap
    · have hle := Nat.mul_le_mul_right k (show W.length + 1 ≤ cap from hroom)
      have hle2 : W.length * k + k ≤ cap * k := by rw [Nat.add_mul, Nat.one_mul] at hle; exact hle
      have hth := rowV_there hg (W.length * k) k (by rw [List.length_append, hlen]; omega)
      have hr := run_append_room_cells (P := P) w t ty E i ht hi g 0 W.length cap ⟨N, 0, none⟩ 1 1 (f x) (by rw [hsize, hx, Nat.one_mul]) hnews h1 hroom
        (fun j hj => by rw [hsize, Nat.zero_add]; exact (hth j (by omega)).1) (fun j hj => by rw [hsize, Nat.zero_add]; exact (hth j (by omega)).2)
      rw [hsize, Nat.zero_add] at hr
      have hst := rowV_setCells (f x) (W.length * k) hg (by rw [hx, List.length_append, hlen]; omega)
      refine ⟨_, _, _, hr, .inr ⟨g, r.drop k, rfl, ?_, by rw [List.length_append, List.length_singleton]; exact hroom, hmax, hav, .inl hS, ?_⟩, (Only.refl _ w).setCells (fun _ => ⟨hS, hav⟩) _ _⟩
      · have e : (W.flatMap f ++ r).take (W.length * k) ++ f x ++ (W.flatMap f ++ r).drop (W.length * k + (f x).length) = (W ++ [x]).flatMap f ++ r.drop k := by
          rw [hsnoc, ← hlen, List.take_left', List.drop_append, hx, List.drop_of_length_le (by omega), List.nil_append, show (W.flatMap f).length + k - (W.flatMap f).length = k by omega]
          rfl
        rw [← e]; exact hst
      · rw [List.length_drop, List.length_append, List.length_singleton]; exact room_more k _ _ _ hsz hle
    · have hcw : cap = W.length := by omega
      obtain ⟨v', w', hr, ho, hgr⟩ := run_append_arg_grows (P := P) w t ty E i z k bytes ht hi hz hsize hby hzs hk ⟨g, 0, none⟩ W.length cap (W.flatMap f) hlen
        (fun j u hj => by
          have hlt := (List.getElem?_eq_some_iff.1 hj).1
          rw [Addr.add_mid, Nat.zero_add, rowV_cell hg, List.getElem?_append_left hlt]; exact hj)
        ⟨N, 0, none⟩ 1 1 (f x) (by rw [hx, Nat.one_mul]) hnews (by omega) hm hW2
      obtain ⟨la', cap', rfl, rest⟩ := fin v' w' none ho hgr (by intro j e; cases e)
      exact ⟨la', cap', w', hr, rest⟩
end
end Go.Proofs.YtpniegglbglbcaaDoor
