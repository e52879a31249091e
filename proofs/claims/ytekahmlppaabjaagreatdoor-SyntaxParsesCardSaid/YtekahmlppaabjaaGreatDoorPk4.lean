/-
  Texts of the layers, part 4: DskArr, ListAt, AppOne, Slice1, LexAll, LexProg6, LexProgA, LexProgB, SynPr1, SynRef1, ValRight, SynSame, SynSmall, SynOps, SynRight, OwnStr, SynNames, ValQuote, Rely.
-/
import Derived.Test.YtekahmlppaabjaaGreatDoorPk2
import Derived.Test.YtekahmlppaabjaaGreatDoorPk1
import Derived.Test.YtekahmlppaabjaaGreatDoorPk3
import Derived.Deep.MidRow
import Derived.ChangeKeysEq
import Derived.Laws.MakeOwn
import Derived.Deep.DeepAppendWide
import Derived.ArgAppend
import Derived.Deep.AppendLies
import Derived.Great.FillDense
import Derived.Great.BuildSlice
import Derived.Deep.LoopGhost
import Derived.Deep.Cut
import Derived.BigQuiet
import Derived.LoopTactic
import Derived.Laws.RangeAny
import Derived.Deep.RegionHeld3
import Derived.Laws.StructEq
import Derived.LaidEql
import Derived.Lib.OthersKept
import Derived.Orders
import Derived.StillTail
/-
  Layer 4: blocks as arrays of 512 bytes: their cells; elements of many cells in a row; two arrays held against one another.
-/
namespace Go.Proofs.YtekahmlppaabjaaGreatDoor
open Go.RowKit

/-- a text's bytes as cells -/
def bv (b : ByteArray) : List Value := valB b.data.toList
theorem ba_len (b : ByteArray) : b.data.toList.length = b.size := by rw [Array.length_toList]; rfl
theorem bv_len (b : ByteArray) : (bv b).length = b.size := by unfold bv valB; rw [List.length_map, ba_len]
theorem bv_at (b : ByteArray) (i : Nat) (h : i < b.size) : (bv b)[i]? = some (.int .u8 ((b.data.toList[i]'(by rw [ba_len]; exact h)).toNat : Int)) := by
  unfold bv valB
  rw [List.getElem?_map, List.getElem?_eq_getElem (by rw [ba_len]; exact h)]; rfl
theorem valB_inj {a b : List UInt8} (h : valB a = valB b) : a = b := by
  unfold valB at h
  refine List.map_inj_right (fun x y hxy => ?_) |>.1 h
  simp only [Value.int.injEq, true_and] at hxy
  have : x.toNat = y.toNat := by omega
  exact UInt8.toNat_inj.1 this
theorem bv_inj {a b : ByteArray} (h : bv a = bv b) : a = b := by
  have h2 := valB_inj h
  cases a; cases b
  simp at h2
  rw [h2]
theorem valB_one (l : List UInt8) : ∀ v ∈ valB l, v.oneCell' = true := by
  intro v hv
  obtain ⟨x, _, rfl⟩ := List.mem_map.1 hv; rfl
theorem bv_one (b : ByteArray) : ∀ v ∈ bv b, v.oneCell' = true := valB_one _

/-! elements of k cells each, one behind the other -/
section
variable {α : Type} (f : α → List Value) (k : Nat)
theorem flat_len (bs : List α) (h : ∀ b ∈ bs, (f b).length = k) : (bs.flatMap f).length = bs.length * k := by
  induction bs with
  | nil => simp
  | cons b bs ih =>
    rw [List.flatMap_cons, List.length_append, h b (by simp), ih fun x hx => h x (by simp [hx]), List.length_cons, Nat.add_mul]; omega
theorem flat_at (bs : List α) (h : ∀ b ∈ bs, (f b).length = k) (i : Nat) (hi : i < bs.length) (j : Nat) (hj : j < k) : (bs.flatMap f)[i * k + j]? = (f bs[i])[j]? := by
  induction bs generalizing i with
  | nil => simp at hi
  | cons b bs ih =>
    have hb := h b (by simp)
    rw [List.flatMap_cons]
    cases i with
    | zero => rw [List.getElem?_append_left (by omega)]; simp
    | succ i =>
      rw [List.getElem?_append_right (by rw [hb, Nat.add_mul]; omega), hb, show (i + 1) * k + j - k = i * k + j by rw [Nat.add_mul]; omega]
      exact ih (fun x hx => h x (by simp [hx])) i (by simpa using hi)
theorem flat_set (bs : List α) (h : ∀ b ∈ bs, (f b).length = k) (i : Nat) (hi : i < bs.length) (x : α) (r : List Value) :
    (bs.flatMap f ++ r).take (i * k) ++ f x ++ (bs.flatMap f ++ r).drop (i * k + k) = (bs.set i x).flatMap f ++ r := by
  induction bs generalizing i with
  | nil => simp at hi
  | cons b bs ih =>
    have hb := h b (by simp)
    cases i with
    | zero =>
      simp only [List.flatMap_cons, List.set_cons_zero, Nat.zero_mul, Nat.zero_add, List.take_zero, List.nil_append, List.append_assoc]
      congr 1
      rw [List.drop_append, hb, Nat.sub_self, List.drop_zero, List.drop_of_length_le (by omega), List.nil_append]
    | succ i =>
      have e := ih (fun x hx => h x (by simp [hx])) i (by simpa using hi)
      simp only [List.flatMap_cons, List.set_cons_succ, List.append_assoc] at e ⊢
      rw [← e, List.take_append, List.drop_append, hb, List.take_of_length_le (by rw [hb, Nat.add_mul]; omega), List.drop_of_length_le (by rw [hb, Nat.add_mul]; omega),
        show (i + 1) * k - k = i * k by rw [Nat.add_mul]; omega, show (i + 1) * k + k - k = i * k + k by rw [Nat.add_mul]; omega, List.nil_append, List.append_assoc]
end
/-- what a store of many cells makes of a row -/
theorem rowV_setCells (vs : List Value) : ∀ (o : Nat) {w : World} {g T : Nat} {l : List Value}, RowV w g T l → o + vs.length ≤ l.length → RowV (w.setCells g o vs) g T (l.take o ++ vs ++ l.drop (o + vs.length)) := by
  induction vs with
  | nil => intro o w g T l h _; simpa [World.setCells] using h
  | cons v r ih =>
    intro o w g T l h ho
    rw [World.setCells]
    have h2 := ih (o + 1) (rowV_stored h o v) (by rw [List.length_set]; simp at ho; omega)
    have e : (l.set o v).take (o + 1) ++ r ++ (l.set o v).drop (o + 1 + r.length) = l.take o ++ (v :: r) ++ l.drop (o + (v :: r).length) := by
      have ho2 : o < l.length := by simp at ho; omega
      rw [List.take_set, List.drop_set_of_lt (by omega), List.take_succ_eq_append_getElem ho2, List.set_append_right _ _ (by rw [List.length_take]; omega), List.length_take, show o - min o l.length = 0 by omega, List.set_cons_zero]
      simp [Nat.add_assoc, Nat.add_comm 1]
    rw [e] at h2
    exact h2
theorem setCells_far (g : Nat) (vs : List Value) : ∀ (o : Nat) (w : World) (i : Nat), i ≠ g → (w.setCells g o vs).heap[i]? = w.heap[i]? := by
  induction vs with
  | nil => intro o w i _; rfl
  | cons v r ih => intro o w i h; rw [World.setCells, ih _ _ _ h]; exact Below.heap_setCell w ⟨g, o, none⟩ v i h
theorem setCells_size (g : Nat) (vs : List Value) : ∀ (o : Nat) (w : World), (w.setCells g o vs).heap.size = w.heap.size := by
  induction vs with
  | nil => intro o w; rfl
  | cons v r ih => intro o w; rw [World.setCells, ih]; simp [World.setCell]
theorem setCells_rest (g : Nat) (vs : List Value) : ∀ (o : Nat) (w : World), (w.setCells g o vs).os = w.os ∧ (w.setCells g o vs).tape = w.tape ∧ (w.setCells g o vs).output = w.output := by
  induction vs with
  | nil => intro o w; exact ⟨rfl, rfl, rfl⟩
  | cons v r ih => intro o w; rw [World.setCells]; exact ih _ _
theorem Only.setCells {F : Nat → Prop} {a w : World} (h : Only F a w) {g : Nat} (hg : g < a.heap.size → F g) (o : Nat) (vs : List Value) : Only F a (w.setCells g o vs) :=
  h.trans (G := fun k => k = g) ⟨(setCells_rest _ _ _ _).1, (setCells_rest _ _ _ _).2.1, (setCells_rest _ _ _ _).2.2, by rw [setCells_size]; exact Nat.le_refl _, fun k _ hk => setCells_far g vs o w k hk⟩ fun k hk e => by subst e; exact hg hk
theorem rowV_cellsFar {w : World} {g T g' : Nat} {l : List Value} (h : RowV w g T l) (hg : g ≠ g') (o : Nat) (vs : List Value) : RowV (w.setCells g' o vs) g T l := (setCells_far g' vs o w g hg).trans h
/-- the cells of a row from o on -/
theorem rowV_range {w : World} {g T : Nat} {l : List Value} (h : RowV w g T l) (o : Nat) (cs : List Value) (hc : ∀ j, j < cs.length → l[o + j]? = cs[j]?) : w.rangeAt g o cs := by
  intro j v hv
  have hj : j < cs.length := (List.getElem?_eq_some_iff.1 hv).1
  rw [rowV_cell h, hc j hj, hv]
theorem rowV_there {w : World} {g T : Nat} {l : List Value} (h : RowV w g T l) (o n : Nat) (hn : o + n ≤ l.length) : w.there g o n := by
  intro j hj
  refine ⟨?_, rowV_frozen h _⟩
  rw [rowV_cell h, List.getElem?_eq_getElem (by omega)]; rfl

/-! two arrays of bytes held against one another -/
theorem info_byte : (Tryz.prog.info? 5).map (fun i => (i.zero, i.size, i.bytes)) = some (some (.int .u8 0), 1, 1) := by kernel_rfl
theorem eqItems_int {P : Program} (w : World) (e : TypeId) (k : IntKind) (he : P.underlying e = some (.int k)) (d : Nat) (is : List Nat) : ∀ (X Y : List Int), (∀ i ∈ is, i < X.length ∧ i < Y.length) →
    (Op.eqItems (d + 1) e 1 (X.map (Value.int k)).toArray (Y.map (Value.int k)).toArray is).run P w = .ok (is.all fun i => X.getD i 0 == Y.getD i 0) w := by
  induction is with
  | nil => intro X Y _; simp [Op.eqItems]
  | cons i is ih =>
    intro X Y h
    obtain ⟨h1, h2⟩ := h i (by simp)
    have hag : (isAgg e).run P w = .ok false w := by unfold isAgg; rw [Sem.run_bind, run_underlying he w]; rfl
    have hx : (part e (X.map (Value.int k)).toArray (i * 1)).run P w = .ok (.int k (X.getD i 0)) w := by
      simp [part, hag, List.getElem?_eq_getElem h1, List.getD]
    have hy : (part e (Y.map (Value.int k)).toArray (i * 1)).run P w = .ok (.int k (Y.getD i 0)) w := by
      simp [part, hag, List.getElem?_eq_getElem h2, List.getD]
    simp only [Op.eqItems, Sem.run_bind, hx, hy, Result.andThen_ok, run_equalIn_int w d e k k _ _ he]
    by_cases hq : X.getD i 0 = Y.getD i 0
    · rw [List.all_cons]
      have : (X.getD i 0 == Y.getD i 0) = true := by simpa using hq
      rw [this]
      simpa using ih X Y fun j hj => h j (by simp [hj])
    · have : (X.getD i 0 == Y.getD i 0) = false := by simpa using hq
      rw [List.all_cons, this]
      simp
theorem all_getD {X Y : List Int} {n : Nat} (hX : X.length = n) (hY : Y.length = n) : ((List.range n).all fun i => X.getD i 0 == Y.getD i 0) = decide (X = Y) := by
  rw [Bool.eq_iff_iff, List.all_eq_true, decide_eq_true_iff]
  constructor
  · intro h
    apply List.ext_getElem (by omega)
    intro i h1 h2
    have := h i (List.mem_range.2 (by omega))
    simpa [List.getD, List.getElem?_eq_getElem h1, List.getElem?_eq_getElem h2] using this
  · rintro rfl i _; simp
theorem valB_int (l : List UInt8) : valB l = (l.map fun b => (b.toNat : Int)).map (Value.int .u8) := by unfold valB; rw [List.map_map]; rfl
end Go.Proofs.YtekahmlppaabjaaGreatDoor

/-
  A list in memory that is appended to: its elements of k cells each, one behind the other; what lies behind its length is its own.
-/
namespace Go.Proofs.YtekahmlppaabjaaGreatDoor
open Go.RowKit

section
variable {α : Type} (f : α → List Value) (k : Nat) (E : TypeId)
/-- the slice (la, its length, cap) holds the list W; its block is of S and none of Av -/
def ListAt (w : World) (S Av : Nat → Prop) (la : Option Addr) (cap : Nat) (W : List α) : Prop :=
  (la = none ∧ cap = 0 ∧ W = []) ∨ ∃ g r, la = some ⟨g, 0, none⟩ ∧ RowV w g E (W.flatMap f ++ r) ∧ W.length ≤ cap ∧ cap ≤ maxLen ∧ ¬ Av g ∧ S g ∧ W.length * k + r.length = cap * k
theorem listAt_nil (w : World) (S Av : Nat → Prop) : ListAt f k E w S Av none 0 [] := .inl ⟨rfl, rfl, rfl⟩
variable {f k E} {w w' : World} {S S' Av Av' : Nat → Prop} {la : Option Addr} {cap : Nat} {W : List α}
theorem listAt_only {F : Nat → Prop} (h : ListAt f k E w S Av la cap W) (ho : Only F w w') (hn : ∀ a, la = some a → ¬ F a.block) : ListAt f k E w' S Av la cap W := by
  rcases h with h | ⟨g, r, h1, h2, h3⟩
  · exact .inl h
  · exact .inr ⟨g, r, h1, rowV_only h2 ho (hn _ h1), h3⟩
theorem listAt_mono (h : ListAt f k E w S Av la cap W) (hs : ∀ j, j < w.heap.size → S j → S' j) (ha : ∀ j, j < w.heap.size → Av' j → Av j) : ListAt f k E w S' Av' la cap W := by
  rcases h with h | ⟨g, r, h1, h2, h3, h4, h5, h6, h7⟩
  · exact .inl h
  · exact .inr ⟨g, r, h1, h2, h3, h4, fun h => h5 (ha _ (rowV_lt h2) h), hs _ (rowV_lt h2) h6, h7⟩
theorem listAt_block (h : ListAt f k E w S Av la cap W) : ∀ a, la = some a → ∃ g, a = ⟨g, 0, none⟩ ∧ g < w.heap.size ∧ S g ∧ ¬ Av g := by
  rintro a rfl
  rcases h with ⟨h1, _⟩ | ⟨g, r, h1, h2, h3, h4, h5, h6, h7⟩
  · cases h1
  · cases h1; exact ⟨g, rfl, rowV_lt h2, h6, h5⟩
theorem listAt_len (h : ListAt f k E w S Av la cap W) : W.length ≤ cap ∧ cap ≤ maxLen := by
  rcases h with ⟨_, h2, h3⟩ | ⟨g, r, h1, h2, h3, h4, _⟩
  · rw [h2, h3]; exact ⟨Nat.le_refl _, Nat.zero_le _⟩
  · exact ⟨h3, h4⟩
/-- cell j of element i -/
theorem listAt_cell (h : ListAt f k E w S Av la cap W) (hf : ∀ x ∈ W, (f x).length = k) (i : Nat) (hi : i < W.length) : ∃ g, la = some ⟨g, 0, none⟩ ∧ ∀ j v, (f W[i])[j]? = some v → w.cell? ⟨g, i * k + j, none⟩ = some v ∧ w.frozen? ⟨g, i * k + j, none⟩ = false := by
  rcases h with ⟨_, _, h3⟩ | ⟨g, r, h1, h2, _⟩
  · subst h3; simp at hi
  · refine ⟨g, h1, fun j v hj => ⟨?_, rowV_frozen h2 _⟩⟩
    have hjk : j < k := by rw [← hf _ (List.getElem_mem hi)]; exact (List.getElem?_eq_some_iff.1 hj).1
    have hle := Nat.mul_le_mul_right k (show i + 1 ≤ W.length from hi)
    rw [Nat.add_mul, Nat.one_mul] at hle
    rw [rowV_cell h2, List.getElem?_append_left (by rw [flat_len f k W hf]; omega), flat_at f k W hf i hi j hjk]
    exact hj
theorem room_more (k n r c : Nat) (h : n * k + r = c * k) (h2 : (n + 1) * k ≤ c * k) : (n + 1) * k + (r - k) = c * k := by
  rw [Nat.add_mul, Nat.one_mul] at h2 ⊢
  generalize n * k = a at *
  generalize c * k = b at *
  omega
theorem listAt_owns (h : ListAt f k E w S Av la cap W) (hf : ∀ x ∈ W, (f x).length = k) : w.ownsRow 0 E k (.slice la W.length cap) W.length (W.flatMap f) := by
  have hl := flat_len f k W hf
  refine ⟨hl, ?_⟩
  rcases h with ⟨h1, h2, h3⟩ | ⟨g, r, h1, h2, h3, h4, _, _, h7⟩
  · left; rw [h1, h2, h3]; exact ⟨rfl, rfl⟩
  · right
    refine ⟨g, cap, (W.flatMap f ++ r).toArray, by rw [h1], Nat.zero_le _, h2, h3, h4, ?_, ?_⟩
    · rw [List.size_toArray, List.length_append, hl]; exact h7
    · rw [← hl]; simp
/-- one element more -/
theorem append_list {P : Program} (t ty : TypeId) (i : TypeInfo) (z : Value) (bytes : Nat) (ht : P.underlying t = some (.slice E)) (hi : P.info? E = some i) (hz : i.zero = some z) (hsize : i.size = k) (hby : i.bytes = bytes) (hzs : z.cells.size = k) (hk : 0 < k)
    (h : ListAt f k E w S Av la cap W) (hf : ∀ x ∈ W, (f x).length = k) (x : α) (hx : (f x).length = k) (h1 : ∀ v ∈ f x, v.oneCell' = true) (N : Nat) (hN : RowV w N E (f x)) (hW : ((W.length + 1) + (W.length + 1) / 4 + 192) * bytes ≤ 281474976710656) (hW2 : (W.length + 1) * bytes ≤ 140737488355328) (hm : W.length + 1 ≤ maxLen)
    (hAv : ∀ j, Av j → j < w.heap.size) :
    ∃ la' cap' w', (Builtin.append_ #[t, t] ty #[.slice la W.length cap, .slice (some ⟨N, 0, none⟩) 1 1]).run P w = .ok (.slice la' (W.length + 1) cap') w' ∧
      ListAt f k E w' (fun j => S j ∨ w.heap.size ≤ j) Av la' cap' (W ++ [x]) ∧ Only (fun j => S j ∧ ¬ Av j) w w' := by
  have hsnoc : (W ++ [x]).flatMap f = W.flatMap f ++ f x := by rw [List.flatMap_append]; simp
  have hnews : ∀ j u, (f x)[j]? = some u → w.cell? ((⟨N, 0, none⟩ : Addr).add j) = some u := fun j u hj => by
    rw [Addr.add_mid, Nat.zero_add, rowV_cell hN]; exact hj
  have hb := listAt_block h
  have hlen := flat_len f k W hf
  have fin : ∀ (v' : Value) (w' : World) (row : Option Nat), w'.ownsRow w.heap.size E k v' (W.length + 1) (W.flatMap f ++ f x) → w.grownBy w' row → (∀ j, row = some j → S j ∧ ¬ Av j) →
      ∃ la' cap', v' = .slice la' (W.length + 1) cap' ∧ ListAt f k E w' (fun j => S j ∨ w.heap.size ≤ j) Av la' cap' (W ++ [x]) ∧ Only (fun j => S j ∧ ¬ Av j) w w' := by
    intro v' w' row ho hg hrow
    rcases ho.2 with ⟨_, h0⟩ | ⟨g', cap', cur, rfl, hb', hh, u1, u2, u3, u4⟩
    · omega
    · refine ⟨_, _, rfl, .inr ⟨g', cur.toList.drop ((W.length + 1) * k), rfl, ?_, by simpa using u1, u2, fun h => by have := hAv _ h; omega, .inr hb', ?_⟩, (Only.refl _ w).grown hg (by intro j _ e; exact hrow j e)⟩
      · rw [hsnoc, ← u4, List.take_append_drop]; exact hh
      · have hcl : cur.toList.length = cur.size := Array.length_toList
        rw [List.length_drop, hcl, u3, List.length_append, List.length_singleton]
        have := Nat.mul_le_mul_right k u1
        omega
  rcases h with ⟨rfl, rfl, rfl⟩ | ⟨g, r, rfl, hg, hcap, hmax, hav, hS, hsz⟩
  · obtain ⟨v', w', hr, ho, hgr, _⟩ := run_append_own_wide (P := P) w w.heap.size t ty E i z k bytes ht hi hz hsize hby hzs hk _ 0 [] (World.ownsRow_nil w w.heap.size E k)
      ⟨N, 0, none⟩ 1 1 (f x) (by rw [hx, Nat.one_mul]) hnews h1 (by unfold maxLen; omega) (by simpa using hW) (Nat.le_refl _)
    obtain ⟨la', cap', rfl, rest⟩ := fin v' w' _ (by simpa using ho) hgr (by intro j e; simp [Value.ownBlock] at e)
    exact ⟨la', cap', w', hr, rest⟩
  · by_cases hroom : W.length < cap
    · have hle := Nat.mul_le_mul_right k (show W.length + 1 ≤ cap from hroom)
      have hle2 : W.length * k + k ≤ cap * k := by rw [Nat.add_mul, Nat.one_mul] at hle; exact hle
      have hth := rowV_there hg (W.length * k) k (by rw [List.length_append, hlen]; omega)
      have hr := run_append_room_cells (P := P) w t ty E i ht hi g 0 W.length cap ⟨N, 0, none⟩ 1 1 (f x) (by rw [hsize, hx, Nat.one_mul]) hnews h1 hroom
        (fun j hj => by rw [hsize, Nat.zero_add]; exact (hth j (by omega)).1) (fun j hj => by rw [hsize, Nat.zero_add]; exact (hth j (by omega)).2)
      rw [hsize, Nat.zero_add] at hr
      have hst := rowV_setCells (f x) (W.length * k) hg (by rw [hx, List.length_append, hlen]; omega)
      refine ⟨_, _, _, hr, .inr ⟨g, r.drop k, rfl, ?_, by rw [List.length_append, List.length_singleton]; exact hroom, hmax, hav, .inl hS, ?_⟩, (Only.refl _ w).setCells (fun _ => ⟨hS, hav⟩) _ _⟩
      · have e : (W.flatMap f ++ r).take (W.length * k) ++ f x ++ (W.flatMap f ++ r).drop (W.length * k + (f x).length) = (W ++ [x]).flatMap f ++ r.drop k := by
          rw [hsnoc, ← hlen, List.take_left', List.drop_append, hx, List.drop_of_length_le (by omega), List.nil_append, show (W.flatMap f).length + k - (W.flatMap f).length = k by omega]
          rfl
        rw [← e]; exact hst
      · rw [List.length_drop, List.length_append, List.length_singleton]; exact room_more k _ _ _ hsz hle
    · have hcw : cap = W.length := by omega
      obtain ⟨v', w', hr, ho, hgr⟩ := run_append_arg_grows (P := P) w t ty E i z k bytes ht hi hz hsize hby hzs hk ⟨g, 0, none⟩ W.length cap (W.flatMap f) hlen
        (fun j u hj => by
          have hlt := (List.getElem?_eq_some_iff.1 hj).1
          rw [Addr.add_mid, Nat.zero_add, rowV_cell hg, List.getElem?_append_left hlt]; exact hj)
        ⟨N, 0, none⟩ 1 1 (f x) (by rw [hx, Nat.one_mul]) hnews (by omega) hm hW2
      obtain ⟨la', cap', rfl, rest⟩ := fin v' w' none ho hgr (by intro j e; cases e)
      exact ⟨la', cap', w', hr, rest⟩
end
end Go.Proofs.YtekahmlppaabjaaGreatDoor

/-
  Lists that a call makes, of elements of k cells each (told by f): one element more; read.
-/
namespace Go.Proofs.YtekahmlppaabjaaGreatDoor
open Go.RowKit
/-- what an append asks of the elements' type -/
def ElemOk (P : Program) (E k bytes : Nat) : Prop := ∃ i z, P.info? E = some i ∧ i.zero = some z ∧ i.size = k ∧ i.bytes = bytes ∧ z.cells.size = k ∧ 0 < k ∧ bytes ≤ 1000
theorem elemOk_of {P : Program} {E k bytes : Nat} {z : Value} (h : (P.info? E).map (fun i => (i.zero, i.size, i.bytes)) = some (some z, k, bytes)) (hz : z.cells.size = k) (hk : 0 < k) (hb : bytes ≤ 1000) : ElemOk P E k bytes := by
  obtain ⟨i, hi, e⟩ := Option.map_eq_some_iff.1 h
  simp only [Prod.mk.injEq] at e
  exact ⟨i, z, hi, e.1, e.2.1, e.2.2, hz, hk, hb⟩
section
variable {α : Type} {f : α → List Value} {E k bytes : Nat} {P : Program} {w : World} {B : Nat}
/-- the slice v, its row from block B on, holds the elements l -/
def OwL (f : α → List Value) (E k : Nat) (w : World) (B : Nat) (v : Value) (l : List α) : Prop := w.ownsRow B E k v l.length (l.flatMap f)
theorem owL_nil (w : World) : OwL f E k w B (.slice none 0 0) [] := World.ownsRow_nil _ _ _ _
theorem owL_below {w' : World} {v : Value} {l : List α} (h : OwL f E k w B v l) (hb : Below w.heap.size w w') : OwL f E k w' B v l :=
  ownsRow_only h (Only.of_none (F := fun _ => False) hb) fun _ _ x => x
theorem owL_only {F : Nat → Prop} {w' : World} {v : Value} {l : List α} (h : OwL f E k w B v l) (ho : Only F w w') (hn : ∀ j, v.ownBlock = some j → ¬ F j) : OwL f E k w' B v l := ownsRow_only h ho hn
theorem owL_lt {v : Value} {l : List α} (h : OwL f E k w B v l) : ∀ j, v.ownBlock = some j → B ≤ j ∧ j < w.heap.size := World.ownsRow.lt h
theorem owL_form {v : Value} {l : List α} (h : OwL f E k w B v l) : ∃ a c, v = .slice a l.length c ∧ l.length ≤ c ∧ c ≤ maxLen ∧ (∀ x, a = some x → ∃ g, x = ⟨g, 0, none⟩ ∧ B ≤ g ∧ g < w.heap.size ∧ v.ownBlock = some g) ∧ (a = none → l = []) := by
  rcases h.2 with ⟨rfl, h0⟩ | ⟨g, cap, cur, rfl, hb, hh, u1, u2, u3, u4⟩
  · have : l = [] := List.eq_nil_of_length_eq_zero h0
    subst this
    exact ⟨none, 0, rfl, Nat.le_refl _, Nat.zero_le _, ⟨fun x e => (by cases e), fun _ => rfl⟩⟩
  · exact ⟨_, _, rfl, u1, u2, fun x e => (by cases e; exact ⟨g, rfl, hb, (Array.getElem?_eq_some_iff.1 hh).1, rfl⟩), fun e => (by cases e)⟩
/-- cell j of element i -/
theorem owL_cell {v : Value} {l : List α} (hf : ∀ x ∈ l, (f x).length = k) (h : OwL f E k w B v l) (i : Nat) (hi : i < l.length) : ∃ g c, v = .slice (some ⟨g, 0, none⟩) l.length c ∧ ∀ j u, (f l[i])[j]? = some u → w.cell? ⟨g, i * k + j, none⟩ = some u ∧ w.frozen? ⟨g, i * k + j, none⟩ = false := by
  rcases h.2 with ⟨rfl, h0⟩ | ⟨g, cap, cur, rfl, hb, hh, u1, u2, u3, u4⟩
  · omega
  · refine ⟨g, cap, rfl, fun j u hj => ?_⟩
    have hrow : RowV w g E cur.toList := hh
    have hjk : j < k := by rw [← hf _ (List.getElem_mem hi)]; exact (List.getElem?_eq_some_iff.1 hj).1
    refine ⟨?_, rowV_frozen hrow _⟩
    have h1 := flat_at f k l hf i hi j hjk
    have hlt : i * k + j < l.length * k := by
      have := Nat.mul_le_mul_right k (show i + 1 ≤ l.length from hi)
      rw [Nat.add_mul, Nat.one_mul] at this
      omega
    have h2 : (cur.toList.take (l.length * k))[i * k + j]? = cur.toList[i * k + j]? := by rw [List.getElem?_take, if_pos hlt]
    rw [rowV_cell hrow, ← h2, u4, h1]
    exact hj
/-- one element more, as an operation of a walk: its box at block N -/
theorem wpList_append_one (he : ElemOk P E k bytes) {ops : Array Oper} {rest : List Oper} {o : Oper} {a : Act} {Q : Exit → Act → World → Prop} (hgd : o.guard = none) (s x : Operand) (t : TypeId)
    (ho : o.op = .call { callee := .builtin .append, args := #[s, x], argTypes := #[t, t] }) (ht : P.underlying t = some (.slice E)) (v : Value) (l : List α) (y : α) (hs : a.eval s = v) (hown : OwL f E k w B v l) (N c : Nat) (hx : a.eval x = .slice (some ⟨N, 0, none⟩) 1 c)
    (hN : RowV w N E (f y)) (hfl : (f y).length = k) (h1 : ∀ u ∈ f y, u.oneCell' = true) (hl : l.length ≤ 1000000) (hB : B ≤ w.heap.size)
    (h : ∀ g cap w', OwL f E k w' B (.slice (some ⟨g, 0, none⟩) (l.length + 1) cap) (l ++ [y]) → Only (fun j => v.ownBlock = some j) w w' → (v.ownBlock = some g ∨ g = w.heap.size) → g < w'.heap.size → wpList P ops Q rest (a.put o.dst (.slice (some ⟨g, 0, none⟩) (l.length + 1) cap)) w') :
    wpList P ops Q (o :: rest) a w := by
  obtain ⟨i, z, hi, hz, hsz, hby, hzs, hk, hb⟩ := he
  refine wpList_append_lies w hgd s x t ho B E i z k bytes ht hi hz hsz hby hzs hk v l.length (l.flatMap f) hs hown ⟨N, 0, none⟩ 1 c (f y) hx (by rw [hfl, Nat.one_mul]) (fun j u hj => by rw [Addr.add_mid, Nat.zero_add, rowV_cell hN]; exact hj) h1 (by omega) (by unfold maxLen; omega) ?_ hB _ rfl ?_
  · have := Nat.mul_le_mul (show l.length + 1 ≤ 1000001 by omega) hb
    omega
  · intro g cap w' h2 h3 h4 h5
    refine h g cap w' ?_ ((Only.refl _ w).grown h3 fun j _ e => e) h4 h5
    unfold OwL
    rw [List.flatMap_append, List.length_append]
    simpa using h2
/-- .. as one operation -/
theorem wp_append_one (he : ElemOk P E k bytes) {o : Oper} {a : Act} {K : Act → World → Prop} {Q : Exit → Act → World → Prop} (s x : Operand) (t : TypeId)
    (ho : o.op = .call { callee := .builtin .append, args := #[s, x], argTypes := #[t, t] }) (ht : P.underlying t = some (.slice E)) (v : Value) (l : List α) (y : α) (hs : a.eval s = v) (hown : OwL f E k w B v l) (N c : Nat) (hx : a.eval x = .slice (some ⟨N, 0, none⟩) 1 c)
    (hN : RowV w N E (f y)) (hfl : (f y).length = k) (h1 : ∀ u ∈ f y, u.oneCell' = true) (hl : l.length ≤ 1000000) (hB : B ≤ w.heap.size)
    (h : ∀ g cap w', OwL f E k w' B (.slice (some ⟨g, 0, none⟩) (l.length + 1) cap) (l ++ [y]) → Only (fun j => v.ownBlock = some j) w w' → (v.ownBlock = some g ∨ g = w.heap.size) → g < w'.heap.size → K (a.put o.dst (.slice (some ⟨g, 0, none⟩) (l.length + 1) cap)) w') :
    Oper.wp P o a w K Q := by
  obtain ⟨i, z, hi, hz, hsz, hby, hzs, hk, hb⟩ := he
  refine wp_append_lies w s x t ho B E i z k bytes ht hi hz hsz hby hzs hk v l.length (l.flatMap f) hs hown ⟨N, 0, none⟩ 1 c (f y) hx (by rw [hfl, Nat.one_mul]) (fun j u hj => by rw [Addr.add_mid, Nat.zero_add, rowV_cell hN]; exact hj) h1 (by omega) (by unfold maxLen; omega) ?_ hB _ rfl ?_
  · have := Nat.mul_le_mul (show l.length + 1 ≤ 1000001 by omega) hb
    omega
  · intro g cap w' h2 h3 h4 h5
    refine h g cap w' ?_ ((Only.refl _ w).grown h3 fun j _ e => e) h4 h5
    unfold OwL
    rw [List.flatMap_append, List.length_append]
    simpa using h2
end
end Go.Proofs.YtekahmlppaabjaaGreatDoor

/-
  '[]T{x}': a slice of one element, of k cells, made: as a run, as an operation that keeps its class.
-/
namespace Go.Proofs.YtekahmlppaabjaaGreatDoor
open Go.RowKit
section
variable {P : Program} {E k bytes : Nat}
theorem run_slice_one (he : ElemOk P E k bytes) (hk1 : k ≤ 1000) {t : TypeId} (ht : P.underlying t = some (.slice E)) (w : World) (x : Value) (X : Array Value) (hX : x.cells = X) (hsz : X.size = k) : (Instr.buildSlice t 1 #[(0, x)]).run P w = .ok (.slice (some ⟨w.heap.size, 0, none⟩) 1 1) (w.alloc (.cells X E)) := by
  obtain ⟨i, z, hi, hz, hs, hby, hzs, hk, hb⟩ := he
  refine run_buildSlice w t E 1 _ X i z ht hi hz (by rw [hs]; omega) (by rw [hs]; omega) ?_
  have e := Great.fill_whole (s := i.size) (by rw [hs]; omega) [x] ((Array.range (1 * i.size)).map (z.cells[· % z.cells.size]!)) (by intro v hv; rw [List.mem_singleton] at hv; subst hv; rw [hs, hX]; exact hsz) (by simp)
  simp only [List.zipIdx_cons, List.zipIdx_nil, List.map_cons, List.map_nil, List.flatMap_cons, List.flatMap_nil, List.append_nil, hX, Array.toArray_toList] at e
  exact e
theorem wp_slice_one (he : ElemOk P E k bytes) (hk1 : k ≤ 1000) {t : TypeId} (ht : P.underlying t = some (.slice E)) {o : Oper} {a : Act} {w : World} {K : Act → World → Prop} {Q : Exit → Act → World → Prop} (x : Operand) (ho : o.op = .buildSlice t 1 #[(0, x)]) (v : Value) (X : Array Value) (hx : a.eval x = v) (hX : v.cells = X) (hsz : X.size = k)
    (h : K (a.put o.dst (.slice (some ⟨w.heap.size, 0, none⟩) 1 1)) (w.alloc (.cells X E))) : Oper.wp P o a w K Q := by
  unfold Oper.wp execOp
  have e : (#[(0, x)] : Array (Nat × Operand)).map (fun (i, x) => (i, a.eval x)) = #[(0, v)] := by rw [← hx]; simp
  simp only [ho, e, Sem.run_bind, run_slice_one he hk1 ht w v X hX hsz, Result.andThen_ok]
  exact h
end
end Go.Proofs.YtekahmlppaabjaaGreatDoor

/-
  Layer 13: the document's tokens of a text.
-/
namespace Go.Proofs.YtekahmlppaabjaaGreatDoor
open Go.RowKit
abbrev tCl (t : Lx.T) : List Value := [.int .i64 t.kind, .string t.s, .int .i64 t.n, .int .i64 t.spot]
theorem tok_parts : (Tryz.prog.info? 45).map (fun i => (i.zero, i.size, i.bytes)) = some (some (.agg #[.int .i64 0, .string ⟨#[]⟩, .int .i64 0, .int .i64 0]), 4, 40) := by kernel_rfl
theorem tok_elem : ElemOk Tryz.prog 45 4 40 := elemOk_of tok_parts rfl (by decide) (by decide)
theorem tCl_one (t : Lx.T) : ∀ u ∈ tCl t, u.oneCell' = true := by intro u hu; simp [tCl] at hu; rcases hu with rfl | rfl | rfl | rfl <;> rfl
/-- a slice of tokens, read -/
def ReadsT13 (w : World) (a : Option Addr) (L : List Lx.T) : Prop := ∀ i (h : i < L.length), ∃ b off, a = some ⟨b, off, none⟩ ∧ w.cell? ⟨b, off + i * 4, none⟩ = some (.int .i64 L[i].kind) ∧ w.cell? ⟨b, off + i * 4 + 1, none⟩ = some (.string L[i].s) ∧ w.cell? ⟨b, off + i * 4 + 2, none⟩ = some (.int .i64 L[i].n) ∧ w.cell? ⟨b, off + i * 4 + 3, none⟩ = some (.int .i64 L[i].spot)
theorem readsT13_none (w : World) (a : Option Addr) : ReadsT13 w a [] := by intro i hi; simp at hi
theorem readsT13_only {F : Nat → Prop} {w w' : World} {a : Option Addr} {L : List Lx.T} (h : ReadsT13 w a L) (ho : Only F w w') (hn : ∀ b, a = some b → ¬ F b.block) : ReadsT13 w' a L := by
  intro i hi
  obtain ⟨b, off, h1, h2, h3, h4, h5⟩ := h i hi
  have hF : ¬ F b := hn _ h1
  exact ⟨b, off, h1, (ho.cell (World.block_lt_of_cell? w _ h2) hF).trans h2, (ho.cell (World.block_lt_of_cell? w _ h3) hF).trans h3, (ho.cell (World.block_lt_of_cell? w _ h4) hF).trans h4, (ho.cell (World.block_lt_of_cell? w _ h5) hF).trans h5⟩
theorem readsT13_below {w w' : World} {a : Option Addr} {L : List Lx.T} (h : ReadsT13 w a L) (hb : Below w.heap.size w w') : ReadsT13 w' a L := readsT13_only h (Only.of_none (F := fun _ => False) hb) fun _ _ h => h
theorem owL_readsT13 {w : World} {B : Nat} {ao : Option Addr} {cp k : Nat} {L : List Lx.T} (hk : L.length = k) (h : OwL tCl 45 4 w B (.slice ao k cp) L) : ReadsT13 w ao L := by
  intro i hi
  obtain ⟨g, c, e, hc⟩ := owL_cell (f := tCl) (k := 4) (fun _ _ => rfl) h i hi
  cases e
  refine ⟨g, 0, rfl, ?_, ?_, ?_, ?_⟩
  · have := (hc 0 _ rfl).1; rw [Nat.zero_add]; exact this
  · have := (hc 1 _ rfl).1; rw [Nat.zero_add]; exact this
  · have := (hc 2 _ rfl).1; rw [Nat.zero_add]; exact this
  · have := (hc 3 _ rfl).1; rw [Nat.zero_add]; exact this
/-- what is answered as the tokens of a text -/
def LexPost (t : List Lx.T × Int × Int) (w : World) (e : Ending) (w' : World) : Prop := ∃ a cap, e = .returned (.tuple #[.slice a t.1.length cap, .int .i64 t.2.1, .int .i64 t.2.2]) ∧ ReadsT13 w' a t.1 ∧ t.1.length ≤ cap ∧ Below w.heap.size w w'
theorem lexPost_err {t : List Lx.T × Int × Int} {w w' : World} {p e : Int} (h : t = ([], p, e)) (hb : Below w.heap.size w w') : LexPost t w (.returned (.tuple #[.slice none 0 0, .int .i64 p, .int .i64 e])) w' := by
  subst h; exact ⟨none, 0, rfl, readsT13_none _ _, Nat.le_refl _, hb⟩
theorem lexPost_ok {t : List Lx.T × Int × Int} {L : List Lx.T} {w w' : World} {B k cp : Nat} {ao : Option Addr} (h : t = (L, 0, 0)) (hk : L.length = k) (hown : OwL tCl 45 4 w' B (.slice ao k cp) L) (hb : Below w.heap.size w w') : LexPost t w (.returned (.tuple #[.slice ao k cp, .int .i64 0, .int .i64 0])) w' := by
  subst h
  refine ⟨ao, cp, by rw [hk], owL_readsT13 hk hown, ?_, hb⟩
  obtain ⟨a, c, e, h1, _⟩ := owL_form hown
  cases e
  exact h1
theorem box_tok {w wr : World} {B : Nat} {u : Value} {l : List Lx.T} (v : Lx.T) (h : OwL tCl 45 4 wr B u l) (hb : Below B w wr) (hB : B ≤ w.heap.size) :
    OwL tCl 45 4 (wr.alloc (.cells (tokC v) 45)) B u l ∧ Below B w (wr.alloc (.cells (tokC v) 45)) ∧ B ≤ (wr.alloc (.cells (tokC v) 45)).heap.size ∧ RowV (wr.alloc (.cells (tokC v) 45)) wr.heap.size 45 (tCl v) := by
  have hs := hb.size
  have hz : (wr.alloc (.cells (tokC v) 45)).heap.size = wr.heap.size + 1 := World.size_alloc _ _
  exact ⟨owL_below h ((Below.refl _ _).alloc (Nat.le_refl _) _), hb.alloc (by omega) _, by omega, rowV_new _ _ _⟩
theorem app_tok {w wr w5 : World} {B g n cap : Nat} {u : Value} {l l' : List Lx.T} (h5 : OwL tCl 45 4 w5 B (.slice (some ⟨g, 0, none⟩) n cap) l') (ho : Only (fun j => u.ownBlock = some j) wr w5) (h : OwL tCl 45 4 wr B u l) (hb : Below B w wr) (hB : B ≤ wr.heap.size) :
    OwL tCl 45 4 w5 B (.slice (some ⟨g, 0, none⟩) n cap) l' ∧ Below B w w5 :=
  ⟨h5, hb.trans (ho.below (fun j _ e => (owL_lt h j e).1) hB)⟩
/-- the tokens of a text, or its error -/
def lexS (s : ByteArray) : List Lx.T × Int × Int := if 200 < s.size then ([], 0, 5) else Lx.lexAt 0 s.data.toList
set_option maxRecDepth 100000 in
set_option maxHeartbeats 6400000 in
theorem rlex13_any (s : ByteArray) (w : World) : Calls Tryz.prog 12 #[.string s] w (LexPost (lexS s) w) := by
  have hT : lexS s = if 200 < s.size then ([], 0, 5) else Lx.lexAt 0 s.data.toList := rfl
  generalize lexS s = T at *
  by_cases hl : (s.size : Int) > 200
  · rw [if_pos (by omega)] at hT
    have H := Lib.hid hT
    clear hT
    go_enter Tryz.func12, Tryz.ntmps12
    go_wp2_with fail
    go_ret3
    exact lexPost_err H.out (Below.refl _ _)
  · rw [if_neg (by omega), Lx.glue_form] at hT
    have HT := Lib.hid hT
    clear hT
    go_enter Tryz.func12, Tryz.ntmps12
    go_wp2_with fail
    go_loopw [5, 6, 7, 8, 9] (fun o i _ _ _ wr => ∃ (k n : Nat) (acc : List Lx.T) (ao : Option Addr) (cp : Nat), k ≤ s.size ∧ n ≤ k ∧ acc.length = n ∧ o = .slice ao n cp ∧ i = .int .i64 (k : Int) ∧ Hid (OwL tCl 45 4 wr w.heap.size (.slice ao n cp) acc ∧ Below w.heap.size w wr ∧ T = Lx.glue acc (Lx.lexAt k (s.data.toList.drop k)))) (fun _ i _ _ _ _ => s.size - (intOf i).toNat)
    case atStart => exact ⟨0, 0, [], none, 0, Nat.zero_le _, Nat.le_refl _, rfl, rfl, rfl, Lib.hid ⟨owL_nil _, Below.refl _ _, by rw [List.drop_zero]; exact HT.out⟩⟩
    case round =>
      obtain ⟨k, n, acc, ao, cp, hk, hnk, hacc, rfl, rfl, HI⟩ := hrel
      by_cases hlt : k < s.size
      · have hdn := drop_next s k hlt
        have hg := HI.out.2.2
        rw [hdn] at hg
        by_cases h32 : s[k] = 32
        · have t1 : ((s[k].toNat : Int) == 32) = true := by rw [h32]; rfl
          rw [h32, Lx.lexAt_blank] at hg
          have HN := Lib.hid hg
          clear hg h32 hdn
          go_wp2_with fail
          go_roundw
          case rel => exact ⟨k + 1, n, acc, ao, cp, by omega, by omega, hacc, rfl, by go_num, Lib.hid ⟨HI.out.1, HI.out.2.1, HN.out⟩⟩
          case measure => simp [intOf]; omega
        · have t1 : ((s[k].toNat : Int) == 32) = false := by
            have : ¬ s[k].toNat = 32 := fun e => h32 (UInt8.toNat_inj.1 e)
            simp; omega
          have hxs : (s.extract k s.size).size = s.size - k := by rw [ByteArray.size_extract]; omega
          have cO := fun wx => rone13_any (s.extract k s.size) wx (by omega) (by omega)
          have hxl : (s.extract k s.size).data.toList = s.data.toList.drop k := Oct.extract_drop s k
          rw [hxl] at cO
          by_cases he : (Lx.one (s.data.toList.drop k)).2.2 = 0
          · have hp := (Lx.one_ok he).2.2.1
            have hle := (Lx.one_ok he).2.2.2.1
            have hsl : s.data.toList.length = s.size := by rw [Array.length_toList]; rfl
            have hle2 : (Lx.one (s.data.toList.drop k)).2.1 ≤ s.size - k := by
              have h := List.length_drop (i := k) (l := s.data.toList)
              rw [hsl] at h
              rw [← h]; exact hle
            have he2 := he
            rw [hdn] at he2
            rw [Lx.glue_step acc h32 he2, ← hdn, List.drop_drop] at hg
            rw [he] at cO
            have hnp : 0 < (Lx.one (s.data.toList.drop k)).2.1 := hp
            generalize (Lx.one (s.data.toList.drop k)).2.1 = N at *
            generalize (Lx.one (s.data.toList.drop k)).1 = V at *
            obtain ⟨tk, ts, tn, ta⟩ := V
            have HN := Lib.hid (And.intro cO hg)
            clear cO hg hle hp he he2 hxl hdn h32 hxs hsl
            go_wp2_with fail
            refine (HN.out.1 _).mono ?_
            rintro e w2 ⟨rfl, hb2⟩
            obtain ⟨p1, p2, p3, p4⟩ := box_tok ⟨tk, ts, tn, (k : Int)⟩ (owL_below HI.out.1 hb2) (HI.out.2.1.trans (hb2.mono HI.out.2.1.size)) (Nat.le_refl _)
            have HP := Lib.hid (And.intro p1 (And.intro p2 (And.intro p3 p4)))
            clear hb2 p1 p2 p3 p4
            go_upto_region 12 with (fail)
            generalize hws : World.alloc w2 _ = ws at *
            obtain ⟨c0, c1, c2, c3, _⟩ := tok_cells (v := ⟨tk, ts, tn, (k : Int)⟩) HP.out.2.2.2
            obtain ⟨o1, o2, o3, o4⟩ := box_tok ⟨tk, ts, tn, (k : Int)⟩ HP.out.1 HP.out.2.1 (Nat.le_refl _)
            have HO := Lib.hid (And.intro o1 (And.intro o2 (And.intro o3 o4)))
            clear o1 o2 o3 o4 hws
            go_wp2_with (at_builtin; refine wpList_append_one (f := tCl) (B := w.heap.size) tok_elem rfl (.tmp 37) (.tmp 39) 39 rfl Tryz.underlying39 (.slice _ n cp) acc ⟨tk, ts, tn, (k : Int)⟩ rfl HO.out.1 ws.heap.size 1 rfl HO.out.2.2.2 rfl (tCl_one _) (by omega) HO.out.2.2.1 ?_; intro gg cap w6 h1 h2 h3 h4; have HF := Lib.hid (And.intro h1 (And.intro h2 (And.intro h3 h4))); clear h1 h2 h3 h4; rw [hacc])
            obtain ⟨f1, f2⟩ := app_tok (w := w) HF.out.1 HF.out.2.1 HO.out.1 HO.out.2.1 HO.out.2.2.1
            rw [hacc] at f1
            have HG := Lib.hid (And.intro f1 f2)
            clear f1 f2
            go_wp2_with fail
            go_roundw
            case rel => exact ⟨k + N, n + 1, acc ++ [⟨tk, ts, tn, (k : Int)⟩], _, cap, by omega, by omega, by rw [List.length_append, hacc]; rfl, rfl, by go_num, Lib.hid ⟨HG.out.1, HG.out.2, HN.out.2⟩⟩
            case measure => simp [intOf]; omega
          · have he2 := he
            rw [hdn] at he2
            rw [Lx.glue_err acc h32 he2, ← hdn] at hg
            have q1 : ((Lx.one (s.data.toList.drop k)).2.2 != 0) = true := by simpa using he
            generalize (Lx.one (s.data.toList.drop k)).2.1 = N at *
            generalize (Lx.one (s.data.toList.drop k)).2.2 = E at *
            generalize (Lx.one (s.data.toList.drop k)).1 = V at *
            obtain ⟨tk, ts, tn, ta⟩ := V
            have HN := Lib.hid (And.intro cO hg)
            clear cO hg he he2 hxl hdn h32 hxs
            go_wp2_with fail
            refine (HN.out.1 _).mono ?_
            rintro e w2 ⟨rfl, hb2⟩
            have hbw := HI.out.2.1.trans (hb2.mono HI.out.2.1.size)
            have HP := Lib.hid (hbw.alloc hbw.size (.cells (tokC ⟨tk, ts, tn, ta⟩) 45))
            clear hb2 hbw
            go_wp2_with fail
            go_ret3
            exact lexPost_err HN.out.2 HP.out
      · have HE : Hid (T = (acc, 0, 0)) := Lib.hid (by
          rw [HI.out.2.2, List.drop_eq_nil_of_le (by rw [Array.length_toList]; show s.size ≤ k; omega)]; exact Lx.glue_end acc k)
        go_wp2_with fail
        go_ret3
        exact lexPost_ok HE.out hacc HI.out.1 HI.out.2.1
end Go.Proofs.YtekahmlppaabjaaGreatDoor

/-
  Layer 13, the program's: the tokens of a text.
-/
namespace Go.Proofs.YtekahmlppaabjaaGreatDoor
open Go.RowKit
set_option maxRecDepth 100000 in
set_option maxHeartbeats 6400000 in
theorem lex13_any (s : ByteArray) (w : World) (hE : ErrR w) : Calls Tryz.prog 9 #[.string s] w (LexPost (lexS s) w) := by
  have hT : lexS s = if 200 < s.size then ([], 0, 5) else Lx.lexAt 0 s.data.toList := rfl
  generalize lexS s = T at *
  by_cases hl : (s.size : Int) > 200
  · rw [if_pos (by omega)] at hT
    have H := Lib.hid hT
    clear hT
    go_enter Tryz.func9, Tryz.ntmps9
    go_wp2_with fail
    go_step3
    go_wp2_with fail
    try rw [Exit.noGoto_ret]
    go_ret3
    exact lexPost_err H.out (Below.refl _ _)
  · rw [if_neg (by omega), Lx.glue_form] at hT
    have HT := Lib.hid hT
    clear hT
    go_enter Tryz.func9, Tryz.ntmps9
    go_wp2_with fail
    go_step3
    go_wp2_with fail
    go_step3
    go_wp2_with fail
    go_loopg [5, 6, 7, 8, 9] s.size (fun gh o i _ _ _ wr => ∃ (k n : Nat) (acc : List Lx.T) (ao : Option Addr) (cp : Nat), gh = s.size - k ∧ k ≤ s.size ∧ n ≤ k ∧ acc.length = n ∧ o = .slice ao n cp ∧ i = .int .i64 (k : Int) ∧ Hid (OwL tCl 45 4 wr w.heap.size (.slice ao n cp) acc ∧ Below w.heap.size w wr ∧ T = Lx.glue acc (Lx.lexAt k (s.data.toList.drop k))))
    case atStart => exact ⟨0, 0, [], none, 0, by omega, Nat.zero_le _, Nat.le_refl _, rfl, rfl, rfl, Lib.hid ⟨owL_nil _, Below.refl _ _, by rw [List.drop_zero]; exact HT.out⟩⟩
    case round =>
      obtain ⟨k, n, acc, ao, cp, hgh, hk, hnk, hacc, rfl, rfl, HI⟩ := hrel
      by_cases hlt : k < s.size
      · go_wp2_with fail
        go_loopg [6] (s.size - k) (fun gh2 i wx => ∃ (j : Nat), gh2 = s.size - j ∧ k ≤ j ∧ j < s.size ∧ i = .int .i64 (j : Int) ∧ wx = wr ∧ Hid (T = Lx.glue acc (Lx.lexAt j (s.data.toList.drop j))))
        case atStart => exact ⟨k, rfl, Nat.le_refl _, hlt, rfl, rfl, Lib.hid HI.out.2.2⟩
        case round =>
          obtain ⟨j, hgj, hkj, hjs, rfl, rfl, HG⟩ := hrel
          have hdn := drop_next s j hjs
          have hg := HG.out
          rw [hdn] at hg
          by_cases h32 : s[j] = 32
          · have t1 : ((s[j].toNat : Int) == 32) = true := by rw [h32]; rfl
            rw [h32, Lx.lexAt_blank] at hg
            by_cases he : j + 1 = s.size
            · have t2 : (((j : Int) + 1) == (s.size : Int)) = true := by simp; omega
              rw [List.drop_eq_nil_of_le (by rw [Array.length_toList]; show s.size ≤ j + 1; omega), Lx.glue_end] at hg
              have HN := Lib.hid hg
              clear hg h32 hdn he
              go_wp2_with fail
              try rw [Exit.noGoto_ret]
              go_ret3
              exact lexPost_ok HN.out hacc HI.out.1 HI.out.2.1
            · have t2 : (((j : Int) + 1) == (s.size : Int)) = false := by simp; omega
              have HN := Lib.hid hg
              clear hg h32 hdn
              go_wp2_with fail
              go_roundg (s.size - (j + 1))
              case measure => omega
              case rel => exact ⟨j + 1, rfl, by omega, by omega, by go_num, rfl, HN⟩
          · have t1 : ((s[j].toNat : Int) == 32) = false := by
              have : ¬ s[j].toNat = 32 := fun e => h32 (UInt8.toNat_inj.1 e)
              simp; omega
            have hxs : (s.extract j s.size).size = s.size - j := by rw [ByteArray.size_extract]; omega
            have cO := fun wx hw => first13_any (s.extract j s.size) wx (by omega) hw
            have hxl : (s.extract j s.size).data.toList = s.data.toList.drop j := Oct.extract_drop s j
            rw [hxl] at cO
            have hEw := errR_below hE HI.out.2.1
            by_cases he : (Lx.one (s.data.toList.drop j)).2.2 = 0
            · have hp := (Lx.one_ok he).2.2.1
              have hle := (Lx.one_ok he).2.2.2.1
              have hsl : s.data.toList.length = s.size := by rw [Array.length_toList]; rfl
              have hle2 : (Lx.one (s.data.toList.drop j)).2.1 ≤ s.size - j := by
                have h := List.length_drop (i := j) (l := s.data.toList)
                rw [hsl] at h
                rw [← h]; exact hle
              have he2 := he
              rw [hdn] at he2
              rw [Lx.glue_step acc h32 he2, ← hdn, List.drop_drop] at hg
              rw [he] at cO
              have hnp : 0 < (Lx.one (s.data.toList.drop j)).2.1 := hp
              generalize (Lx.one (s.data.toList.drop j)).2.1 = N at *
              generalize (Lx.one (s.data.toList.drop j)).1 = V at *
              obtain ⟨tk, ts, tn, ta⟩ := V
              have HN := Lib.hid (And.intro (cO _ hEw) hg)
              clear cO hg hle hp he he2 hxl hdn h32 hxs hsl hEw
              go_wp2_with fail
              refine HN.out.1.mono ?_
              rintro e w2 ⟨rfl, hb2⟩
              obtain ⟨p1, p2, p3, p4⟩ := box_tok ⟨tk, ts, tn, (j : Int)⟩ (owL_below HI.out.1 hb2) (HI.out.2.1.trans (hb2.mono HI.out.2.1.size)) (Nat.le_refl _)
              have HP := Lib.hid (And.intro p1 (And.intro p2 (And.intro p3 p4)))
              clear hb2 p1 p2 p3 p4
              go_upto_region 13 with (fail)
              generalize hws : World.alloc w2 _ = ws at *
              obtain ⟨c0, c1, c2, c3, _⟩ := tok_cells (v := ⟨tk, ts, tn, (j : Int)⟩) HP.out.2.2.2
              obtain ⟨o1, o2, o3, o4⟩ := box_tok ⟨tk, ts, tn, (j : Int)⟩ HP.out.1 HP.out.2.1 (Nat.le_refl _)
              have HO := Lib.hid (And.intro o1 (And.intro o2 (And.intro o3 o4)))
              clear o1 o2 o3 o4 hws
              go_wp2_with (at_builtin; refine wpList_append_one (f := tCl) (B := w.heap.size) tok_elem rfl (.tmp 41) (.tmp 43) 39 rfl Tryz.underlying39 (.slice _ n cp) acc ⟨tk, ts, tn, (j : Int)⟩ rfl HO.out.1 ws.heap.size 1 rfl HO.out.2.2.2 rfl (tCl_one _) (by omega) HO.out.2.2.1 ?_; intro gg cap w6 h1 h2 h3 h4; have HF := Lib.hid (And.intro h1 (And.intro h2 (And.intro h3 h4))); clear h1 h2 h3 h4; rw [hacc])
              obtain ⟨f1, f2⟩ := app_tok (w := w) HF.out.1 HF.out.2.1 HO.out.1 HO.out.2.1 HO.out.2.2.1
              rw [hacc] at f1
              have HG := Lib.hid (And.intro f1 f2)
              clear f1 f2
              go_wp2_with fail
              go_roundg (s.size - (j + N))
              case measure => omega
              case rel => exact ⟨j + N, n + 1, acc ++ [⟨tk, ts, tn, (j : Int)⟩], _, cap, rfl, by omega, by omega, by rw [List.length_append, hacc]; rfl, rfl, by go_num, Lib.hid ⟨HG.out.1, HG.out.2, HN.out.2⟩⟩
            · have he2 := he
              rw [hdn] at he2
              rw [Lx.glue_err acc h32 he2, ← hdn] at hg
              have q1 : ((Lx.one (s.data.toList.drop j)).2.2 != 0) = true := by simpa using he
              generalize (Lx.one (s.data.toList.drop j)).2.1 = N at *
              generalize (Lx.one (s.data.toList.drop j)).2.2 = E at *
              generalize (Lx.one (s.data.toList.drop j)).1 = V at *
              obtain ⟨tk, ts, tn, ta⟩ := V
              have HN := Lib.hid (And.intro (cO _ hEw) hg)
              clear cO hg he he2 hxl hdn h32 hxs hEw
              go_wp2_with fail
              refine HN.out.1.mono ?_
              rintro e w2 ⟨rfl, hb2⟩
              have hbw := HI.out.2.1.trans (hb2.mono HI.out.2.1.size)
              have HP := Lib.hid (hbw.alloc hbw.size (.cells (tokC ⟨tk, ts, tn, ta⟩) 45))
              clear hb2 hbw
              go_wp2_with fail
              try rw [Exit.noGoto_ret]
              go_ret3
              exact lexPost_err HN.out.2 HP.out
      · have HE : Hid (T = (acc, 0, 0)) := Lib.hid (by
          rw [HI.out.2.2, List.drop_eq_nil_of_le (by rw [Array.length_toList]; show s.size ≤ k; omega)]; exact Lx.glue_end acc k)
        go_wp2_with fail
        try rw [Exit.noGoto_ret]
        go_ret3
        exact lexPost_ok HE.out hacc HI.out.1 HI.out.2.1
end Go.Proofs.YtekahmlppaabjaaGreatDoor

/-
  Layer 13, the program's: reserved words, and names.
-/
namespace Go.Proofs.YtekahmlppaabjaaGreatDoor
open Go.RowKit
theorem res_ne {s : ByteArray} {m : List UInt8} (h : ¬ s = ⟨m.toArray⟩) : (s.toList == m) = false := by
  have h2 : ¬ s.toList = m := fun e => h (Sl.ba_ext (by rw [← ByteArray.toList_eq, e]))
  simpa using h2
set_option maxRecDepth 100000 in
set_option maxHeartbeats 1600000 in
theorem res13_0 (w : World) : Calls Tryz.prog 74 #[.string ⟨#[97, 110, 100]⟩] w fun e w' => e = .returned (.bool (Lx.reserved (⟨#[97, 110, 100]⟩ : ByteArray).data.toList)) ∧ w' = w := by
  have HE : Hid (Lx.reserved (⟨#[97, 110, 100]⟩ : ByteArray).data.toList = true) := Lib.hid (by decide)
  go_enter Tryz.func74, Tryz.ntmps74
  go_wp2_with fail
  go_ret
  exact ⟨ret_bool HE.out.symm, rfl⟩
set_option maxRecDepth 100000 in
set_option maxHeartbeats 1600000 in
theorem res13_1 (w : World) : Calls Tryz.prog 74 #[.string ⟨#[111, 114]⟩] w fun e w' => e = .returned (.bool (Lx.reserved (⟨#[111, 114]⟩ : ByteArray).data.toList)) ∧ w' = w := by
  have HE : Hid (Lx.reserved (⟨#[111, 114]⟩ : ByteArray).data.toList = true) := Lib.hid (by decide)
  go_enter Tryz.func74, Tryz.ntmps74
  go_wp2_with fail
  go_ret
  exact ⟨ret_bool HE.out.symm, rfl⟩
set_option maxRecDepth 100000 in
set_option maxHeartbeats 1600000 in
theorem res13_2 (w : World) : Calls Tryz.prog 74 #[.string ⟨#[110, 111, 116]⟩] w fun e w' => e = .returned (.bool (Lx.reserved (⟨#[110, 111, 116]⟩ : ByteArray).data.toList)) ∧ w' = w := by
  have HE : Hid (Lx.reserved (⟨#[110, 111, 116]⟩ : ByteArray).data.toList = true) := Lib.hid (by decide)
  go_enter Tryz.func74, Tryz.ntmps74
  go_wp2_with fail
  go_ret
  exact ⟨ret_bool HE.out.symm, rfl⟩
set_option maxRecDepth 100000 in
set_option maxHeartbeats 1600000 in
theorem res13_3 (w : World) : Calls Tryz.prog 74 #[.string ⟨#[105, 102]⟩] w fun e w' => e = .returned (.bool (Lx.reserved (⟨#[105, 102]⟩ : ByteArray).data.toList)) ∧ w' = w := by
  have HE : Hid (Lx.reserved (⟨#[105, 102]⟩ : ByteArray).data.toList = true) := Lib.hid (by decide)
  go_enter Tryz.func74, Tryz.ntmps74
  go_wp2_with fail
  go_ret
  exact ⟨ret_bool HE.out.symm, rfl⟩
set_option maxRecDepth 100000 in
set_option maxHeartbeats 1600000 in
theorem res13_4 (w : World) : Calls Tryz.prog 74 #[.string ⟨#[116, 104, 101, 110]⟩] w fun e w' => e = .returned (.bool (Lx.reserved (⟨#[116, 104, 101, 110]⟩ : ByteArray).data.toList)) ∧ w' = w := by
  have HE : Hid (Lx.reserved (⟨#[116, 104, 101, 110]⟩ : ByteArray).data.toList = true) := Lib.hid (by decide)
  go_enter Tryz.func74, Tryz.ntmps74
  go_wp2_with fail
  go_ret
  exact ⟨ret_bool HE.out.symm, rfl⟩
set_option maxRecDepth 100000 in
set_option maxHeartbeats 1600000 in
theorem res13_5 (w : World) : Calls Tryz.prog 74 #[.string ⟨#[101, 108, 115, 101]⟩] w fun e w' => e = .returned (.bool (Lx.reserved (⟨#[101, 108, 115, 101]⟩ : ByteArray).data.toList)) ∧ w' = w := by
  have HE : Hid (Lx.reserved (⟨#[101, 108, 115, 101]⟩ : ByteArray).data.toList = true) := Lib.hid (by decide)
  go_enter Tryz.func74, Tryz.ntmps74
  go_wp2_with fail
  go_ret
  exact ⟨ret_bool HE.out.symm, rfl⟩
set_option maxRecDepth 100000 in
set_option maxHeartbeats 1600000 in
theorem res13_6 (w : World) : Calls Tryz.prog 74 #[.string ⟨#[116, 114, 117, 101]⟩] w fun e w' => e = .returned (.bool (Lx.reserved (⟨#[116, 114, 117, 101]⟩ : ByteArray).data.toList)) ∧ w' = w := by
  have HE : Hid (Lx.reserved (⟨#[116, 114, 117, 101]⟩ : ByteArray).data.toList = true) := Lib.hid (by decide)
  go_enter Tryz.func74, Tryz.ntmps74
  go_wp2_with fail
  go_ret
  exact ⟨ret_bool HE.out.symm, rfl⟩
set_option maxRecDepth 100000 in
set_option maxHeartbeats 1600000 in
theorem res13_7 (w : World) : Calls Tryz.prog 74 #[.string ⟨#[102, 97, 108, 115, 101]⟩] w fun e w' => e = .returned (.bool (Lx.reserved (⟨#[102, 97, 108, 115, 101]⟩ : ByteArray).data.toList)) ∧ w' = w := by
  have HE : Hid (Lx.reserved (⟨#[102, 97, 108, 115, 101]⟩ : ByteArray).data.toList = true) := Lib.hid (by decide)
  go_enter Tryz.func74, Tryz.ntmps74
  go_wp2_with fail
  go_ret
  exact ⟨ret_bool HE.out.symm, rfl⟩
set_option maxRecDepth 100000 in
set_option maxHeartbeats 1600000 in
theorem res13_8 (w : World) : Calls Tryz.prog 74 #[.string ⟨#[110, 117, 108, 108]⟩] w fun e w' => e = .returned (.bool (Lx.reserved (⟨#[110, 117, 108, 108]⟩ : ByteArray).data.toList)) ∧ w' = w := by
  have HE : Hid (Lx.reserved (⟨#[110, 117, 108, 108]⟩ : ByteArray).data.toList = true) := Lib.hid (by decide)
  go_enter Tryz.func74, Tryz.ntmps74
  go_wp2_with fail
  go_ret
  exact ⟨ret_bool HE.out.symm, rfl⟩
set_option maxRecDepth 100000 in
set_option maxHeartbeats 3200000 in
theorem reserved13_any (s : ByteArray) (w : World) : Calls Tryz.prog 74 #[.string s] w fun e w' => e = .returned (.bool (Lx.reserved s.data.toList)) ∧ w' = w := by
  by_cases h0 : s = ⟨#[97, 110, 100]⟩
  · subst h0
    exact res13_0 w
  · by_cases h1 : s = ⟨#[111, 114]⟩
    · subst h1
      exact res13_1 w
    · by_cases h2 : s = ⟨#[110, 111, 116]⟩
      · subst h2
        exact res13_2 w
      · by_cases h3 : s = ⟨#[105, 102]⟩
        · subst h3
          exact res13_3 w
        · by_cases h4 : s = ⟨#[116, 104, 101, 110]⟩
          · subst h4
            exact res13_4 w
          · by_cases h5 : s = ⟨#[101, 108, 115, 101]⟩
            · subst h5
              exact res13_5 w
            · by_cases h6 : s = ⟨#[116, 114, 117, 101]⟩
              · subst h6
                exact res13_6 w
              · by_cases h7 : s = ⟨#[102, 97, 108, 115, 101]⟩
                · subst h7
                  exact res13_7 w
                · by_cases h8 : s = ⟨#[110, 117, 108, 108]⟩
                  · subst h8
                    exact res13_8 w
                  · have HE : Hid (Lx.reserved s.data.toList = false) := Lib.hid (decide_eq_false (by
                      intro hm
                      simp only [Lx.words, List.mem_cons, List.not_mem_nil, or_false] at hm
                      rcases hm with hm | hm | hm | hm | hm | hm | hm | hm | hm
                      · exact h0 (Sl.ba_ext hm)
                      · exact h1 (Sl.ba_ext hm)
                      · exact h2 (Sl.ba_ext hm)
                      · exact h3 (Sl.ba_ext hm)
                      · exact h4 (Sl.ba_ext hm)
                      · exact h5 (Sl.ba_ext hm)
                      · exact h6 (Sl.ba_ext hm)
                      · exact h7 (Sl.ba_ext hm)
                      · exact h8 (Sl.ba_ext hm)))
                    have t0 : (s.toList == [97, 110, 100]) = false := res_ne h0
                    have t1 : (s.toList == [111, 114]) = false := res_ne h1
                    have t2 : (s.toList == [110, 111, 116]) = false := res_ne h2
                    have t3 : (s.toList == [105, 102]) = false := res_ne h3
                    have t4 : (s.toList == [116, 104, 101, 110]) = false := res_ne h4
                    have t5 : (s.toList == [101, 108, 115, 101]) = false := res_ne h5
                    have t6 : (s.toList == [116, 114, 117, 101]) = false := res_ne h6
                    have t7 : (s.toList == [102, 97, 108, 115, 101]) = false := res_ne h7
                    have t8 : (s.toList == [110, 117, 108, 108]) = false := res_ne h8
                    clear h0 h1 h2 h3 h4 h5 h6 h7 h8
                    go_enter Tryz.func74, Tryz.ntmps74
                    go_wp2_with fail
                    go_ret
                    exact ⟨ret_bool HE.out.symm, rfl⟩
end Go.Proofs.YtekahmlppaabjaaGreatDoor

/-
  Layer 13, the program's: names.
-/
namespace Go.Proofs.YtekahmlppaabjaaGreatDoor
open Go.RowKit
namespace Lx
theorem numT_kind (l : List UInt8) (h : (numT l).2.2 = 0) : (numT l).1.kind = 2 := by
  revert h; unfold numT; split
  · intro h; exact absurd h (by decide)
  · split
    · intro h; exact absurd h (by decide)
    · intro _; rfl
theorem txtT_kind (l : List UInt8) (h : (txtT l).2.2 = 0) : (txtT l).1.kind = 3 := by
  revert h; unfold txtT; split
  · intro h; exact absurd h (by decide)
  · split
    · intro h; exact absurd h (by decide)
    · intro _; rfl
theorem markT_kind (l : List UInt8) (h : (markT l).2.2 = 0) : (markT l).1.kind = 4 := by
  revert h; unfold markT; split
  · intro _; rfl
  · intro h; exact absurd h (by decide)
theorem nameB_yes {s : ByteArray} (he : (one s.data.toList).2.2 = 0) (hk : (one s.data.toList).1.kind = 1) (hn : (one s.data.toList).2.1 = s.size) : nameB s = !reserved s.data.toList := by
  have hl : s.data.toList.length = s.size := Array.length_toList ..
  unfold nameB
  cases hd : s.data.toList with
  | nil => rw [hd] at he; exact absurd he (by decide)
  | cons c r =>
    rw [hd] at he hk hn
    rw [one_cons] at he hk hn
    by_cases hL : letter c = true
    · rw [if_pos hL] at he hk hn
      revert he hn
      unfold nameT
      split
      · intro _ he; exact absurd he (by decide)
      · rename_i h16
        intro hn _
        have hn : word false (c :: r) = s.size := hn
        have hm : ¬ s = Vl.mt := fun e => by rw [e] at hd; cases hd
        rw [hn, decide_eq_false hm, decide_eq_true rfl, decide_eq_true (show s.size ≤ 16 by omega)]; rfl
    · rw [if_neg hL] at he hk
      by_cases hD : digit c = true
      · rw [if_pos hD] at he hk
        rw [numT_kind _ he] at hk; exact absurd hk (by decide)
      · rw [if_neg hD] at he hk
        by_cases hq : c = 34
        · rw [if_pos hq] at he hk
          rw [txtT_kind _ he] at hk; exact absurd hk (by decide)
        · rw [if_neg hq] at he hk
          rw [markT_kind _ he] at hk; exact absurd hk (by decide)
theorem nameB_no {s : ByteArray} (h : ¬ ((one s.data.toList).2.2 = 0 ∧ (one s.data.toList).1.kind = 1 ∧ (one s.data.toList).2.1 = s.size)) : nameB s = false := by
  cases hB : nameB s with
  | false => rfl
  | true =>
    exfalso
    apply h
    unfold nameB at hB
    simp only [Bool.and_eq_true, Bool.not_eq_true', decide_eq_false_iff_not, decide_eq_true_eq] at hB
    obtain ⟨⟨⟨hm, hw⟩, h16⟩, _⟩ := hB
    cases hd : s.data.toList with
    | nil => exact absurd (Sl.ba_ext (by rw [hd])) hm
    | cons c r =>
      rw [hd] at hw
      have hL : letter c = true := by
        cases hL : letter c with
        | true => rfl
        | false =>
          rw [word, hL] at hw
          have : s.size = 0 := by simpa using hw.symm
          have hl : s.data.toList.length = s.size := Array.length_toList ..
          rw [hd, List.length_cons] at hl
          omega
      rw [one_cons, if_pos hL]
      unfold nameT
      rw [if_neg (by omega)]
      exact ⟨rfl, rfl, hw⟩
end Lx
set_option maxRecDepth 100000 in
set_option maxHeartbeats 6400000 in
theorem Name13_any (s : ByteArray) (w : World) (hs : s.size ≤ 1000000) (hE : ErrR w) :
    Calls Tryz.prog 50 #[.string s] w fun e w' => e = .returned (.bool (Lx.nameB s)) ∧ Below w.heap.size w w' := by
  have hY := Lx.nameB_yes (s := s)
  have hN := Lx.nameB_no (s := s)
  have cF := first13_any s w hs hE
  have cR := fun w => reserved13_any s w
  generalize (Lx.one s.data.toList).2.1 = N at *
  generalize (Lx.one s.data.toList).2.2 = E at *
  generalize (Lx.one s.data.toList).1 = V at *
  obtain ⟨vk, vs, vn, va⟩ := V
  generalize Lx.nameB s = B at *
  generalize Lx.reserved s.data.toList = R at *
  have H := Lib.hid (And.intro cF cR)
  clear cF cR hE
  by_cases he : E = 0
  · have t1 : (E == 0) = true := by simpa using he
    by_cases hk : vk = 1
    · have t2 : (vk == 1) = true := by simpa using hk
      by_cases hn : N = s.size
      · have t3 : ((N : Int) == (s.size : Int)) = true := by simp; omega
        have HR := Lib.hid (hY he hk hn)
        clear hY hN he hk hn
        go_enter Tryz.func50, Tryz.ntmps50
        go_wp2_with fail
        refine H.out.1.mono ?_
        rintro e w1 ⟨rfl, hb1⟩
        obtain ⟨q0, q1, q2⟩ := tok_new ⟨vk, vs, vn, va⟩ w1
        obtain ⟨a0, a1, a2, a3, g0, g1, g2, g3⟩ := tok_cells (v := ⟨vk, vs, vn, va⟩) q0
        have L := Lib.hid (hb1.alloc hb1.size (.cells (tokC ⟨vk, vs, vn, va⟩) 45))
        clear hb1 q0 q1 q2
        go_upto_region 2 with (fail)
        generalize hws : World.alloc w1 _ = ws at *
        go_wp2_with (go_at_call 74; refine (H.out.2 _).mono ?_; rintro e w2 ⟨rfl, rfl⟩)
        go_ret
        exact ⟨ret_bool HR.out.symm, L.out⟩
      · have t3 : ((N : Int) == (s.size : Int)) = false := by simp; omega
        have HR := Lib.hid (hN fun x => hn x.2.2)
        clear hY hN he hk hn
        go_enter Tryz.func50, Tryz.ntmps50
        go_wp2_with fail
        refine H.out.1.mono ?_
        rintro e w1 ⟨rfl, hb1⟩
        obtain ⟨q0, q1, q2⟩ := tok_new ⟨vk, vs, vn, va⟩ w1
        obtain ⟨a0, a1, a2, a3, g0, g1, g2, g3⟩ := tok_cells (v := ⟨vk, vs, vn, va⟩) q0
        have L := Lib.hid (hb1.alloc hb1.size (.cells (tokC ⟨vk, vs, vn, va⟩) 45))
        clear hb1 q0 q1 q2
        go_upto_region 2 with (fail)
        generalize hws : World.alloc w1 _ = ws at *
        go_wp2_with fail
        go_ret
        exact ⟨ret_bool HR.out.symm, L.out⟩
    · have t2 : (vk == 1) = false := by simpa using hk
      have HR := Lib.hid (hN fun x => hk x.2.1)
      clear hY hN he hk
      go_enter Tryz.func50, Tryz.ntmps50
      go_wp2_with fail
      refine H.out.1.mono ?_
      rintro e w1 ⟨rfl, hb1⟩
      obtain ⟨q0, q1, q2⟩ := tok_new ⟨vk, vs, vn, va⟩ w1
      obtain ⟨a0, a1, a2, a3, g0, g1, g2, g3⟩ := tok_cells (v := ⟨vk, vs, vn, va⟩) q0
      have L := Lib.hid (hb1.alloc hb1.size (.cells (tokC ⟨vk, vs, vn, va⟩) 45))
      clear hb1 q0 q1 q2
      go_upto_region 2 with (fail)
      generalize hws : World.alloc w1 _ = ws at *
      go_wp2_with fail
      go_ret
      exact ⟨ret_bool HR.out.symm, L.out⟩
  · have t1 : (E == 0) = false := by simpa using he
    have HR := Lib.hid (hN fun x => he x.1)
    clear hY hN he
    go_enter Tryz.func50, Tryz.ntmps50
    go_wp2_with fail
    refine H.out.1.mono ?_
    rintro e w1 ⟨rfl, hb1⟩
    have L := Lib.hid (hb1.alloc hb1.size (.cells (tokC ⟨vk, vs, vn, va⟩) 45))
    clear hb1
    go_upto_region 2 with (fail)
    generalize hws : World.alloc w1 _ = ws at *
    go_wp2_with fail
    go_ret
    exact ⟨ret_bool HR.out.symm, L.out⟩
end Go.Proofs.YtekahmlppaabjaaGreatDoor

/-
  Layer 14, the program's: the table of ops of two, and the small calls over it.
-/
namespace Go.Proofs.YtekahmlppaabjaaGreatDoor
open Go.RowKit
open Sx (X toksOf isT)
/-- the table of how ops of two are written, and of their levels -/
def Twos (w : World) : Prop := ∀ k : Nat, 4 ≤ k → k ≤ 15 → w.cell? ⟨0, k * 2, none⟩ = some (.string (Lx.mk (Sx.sign k))) ∧ w.cell? ⟨0, k * 2 + 1, none⟩ = some (.int .i64 (Sx.lvl k : Nat))
theorem twos_below {w w' : World} (h : Twos w) (hb : Below w.heap.size w w') : Twos w' := fun k h4 h15 =>
  ⟨(hb.cell (World.block_lt_of_cell? _ _ (h k h4 h15).1)).trans (h k h4 h15).1, (hb.cell (World.block_lt_of_cell? _ _ (h k h4 h15).2)).trans (h k h4 h15).2⟩
set_option maxRecDepth 100000 in
theorem sides14_any (l : Nat) (hl : l ≤ 7) (w : World) : Calls Tryz.prog 25 #[.int .i64 (l : Int)] w fun e w' => e = .returned (.tuple #[.int .i64 ((if l = 3 then 4 else l : Nat) : Int), .int .i64 ((l : Int) + 1)]) ∧ w' = w := by
  have hw : IntKind.i64.wrap ((l : Int) + 1) = (l : Int) + 1 := IntWalk.i64_in _ (by omega)
  by_cases h3 : l = 3
  · subst h3
    go_enter Tryz.func25, Tryz.ntmps25
    go_wp2_with fail
    go_ret2
    exact ⟨rfl, rfl⟩
  · rw [if_neg h3]
    have t0 : ((l : Int) == 3) = false := by simp; omega
    go_enter Tryz.func25, Tryz.ntmps25
    go_wp2_with fail
    go_ret2
    exact ⟨rfl, rfl⟩
/-- how many parts an op has (0 of what is none) -/
def cntP (op : Int) : Int := if op = 3 then 1 else if 4 ≤ op ∧ op ≤ 15 then 2 else if op = 16 then 3 else 0
set_option maxRecDepth 100000 in
theorem count14_any (op : Int) (w : World) : Calls Tryz.prog 51 #[.int .i64 op] w fun e w' => e = .returned (.int .i64 (cntP op)) ∧ w' = w := by
  unfold cntP
  by_cases h3 : op = 3
  · subst h3
    go_enter Tryz.func51, Tryz.ntmps51
    go_wp2_with fail
    go_ret
    exact ⟨rfl, rfl⟩
  · rw [if_neg h3]
    have t0 : (op == 3) = false := by simpa using h3
    by_cases h4 : 4 ≤ op
    · by_cases h15 : op ≤ 15
      · rw [if_pos ⟨h4, h15⟩]
        go_enter Tryz.func51, Tryz.ntmps51
        go_wp2_with fail
        go_ret
        exact ⟨rfl, rfl⟩
      · rw [if_neg (by omega)]
        by_cases h16 : op = 16
        · subst h16
          go_enter Tryz.func51, Tryz.ntmps51
          go_wp2_with fail
          go_ret
          exact ⟨rfl, rfl⟩
        · rw [if_neg h16]
          have t1 : (op == 16) = false := by simpa using h16
          go_enter Tryz.func51, Tryz.ntmps51
          go_wp2_with fail
          go_ret
          exact ⟨rfl, rfl⟩
    · rw [if_neg (by omega), if_neg (by omega)]
      have t1 : (op == 16) = false := by simp; omega
      go_enter Tryz.func51, Tryz.ntmps51
      go_wp2_with fail
      go_ret
      exact ⟨rfl, rfl⟩
theorem lvl_small {op : Int} : Sx.lvl op ≤ 7 := by unfold Sx.lvl; (repeat' split) <;> omega
set_option maxRecDepth 100000 in
theorem levelOf14_any (op : Int) (h1 : 1 ≤ op) (h16 : op ≤ 16) (w : World) (hT : Twos w) : Calls Tryz.prog 23 #[.int .i64 op] w fun e w' => e = .returned (.int .i64 (Sx.lvl op : Nat)) ∧ w' = w := by
  by_cases e1 : op = 1
  · subst e1
    clear hT
    go_enter Tryz.func23, Tryz.ntmps23
    go_wp2_with fail
    go_ret
    exact ⟨rfl, rfl⟩
  · by_cases e2 : op = 2
    · subst e2
      clear hT
      go_enter Tryz.func23, Tryz.ntmps23
      go_wp2_with fail
      go_ret
      exact ⟨rfl, rfl⟩
    · by_cases e3 : op = 3
      · subst e3
        clear hT
        go_enter Tryz.func23, Tryz.ntmps23
        go_wp2_with fail
        go_ret
        exact ⟨rfl, rfl⟩
      · by_cases e4 : op = 16
        · subst e4
          clear hT
          go_enter Tryz.func23, Tryz.ntmps23
          go_wp2_with fail
          go_ret
          exact ⟨rfl, rfl⟩
        · obtain ⟨k, rfl⟩ : ∃ k : Nat, op = (k : Int) := ⟨op.toNat, by omega⟩
          obtain ⟨c0, c1⟩ := hT k (by omega) (by omega)
          have t1 : (((k : Nat) : Int) == 1) = false := by simpa using e1
          have t2 : (((k : Nat) : Int) == 2) = false := by simpa using e2
          have t3 : (((k : Nat) : Int) == 3) = false := by simpa using e3
          have t4 : (((k : Nat) : Int) == 16) = false := by simpa using e4
          have hk : k < 16 := by omega
          generalize Sx.lvl (k : Int) = V at *
          clear hT e1 e2 e3 e4 c0
          go_enter Tryz.func23, Tryz.ntmps23
          go_wp2_with fail
          go_ret
          exact ⟨rfl, rfl⟩
/-- the op of two that is written so -/
def opW (s : ByteArray) : Option Int := Sx.ops.find? fun op => decide (Lx.mk (Sx.sign op) = s)
theorem opW_none {s : ByteArray} (h : ∀ k : Nat, 4 ≤ k → k < 16 → ¬ Lx.mk (Sx.sign k) = s) : opW s = none := by
  unfold opW
  rw [List.find?_eq_none]
  intro op hop
  simp only [Sx.ops, List.mem_cons, List.not_mem_nil, or_false] at hop
  have h4 : 4 ≤ op ∧ op ≤ 15 := by omega
  have := h op.toNat (by omega) (by omega)
  rw [show ((op.toNat : Nat) : Int) = op by omega] at this
  simpa using this
theorem opW_some {s : ByteArray} {k : Nat} (h4 : 4 ≤ k) (h15 : k ≤ 15) (h : Lx.mk (Sx.sign k) = s) : opW s = some (k : Int) := by
  unfold opW
  cases hf : Sx.ops.find? (fun op => decide (Lx.mk (Sx.sign op) = s)) with
  | none =>
    rw [List.find?_eq_none] at hf
    exact absurd (decide_eq_true h) (hf k (Sx.ops_cases (by omega) (by omega)))
  | some o =>
    have h1 := List.mem_of_find?_eq_some hf
    have h2 := List.find?_some hf
    rw [decide_eq_true_eq] at h2
    rw [Sx.sign_inj o h1 k (Sx.ops_cases (by omega) (by omega)) (Sx.mk_inj (h2.trans h.symm))]
set_option maxRecDepth 100000 in
theorem twoOf14_any (s : ByteArray) (w : World) (hT : Twos w) : Calls Tryz.prog 68 #[.string s] w fun e w' => e = .returned (.tuple #[.int .i64 ((opW s).getD 0), .bool (opW s).isSome]) ∧ w' = w := by
  have H := Lib.hid hT
  clear hT
  go_enter Tryz.func68, Tryz.ntmps68
  go_wp2_with fail
  go_loopw [4] (fun i wr => ∃ k : Nat, 4 ≤ k ∧ k ≤ 16 ∧ i = .int .i64 (k : Int) ∧ wr = w ∧ Hid (∀ j : Nat, 4 ≤ j → j < k → ¬ Lx.mk (Sx.sign j) = s)) (fun i _ => 16 - (intOf i).toNat)
  case atStart => exact ⟨4, by omega, by omega, rfl, rfl, Lib.hid fun j h h' => by omega⟩
  case round =>
    obtain ⟨k, h4, h16, rfl, rfl, HN⟩ := hrel
    by_cases hk : k = 16
    · subst hk
      go_wp2_with fail
      have := opW_none HN.out
      go_ret2
      rw [this]
      exact ⟨rfl, rfl⟩
    · obtain ⟨c0, c1⟩ := H.out k h4 (by omega)
      have hle : ((k : Nat) : Int) ≤ 15 := by omega
      have hk16 : k < 16 := by omega
      by_cases he : Lx.mk (Sx.sign k) = s
      · have hr := Lib.hid (opW_some h4 (by omega) he)
        rw [he] at c0
        clear he c1
        go_wp2_with fail
        go_ret2
        rw [hr.out]
        exact ⟨rfl, rfl⟩
      · have n1 : ¬ (Lx.mk (Sx.sign k)).toList = s.toList := fun e => he (Sl.ba_ext (by rw [← ByteArray.toList_eq, ← ByteArray.toList_eq]; exact e))
        have n2 : ((Lx.mk (Sx.sign k)).toList == s.toList) = false := by simpa using n1
        have hn : Hid (∀ j : Nat, 4 ≤ j → j < k + 1 → ¬ Lx.mk (Sx.sign j) = s) := Lib.hid fun j h h' => by
          by_cases hj : j < k
          · exact HN.out j h hj
          · obtain rfl : j = k := by omega
            exact he
        generalize Lx.mk (Sx.sign k) = V at *
        clear he c1
        go_wp2_with fail
        go_roundw
        case rel => exact ⟨k + 1, by omega, by omega, by first | go_num | trivial, by first | rfl | trivial, hn⟩
        case measure => simp [intOf]; omega
end Go.Proofs.YtekahmlppaabjaaGreatDoor

/-
  Layer 14: how deep an expression is, how many there are in it: the document's.
-/
namespace Go.Proofs.YtekahmlppaabjaaGreatDoor
open Go.RowKit
open Sx (X)
namespace Sx
theorem deepL_app : ∀ (l : List X) (x : X), deepL (l ++ [x]) = max (deepL l) (deep x)
  | [], x => by rw [List.nil_append, deepL, deepL, deepL]; omega
  | y :: l, x => by rw [List.cons_append, deepL, deepL_app l x, deepL]; omega
theorem deepL_next {l : List X} {k : Nat} (h : k < l.length) : deepL (l.take (k + 1)) = max (deepL (l.take k)) (deep l[k]) := by
  rw [List.take_succ_eq_append_getElem h, deepL_app]
theorem deep_eq (x : X) : deep x = deepL x.l + 1 := by obtain ⟨_, _, _, _⟩ := x; rw [deep]; rfl
theorem sizeL_app : ∀ (l : List X) (x : X), sizeL (l ++ [x]) = sizeL l + size x
  | [], x => by simp [sizeL]
  | y :: l, x => by rw [List.cons_append, sizeL, sizeL_app l x, sizeL]; omega
theorem sizeL_next {l : List X} {k : Nat} (h : k < l.length) : sizeL (l.take (k + 1)) = sizeL (l.take k) + size l[k] := by
  rw [List.take_succ_eq_append_getElem h, sizeL_app]
theorem size_eq (x : X) : size x = 1 + sizeL x.l := by obtain ⟨_, _, _, _⟩ := x; rw [size]; rfl
mutual
theorem deep_size : ∀ x : X, deep x ≤ size x
  | .mk _ _ _ l => by rw [deep, size]; have := deepL_size l; omega
theorem deepL_size : ∀ l : List X, deepL l ≤ sizeL l
  | [] => Nat.le_refl _
  | x :: r => by rw [deepL, sizeL]; have := deep_size x; have := deepL_size r; omega
end
theorem deepL_take (l : List X) (k : Nat) : deepL (l.take k) ≤ deepL l := by
  induction l generalizing k with
  | nil => simp
  | cons x r ih =>
    cases k with
    | zero => exact Nat.zero_le _
    | succ k => rw [List.take_succ_cons, deepL, deepL]; have := ih k; omega
theorem sizeL_take (l : List X) (k : Nat) : sizeL (l.take k) ≤ sizeL l := by
  induction l generalizing k with
  | nil => simp
  | cons x r ih =>
    cases k with
    | zero => exact Nat.zero_le _
    | succ k => rw [List.take_succ_cons, sizeL, sizeL]; have := ih k; omega
theorem len_size : ∀ l : List X, l.length ≤ sizeL l
  | [] => Nat.le_refl _
  | x :: r => by
    have := len_size r
    have h := size_pos x
    rw [sizeL, List.length_cons]; omega
end Sx
theorem wrap_add (a b : Int) : IntKind.i64.wrap (IntKind.i64.wrap a + IntKind.i64.wrap b) = IntKind.i64.wrap (a + b) := by
  simp only [IntKind.wrap, IntKind.bits, IntKind.signed]
  simp
  repeat' split
  all_goals omega
/-- the six cells of a box, at every world behind it -/
theorem x_look {x : X} {a : Option Addr} {c : Nat} {w wr : World} (hb : Below (w.alloc (.cells (xC x a c) 29)).heap.size (w.alloc (.cells (xC x a c) 29)) wr) : Cells6 wr w.heap.size 0 x a c ∧ Below w.heap.size w wr :=
  ⟨x_cells (x_box hb).1, (x_box hb).2⟩
set_option maxRecDepth 100000 in
set_option maxHeartbeats 3200000 in
theorem rdeep14_any (S : Nat → Prop) : ∀ (n : Nat) (x : X), Sx.deep x ≤ n → Sx.okX x → n ≤ 1000000000 → ∀ (a : Option Addr) (c : Nat) (w : World), XAt w S x a → Calls Tryz.prog 14 #[xV x a c] w fun e w' => e = .returned (.int .i64 (Sx.deep x : Nat)) ∧ Below w.heap.size w w' := by
  intro n
  induction n with
  | zero => intro x hn; have := Sx.deep_pos x; omega
  | succ n ih =>
    intro x hn hok hmax a c w hx
    have hd := Sx.deep_eq x
    have hdb := fun k => Sx.deepL_take x.l k
    have hlen := (Sx.okX_is hok).2.2.2
    unfold maxLen at hlen
    have HL := Lib.hid fun (wr : World) (hb : Below (w.alloc (.cells (xC x a c) 29)).heap.size (w.alloc (.cells (xC x a c) 29)) wr) => x_look hb
    have HX := Lib.hid hx
    have HI := Lib.hid ih
    clear hx ih
    go_enter Tryz.func14, Tryz.ntmps14
    go_wp2_with fail
    go_loopw [3, 4] (fun m i wr => ∃ k : Nat, k ≤ x.l.length ∧ i = .int .i64 (k : Int) ∧ m = .int .i64 (Sx.deepL (x.l.take k) : Nat) ∧ Hid (Below (w.alloc (.cells (xC x a c) 29)).heap.size (w.alloc (.cells (xC x a c) 29)) wr)) (fun _ i _ => x.l.length - (intOf i).toNat)
    case atStart => exact ⟨0, Nat.zero_le _, rfl, rfl, Lib.hid (Below.refl _ _)⟩
    case round =>
      obtain ⟨k, hk, rfl, rfl, hb⟩ := hrel
      obtain ⟨⟨c0, c1, c2, c3, c4, c5⟩, hB⟩ := HL.out wr hb.out
      simp only [Nat.zero_add] at c0 c1 c2 c3 c4 c5
      by_cases hlt : k < x.l.length
      · obtain ⟨b, o, a2, q2, rfl, ⟨d0, d1, d2, d3, d4, d5⟩, hy⟩ := xat_at (xat_below HX.out hB) k hlt
        have hs := Sx.deep_at hlt
        have hcall := HI.out x.l[k] (by omega) (Sx.okX_at hok hlt) (by omega) a2 q2 wr hy
        have hnx := Sx.deepL_next hlt
        have hdk := hdb k
        generalize x.l[k] = y at *
        generalize Sx.deepL (x.l.take k) = D at *
        by_cases hgt : (Sx.deep y : Int) > (D : Int)
        · have HN := Lib.hid (show Sx.deepL (x.l.take (k + 1)) = Sx.deep y by rw [hnx]; omega)
          have HC := Lib.hid hcall
          clear hcall hnx hB c0 c1 c2 c3 c4
          go_wp2_with fail
          refine HC.out.mono ?_
          rintro e w1 ⟨rfl, hb1⟩
          have HB := Lib.hid (hb.out.trans (hb1.mono hb.out.size))
          clear hb1
          go_wp2_with fail
          go_roundw
          case rel => exact ⟨k + 1, by omega, by go_num, by rw [HN.out], HB⟩
          case measure => simp [intOf]; omega
        · have HN := Lib.hid (show Sx.deepL (x.l.take (k + 1)) = D by rw [hnx]; omega)
          have HC := Lib.hid hcall
          clear hcall hnx hB c0 c1 c2 c3 c4
          go_wp2_with fail
          refine HC.out.mono ?_
          rintro e w1 ⟨rfl, hb1⟩
          have HB := Lib.hid (hb.out.trans (hb1.mono hb.out.size))
          clear hb1
          go_wp2_with fail
          go_roundw
          case rel => exact ⟨k + 1, by omega, by go_num, by rw [HN.out], HB⟩
          case measure => simp [intOf]; omega
      · have hD : Sx.deepL (x.l.take k) = Sx.deepL x.l := by rw [List.take_of_length_le (by omega)]
        rw [hD]
        have HB := Lib.hid hB
        clear hB c0 c1 c2 c3 c4
        go_wp2_with fail
        go_ret
        exact ⟨ret_int (by rw [hd]; push_cast; rfl), HB.out⟩
/-- few parts, and short texts -/
def Sx.smallB : Nat → X → Bool
  | 0, _ => false
  | d + 1, x => decide (x.s.size ≤ 300) && decide (x.v.s.size ≤ 300) && decide (x.l.length ≤ 5) && x.l.all (Sx.smallB d)
end Go.Proofs.YtekahmlppaabjaaGreatDoor

/-
  Layer 12: which values are right, the program's answer and the document's.
-/
namespace Go.Proofs.YtekahmlppaabjaaGreatDoor
open Go.RowKit
/-- a value as a value -/
abbrev valC (v : Vl.V) : Array Value := #[.int .i64 v.kind, .int .i64 v.n, .string v.s]
abbrev valV (v : Vl.V) : Value := .agg (valC v)
/-- the bytes ahead of pos may stand in a text -/
def PlainTo (s : ByteArray) (pos : Nat) : Prop := ∀ b ∈ s.data.toList.take pos, 32 ≤ b.toNat ∧ b.toNat ≤ 126
theorem plainTo_start (s : ByteArray) : PlainTo s 0 := by intro b hb; simp at hb
theorem plainTo_step {s : ByteArray} {pos : Nat} (h : PlainTo s pos) (hp : pos < s.size) (h1 : 32 ≤ (s[pos]).toNat) (h2 : (s[pos]).toNat ≤ 126) : PlainTo s (pos + 1) := by
  intro b hb
  have hl : pos < s.data.toList.length := by simpa using hp
  rw [List.take_add_one, List.getElem?_eq_getElem hl] at hb
  rcases List.mem_append.1 hb with hb | hb
  · exact h b hb
  · simp only [Option.toList_some, List.mem_singleton] at hb
    subst hb
    exact ⟨h1, h2⟩
theorem plainTo_all {s : ByteArray} {pos : Nat} (h : PlainTo s pos) (hp : ¬ pos < s.size) (h40 : s.size ≤ 40) : Vl.plain s := by
  refine ⟨h40, fun b hb => h b ?_⟩
  rw [List.take_of_length_le (by simp; omega)]
  exact hb
theorem plain_not {s : ByteArray} {pos : Nat} (hp : pos < s.size) (h : (s[pos]).toNat < 32 ∨ 126 < (s[pos]).toNat) : ¬ Vl.plain s := by
  intro hh
  have := hh.2 s[pos] (by
    have hl : pos < s.data.toList.length := by simpa using hp
    exact (List.getElem_mem hl : s.data.toList[pos] ∈ s.data.toList))
  omega
theorem below_iter {w : World} (s : ByteArray) (pos : Nat) : Below w.heap.size w (w.iter s pos) := (Below.refl w.heap.size w).alloc (Nat.le_refl _) _
set_option maxRecDepth 100000 in
set_option maxHeartbeats 1600000 in
theorem rightText_any (s : ByteArray) (w : World) :
    Calls Tryz.prog 83 #[.string s] w fun e w' => e = .returned (.bool (decide (Vl.plain s))) ∧ Below w.heap.size w w' := by
  have hbl : Hid (∀ pos, Below w.heap.size w (w.iter s pos)) := Lib.hid fun pos => below_iter s pos
  by_cases h40 : (s.size : Int) > 40
  · go_enter Tryz.func83, Tryz.ntmps83
    go_wp2_with fail
    go_ret
    exact ⟨ret_bool (decide_eq_false (fun hh : Vl.plain s => by have := hh.1; omega)).symm, Below.refl _ _⟩
  · go_enter Tryz.func83, Tryz.ntmps83
    go_wp2
    go_loopw [4] (fun _ w' => ∃ (pos : Nat), w' = w.iter s pos ∧ pos ≤ s.size ∧ Hid (PlainTo s pos)) (fun _ w' => s.size - w'.iterPos w.heap.size)
    case atStart => exact ⟨0, rfl, Nat.zero_le _, Lib.hid (plainTo_start s)⟩
    case round =>
      obtain ⟨pos, rfl, hle, hpl⟩ := hrel
      by_cases hp : pos < s.size
      · by_cases ha : (s[pos]).toNat < 128
        · have hnx : ∀ ty, (Instr.next (.pointer (some ⟨w.heap.size, 0, none⟩)) true ty).run Tryz.prog (w.iter s pos) = _ := fun ty => run_next_ascii w s pos ty hp ha
          by_cases h1 : ((s[pos]).toNat : Int) < 32
          · have hno := Lib.hid (plain_not hp (.inl (by omega)))
            go_wp2_with fail
            go_ret
            exact ⟨ret_bool (decide_eq_false hno.out).symm, hbl.out _⟩
          · by_cases h2 : ((s[pos]).toNat : Int) > 126
            · have hno := Lib.hid (plain_not hp (.inr (by omega)))
              go_wp2_with fail
              go_ret
              exact ⟨ret_bool (decide_eq_false hno.out).symm, hbl.out _⟩
            · go_wp2_with fail
              go_roundw
              case rel => exact ⟨pos + 1, rfl, by omega, Lib.hid (plainTo_step hpl.out hp (by omega) (by omega))⟩
              case measure => simp; omega
        · have hnx : ∀ ty, (Instr.next (.pointer (some ⟨w.heap.size, 0, none⟩)) true ty).run Tryz.prog (w.iter s pos) = _ := fun ty => run_next_any w s pos ty hp
          have hd := (decode_high s pos hp (by omega)).1
          have hno := Lib.hid (plain_not hp (.inr (by omega)))
          have h1 : ¬ ((Utf8.decode s pos).1 : Int) < 32 := by omega
          have h2 : ((Utf8.decode s pos).1 : Int) > 126 := by omega
          go_wp2_with fail
          go_ret
          exact ⟨ret_bool (decide_eq_false hno.out).symm, hbl.out _⟩
      · have hnx : ∀ ty, (Instr.next (.pointer (some ⟨w.heap.size, 0, none⟩)) true ty).run Tryz.prog (w.iter s pos) = _ := fun ty => run_next_end w s pos ty hp
        go_wp2_with fail
        go_ret
        exact ⟨ret_bool (decide_eq_true (plainTo_all hpl.out hp (by omega))).symm, hbl.out _⟩
/-! right -/
/-- what the box of a value leaves -/
theorem below_box {w w' : World} (o : Obj) (h : Below (w.alloc o).heap.size (w.alloc o) w') : Below w.heap.size w w' :=
  ((Below.refl w.heap.size w).alloc (Nat.le_refl _) o).trans (h.mono (by rw [show (w.alloc o).heap.size = w.heap.size + 1 from Array.size_push _]; omega))
theorem mt_iff (s : ByteArray) : s.toList = [] ↔ s = Vl.mt := by
  rw [ByteArray.toList_eq]
  constructor
  · intro h; apply Sl.ba_ext; rw [h]
  · rintro rfl; rfl
theorem isEmp {p : Prop} [Decidable p] {l : List UInt8} (h : p ↔ l = []) : l.isEmpty = decide p := by cases l <;> simp [h]
theorem not_right {k n : Int} {s : ByteArray} (h2 : k ≠ 2 ∨ n ≠ 0) (h0 : k ≠ 0 ∨ n ≠ 0) (h1 : k ≠ 1) (h3 : k ≠ 3 ∨ (n ≠ 0 ∧ n ≠ 1)) : ¬ Vl.right ⟨k, n, s⟩ := by
  intro h
  rcases h with ⟨h, h', _⟩ | ⟨h, _⟩ | ⟨h, h', _⟩ | ⟨h, h', _⟩
  · simp only at h h'; omega
  · simp only at h; omega
  · simp only at h h'; omega
  · simp only at h h'; rcases h' with h' | h' <;> omega
theorem right_mt {k n : Int} {s : ByteArray} (h : (k = 0 ∧ n = 0) ∨ k = 1 ∨ (k = 3 ∧ (n = 0 ∨ n = 1))) : Vl.right ⟨k, n, s⟩ ↔ s.toList = [] := by
  rw [mt_iff]
  constructor
  · intro hr
    rcases hr with ⟨_, _, e⟩ | ⟨_, e⟩ | ⟨h2, _⟩ | ⟨_, _, e⟩
    · exact e
    · exact e
    · simp only at h2; omega
    · exact e
  · intro e
    rcases h with ⟨h, h'⟩ | h | ⟨h, h'⟩
    · exact .inl ⟨h, h', e⟩
    · exact .inr (.inl ⟨h, e⟩)
    · exact .inr (.inr (.inr ⟨h, h', e⟩))
theorem right_txt {s : ByteArray} : Vl.right ⟨2, 0, s⟩ ↔ Vl.plain s := by
  constructor
  · intro h
    rcases h with ⟨h, _⟩ | ⟨h, _⟩ | ⟨_, _, e⟩ | ⟨h, _⟩
    · exact absurd h (by simp)
    · exact absurd h (by simp)
    · exact e
    · exact absurd h (by simp)
  · intro h; exact .inr (.inr (.inl ⟨rfl, rfl, h⟩))
set_option maxRecDepth 100000 in
set_option maxHeartbeats 3200000 in
theorem right12_any (v : Vl.V) (w : World) :
    Calls Tryz.prog 73 #[valV v] w fun e w' => e = .returned (.bool (decide (Vl.right v))) ∧ Below w.heap.size w w' := by
  obtain ⟨k, n, s⟩ := v
  have hb0 : Hid (Below w.heap.size w (w.alloc (.cells #[.int .i64 k, .int .i64 n, .string s] 26))) := Lib.hid ((Below.refl w.heap.size w).alloc (Nat.le_refl _) _)
  have hb1 : Hid (∀ w', Below (w.alloc (.cells #[.int .i64 k, .int .i64 n, .string s] 26)).heap.size (w.alloc (.cells #[.int .i64 k, .int .i64 n, .string s] 26)) w' → Below w.heap.size w w') := Lib.hid fun w' h => below_box _ h
  by_cases k2 : k = 2
  · subst k2
    by_cases n0 : n = 0
    · subst n0
      have R := Lib.hid (right_txt (s := s))
      go_enter Tryz.func73, Tryz.ntmps73
      go_wp2_with (go_at_call 83; refine (rightText_any _ _).mono ?_; rintro e w1 ⟨rfl, hb⟩; have H := Lib.hid hb; clear hb)
      go_ret
      exact ⟨ret_bool (decide_eq_decide.2 R.out.symm), hb1.out _ H.out⟩
    · have R := Lib.hid (not_right (k := 2) (n := n) (s := s) (.inr n0) (.inr n0) (by omega) (by omega))
      have t : (n == 0) = false := by simp; exact n0
      go_enter Tryz.func73, Tryz.ntmps73
      go_wp2_with fail
      go_ret
      exact ⟨ret_bool (decide_eq_false R.out).symm, hb0.out⟩
  · have t2 : (k == 2) = false := by simp; exact k2
    by_cases k0 : k = 0
    · subst k0
      by_cases n0 : n = 0
      · subst n0
        have R := Lib.hid (right_mt (k := 0) (n := 0) (s := s) (.inl ⟨rfl, rfl⟩))
        clear t2 k2
        go_enter Tryz.func73, Tryz.ntmps73
        go_wp2_with fail
        go_ret
        exact ⟨ret_bool (isEmp R.out), hb0.out⟩
      · have R := Lib.hid (not_right (k := 0) (n := n) (s := s) (.inr n0) (.inr n0) (by omega) (by omega))
        have t : (n == 0) = false := by simp; exact n0
        clear t2 k2
        go_enter Tryz.func73, Tryz.ntmps73
        go_wp2_with fail
        go_ret
        exact ⟨ret_bool (decide_eq_false R.out).symm, hb0.out⟩
    · have t0 : (k == 0) = false := by simp; exact k0
      by_cases k3 : k = 3
      · subst k3
        by_cases n0 : n < 0
        · have R := Lib.hid (not_right (k := 3) (n := n) (s := s) (by omega) (by omega) (by omega) (by omega))
          clear t2 k2 k0 t0
          go_enter Tryz.func73, Tryz.ntmps73
          go_wp2_with fail
          go_ret
          exact ⟨ret_bool (decide_eq_false R.out).symm, hb0.out⟩
        · by_cases n1 : n > 1
          · have R := Lib.hid (not_right (k := 3) (n := n) (s := s) (by omega) (by omega) (by omega) (by omega))
            clear t2 k2 k0 t0
            go_enter Tryz.func73, Tryz.ntmps73
            go_wp2_with fail
            go_ret
            exact ⟨ret_bool (decide_eq_false R.out).symm, hb0.out⟩
          · have R := Lib.hid (right_mt (k := 3) (n := n) (s := s) (.inr (.inr ⟨rfl, by omega⟩)))
            clear t2 k2 k0 t0
            go_enter Tryz.func73, Tryz.ntmps73
            go_wp2_with fail
            go_ret
            exact ⟨ret_bool (isEmp R.out), hb0.out⟩
      · have t3 : (k == 3) = false := by simp; exact k3
        by_cases k1 : k = 1
        · subst k1
          have R := Lib.hid (right_mt (k := 1) (n := n) (s := s) (.inr (.inl rfl)))
          clear t2 k2 k0 t0 k3 t3
          go_enter Tryz.func73, Tryz.ntmps73
          go_wp2_with fail
          go_ret
          exact ⟨ret_bool (isEmp R.out), hb0.out⟩
        · have t1 : (k == 1) = false := by simp; exact k1
          have R := Lib.hid (not_right (k := k) (n := n) (s := s) (.inl k2) (.inl k0) k1 (.inl k3))
          go_enter Tryz.func73, Tryz.ntmps73
          go_wp2_with fail
          go_ret
          exact ⟨ret_bool (decide_eq_false R.out).symm, hb0.out⟩
/-- Check -/
def checkE (v : Vl.V) : Int := if Vl.right v then 0 else 2
theorem checkE_ok {v : Vl.V} (h : Vl.right v) : checkE v = 0 := if_pos h
theorem checkE_bad {v : Vl.V} (h : ¬ Vl.right v) : checkE v = 2 := if_neg h
set_option maxRecDepth 100000 in
set_option maxHeartbeats 1600000 in
theorem check12_any (v : Vl.V) (w : World) :
    Calls Tryz.prog 49 #[valV v] w fun e w' => e = .returned (.int .i64 (checkE v)) ∧ Below w.heap.size w w' := by
  have hb1 : Hid (∀ w', Below (w.alloc (.cells (valC v) 26)).heap.size (w.alloc (.cells (valC v) 26)) w' → Below w.heap.size w w') := Lib.hid fun w' h => below_box _ h
  by_cases hr : Vl.right v
  · have E := Lib.hid (checkE_ok hr)
    have c := fun w => right12_any v w
    rw [decide_eq_true hr] at c
    clear hr
    go_enter Tryz.func49, Tryz.ntmps49
    go_wp2_with (go_at_call 73; refine (c _).mono ?_; rintro e w1 ⟨rfl, hb⟩; have H := Lib.hid hb; clear hb)
    go_ret
    exact ⟨ret_int E.out.symm, hb1.out _ H.out⟩
  · have E := Lib.hid (checkE_bad hr)
    have c := fun w => right12_any v w
    rw [decide_eq_false hr] at c
    clear hr
    go_enter Tryz.func49, Tryz.ntmps49
    go_wp2_with (go_at_call 73; refine (c _).mono ?_; rintro e w1 ⟨rfl, hb⟩; have H := Lib.hid hb; clear hb)
    go_ret
    exact ⟨ret_int E.out.symm, hb1.out _ H.out⟩
end Go.Proofs.YtekahmlppaabjaaGreatDoor

/-
  Layer 14: two expressions compared, the document's.
-/
namespace Go.Proofs.YtekahmlppaabjaaGreatDoor
open Go.RowKit
open Sx (X)
namespace Sx
mutual
def sameB : X → X → Bool
  | .mk o v s l, .mk o' v' s' l' => decide (o = o') && decide (v = v') && decide (s = s') && sameL l l'
def sameL : List X → List X → Bool
  | [], [] => true
  | x :: r, y :: r' => sameB x y && sameL r r'
  | [], _ :: _ => false
  | _ :: _, [] => false
end
mutual
theorem sameB_iff : ∀ x y : X, sameB x y = true ↔ x = y
  | .mk o v s l, .mk o' v' s' l' => by
    rw [sameB]
    simp only [Bool.and_eq_true, decide_eq_true_eq, X.mk.injEq]
    rw [sameL_iff l l', and_assoc, and_assoc]
theorem sameL_iff : ∀ l l' : List X, sameL l l' = true ↔ l = l'
  | [], [] => by simp [sameL]
  | x :: r, y :: r' => by rw [sameL, Bool.and_eq_true, sameB_iff x y, sameL_iff r r', List.cons.injEq]
  | [], _ :: _ => by simp [sameL]
  | _ :: _, [] => by simp [sameL]
end
theorem sameB_no {x y : X} (h : ¬ x = y) : sameB x y = false := by
  cases hh : sameB x y with
  | false => rfl
  | true => exact absurd ((sameB_iff x y).1 hh) h
theorem x_ext {x y : X} (h1 : x.op = y.op) (h2 : x.v = y.v) (h3 : x.s = y.s) (h4 : x.l = y.l) : x = y := by
  obtain ⟨_, _, _, _⟩ := x
  obtain ⟨_, _, _, _⟩ := y
  simp only [X.op, X.v, X.s, X.l] at h1 h2 h3 h4
  subst h1 h2 h3 h4; rfl
end Sx
theorem neq_val_same (a : Vl.V) (w : World) : (binOp BinOp.neq 26 (valV a) (valV a)).run Tryz.prog w = .ok (.bool false) w := by
  obtain ⟨k, n, s⟩ := a
  have hS : Tryz.prog.underlying 26 = some (.struct (Tryz.prog.fieldsOf 26)) := by kernel_rfl
  have hp : Tryz.prog.stoodInHeld 26 = false := by kernel_rfl
  rw [run_neq_struct, show (10000 : Nat) = 9999 + 1 from rfl, run_equalIn_agg w 9999 26 _ _ hS hp]
  have hU := Tryz.underlying26
  simp only [Program.fieldsOf, hU]
  go_simp
theorem neq_val_other {a b : Vl.V} (h : ¬ a = b) (w : World) : (binOp BinOp.neq 26 (valV a) (valV b)).run Tryz.prog w = .ok (.bool true) w := by
  obtain ⟨k, n, s⟩ := a
  obtain ⟨k2, n2, s2⟩ := b
  have hS : Tryz.prog.underlying 26 = some (.struct (Tryz.prog.fieldsOf 26)) := by kernel_rfl
  have hp : Tryz.prog.stoodInHeld 26 = false := by kernel_rfl
  rw [run_neq_struct, show (10000 : Nat) = 9999 + 1 from rfl, run_equalIn_agg w 9999 26 _ _ hS hp]
  have hU := Tryz.underlying26
  simp only [Program.fieldsOf, hU]
  go_simp
  by_cases h1 : k = k2
  · subst h1
    by_cases h2 : n = n2
    · subst h2
      have h3 : ¬ s.toList = s2.toList := fun e => h (Vl.v_ext rfl rfl (Sl.ba_ext (by rw [← ByteArray.toList_eq, ← ByteArray.toList_eq]; exact e)))
      simp [h3]
    · simp [h2]
  · simp [h1]
/-- two boxes, one behind the other -/
theorem x_two {x y : X} {a a' : Option Addr} {c c' : Nat} {w wr : World} (hb : Below ((w.alloc (.cells (xC x a c) 29)).alloc (.cells (xC y a' c') 29)).heap.size ((w.alloc (.cells (xC x a c) 29)).alloc (.cells (xC y a' c') 29)) wr) :
    Cells6 wr w.heap.size 0 x a c ∧ Cells6 wr (w.heap.size + 1) 0 y a' c' ∧ Below w.heap.size w wr := by
  obtain ⟨r1, b1, s1⟩ := x_new x a c w
  obtain ⟨r2, b2, s2⟩ := x_new y a' c' (w.alloc (.cells (xC x a c) 29))
  rw [s1] at r2 s2
  have h1 := rowV_below (rowV_alloc r1 (.cells (xC y a' c') 29)) hb (by rw [s2]; omega)
  have h2 := rowV_below r2 hb (by rw [s2]; omega)
  exact ⟨x_cells h1, x_cells h2, (b1.trans (b2.mono (by rw [s1]; omega))).trans (hb.mono (by rw [s2]; omega))⟩
set_option maxRecDepth 100000 in
set_option maxHeartbeats 12800000 in
theorem rsame14_any (S S' : Nat → Prop) : ∀ (n : Nat) (x y : X), Sx.deep x ≤ n → Sx.okX x → ∀ (a a' : Option Addr) (c c' : Nat) (w : World), XAt w S x a → XAt w S' y a' → Calls Tryz.prog 7 #[xV x a c, xV y a' c'] w fun e w' => e = .returned (.bool (Sx.sameB x y)) ∧ Below w.heap.size w w' := by
  intro n
  induction n with
  | zero => intro x _ hn; have := Sx.deep_pos x; omega
  | succ n ih =>
    intro x y hn hok a a' c c' w hx hy
    have hlen := (Sx.okX_is hok).2.2.2
    unfold maxLen at hlen
    have HW := Lib.hid fun (wr : World) (hb : Below ((w.alloc (.cells (xC x a c) 29)).alloc (.cells (xC y a' c') 29)).heap.size ((w.alloc (.cells (xC x a c) 29)).alloc (.cells (xC y a' c') 29)) wr) => x_two hb
    have HX := Lib.hid (And.intro hx hy)
    have HI := Lib.hid ih
    have HD := Lib.hid fun (h : ¬ x = y) => Sx.sameB_no h
    have hT := fun (h : x = y) => (Sx.sameB_iff x y).2 h
    clear hx hy ih
    have hB0 := Lib.hid (HW.out _ (Below.refl _ _)).2.2
    by_cases h1 : x.op = y.op
    · have t1 : (x.op != y.op) = false := by simp [h1]
      by_cases h2 : x.v = y.v
      · have t2 : ∀ wx, (binOp BinOp.neq 26 (.agg #[.int .i64 x.v.kind, .int .i64 x.v.n, .string x.v.s]) (.agg #[.int .i64 y.v.kind, .int .i64 y.v.n, .string y.v.s])).run Tryz.prog wx = .ok (.bool false) wx := fun wx => by
          rw [← h2]; exact neq_val_same x.v wx
        by_cases h3 : x.s = y.s
        · have t3 : (x.s.toList != y.s.toList) = false := by rw [h3]; simp
          have t3' : (x.s.toList == y.s.toList) = true := by rw [h3]; simp
          have t3'' : x.s.toList = y.s.toList := by rw [h3]
          by_cases h4 : x.l.length = y.l.length
          · have t4 : (((x.l.length : Nat) : Int) != ((y.l.length : Nat) : Int)) = false := by simp [h4]
            have H123 := Lib.hid (And.intro h1 (And.intro h2 h3))
            have H4 := Lib.hid h4
            clear h1 h2 h3 h4 t3''
            go_enter Tryz.func7, Tryz.ntmps7
            go_wp2_with fail
            clear t1 t2 t3 t3' t4
            go_loopw [5] (fun i wr => ∃ k : Nat, k ≤ x.l.length ∧ i = .int .i64 (k : Int) ∧ Hid (x.l.take k = y.l.take k) ∧ Hid (Below ((w.alloc (.cells (xC x a c) 29)).alloc (.cells (xC y a' c') 29)).heap.size ((w.alloc (.cells (xC x a c) 29)).alloc (.cells (xC y a' c') 29)) wr)) (fun i _ => x.l.length - (intOf i).toNat)
            case atStart => exact ⟨0, Nat.zero_le _, rfl, Lib.hid (by simp), Lib.hid (Below.refl _ _)⟩
            case round =>
              obtain ⟨k, hk, rfl, HK, hb⟩ := hrel
              obtain ⟨⟨c0, c1, c2, c3, c4, c5⟩, ⟨e0, e1, e2, e3, e4, e5⟩, hB⟩ := HW.out wr hb.out
              simp only [Nat.zero_add] at c0 c1 c2 c3 c4 c5 e0 e1 e2 e3 e4 e5
              by_cases hlt : k < x.l.length
              · have hlt2 : k < y.l.length := by have := H4.out; omega
                obtain ⟨b, o, a2, q2, rfl, ⟨d0, d1, d2, d3, d4, d5⟩, hu⟩ := xat_at (xat_below HX.out.1 hB) k hlt
                obtain ⟨b', o', a3, q3, rfl, ⟨f0, f1, f2, f3, f4, f5⟩, hv⟩ := xat_at (xat_below HX.out.2 hB) k hlt2
                have hs := Sx.deep_at hlt
                have HC := Lib.hid fun (wx : World) (hbx : Below wr.heap.size wr wx) => HI.out x.l[k] y.l[k] (by omega) (Sx.okX_at hok hlt) a2 a3 q2 q3 wx (xat_below hu hbx) (xat_below hv hbx)
                have HN := Lib.hid (show x.l[k] = y.l[k] → x.l.take (k + 1) = y.l.take (k + 1) from fun e => by rw [List.take_succ_eq_append_getElem hlt, List.take_succ_eq_append_getElem hlt2, e, HK.out])
                have HM := Lib.hid (show ¬ x.l[k] = y.l[k] → ¬ x = y from fun e h => by subst h; exact e rfl)
                have HS := Lib.hid (Sx.sameB_iff x.l[k] y.l[k])
                clear hu hv hs c0 c1 c2 c3 c4 e0 e1 e2 e3 e4
                generalize x.l[k] = u at *
                generalize y.l[k] = v at *
                go_wp2_with fail
                refine wp_region_quiet_tail (C := fun wx => (wx.cell? ⟨w.heap.size, 5, none⟩ = some (.slice (some ⟨b, o, none⟩) x.l.length c) ∧ wx.cell? ⟨w.heap.size + 1, 5, none⟩ = some (.slice (some ⟨b', o', none⟩) y.l.length c') ∧ wx.cell? ⟨b, o + k * 6, none⟩ = some (.int .i64 u.op) ∧ wx.cell? ⟨b, o + k * 6 + 1, none⟩ = some (.int .i64 u.v.kind) ∧ wx.cell? ⟨b, o + k * 6 + 2, none⟩ = some (.int .i64 u.v.n) ∧ wx.cell? ⟨b, o + k * 6 + 3, none⟩ = some (.string u.v.s) ∧ wx.cell? ⟨b, o + k * 6 + 4, none⟩ = some (.string u.s) ∧ wx.cell? ⟨b, o + k * 6 + 5, none⟩ = some (.slice a2 u.l.length q2) ∧ wx.cell? ⟨b', o' + k * 6, none⟩ = some (.int .i64 v.op) ∧ wx.cell? ⟨b', o' + k * 6 + 1, none⟩ = some (.int .i64 v.v.kind) ∧ wx.cell? ⟨b', o' + k * 6 + 2, none⟩ = some (.int .i64 v.v.n) ∧ wx.cell? ⟨b', o' + k * 6 + 3, none⟩ = some (.string v.v.s) ∧ wx.cell? ⟨b', o' + k * 6 + 4, none⟩ = some (.string v.s) ∧ wx.cell? ⟨b', o' + k * 6 + 5, none⟩ = some (.slice a3 v.l.length q3)) ∧ Hid (Below wr.heap.size wr wx)) 11 (by kernel_rfl) (by kernel_rfl) ⟨⟨c5, e5, d0, d1, d2, d3, d4, d5, f0, f1, f2, f3, f4, f5⟩, Lib.hid (Below.refl wr.heap.size wr).drew⟩ ?_
                simp only [List.take_succ_cons, List.take_zero, List.drop_succ_cons, List.drop_zero]
                go_big_quiet_want
                refine ⟨(.pointer (some ⟨w.heap.size, 5, none⟩)), fun wx hSx => ?_, ?_⟩
                · obtain ⟨⟨k0, k1, k2, k3, k4, k5, k6, k7, k8, k9, k10, k11, k12, k13⟩, -⟩ := hSx
                  go_simp
                  try rfl
                simp only [Act.put, List.setIfInBounds_toArray, List.set_cons_zero, List.set_cons_succ]
                go_big_quiet_on
                go_big_quiet_want
                refine ⟨(.slice (some ⟨b, o, none⟩) x.l.length c), fun wx hSx => ?_, ?_⟩
                · obtain ⟨⟨k0, k1, k2, k3, k4, k5, k6, k7, k8, k9, k10, k11, k12, k13⟩, -⟩ := hSx
                  go_simp
                  try rfl
                simp only [Act.put, List.setIfInBounds_toArray, List.set_cons_zero, List.set_cons_succ]
                go_big_quiet_on
                go_big_quiet_want
                go_big_quiet_op
                go_big_quiet_on
                go_big_quiet_want
                refine ⟨(.pointer (some ⟨b, o + k * 6, none⟩)), fun wx hSx => ?_, ?_⟩
                · obtain ⟨⟨k0, k1, k2, k3, k4, k5, k6, k7, k8, k9, k10, k11, k12, k13⟩, -⟩ := hSx
                  go_simp
                  try exact fun hx => absurd hx (by omega)
                simp only [Act.put, List.setIfInBounds_toArray, List.set_cons_zero, List.set_cons_succ]
                go_big_quiet_on
                go_big_quiet_want
                refine ⟨(xV u a2 q2), fun wx hSx => ?_, ?_⟩
                · obtain ⟨⟨k0, k1, k2, k3, k4, k5, k6, k7, k8, k9, k10, k11, k12, k13⟩, -⟩ := hSx
                  go_simp
                  try rfl
                simp only [Act.put, List.setIfInBounds_toArray, List.set_cons_zero, List.set_cons_succ]
                go_big_quiet_on
                go_big_quiet_want
                refine ⟨(.pointer (some ⟨w.heap.size + 1, 5, none⟩)), fun wx hSx => ?_, ?_⟩
                · obtain ⟨⟨k0, k1, k2, k3, k4, k5, k6, k7, k8, k9, k10, k11, k12, k13⟩, -⟩ := hSx
                  go_simp
                  try rfl
                simp only [Act.put, List.setIfInBounds_toArray, List.set_cons_zero, List.set_cons_succ]
                go_big_quiet_on
                go_big_quiet_want
                refine ⟨(.slice (some ⟨b', o', none⟩) y.l.length c'), fun wx hSx => ?_, ?_⟩
                · obtain ⟨⟨k0, k1, k2, k3, k4, k5, k6, k7, k8, k9, k10, k11, k12, k13⟩, -⟩ := hSx
                  go_simp
                  try rfl
                simp only [Act.put, List.setIfInBounds_toArray, List.set_cons_zero, List.set_cons_succ]
                go_big_quiet_on
                go_big_quiet_want
                go_big_quiet_op
                go_big_quiet_on
                go_big_quiet_want
                refine ⟨(.pointer (some ⟨b', o' + k * 6, none⟩)), fun wx hSx => ?_, ?_⟩
                · obtain ⟨⟨k0, k1, k2, k3, k4, k5, k6, k7, k8, k9, k10, k11, k12, k13⟩, -⟩ := hSx
                  go_simp
                  try exact fun hx => absurd hx (by omega)
                simp only [Act.put, List.setIfInBounds_toArray, List.set_cons_zero, List.set_cons_succ]
                go_big_quiet_on
                go_big_quiet_want
                refine ⟨(xV v a3 q3), fun wx hSx => ?_, ?_⟩
                · obtain ⟨⟨k0, k1, k2, k3, k4, k5, k6, k7, k8, k9, k10, k11, k12, k13⟩, -⟩ := hSx
                  go_simp
                  try rfl
                simp only [Act.put, List.setIfInBounds_toArray, List.set_cons_zero, List.set_cons_succ]
                go_big_quiet_on
                go_big_quiet_want
                refine ⟨(.bool (Sx.sameB u v)), fun wx hSx => ?_, ?_⟩
                · exact quietAt_call 7 #[xV u a2 q2, xV v a3 q3] (by go_simp) ((HC.out wx hSx.2.out).mono fun e w' hh => ⟨hh.1, ⟨(hh.2.cell (p := ⟨w.heap.size, 5, none⟩) (World.block_lt_of_cell? _ _ hSx.1.1)).trans hSx.1.1, (hh.2.cell (p := ⟨w.heap.size + 1, 5, none⟩) (World.block_lt_of_cell? _ _ hSx.1.2.1)).trans hSx.1.2.1, (hh.2.cell (p := ⟨b, o + k * 6, none⟩) (World.block_lt_of_cell? _ _ hSx.1.2.2.1)).trans hSx.1.2.2.1, (hh.2.cell (p := ⟨b, o + k * 6 + 1, none⟩) (World.block_lt_of_cell? _ _ hSx.1.2.2.2.1)).trans hSx.1.2.2.2.1, (hh.2.cell (p := ⟨b, o + k * 6 + 2, none⟩) (World.block_lt_of_cell? _ _ hSx.1.2.2.2.2.1)).trans hSx.1.2.2.2.2.1, (hh.2.cell (p := ⟨b, o + k * 6 + 3, none⟩) (World.block_lt_of_cell? _ _ hSx.1.2.2.2.2.2.1)).trans hSx.1.2.2.2.2.2.1, (hh.2.cell (p := ⟨b, o + k * 6 + 4, none⟩) (World.block_lt_of_cell? _ _ hSx.1.2.2.2.2.2.2.1)).trans hSx.1.2.2.2.2.2.2.1, (hh.2.cell (p := ⟨b, o + k * 6 + 5, none⟩) (World.block_lt_of_cell? _ _ hSx.1.2.2.2.2.2.2.2.1)).trans hSx.1.2.2.2.2.2.2.2.1, (hh.2.cell (p := ⟨b', o' + k * 6, none⟩) (World.block_lt_of_cell? _ _ hSx.1.2.2.2.2.2.2.2.2.1)).trans hSx.1.2.2.2.2.2.2.2.2.1, (hh.2.cell (p := ⟨b', o' + k * 6 + 1, none⟩) (World.block_lt_of_cell? _ _ hSx.1.2.2.2.2.2.2.2.2.2.1)).trans hSx.1.2.2.2.2.2.2.2.2.2.1, (hh.2.cell (p := ⟨b', o' + k * 6 + 2, none⟩) (World.block_lt_of_cell? _ _ hSx.1.2.2.2.2.2.2.2.2.2.2.1)).trans hSx.1.2.2.2.2.2.2.2.2.2.2.1, (hh.2.cell (p := ⟨b', o' + k * 6 + 3, none⟩) (World.block_lt_of_cell? _ _ hSx.1.2.2.2.2.2.2.2.2.2.2.2.1)).trans hSx.1.2.2.2.2.2.2.2.2.2.2.2.1, (hh.2.cell (p := ⟨b', o' + k * 6 + 4, none⟩) (World.block_lt_of_cell? _ _ hSx.1.2.2.2.2.2.2.2.2.2.2.2.2.1)).trans hSx.1.2.2.2.2.2.2.2.2.2.2.2.2.1, (hh.2.cell (p := ⟨b', o' + k * 6 + 5, none⟩) (World.block_lt_of_cell? _ _ hSx.1.2.2.2.2.2.2.2.2.2.2.2.2.2)).trans hSx.1.2.2.2.2.2.2.2.2.2.2.2.2.2⟩, Lib.hid (hSx.2.out.trans (hh.2.mono hSx.2.out.size))⟩)
                simp only [Act.put, List.setIfInBounds_toArray, List.set_cons_zero, List.set_cons_succ]
                go_big_quiet_on
                refine wpQuiet_nil ?_
                rintro w4 ⟨-, hb4⟩
                have H4' := Lib.hid (hb.out.trans (hb4.out.mono hb.out.size))
                have HB4 := Lib.hid (hB.trans (hb4.out.mono hB.size))
                clear hb4 hB d0 d1 d2 d3 d4 d5 f0 f1 f2 f3 f4 f5 c5 e5
                cases hsb : Sx.sameB u v with
                | true =>
                  have hN := HN.out (HS.out.1 hsb)
                  have HN2 := Lib.hid hN
                  clear hN hsb
                  go_wp2_with fail
                  go_roundw
                  case rel => exact ⟨k + 1, by omega, by go_num, HN2, H4'⟩
                  case measure => simp [intOf]; omega
                | false =>
                  have hM := HD.out (HM.out fun e => by rw [HS.out.2 e] at hsb; cases hsb)
                  have HM2 := Lib.hid hM
                  clear hM hsb
                  go_wp2_with fail
                  go_ret
                  exact ⟨ret_bool HM2.out.symm, HB4.out⟩
              · have he : x = y := Sx.x_ext H123.out.1 H123.out.2.1 H123.out.2.2 (by
                  have := HK.out
                  rwa [List.take_of_length_le (by omega), List.take_of_length_le (by have := H4.out; omega)] at this)
                have HE := Lib.hid (hT he)
                have HB := Lib.hid hB
                clear he hT hB c0 c1 c2 c3 c4 e0 e1 e2 e3 e4 e5
                go_wp2_with fail
                go_ret
                exact ⟨ret_bool HE.out.symm, HB.out⟩
          · have t4 : (((x.l.length : Nat) : Int) != ((y.l.length : Nat) : Int)) = true := by simp; omega
            have HE := Lib.hid (HD.out fun e => h4 (by rw [e]))
            clear h1 h2 h3 h4 t3'' hT
            go_enter Tryz.func7, Tryz.ntmps7
            go_wp2_with fail
            go_ret
            exact ⟨ret_bool HE.out.symm, hB0.out⟩
        · have t3' : ¬ x.s.toList = y.s.toList := fun e => h3 (Sl.ba_ext (by rw [← ByteArray.toList_eq, ← ByteArray.toList_eq]; exact e))
          have t3 : (x.s.toList != y.s.toList) = true := by simpa using t3'
          have t3'' : (x.s.toList == y.s.toList) = false := by simpa using t3'
          have HE := Lib.hid (HD.out fun e => h3 (by rw [e]))
          clear h1 h2 h3 hT t3'
          go_enter Tryz.func7, Tryz.ntmps7
          go_wp2_with fail
          go_ret
          exact ⟨ret_bool HE.out.symm, hB0.out⟩
      · have t2 : ∀ wx, (binOp BinOp.neq 26 (.agg #[.int .i64 x.v.kind, .int .i64 x.v.n, .string x.v.s]) (.agg #[.int .i64 y.v.kind, .int .i64 y.v.n, .string y.v.s])).run Tryz.prog wx = .ok (.bool true) wx := fun wx => neq_val_other h2 wx
        have HE := Lib.hid (HD.out fun e => h2 (by rw [e]))
        clear h1 h2 hT
        go_enter Tryz.func7, Tryz.ntmps7
        go_wp2_with fail
        go_ret
        exact ⟨ret_bool HE.out.symm, hB0.out⟩
    · have t1 : (x.op != y.op) = true := by simpa using h1
      have HE := Lib.hid (HD.out fun e => h1 (by rw [e]))
      clear h1 hT
      go_enter Tryz.func7, Tryz.ntmps7
      go_wp2_with fail
      go_ret
      exact ⟨ret_bool HE.out.symm, hB0.out⟩
end Go.Proofs.YtekahmlppaabjaaGreatDoor

/-
  Layer 14's laws: which expressions are small.
-/
namespace Go.Proofs.YtekahmlppaabjaaGreatDoor
open Go.RowKit
open Sx (X)
theorem Sx.smallB_succ (d : Nat) (x : X) : Sx.smallB (d + 1) x = (decide (x.s.size ≤ 300) && decide (x.v.s.size ≤ 300) && decide (x.l.length ≤ 5) && x.l.all (Sx.smallB d)) := rfl
theorem Sx.all_take {l : List X} {k : Nat} {p : X → Bool} (h : ∀ y ∈ l.take k, p y = true) (hk : k < l.length) (hp : p l[k] = true) : ∀ y ∈ l.take (k + 1), p y = true := by
  intro y hy
  rw [List.take_succ_eq_append_getElem hk, List.mem_append] at hy
  rcases hy with hy | hy
  · exact h y hy
  · simp at hy; subst hy; exact hp
theorem Sx.all_full {l : List X} {k : Nat} {p : X → Bool} (h : ∀ y ∈ l.take k, p y = true) (hk : ¬ k < l.length) : l.all p = true := by
  rw [List.take_of_length_le (by omega)] at h
  exact List.all_eq_true.2 h
theorem Sx.all_not {l : List X} {k : Nat} {p : X → Bool} (hk : k < l.length) (hp : p l[k] = false) : l.all p = false := by
  cases h : l.all p with
  | false => rfl
  | true => rw [List.all_eq_true.1 h _ (List.getElem_mem hk)] at hp; cases hp
end Go.Proofs.YtekahmlppaabjaaGreatDoor

/-
  Layer 14: ops: what they are written as, their levels, how many they have: the document's.
-/
namespace Go.Proofs.YtekahmlppaabjaaGreatDoor
open Go.RowKit
open Sx (X)
theorem Sx.lvl_out {op : Int} (h : ¬ (1 ≤ op ∧ op ≤ 15)) : Sx.lvl op = 0 := by
  unfold Sx.lvl
  rw [if_neg (by omega), if_neg (by omega), if_neg (by omega), if_neg (by omega), if_neg (by omega), if_neg (by omega), if_neg (by omega)]
theorem Sx.sign_out {op : Int} (h : ¬ (4 ≤ op ∧ op ≤ 15)) : Sx.sign op = [] := by
  unfold Sx.sign
  rw [if_neg (by omega), if_neg (by omega), if_neg (by omega), if_neg (by omega), if_neg (by omega), if_neg (by omega), if_neg (by omega), if_neg (by omega), if_neg (by omega), if_neg (by omega), if_neg (by omega), if_neg (by omega)]
set_option maxRecDepth 100000 in
set_option maxHeartbeats 6400000 in
theorem rsign14_any (op : Int) (w : World) : Calls Tryz.prog 72 #[.int .i64 op] w fun e w' => e = .returned (.string (Lx.mk (Sx.sign op))) ∧ w' = w := by
  by_cases h : 4 ≤ op ∧ op ≤ 15
  · have h2 := Sx.op_facts h.1 h.2
    clear h
    rcases h2 with rfl | rfl | rfl | rfl | rfl | rfl | rfl | rfl | rfl | rfl | rfl | rfl
    all_goals (
      go_enter Tryz.func72, Tryz.ntmps72
      go_wp2_with fail
      go_ret
      exact ⟨rfl, rfl⟩)
  · have HE := Lib.hid (Sx.sign_out h)
    have f4 : (op == 4) = false := by simp; omega
    have f5 : (op == 5) = false := by simp; omega
    have f6 : (op == 6) = false := by simp; omega
    have f7 : (op == 7) = false := by simp; omega
    have f8 : (op == 8) = false := by simp; omega
    have f9 : (op == 9) = false := by simp; omega
    have f10 : (op == 10) = false := by simp; omega
    have f11 : (op == 11) = false := by simp; omega
    have f12 : (op == 12) = false := by simp; omega
    have f13 : (op == 13) = false := by simp; omega
    have f14 : (op == 14) = false := by simp; omega
    have f15 : (op == 15) = false := by simp; omega
    clear h
    go_enter Tryz.func72, Tryz.ntmps72
    go_wp2_with fail
    go_ret
    exact ⟨ret_str (by rw [HE.out]), rfl⟩
set_option maxRecDepth 100000 in
set_option maxHeartbeats 6400000 in
theorem rlevel14_any (op : Int) (w : World) : Calls Tryz.prog 71 #[.int .i64 op] w fun e w' => e = .returned (.int .i64 (Sx.lvl op : Nat)) ∧ w' = w := by
  by_cases h : 1 ≤ op ∧ op ≤ 15
  · have h2 : op = 1 ∨ op = 2 ∨ op = 3 ∨ op = 4 ∨ op = 5 ∨ op = 6 ∨ op = 7 ∨ op = 8 ∨ op = 9 ∨ op = 10 ∨ op = 11 ∨ op = 12 ∨ op = 13 ∨ op = 14 ∨ op = 15 := by omega
    clear h
    rcases h2 with rfl | rfl | rfl | rfl | rfl | rfl | rfl | rfl | rfl | rfl | rfl | rfl | rfl | rfl | rfl
    all_goals (
      go_enter Tryz.func71, Tryz.ntmps71
      go_wp2_with fail
      go_ret
      exact ⟨rfl, rfl⟩)
  · have HE := Lib.hid (Sx.lvl_out h)
    have f1 : (op == 1) = false := by simp; omega
    have f2 : (op == 2) = false := by simp; omega
    have f3 : (op == 3) = false := by simp; omega
    have f4 : (op == 4) = false := by simp; omega
    have f5 : (op == 5) = false := by simp; omega
    have f6 : (op == 6) = false := by simp; omega
    have f7 : (op == 7) = false := by simp; omega
    have f8 : (op == 8) = false := by simp; omega
    have f9 : (op == 9) = false := by simp; omega
    have f10 : (op == 10) = false := by simp; omega
    have f11 : (op == 11) = false := by simp; omega
    have f12 : (op == 12) = false := by simp; omega
    have f13 : (op == 13) = false := by simp; omega
    have f14 : (op == 14) = false := by simp; omega
    have f15 : (op == 15) = false := by simp; omega
    clear h
    go_enter Tryz.func71, Tryz.ntmps71
    go_wp2_with fail
    go_ret
    exact ⟨ret_int (by rw [HE.out]; rfl), rfl⟩
theorem Sx.sign_ne {op : Int} (h : 4 ≤ op ∧ op ≤ 15) : ¬ (Lx.mk (Sx.sign op)).toList = [] := by
  rw [ByteArray.toList_eq]
  show ¬ Sx.sign op = []
  rcases Sx.op_facts h.1 h.2 with rfl | rfl | rfl | rfl | rfl | rfl | rfl | rfl | rfl | rfl | rfl | rfl <;> decide
end Go.Proofs.YtekahmlppaabjaaGreatDoor

/-
  Layer 14: which expressions are right, the document's.
-/
namespace Go.Proofs.YtekahmlppaabjaaGreatDoor
open Go.RowKit
open Sx (X)
theorem eql_val_same (a : Vl.V) (w : World) : (binOp BinOp.eql 26 (valV a) (valV a)).run Tryz.prog w = .ok (.bool true) w := by
  obtain ⟨k, n, s⟩ := a
  have hS : Tryz.prog.underlying 26 = some (.struct (Tryz.prog.fieldsOf 26)) := by kernel_rfl
  have hp : Tryz.prog.stoodInHeld 26 = false := by kernel_rfl
  rw [run_eql_struct, show (10000 : Nat) = 9999 + 1 from rfl, run_equalIn_agg w 9999 26 _ _ hS hp]
  have hU := Tryz.underlying26
  simp only [Program.fieldsOf, hU]
  go_simp
theorem eql_val_other {a b : Vl.V} (h : ¬ a = b) (w : World) : (binOp BinOp.eql 26 (valV a) (valV b)).run Tryz.prog w = .ok (.bool false) w := by
  obtain ⟨k, n, s⟩ := a
  obtain ⟨k2, n2, s2⟩ := b
  have hS : Tryz.prog.underlying 26 = some (.struct (Tryz.prog.fieldsOf 26)) := by kernel_rfl
  have hp : Tryz.prog.stoodInHeld 26 = false := by kernel_rfl
  rw [run_eql_struct, show (10000 : Nat) = 9999 + 1 from rfl, run_equalIn_agg w 9999 26 _ _ hS hp]
  have hU := Tryz.underlying26
  simp only [Program.fieldsOf, hU]
  go_simp
  by_cases h1 : k = k2
  · subst h1
    by_cases h2 : n = n2
    · subst h2
      have h3 : ¬ s.toList = s2.toList := fun e => h (Vl.v_ext rfl rfl (Sl.ba_ext (by rw [← ByteArray.toList_eq, ← ByteArray.toList_eq]; exact e)))
      simp [h3]
    · simp [h2]
  · simp [h1]
theorem eql_val (a b : Vl.V) (w : World) : (binOp BinOp.eql 26 (valV a) (valV b)).run Tryz.prog w = .ok (.bool (decide (a = b))) w := by
  by_cases h : a = b
  · subst h; rw [decide_eq_true rfl]; exact eql_val_same a w
  · rw [decide_eq_false h]; exact eql_val_other h w
theorem Sx.right_eq (x : X) : Sx.right x = (decide ((x.l.length : Int) = Sx.count x.op) && (if x.op = 1 then decide (x.s = Vl.mt) && decide (Vl.right x.v) && (decide (x.v.kind ≠ 1) || decide (0 ≤ x.v.n)) else if x.op = 2 then decide (x.v = Vl.no) && Lx.nameB x.s else Sx.rightL x.l && (decide (x.v = Vl.no) && decide (x.s = Vl.mt)))) := by
  obtain ⟨op, v, s, l⟩ := x
  rw [Sx.right]; rfl
theorem Sx.rightL_eq (l : List X) : Sx.rightL l = l.all Sx.right := by
  cases h : Sx.rightL l with
  | true => exact (List.all_eq_true.2 ((Sx.rightL_all l).1 h)).symm
  | false =>
    cases h2 : l.all Sx.right with
    | false => rfl
    | true => rw [(Sx.rightL_all l).2 (List.all_eq_true.1 h2)] at h; cases h
theorem mt_beq (s : ByteArray) : (s.toList == []) = decide (s = Vl.mt) := by
  by_cases h : s = Vl.mt
  · rw [decide_eq_true h, (mt_iff13 s).2 h]; rfl
  · rw [decide_eq_false h]
    have := fun e => h ((mt_iff13 s).1 e)
    simpa using this
end Go.Proofs.YtekahmlppaabjaaGreatDoor

/-
  A list of strings that a call owns and appends to, told by its texts (over AppOne's OwL).
-/
namespace Go.Proofs.YtekahmlppaabjaaGreatDoor
open Go.RowKit
abbrev cs1 (s : ByteArray) : List Value := [.string s]
theorem str_parts13 : (Tryz.prog.info? 9).map (fun i => (i.zero, i.size, i.bytes)) = some (some (.string ByteArray.empty), 1, 16) := by kernel_rfl
theorem str_elem : ElemOk Tryz.prog 9 1 16 := elemOk_of str_parts13 rfl (by decide) (by decide)
theorem cs1_one (s : ByteArray) : ∀ u ∈ cs1 s, u.oneCell' = true := by intro u hu; simp at hu; subst hu; rfl
theorem owL_readsS {w : World} {B : Nat} {ao : Option Addr} {cp k : Nat} {L : List ByteArray} (hk : L.length = k) (h : OwL cs1 9 1 w B (.slice ao k cp) L) : ReadsS w ao L ∧ L.length ≤ cp := by
  refine ⟨fun i hi => ?_, ?_⟩
  · obtain ⟨g, c, e, hc⟩ := owL_cell (f := cs1) (k := 1) (fun _ _ => rfl) h i hi
    cases e
    refine ⟨g, 0, rfl, ?_⟩
    have := (hc 0 _ rfl).1
    simpa using this
  · obtain ⟨a, c, e, h1, _⟩ := owL_form h
    cases e
    exact h1
theorem box_str {w wr : World} {B : Nat} {u : Value} {l : List ByteArray} (v : ByteArray) (h : OwL cs1 9 1 wr B u l) (hb : Below B w wr) (hB : B ≤ w.heap.size) :
    OwL cs1 9 1 (wr.alloc (.cells #[.string v] 9)) B u l ∧ Below B w (wr.alloc (.cells #[.string v] 9)) ∧ B ≤ (wr.alloc (.cells #[.string v] 9)).heap.size ∧ RowV (wr.alloc (.cells #[.string v] 9)) wr.heap.size 9 (cs1 v) := by
  have hs := hb.size
  have hz : (wr.alloc (.cells #[.string v] 9)).heap.size = wr.heap.size + 1 := World.size_alloc _ _
  exact ⟨owL_below h ((Below.refl _ _).alloc (Nat.le_refl _) _), hb.alloc (by omega) _, by omega, rowV_new _ _ _⟩
theorem app_str {w wr w5 : World} {B g n cap : Nat} {u : Value} {l l' : List ByteArray} (h5 : OwL cs1 9 1 w5 B (.slice (some ⟨g, 0, none⟩) n cap) l') (ho : Only (fun j => u.ownBlock = some j) wr w5) (h : OwL cs1 9 1 wr B u l) (hb : Below B w wr) (hB : B ≤ wr.heap.size) :
    OwL cs1 9 1 w5 B (.slice (some ⟨g, 0, none⟩) n cap) l' ∧ Below B w w5 :=
  ⟨h5, hb.trans (ho.below (fun j _ e => (owL_lt h j e).1) hB)⟩
end Go.Proofs.YtekahmlppaabjaaGreatDoor

/-
  Layer 14: an expression's names, the document's.
-/
namespace Go.Proofs.YtekahmlppaabjaaGreatDoor
open Go.RowKit
open Sx (X)
namespace Sx
theorem add1_len (o : List ByteArray) (m : ByteArray) : (add1 o m).length ≤ o.length + 1 := by
  by_cases h : m ∈ o
  · rw [add1_mem h]; omega
  · rw [add1_new h, List.length_append]; simp
theorem addN_len : ∀ (l o : List ByteArray), (addN o l).length ≤ o.length + l.length
  | [], o => Nat.le_refl _
  | m :: l, o => by
    have := addN_len l (add1 o m)
    have h := add1_len o m
    rw [addN_cons, List.length_cons]; omega
mutual
theorem names_len : ∀ x : X, (names x).length ≤ size x
  | .mk op v s l => by
    rw [names, size]
    refine Nat.le_trans (namesL_len l _) ?_
    split <;> simp
theorem namesL_len : ∀ (l : List X) (o : List ByteArray), (namesL l o).length ≤ o.length + sizeL l
  | [], o => Nat.le_refl _
  | x :: r, o => by
    rw [namesL, sizeL]
    have h1 := namesL_len r (addN o (names x))
    have h2 := addN_len (names x) o
    have h3 := names_len x
    omega
end
theorem namesL_app : ∀ (l : List X) (x : X) (o : List ByteArray), namesL (l ++ [x]) o = addN (namesL l o) (names x)
  | [], x, o => rfl
  | y :: l, x, o => by rw [List.cons_append, namesL, namesL_app l x, namesL]
theorem namesL_next {l : List X} {k : Nat} (o : List ByteArray) (h : k < l.length) : namesL (l.take (k + 1)) o = addN (namesL (l.take k) o) (names l[k]) := by
  rw [List.take_succ_eq_append_getElem h, namesL_app]
theorem sizeL_at : ∀ (l : List X) (i : Nat) (h : i < l.length), size l[i] ≤ sizeL l
  | [], i, h => absurd h (Nat.not_lt_zero _)
  | x :: r, 0, _ => by rw [sizeL]; exact Nat.le_add_right _ _
  | x :: r, i + 1, h => by
    have := sizeL_at r i (by simpa using h)
    rw [sizeL, List.getElem_cons_succ]; omega
theorem size_at {x : X} {i : Nat} (h : i < x.l.length) : size x.l[i] < size x := by
  have := sizeL_at x.l i h
  rw [size_eq x]; omega
def own (x : X) : List ByteArray := if x.op = 2 then [x.s] else []
theorem names_eq (x : X) : names x = namesL x.l (own x) := by obtain ⟨op, v, s, l⟩ := x; rw [names]; rfl
theorem own_len (x : X) : (own x).length ≤ 1 := by unfold own; split <;> simp
theorem addN_next {O M : List ByteArray} {j : Nat} (h : j < M.length) : addN O (M.take (j + 1)) = add1 (addN O (M.take j)) M[j] := by
  rw [List.take_succ_eq_append_getElem h, addN_app]; rfl
theorem memB_next {m : ByteArray} {O : List ByteArray} {k : Nat} (h : k < O.length) : memB m (O.take (k + 1)) = (memB m (O.take k) || decide (O[k] = m)) := by
  rw [List.take_succ_eq_append_getElem h]
  unfold memB
  rw [List.any_append]; simp
/-- the bound that all lists of names here keep -/
theorem part_len {x : X} {k j : Nat} (hk : k < x.l.length) : (addN (namesL (x.l.take k) (own x)) ((names x.l[k]).take j)).length ≤ size x := by
  have h1 := addN_len ((names x.l[k]).take j) (namesL (x.l.take k) (own x))
  have h2 := namesL_len (x.l.take k) (own x)
  have h3 := names_len x.l[k]
  have h4 := own_len x
  have h5 := sizeL_take x.l (k + 1)
  have h6 := sizeL_next hk
  have h7 := size_eq x
  rw [List.length_take] at h1
  omega
theorem part_len0 {x : X} {k : Nat} : (namesL (x.l.take k) (own x)).length ≤ size x := by
  have h2 := namesL_len (x.l.take k) (own x)
  have h4 := own_len x
  have h5 := sizeL_take x.l k
  have h7 := size_eq x
  omega
end Sx
/-- what is answered as names -/
def NamesPost (L : List ByteArray) (w : World) (e : Ending) (w' : World) : Prop := ∃ a cap, e = .returned (.slice a L.length cap) ∧ ReadsS w' a L ∧ L.length ≤ cap ∧ Below w.heap.size w w' ∧ ∀ p, a = some p → w.heap.size ≤ p.block
theorem own_block {E k B : Nat} {f : ByteArray → List Value} {w : World} {a : Option Addr} {n c : Nat} {l : List ByteArray} (h : OwL f E k w B (.slice a n c) l) : ∀ p, a = some p → B ≤ p.block ∧ (Value.slice a n c).ownBlock = some p.block := by
  intro p hp
  obtain ⟨a', c', e, _, _, h3, _⟩ := owL_form h
  cases e
  obtain ⟨g, rfl, h4, _, h5⟩ := h3 p hp
  exact ⟨h4, h5⟩
theorem own_block_some {a : Option Addr} {n c g : Nat} (h : (Value.slice a n c).ownBlock = some g) : ∃ p, a = some p ∧ p.block = g := by
  cases a with
  | none => cases h
  | some p => exact ⟨p, rfl, by simpa [Value.ownBlock] using h⟩
/-- the loops' lists: the one that grows, the one that comes in -/
structure NmAt (A : World) (ao : Option Addr) (n cp : Nat) (O : List ByteArray) (am : Option Addr) (M : List ByteArray) (wr : World) : Prop where
  out : OwL cs1 9 1 wr A.heap.size (.slice ao n cp) O
  more : ReadsS wr am M
  bel : Below A.heap.size A wr
  apart : ∀ p q, ao = some p → am = some q → p.block ≠ q.block
theorem nmAt_below {A : World} {ao : Option Addr} {n cp : Nat} {O : List ByteArray} {am : Option Addr} {M : List ByteArray} {wr wr' : World} (h : NmAt A ao n cp O am M wr) (hb : Below wr.heap.size wr wr') : NmAt A ao n cp O am M wr' :=
  ⟨owL_below h.out hb, readsS_below h.more hb, h.bel.trans (hb.mono h.bel.size), h.apart⟩
theorem app_nm {A ws w6 : World} {ao am : Option Addr} {n cp g cap : Nat} {O M : List ByteArray} {y : ByteArray} (h : NmAt A ao n cp O am M ws) (h1 : OwL cs1 9 1 w6 A.heap.size (.slice (some ⟨g, 0, none⟩) (n + 1) cap) (O ++ [y])) (h2 : Only (fun j => (Value.slice ao n cp).ownBlock = some j) ws w6) (h3 : (Value.slice ao n cp).ownBlock = some g ∨ g = ws.heap.size) (hA : A.heap.size ≤ ws.heap.size) (hM : M ≠ []) :
    NmAt A (some ⟨g, 0, none⟩) (n + 1) cap (O ++ [y]) am M w6 := by
  have hnb : ∀ q, am = some q → ¬ (Value.slice ao n cp).ownBlock = some q.block := fun q hq e => by
    obtain ⟨p, hp, hpq⟩ := own_block_some e
    exact h.apart p q hp hq hpq
  have hlt : ∀ q, am = some q → q.block < ws.heap.size := fun q hq => by
    obtain ⟨b, off, h4, h5⟩ := h.more 0 (List.length_pos_iff.2 hM)
    rw [hq] at h4
    cases h4
    exact World.block_lt_of_cell? ws _ h5
  refine ⟨h1, readsS_only h.more h2 hnb, h.bel.trans (h2.below (fun j _ e => (owL_lt h.out j e).1) hA), fun p q hp hq => ?_⟩
  cases hp
  rcases h3 with h3 | h3
  · intro e
    exact hnb q hq (by rw [h3]; exact congrArg some e)
  · have := hlt q hq
    show ¬ g = q.block
    omega
end Go.Proofs.YtekahmlppaabjaaGreatDoor

/-
  Layer 12: a text's text: in quotes, the program's and the document's.
-/
namespace Go.Proofs.YtekahmlppaabjaaGreatDoor
open Go.RowKit
theorem bldf_34 (B b : Nat) (l : List UInt8) (w : World) (h : BldF w B b l) (hlen : l.length + 1 ≤ 140737488355328) (hBw : B ≤ w.heap.size) :
    Calls Tryz.prog 60 #[.pointer (some ⟨b, 0, none⟩), .int .u8 34] w fun e w' => e = .returned .nilIface ∧ BldF w' B b (l ++ [34]) ∧ Below B w w' ∧ KeptF b w w' := bldf_byte B b l 34 w h hlen hBw
theorem bldf_92 (B b : Nat) (l : List UInt8) (w : World) (h : BldF w B b l) (hlen : l.length + 1 ≤ 140737488355328) (hBw : B ≤ w.heap.size) :
    Calls Tryz.prog 60 #[.pointer (some ⟨b, 0, none⟩), .int .u8 92] w fun e w' => e = .returned .nilIface ∧ BldF w' B b (l ++ [92]) ∧ Below B w w' ∧ KeptF b w w' := bldf_byte B b l 92 w h hlen hBw
/-- what stands in quotes ahead of pos -/
def quoTo (s : ByteArray) (pos : Nat) : List UInt8 := 34 :: Vl.esc (s.data.toList.take pos)
theorem quoTo_len (s : ByteArray) (pos : Nat) (h : s.size ≤ 40) : (quoTo s pos).length ≤ 81 := by
  have h1 := Vl.esc_len (s.data.toList.take pos)
  have h2 : (s.data.toList.take pos).length ≤ 40 := by rw [List.length_take]; simp; omega
  unfold quoTo; rw [List.length_cons]; omega
theorem quoTo_step (s : ByteArray) (pos : Nat) (h : pos < s.size) : quoTo s (pos + 1) = quoTo s pos ++ (if s[pos] = 34 ∨ s[pos] = 92 then [92, s[pos]] else [s[pos]]) := by
  have hl : pos < s.data.toList.length := by simpa using h
  unfold quoTo
  rw [List.take_add_one, List.getElem?_eq_getElem hl, Vl.esc_append]
  show 34 :: (Vl.esc _ ++ Vl.esc [s[pos]]) = _
  rw [Vl.esc, Vl.esc]
  rw [List.cons_append]
theorem quoTo_end (s : ByteArray) (pos : Nat) (h : ¬ pos < s.size) : quoTo s pos ++ [34] = Vl.quoteL s.data.toList := by
  unfold quoTo Vl.quoteL
  rw [List.take_of_length_le (by simp; omega), List.cons_append]
/-- the loop's state: the builder N, the iterator G -/
structure QuoAt (s : ByteArray) (w : World) (G pos : Nat) (wr : World) : Prop where
  bld : BldF wr w.heap.size w.heap.size (quoTo s pos)
  iter : wr.heap[G]? = some (.stringIter s pos)
  below : Below w.heap.size w wr
theorem quoAt_next {s : ByteArray} {w wr : World} {G pos : Nat} (h : QuoAt s w G pos wr) (hG : w.heap.size < G) (pos' : Nat) : BldF (wr.iterAt G s pos') w.heap.size w.heap.size (quoTo s pos) ∧ (wr.iterAt G s pos').heap[G]? = some (.stringIter s pos') ∧ Below w.heap.size w (wr.iterAt G s pos') :=
  ⟨Lib.IsBuilderF.iterAt h.bld h.iter pos', Lib.iterAt_heap wr G s pos pos' h.iter, Lib.below_iterAt h.below (Nat.le_of_lt hG) s pos'⟩
set_option maxRecDepth 100000 in
set_option maxHeartbeats 3200000 in
theorem quoted_any (s : ByteArray) (hp : Vl.plain s) (w : World) :
    Calls Tryz.prog 53 #[.string s] w fun e w' => e = .returned (.string ⟨(Vl.quoteL s.data.toList).toArray⟩) ∧ Below w.heap.size w w' := by
  have h40 := hp.1
  have HP := Lib.hid hp
  clear hp
  have c0 := bldf_34 w.heap.size w.heap.size [] _ (bldf_fresh w) (by simp) (by simp)
  have b0 := Lib.hid ((Below.refl w.heap.size w).alloc (Nat.le_refl _) (.cells #[.pointer none, .slice none 0 0] 103))
  go_enter Tryz.func53, Tryz.ntmps53
  go_wp2_with fail
  refine c0.mono ?_
  rintro e w1 ⟨rfl, hbl, hb1, _⟩
  have h1 : w.heap.size < w1.heap.size := by have := hb1.size; rw [World.size_alloc] at this; omega
  have I1 : QuoAt s w w1.heap.size 0 (w1.iter s 0) := ⟨Lib.IsBuilderF.alloc hbl _, World.iter_heap w1 s 0, (b0.out.trans hb1).alloc (Nat.le_of_lt h1) _⟩
  have HI1 := Lib.hid I1
  clear hbl hb1 c0 I1
  generalize hG : w1.heap.size = G at *
  go_wp2_with fail
  go_loopw [5] (fun _ wr => ∃ (pos : Nat), pos ≤ s.size ∧ QuoAt s w G pos wr) (fun _ wr => s.size - wr.iterPos G)
  case atStart => exact ⟨0, Nat.zero_le _, by first | exact HI1.out | (rw [← hG] at *; exact HI1.out)⟩
  case round =>
    obtain ⟨pos, hle, hI⟩ := hrel
    have hit := iterPos_of hI.iter
    by_cases hps : pos < s.size
    · have hc := HP.out.2 s[pos] (by
        have hl : pos < s.data.toList.length := by simpa using hps
        exact (List.getElem_mem hl : s.data.toList[pos] ∈ s.data.toList))
      have hnx : ∀ ty, (Instr.next (.pointer (some ⟨G, 0, none⟩)) true ty).run Tryz.prog wr = _ := fun ty => Lib.run_next_ascii_at wr G s pos ty hI.iter hps (by omega)
      have hlen := quoTo_len s pos h40
      obtain ⟨q1, q2, q3⟩ := quoAt_next hI h1 (pos + 1)
      have hst := quoTo_step s pos hps
      have HQ := Lib.hid (And.intro q1 (And.intro q2 (And.intro q3 hst)))
      have hq3 := q3.size
      clear q1 q2 q3 hst hI
      generalize hwn : wr.iterAt G s (pos + 1) = wn at *
      obtain ⟨c, hcc⟩ : ∃ c, c = s[pos] := ⟨_, rfl⟩
      rw [← hcc] at hc hnx
      by_cases hq : (c.toNat : Int) = 34 ∨ (c.toNat : Int) = 92
      · have HS : Hid (quoTo s (pos + 1) = quoTo s pos ++ [92] ++ [c]) := Lib.hid (by
          rw [HQ.out.2.2.2, ← hcc, if_pos (hq.elim (fun h => .inl (UInt8.toNat_inj.1 (Int.ofNat_inj.1 h))) (fun h => .inr (UInt8.toNat_inj.1 (Int.ofNat_inj.1 h)))), List.append_assoc]; rfl)
        have t : ((c.toNat : Int) == 34) = true ∨ (((c.toNat : Int) == 34) = false ∧ ((c.toNat : Int) == 92) = true) := by
          rcases hq with h | h
          · exact .inl (by simp [h])
          · exact .inr ⟨by simp [h], by simp [h]⟩
        clear hcc hq
        rcases t with t | ⟨t, t'⟩
        · go_wp2_with fail
          refine (bldf_92 _ _ _ wn HQ.out.1 (by omega) hq3).mono ?_
          rintro e w3 ⟨rfl, hbl3, hb3, hk3⟩
          have hlen3 : (quoTo s pos ++ [92]).length ≤ 82 := by rw [List.length_append]; show _ + 1 ≤ 82; omega
          have hs3 := (HQ.out.2.2.1.trans hb3).size
          have H3 := Lib.hid (And.intro hbl3 (And.intro (hk3.iter HQ.out.2.1 (by omega)) (HQ.out.2.2.1.trans hb3)))
          clear hbl3 hb3 hk3
          go_wp2_with fail
          refine (bldf_rune _ _ _ c (by omega) w3 H3.out.1 (by omega) hs3).mono ?_
          rintro e w4 ⟨rfl, hbl, hb4, hk4⟩
          have I4 : QuoAt s w G (pos + 1) w4 := ⟨by rw [HS.out]; exact hbl, hk4.iter H3.out.2.1 (by omega), H3.out.2.2.trans hb4⟩
          have HI4 := Lib.hid I4
          clear hbl hb4 hk4 I4
          go_wp2_with fail
          go_roundw
          case rel => exact ⟨pos + 1, by omega, HI4.out⟩
          case measure => rw [iterPos_of HI4.out.iter, hit]; omega
        · go_wp2_with fail
          refine (bldf_92 _ _ _ wn HQ.out.1 (by omega) hq3).mono ?_
          rintro e w3 ⟨rfl, hbl3, hb3, hk3⟩
          have hlen3 : (quoTo s pos ++ [92]).length ≤ 82 := by rw [List.length_append]; show _ + 1 ≤ 82; omega
          have hs3 := (HQ.out.2.2.1.trans hb3).size
          have H3 := Lib.hid (And.intro hbl3 (And.intro (hk3.iter HQ.out.2.1 (by omega)) (HQ.out.2.2.1.trans hb3)))
          clear hbl3 hb3 hk3
          go_wp2_with fail
          refine (bldf_rune _ _ _ c (by omega) w3 H3.out.1 (by omega) hs3).mono ?_
          rintro e w4 ⟨rfl, hbl, hb4, hk4⟩
          have I4 : QuoAt s w G (pos + 1) w4 := ⟨by rw [HS.out]; exact hbl, hk4.iter H3.out.2.1 (by omega), H3.out.2.2.trans hb4⟩
          have HI4 := Lib.hid I4
          clear hbl hb4 hk4 I4
          go_wp2_with fail
          go_roundw
          case rel => exact ⟨pos + 1, by omega, HI4.out⟩
          case measure => rw [iterPos_of HI4.out.iter, hit]; omega
      · have HS : Hid (quoTo s (pos + 1) = quoTo s pos ++ [c]) := Lib.hid (by
          rw [HQ.out.2.2.2, ← hcc, if_neg (by rintro (h | h) <;> (apply hq; rw [h]; decide))])
        have t1 : ((c.toNat : Int) == 34) = false := by simp; omega
        have t2 : ((c.toNat : Int) == 92) = false := by simp; omega
        clear hcc hq
        go_wp2_with fail
        refine (bldf_rune _ _ _ c (by omega) wn HQ.out.1 (by omega) hq3).mono ?_
        rintro e w4 ⟨rfl, hbl, hb4, hk4⟩
        have I4 : QuoAt s w G (pos + 1) w4 := ⟨by rw [HS.out]; exact hbl, hk4.iter HQ.out.2.1 (by omega), HQ.out.2.2.1.trans hb4⟩
        have HI4 := Lib.hid I4
        clear hbl hb4 hk4 I4
        go_wp2_with fail
        go_roundw
        case rel => exact ⟨pos + 1, by omega, HI4.out⟩
        case measure => rw [iterPos_of HI4.out.iter, hit]; omega
    · have hnx : ∀ ty, (Instr.next (.pointer (some ⟨G, 0, none⟩)) true ty).run Tryz.prog wr = _ := fun ty => Lib.run_next_end_at wr G s pos ty hI.iter hps
      have hlen := quoTo_len s pos h40
      have HE := Lib.hid (quoTo_end s pos hps)
      have hsz := hI.below.size
      have HI := Lib.hid hI
      clear hI
      go_wp2_with fail
      refine (bldf_34 _ _ _ wr HI.out.bld (by omega) hsz).mono ?_
      rintro e w4 ⟨rfl, hbl, hb4, _⟩
      rw [HE.out] at hbl
      have HB := Lib.hid (And.intro hbl (HI.out.below.trans hb4))
      have hs4 := (HI.out.below.trans hb4).size
      clear hbl hb4
      go_wp2_with fail
      refine (bldf_string _ _ _ w4 HB.out.1 hs4).mono ?_
      rintro e w5 ⟨rfl, hb5⟩
      have H5 := Lib.hid (HB.out.2.trans hb5)
      clear hb5
      go_wp2_with fail
      go_ret
      exact ⟨rfl, H5.out⟩
/-- what stands in quotes ahead of pos, as a string -/
def quoB (s : ByteArray) (pos : Nat) : ByteArray := ⟨(quoTo s pos).toArray⟩
theorem quoB_size (s : ByteArray) (pos : Nat) (h : s.size ≤ 40) : (quoB s pos).size ≤ 81 := by
  show (quoTo s pos).toArray.size ≤ 81
  rw [List.size_toArray]; exact quoTo_len s pos h
theorem quoB_start (s : ByteArray) : quoB s 0 = ⟨#[34]⟩ := by simp [quoB, quoTo, Vl.esc]
theorem cut_one (s : ByteArray) (k : Nat) (h : k < s.size) : (s.extract k (k + 1)).data.toList = [s[k]] := by
  have hl : k < s.data.toList.length := by simpa using h
  rw [Sl.ext_list, show k + 1 - k = 1 by omega, Oct.drop_at _ _ hl]; rfl
theorem quoB_plain (s : ByteArray) (k : Nat) (h : k < s.size) (hq : ¬ (s[k] = 34 ∨ s[k] = 92)) : quoB s k ++ s.extract k (k + 1) = quoB s (k + 1) := by
  apply Sl.ba_ext
  rw [ByteArray.data_append, Array.toList_append, cut_one s k h]
  show quoTo s k ++ [s[k]] = quoTo s (k + 1)
  rw [quoTo_step s k h, if_neg hq]
theorem quoB_esc (s : ByteArray) (k : Nat) (h : k < s.size) (hq : s[k] = 34 ∨ s[k] = 92) : quoB s k ++ ⟨#[92]⟩ ++ s.extract k (k + 1) = quoB s (k + 1) := by
  apply Sl.ba_ext
  rw [ByteArray.data_append, ByteArray.data_append, Array.toList_append, Array.toList_append, cut_one s k h]
  show quoTo s k ++ [92] ++ [s[k]] = quoTo s (k + 1)
  rw [quoTo_step s k h, if_pos hq, List.append_assoc]; rfl
theorem quoB_end (s : ByteArray) (k : Nat) (h : ¬ k < s.size) : quoB s k ++ ⟨#[34]⟩ = ⟨(Vl.quoteL s.data.toList).toArray⟩ := by
  apply Sl.ba_ext
  rw [ByteArray.data_append, Array.toList_append]
  exact quoTo_end s k h
end Go.Proofs.YtekahmlppaabjaaGreatDoor

/-
  A region that draws its order, walked by what each operation leaves behind: whatever order is picked, a condition on the values that have come up so far and on the world is kept by each operation. For regions whose operations make and write memory (an append of an append ..), where the orders are too many to be walked one by one.
-/
namespace Go.Proofs.YtekahmlppaabjaaGreatDoor
open Go.RowKit
section
variable {P : Program} {ops : Array Oper} {Q : Exit → Act → World → Prop}
/-- the values that have come up, one more -/
def came (st : Nat → Option Value) (i : Nat) (v : Value) : Nat → Option Value := fun j => if j = i then some v else st j
theorem came_at (st : Nat → Option Value) (i : Nat) (v : Value) : came st i v i = some v := if_pos rfl
theorem came_far {st : Nat → Option Value} {i j : Nat} {v : Value} (h : j ≠ i) : came st i v j = st j := if_neg h
/-- the frame a is a0, with the values st where the operations put them -/
structure FrameIs (ops : Array Oper) (a0 : Act) (st : Nat → Option Value) (a : Act) : Prop where
  defers : a.defers = a0.defers
  size : a.tmps.size = a0.tmps.size
  come : ∀ i o d v, ops[i]? = some o → o.dst = some d → st i = some v → a.tmps.getD d undef = v
  stay : ∀ d, (∀ i o, ops[i]? = some o → o.dst = some d → st i = none) → a.tmps.getD d undef = a0.tmps.getD d undef
/-- what is asked of the region's text (each by the kernel) -/
structure RelyOk (ops : Array Oper) (n : Nat) : Prop where
  bound : ∀ (i : Nat) (o : Oper) (d : Nat), ops[i]? = some o → o.dst = some d → d < n
  apart : ∀ (i j : Nat) (o p : Oper) (d : Nat), ops[i]? = some o → ops[j]? = some p → o.dst = some d → p.dst = some d → i = j
  after : ∀ (i : Nat) (o : Oper), ops[i]? = some o → ∀ e ∈ o.after, e.on < i
/-- .. and that no operation hangs on another one's truth -/
def PlainOps (ops : Array Oper) : Prop := ∀ (i : Nat) (o : Oper), ops[i]? = some o → o.guard = none
def relyB (ops : Array Oper) (n : Nat) : Bool :=
  (List.range ops.size).all fun i => match ops[i]? with
    | none => true
    | some o => o.guard.isNone && o.after.all (fun e => decide (e.on < i)) && (match o.dst with
      | none => true
      | some d => decide (d < n) && (List.range ops.size).all fun j => match ops[j]? with
        | none => true
        | some p => p.dst != some d || decide (i = j))
theorem relyOk_of {ops : Array Oper} {n : Nat} (h : relyB ops n = true) : RelyOk ops n ∧ PlainOps ops := by
  unfold relyB at h
  rw [List.all_eq_true] at h
  have key : ∀ (i : Nat) (o : Oper), ops[i]? = some o → o.guard.isNone = true ∧ o.after.all (fun e => decide (e.on < i)) = true ∧ ∀ d, o.dst = some d → d < n ∧ ∀ (j : Nat) (p : Oper), ops[j]? = some p → p.dst = some d → i = j := by
    intro i o ho
    have hi : i < ops.size := (Array.getElem?_eq_some_iff.1 ho).1
    have h1 := h i (List.mem_range.2 hi)
    rw [ho] at h1
    simp only [Bool.and_eq_true] at h1
    refine ⟨h1.1.1, h1.1.2, fun d hd => ?_⟩
    have h2 := h1.2
    rw [hd] at h2
    simp only [Bool.and_eq_true, decide_eq_true_eq] at h2
    refine ⟨h2.1, fun j p hp hpd => ?_⟩
    have hj : j < ops.size := (Array.getElem?_eq_some_iff.1 hp).1
    have h3 := List.all_eq_true.1 h2.2 j (List.mem_range.2 hj)
    rw [hp] at h3
    simp only [hpd, bne_self_eq_false, Bool.false_or, decide_eq_true_eq] at h3
    exact h3
  refine ⟨⟨fun i o d ho hd => ((key i o ho).2.2 d hd).1, fun i j o p d ho hp hd hpd => ((key i o ho).2.2 d hd).2 j p hp hpd, fun i o ho e he => ?_⟩, fun i o ho => ?_⟩
  · have := (key i o ho).2.1
    rw [Array.all_eq_true_iff_forall_mem] at this
    simpa using this e he
  · simpa using (key i o ho).1
/-- the same, where operations may hang on others' truths -/
def relyGB (ops : Array Oper) (n : Nat) : Bool :=
  (List.range ops.size).all fun i => match ops[i]? with
    | none => true
    | some o => o.after.all (fun e => decide (e.on < i)) && (match o.dst with
      | none => true
      | some d => decide (d < n) && (List.range ops.size).all fun j => match ops[j]? with
        | none => true
        | some p => p.dst != some d || decide (i = j))
theorem relyOkG_of {ops : Array Oper} {n : Nat} (h : relyGB ops n = true) : RelyOk ops n := by
  unfold relyGB at h
  rw [List.all_eq_true] at h
  have key : ∀ (i : Nat) (o : Oper), ops[i]? = some o → o.after.all (fun e => decide (e.on < i)) = true ∧ ∀ d, o.dst = some d → d < n ∧ ∀ (j : Nat) (p : Oper), ops[j]? = some p → p.dst = some d → i = j := by
    intro i o ho
    have hi : i < ops.size := (Array.getElem?_eq_some_iff.1 ho).1
    have h1 := h i (List.mem_range.2 hi)
    rw [ho] at h1
    simp only [Bool.and_eq_true] at h1
    refine ⟨h1.1, fun d hd => ?_⟩
    have h2 := h1.2
    rw [hd] at h2
    simp only [Bool.and_eq_true, decide_eq_true_eq] at h2
    refine ⟨h2.1, fun j p hp hpd => ?_⟩
    have hj : j < ops.size := (Array.getElem?_eq_some_iff.1 hp).1
    have h3 := List.all_eq_true.1 h2.2 j (List.mem_range.2 hj)
    rw [hp] at h3
    simp only [hpd, bne_self_eq_false, Bool.false_or, decide_eq_true_eq] at h3
    exact h3
  refine ⟨fun i o d ho hd => ((key i o ho).2 d hd).1, fun i j o p d ho hp hd hpd => ((key i o ho).2 d hd).2 j p hp hpd, fun i o ho e he => ?_⟩
  have := (key i o ho).1
  rw [Array.all_eq_true_iff_forall_mem] at this
  simpa using this e he
theorem frame_put {a0 a : Act} {st : Nat → Option Value} {i : Nat} {o : Oper} {v : Value} (hok : RelyOk ops a0.tmps.size) (ho : ops[i]? = some o) (h : FrameIs ops a0 st a) : FrameIs ops a0 (came st i v) (a.put o.dst v) := by
  cases hd : o.dst with
  | none =>
    refine ⟨h.defers, h.size, fun j p d u hj hpd hu => ?_, fun d hn => ?_⟩
    · have hji : j ≠ i := fun e => by subst e; rw [ho] at hj; cases hj; rw [hd] at hpd; cases hpd
      rw [came_far hji] at hu
      exact h.come j p d u hj hpd hu
    · refine h.stay d fun j p hj hpd => ?_
      have hji : j ≠ i := fun e => by subst e; rw [ho] at hj; cases hj; rw [hd] at hpd; cases hpd
      have := hn j p hj hpd
      rwa [came_far hji] at this
  | some d0 =>
    have hlt := hok.bound i o d0 ho hd
    have hget : ∀ d, (a.tmps.setIfInBounds d0 v).getD d undef = if d0 = d then v else a.tmps.getD d undef := fun d => by
      rw [Array.getD_eq_getD_getElem?, Array.getD_eq_getD_getElem?, Array.getElem?_setIfInBounds]
      by_cases e : d0 = d
      · subst e
        rw [if_pos rfl, if_pos rfl, if_pos (by rw [h.size]; exact hlt)]; rfl
      · rw [if_neg e, if_neg e]
    refine ⟨h.defers, by show (a.tmps.setIfInBounds d0 v).size = _; rw [Array.size_setIfInBounds]; exact h.size, fun j p d u hj hpd hu => ?_, fun d hn => ?_⟩
    · show (a.tmps.setIfInBounds d0 v).getD d undef = u
      rw [hget]
      by_cases e : d0 = d
      · subst e
        have hij := hok.apart i j o p d0 ho hj hd hpd
        subst hij
        rw [came_at] at hu
        rw [if_pos rfl]; exact Option.some.inj hu
      · rw [if_neg e]
        have hji : j ≠ i := fun e2 => by subst e2; rw [ho] at hj; cases hj; rw [hd] at hpd; cases hpd; exact e rfl
        rw [came_far hji] at hu
        exact h.come j p d u hj hpd hu
    · show (a.tmps.setIfInBounds d0 v).getD d undef = _
      rw [hget]
      have e : d0 ≠ d := fun e => by subst e; have := hn i o ho hd; rw [came_at] at this; cases this
      rw [if_neg e]
      refine h.stay d fun j p hj hpd => ?_
      have hji : j ≠ i := fun e2 => by subst e2; rw [ho] at hj; cases hj; rw [hd] at hpd; cases hpd; exact e rfl
      have := hn j p hj hpd
      rwa [came_far hji] at this
theorem least_of {p : Nat → Prop} (h : ∃ i, p i) : ∃ i, p i ∧ ∀ j, j < i → ¬ p j := by
  obtain ⟨i, hi⟩ := h
  induction i using Nat.strongRecOn with
  | _ i ih =>
    by_cases hc : ∃ j, j < i ∧ p j
    · obtain ⟨j, hj, hp⟩ := hc
      exact ih j hj hp
    · exact ⟨i, hi, fun j hj hp => hc ⟨j, hj, hp⟩⟩
/-- a slot that no operation writes -/
theorem frame_stay {a0 a : Act} {st : Nat → Option Value} (h : FrameIs ops a0 st a) {d : Nat} (hd : (ops.all fun o => o.dst != some d) = true) : a.tmps.getD d undef = a0.tmps.getD d undef := by
  refine h.stay d fun i o ho hod => ?_
  rw [Array.all_eq_true_iff_forall_mem] at hd
  have := hd o (Array.mem_of_getElem? ho)
  rw [hod] at this
  simp at this
/-- the frame, written out -/
theorem frame_list {a : Act} {n : Nat} (h : a.tmps.size = n) : a = ⟨((List.range n).map fun i => a.tmps.getD i undef).toArray, a.defers⟩ := by
  obtain ⟨t, d⟩ := a
  have h : t.size = n := h
  congr 1
  apply Array.ext
  · simp [h]
  · intro i h1 h2
    simp only [List.getElem_toArray, List.getElem_map, List.getElem_range]
    rw [Array.getD_eq_getD_getElem?, Array.getElem?_eq_getElem h1]; rfl
/-- listed says which have come up -/
def Told (n : Nat) (st : Nat → Option Value) (listed : Array Bool) : Prop := listed.size = n ∧ ∀ i, i < n → listed[i]? = some (st i).isSome
def left (n : Nat) (st : Nat → Option Value) : Nat := (List.range n).countP fun i => (st i).isNone
theorem left_came {n : Nat} {st : Nat → Option Value} {i : Nat} {v : Value} (hi : i < n) (h : st i = none) : left n st = left n (came st i v) + 1 := by
  unfold left
  induction n with
  | zero => omega
  | succ n ih =>
    rw [List.range_succ, List.countP_append, List.countP_append]
    by_cases e : i = n
    · subst e
      have h1 : (List.range i).countP (fun j => (st j).isNone) = (List.range i).countP (fun j => (came st i v j).isNone) := by
        apply List.countP_congr
        intro j hj
        rw [came_far (by have := List.mem_range.1 hj; omega)]
      rw [h1]
      simp [came_at, h]
    · have := ih (by omega)
      rw [this]
      have h2 : came st i v n = st n := came_far (by omega)
      simp [h2]
      omega
theorem left_zero {n : Nat} {st : Nat → Option Value} (h : left n st = 0) : ∀ i, i < n → (st i).isSome = true := by
  intro i hi
  unfold left at h
  rw [List.countP_eq_zero] at h
  have := h i (List.mem_range.2 hi)
  cases hs : st i with
  | none => rw [hs] at this; simp at this
  | some v => rfl
/-- the step of one operation -/
def Steps (P : Program) (G : (Nat → Option Value) → World → Prop) (st : Nat → Option Value) (i : Nat) (o : Oper) (a : Act) (w : World) : Prop :=
  (∃ v w', (execOp a.eval o).run P w = .ok (.value v) w' ∧ G (came st i v) w') ∨ (∃ w', (execOp a.eval o).run P w = .ok .skip w' ∧ G (came st i undef) w')
theorem wpAny_rely {a0 : Act} {G : (Nat → Option Value) → World → Prop} (hok : RelyOk ops a0.tmps.size) (hpl : PlainOps ops)
    (hstep : ∀ st w i o a, ops[i]? = some o → st i = none → (∀ e ∈ o.after, Region.binds .any e = true → (st e.on).isSome = true) → G st w → FrameIs ops a0 st a → Steps P G st i o a w)
    (hend : ∀ st w a, (∀ i, i < ops.size → (st i).isSome = true) → G st w → FrameIs ops a0 st a → Q .normal a w) :
    ∀ fuel st listed a w, left ops.size st = fuel → Told ops.size st listed → G st w → FrameIs ops a0 st a → wpAny P .any ops Q fuel listed a w := by
  have hmem : ∀ st listed, Told ops.size st listed → ∀ i, i ∈ Region.ready .any ops listed → ∃ o, ops[i]? = some o ∧ i < ops.size ∧ st i = none ∧ ∀ e ∈ o.after, Region.binds .any e = true → (st e.on).isSome = true := by
    intro st listed ht i hi
    unfold Region.ready at hi
    rw [List.mem_filter, List.mem_range] at hi
    obtain ⟨hi1, hi2⟩ := hi
    rw [Bool.and_eq_true] at hi2
    obtain ⟨o, ho⟩ : ∃ o, ops[i]? = some o := ⟨_, Array.getElem?_eq_getElem hi1⟩
    refine ⟨o, ho, hi1, ?_, fun e he hb => ?_⟩
    · have h1 := hi2.1
      rw [Array.getD_eq_getD_getElem?, ht.2 i hi1] at h1
      cases hs : st i with
      | none => rfl
      | some v => rw [hs] at h1; simp at h1
    · have h2 := hi2.2
      rw [ho] at h2
      simp only [Option.map_some, Option.getD_some] at h2
      rw [Array.all_eq_true_iff_forall_mem] at h2
      have h3 := h2 e he
      rw [hb] at h3
      simp only [Bool.not_true, Bool.false_or] at h3
      have hlt : e.on < ops.size := Nat.lt_trans (hok.after i o ho e he) hi1
      rw [Array.getD_eq_getD_getElem?, ht.2 _ hlt] at h3
      exact h3
  intro fuel
  induction fuel with
  | zero =>
    intro st listed a w hl ht hg hf
    have hall := left_zero hl
    refine ⟨?_, hend st w a hall hg hf⟩
    cases hr : Region.ready .any ops listed with
    | nil => rfl
    | cons i r =>
      obtain ⟨o, _, hi, hn, _⟩ := hmem st listed ht i (by rw [hr]; exact List.mem_cons_self ..)
      have := hall i hi
      rw [hn] at this; cases this
  | succ fuel ih =>
    intro st listed a w hl ht hg hf
    refine ⟨fun h0 => ?_, fun i hi => ?_⟩
    · -- the first that has not come up is ready
      exfalso
      have hex : ∃ i, i < ops.size ∧ st i = none := by
        refine Classical.byContradiction fun hc => ?_
        have : left ops.size st = 0 := by
          unfold left
          rw [List.countP_eq_zero]
          intro i hi
          cases hs : st i with
          | none => exact absurd ⟨i, List.mem_range.1 hi, hs⟩ hc
          | some v => simp
        omega
      obtain ⟨i, ⟨hi, hn⟩, hmin⟩ := least_of hex
      obtain ⟨o, ho⟩ : ∃ o, ops[i]? = some o := ⟨_, Array.getElem?_eq_getElem hi⟩
      have : i ∈ Region.ready .any ops listed := by
        unfold Region.ready
        rw [List.mem_filter, List.mem_range]
        refine ⟨hi, ?_⟩
        rw [Bool.and_eq_true]
        refine ⟨by rw [Array.getD_eq_getD_getElem?, ht.2 i hi, hn]; rfl, ?_⟩
        rw [ho]
        simp only [Option.map_some, Option.getD_some]
        rw [Array.all_eq_true_iff_forall_mem]
        intro e he
        have hlt := hok.after i o ho e he
        have hs : (st e.on).isSome = true := by
          cases hs : st e.on with
          | none => exact absurd ⟨Nat.lt_trans hlt hi, hs⟩ (hmin _ hlt)
          | some v => rfl
        rw [Array.getD_eq_getD_getElem?, ht.2 _ (Nat.lt_trans hlt hi), hs]
        simp
      rw [h0] at this
      cases this
    · obtain ⟨o, ho, hi1, hn, haft⟩ := hmem st listed ht i hi
      unfold wpOp
      rw [ho]
      have hw : Region.wanted o (yielded ops a.tmps) = true := by simp [Region.wanted, hpl i o ho]
      simp only [hw, if_true]
      have ht2 : ∀ v, Told ops.size (came st i v) (listed.setIfInBounds i true) := fun v => by
        refine ⟨by rw [Array.size_setIfInBounds]; exact ht.1, fun j hj => ?_⟩
        rw [Array.getElem?_setIfInBounds]
        by_cases e : i = j
        · subst e
          rw [if_pos rfl, if_pos (by rw [ht.1]; exact hi1), came_at]; rfl
        · rw [if_neg e, came_far (fun x => e x.symm)]
          exact ht.2 j hj
      have hl2 : ∀ v, left ops.size (came st i v) = fuel := fun v => by have := left_came (v := v) hi1 hn; omega
      left
      unfold Oper.wp
      rcases hstep st w i o a ho hn haft hg hf with ⟨v, w', hrun, hg'⟩ | ⟨w', hrun, hg'⟩
      · rw [hrun]
        exact ih _ _ _ _ (hl2 v) (ht2 v) hg' (frame_put hok ho hf)
      · rw [hrun]
        exact ih _ _ _ _ (hl2 undef) (ht2 undef) hg' (frame_put hok ho hf)
theorem wp_region_rely {id : Nat} {a0 : Act} {w : World} (G : (Nat → Option Value) → World → Prop) (hm : P.follows .mixedOrders = true) (hok : relyB ops a0.tmps.size = true) (h0 : G (fun _ => none) w.drew)
    (hstep : ∀ st w i o a, ops[i]? = some o → st i = none → (∀ e ∈ o.after, Region.binds .any e = true → (st e.on).isSome = true) → G st w → FrameIs ops a0 st a → Steps P G st i o a w)
    (hend : ∀ st w a, (∀ i, i < ops.size → (st i).isSome = true) → G st w → FrameIs ops a0 st a → Q .normal a w) : (Code.region id ops true).wp P Q a0 w := by
  refine wp_region_any hm ?_
  refine wpAny_rely (relyOk_of hok).1 (relyOk_of hok).2 hstep hend ops.size (fun _ => none) _ a0 w.drew ?_ ?_ h0 ?_
  · show (List.range ops.size).countP (fun _ => true) = ops.size
    rw [List.countP_true, List.length_range]
  · exact ⟨Array.size_replicate, fun i hi => by rw [Array.getElem?_replicate, if_pos hi]; rfl⟩
  · exact ⟨rfl, rfl, (fun _ _ _ _ _ _ h => by cases h), fun _ _ => rfl⟩
end
end Go.Proofs.YtekahmlppaabjaaGreatDoor
