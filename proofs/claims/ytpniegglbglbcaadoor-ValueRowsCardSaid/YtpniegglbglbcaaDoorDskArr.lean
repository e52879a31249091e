/-
  Layer 4: blocks as arrays of 512 bytes: their cells; elements of many cells in a row; two arrays held against one another.
-/
import Derived.Test.YtpniegglbglbcaaDoorOnly
import Derived.Test.YtpniegglbglbcaaDoorBits
import Derived.Test.YtpniegglbglbcaaDoorDump
import Derived.Deep.MidRow
import Derived.ChangeKeysEq
import Derived.Laws.MakeOwn
namespace Go.Proofs.YtpniegglbglbcaaDoor
open Go.RowKit

/-- a text's bytes as cells -/
def bv (b : ByteArray) : List Value := valB b.data.toList
theorem ba_len (b : ByteArray) : b.data.toList.length = b.size := by rw [Array.length_toList]; rfl
theorem bv_len (b : ByteArray) : (bv b).length = b.size := by unfold bv valB; rw [List.length_map, ba_len]
theorem bv_at (b : ByteArray) (i : Nat) (h : i < b.size) : (bv b)[i]? = some (.int .u8 ((b.data.toList[i]'(by rw [ba_len]; exact h)).toNat : Int)) := by
  unfold bv valB
  rw [List.getElem?_map, List.getElem?_eq_getElem (by rw [ba_len]; exact h)]; rfl
theorem valB_inj {a b : List UInt8} (h : valB a = valB b) : a = b := by
  unfold valB at h
  refine List.map_inj_right (fun x y hxy => ?_) |>.1 h
  simp only [Value.int.injEq, true_and] at hxy
  have : x.toNat = y.toNat := by omega
  exact UInt8.toNat_inj.1 this
theorem bv_inj {a b : ByteArray} (h : bv a = bv b) : a = b := by
  have h2 := valB_inj h
  cases a; cases b
  simp at h2
  rw [h2]
theorem valB_one (l : List UInt8) : ∀ v ∈ valB l, v.oneCell' = true := by
  intro v hv
  obtain ⟨x, _, rfl⟩ := List.mem_map.1 hv; rfl
theorem bv_one (b : ByteArray) : ∀ v ∈ bv b, v.oneCell' = true := valB_one _

/-! elements of k cells each, one behind the other -/
section
variable {α : Type} (f : α → List Value) (k : Nat)
theorem flat_len (bs : List α) (h : ∀ b ∈ bs, (f b).length = k) : (bs.flatMap f).length = bs.length * k := by
  induction bs with
  | nil => simp
  | cons b bs ih =>
    rw [List.flatMap_cons, List.length_append, h b (by simp), ih fun x hx => h x (by simp [hx]), List.length_cons, Nat.add_mul]; omega
theorem flat_at (bs : List α) (h : ∀ b ∈ bs, (f b).length = k) (i : Nat) (hi : i < bs.length) (j : Nat) (hj : j < k) : (bs.flatMap f)[i * k + j]? = (f bs[i])[j]? := by
  induction bs generalizing i with
  | nil => simp at hi
  | cons b bs ih =>
    have hb := h b (by simp)
    rw [List.flatMap_cons]
    cases i with
    | zero => rw [List.getElem?_append_left (by omega)]; simp
    | succ i =>
      rw [List.getElem?_append_right (by rw [hb, Nat.add_mul]; omega), hb, show (i + 1) * k + j - k = i * k + j by rw [Nat.add_mul]; omega]
      exact ih (fun x hx => h x (by simp [hx])) i (by simpa using hi)
theorem flat_set (bs : List α) (h : ∀ b ∈ bs, (f b).length = k) (i : Nat) (hi : i < bs.length) (x : α) (r : List Value) :
    (bs.flatMap f ++ r).take (i * k) ++ f x ++ (bs.flatMap f ++ r).drop (i * k + k) = (bs.set i x).flatMap f ++ r := by
  induction bs generalizing i with
  | nil => simp at hi
  | cons b bs ih =>
    have hb := h b (by simp)
    cases i with
    | zero =>
      simp only [List.flatMap_cons, List.set_cons_zero, Nat.zero_mul, Nat.zero_add, List.take_zero, List.nil_append, List.append_assoc]
      congr 1
      rw [List.drop_append, hb, Nat.sub_self, List.drop_zero, List.drop_of_length_le (by omega), List.nil_append]
    | succ i =>
      have e := ih (fun x hx => h x (by simp [hx])) i (by simpa using hi)
      simp only [List.flatMap_cons, List.set_cons_succ, List.append_assoc] at e ⊢
      rw [← e, List.take_append, List.drop_append, hb, List.take_of_length_le (by rw [hb, Nat.add_mul]; omega), List.drop_of_length_le (by rw [hb, Nat.add_mul]; omega),
        show (i + 1) * k - k = i * k by rw [Nat.add_mul]; omega, show (i + 1) * k + k - k = i * k + k by rw [Nat.add_mul]; omega, List.nil_append, List.append_assoc]
end
/-- what a store of many cells makes of a row -/
theorem rowV_setCells (vs : List Value) : ∀ (o : Nat) {w : World} {g T : Nat} {l : List Value}, RowV w g T l → o + vs.length ≤ l.length → RowV (w.setCells g o vs) g T (l.take o ++ vs ++ l.drop (o + vs.length)) := by
  induction vs with
  | nil => intro o w g T l h _; simpa [World.setCells] using h
  | cons v r ih =>
    intro o w g T l h ho
    rw [World.setCells]
    have h2 := ih (o + 1) (rowV_stored h o v) (by rw [List.length_set]; simp at ho; omega)
    have e : (l.set o v).take (o + 1) ++ r ++ (l.set o v).drop (o + 1 + r.length) = l.take o ++ (v :: r) ++ l.drop (o + (v :: r).length) := by
      have ho2 : o < l.length := by simp at ho; omega
      rw [List.take_set, List.drop_set_of_lt (by omega), List.take_succ_eq_append_getElem ho2, List.set_append_right _ _ (by rw [List.length_take]; omega), List.length_take, show o - min o l.length = 0 by omega, List.set_cons_zero]
      simp [Nat.add_assoc, Nat.add_comm 1]
    rw [e] at h2
    exact h2
theorem setCells_far (g : Nat) (vs : List Value) : ∀ (o : Nat) (w : World) (i : Nat), i ≠ g → (w.setCells g o vs).heap[i]? = w.heap[i]? := by
  induction vs with
  | nil => intro o w i _; rfl
  | cons v r ih => intro o w i h; rw [World.setCells, ih _ _ _ h]; exact Below.heap_setCell w ⟨g, o, none⟩ v i h
theorem setCells_size (g : Nat) (vs : List Value) : ∀ (o : Nat) (w : World), (w.setCells g o vs).heap.size = w.heap.size := by
  induction vs with
  | nil => intro o w; rfl
  | cons v r ih => intro o w; rw [World.setCells, ih]; simp [World.setCell]
theorem setCells_rest (g : Nat) (vs : List Value) : ∀ (o : Nat) (w : World), (w.setCells g o vs).os = w.os ∧ (w.setCells g o vs).tape = w.tape ∧ (w.setCells g o vs).output = w.output := by
  induction vs with
  | nil => intro o w; exact ⟨rfl, rfl, rfl⟩
  | cons v r ih => intro o w; rw [World.setCells]; exact ih _ _
theorem Only.setCells {F : Nat → Prop} {a w : World} (h : Only F a w) {g : Nat} (hg : g < a.heap.size → F g) (o : Nat) (vs : List Value) : Only F a (w.setCells g o vs) :=
  h.trans (G := fun k => k = g) ⟨(setCells_rest _ _ _ _).1, (setCells_rest _ _ _ _).2.1, (setCells_rest _ _ _ _).2.2, by rw [setCells_size]; exact Nat.le_refl _, fun k _ hk => setCells_far g vs o w k hk⟩ fun k hk e => by subst e; exact hg hk
theorem rowV_cellsFar {w : World} {g T g' : Nat} {l : List Value} (h : RowV w g T l) (hg : g ≠ g') (o : Nat) (vs : List Value) : RowV (w.setCells g' o vs) g T l := (setCells_far g' vs o w g hg).trans h
/-- the cells of a row from o on -/
theorem rowV_range {w : World} {g T : Nat} {l : List Value} (h : RowV w g T l) (o : Nat) (cs : List Value) (hc : ∀ j, j < cs.length → l[o + j]? = cs[j]?) : w.rangeAt g o cs := by
  intro j v hv
  have hj : j < cs.length := (List.getElem?_eq_some_iff.1 hv).1
  rw [rowV_cell h, hc j hj, hv]
theorem rowV_there {w : World} {g T : Nat} {l : List Value} (h : RowV w g T l) (o n : Nat) (hn : o + n ≤ l.length) : w.there g o n := by
  intro j hj
  refine ⟨?_, rowV_frozen h _⟩
  rw [rowV_cell h, List.getElem?_eq_getElem (by omega)]; rfl

/-! two arrays of bytes held against one another -/
theorem info_byte : (Tryd.prog.info? 5).map (fun i => (i.zero, i.size, i.bytes)) = some (some (.int .u8 0), 1, 1) := by kernel_rfl
theorem eqItems_int {P : Program} (w : World) (e : TypeId) (k : IntKind) (he : P.underlying e = some (.int k)) (d : Nat) (is : List Nat) : ∀ (X Y : List Int), (∀ i ∈ is, i < X.length ∧ i < Y.length) →
    (Op.eqItems (d + 1) e 1 (X.map (Value.int k)).toArray (Y.map (Value.int k)).toArray is).run P w = .ok (is.all fun i => X.getD i 0 == Y.getD i 0) w := by
  induction is with
  | nil => intro X Y _; simp [Op.eqItems]
  | cons i is ih =>
    intro X Y h
    obtain ⟨h1, h2⟩ := h i (by simp)
    have hag : (isAgg e).run P w = .ok false w := by unfold isAgg; rw [Sem.run_bind, run_underlying he w]; rfl
    have hx : (part e (X.map (Value.int k)).toArray (i * 1)).run P w = .ok (.int k (X.getD i 0)) w := by
      simp [part, hag, List.getElem?_eq_getElem h1, List.getD]
    have hy : (part e (Y.map (Value.int k)).toArray (i * 1)).run P w = .ok (.int k (Y.getD i 0)) w := by
      simp [part, hag, List.getElem?_eq_getElem h2, List.getD]
    simp only [Op.eqItems, Sem.run_bind, hx, hy, Result.andThen_ok, run_equalIn_int w d e k k _ _ he]
    by_cases hq : X.getD i 0 = Y.getD i 0
    · rw [List.all_cons]
      have : (X.getD i 0 == Y.getD i 0) = true := by simpa using hq
      rw [this]
      simpa using ih X Y fun j hj => h j (by simp [hj])
    · have : (X.getD i 0 == Y.getD i 0) = false := by simpa using hq
      rw [List.all_cons, this]
      simp
theorem all_getD {X Y : List Int} {n : Nat} (hX : X.length = n) (hY : Y.length = n) : ((List.range n).all fun i => X.getD i 0 == Y.getD i 0) = decide (X = Y) := by
  rw [Bool.eq_iff_iff, List.all_eq_true, decide_eq_true_iff]
  constructor
  · intro h
    apply List.ext_getElem (by omega)
    intro i h1 h2
    have := h i (List.mem_range.2 (by omega))
    simpa [List.getD, List.getElem?_eq_getElem h1, List.getElem?_eq_getElem h2] using this
  · rintro rfl i _; simp
theorem valB_int (l : List UInt8) : valB l = (l.map fun b => (b.toNat : Int)).map (Value.int .u8) := by unfold valB; rw [List.map_map]; rfl
end Go.Proofs.YtpniegglbglbcaaDoor
