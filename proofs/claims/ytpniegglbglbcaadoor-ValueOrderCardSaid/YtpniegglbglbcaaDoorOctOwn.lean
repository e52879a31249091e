/-
  Slices of bytes that a call makes itself: what they hold, as lists; how they become strings.
-/
import Derived.WalkKit
import Derived.WalkSpells
import Derived.WalkLawsBesides
import Derived.Laws.BytesArg
import Derived.Deep.Draws
import Derived.Lib.Hide
import Derived.Below
namespace Go.Proofs.YtpniegglbglbcaaDoor
open Go.RowKit

/-- the slice v of bytes (element type E), from block B on, holds l -/
def OwnsB (w : World) (B E : Nat) (v : Value) (l : List UInt8) : Prop := w.ownsRow B E 1 v l.length (l.map fun b => Value.int .u8 (b.toNat : Int))

theorem ownsB_nil (w : World) (B E : Nat) : OwnsB w B E (.slice none 0 0) [] := World.ownsRow_nil _ _ _ _

theorem ownsB_conv {P : Program} {w : World} {B E : Nat} {v : Value} {l : List UInt8} (h : OwnsB w B E v l) {src dst : TypeId}
    (hs : P.underlying src = some (.slice E)) (he : P.underlying E = some (.int .u8)) (hd : P.underlying dst = some .string) :
    (convert src dst v).run P w = .ok (.string ⟨l.toArray⟩) w := by
  obtain ⟨hlen, ⟨rfl, h0⟩ | ⟨g, cap, cur, rfl, hBg, hg, hnc, hcm, hcs, htake⟩⟩ := h
  · have hl : l = [] := List.eq_nil_of_length_eq_zero h0
    subst hl
    exact run_convert_bytes_nil w src E hs he 0 0 dst hd
  · have hc := run_convert_bytes_arg w src E hs he g 0 l.length cap (l.map fun b => (b.toNat : Int)) (by simp) (fun i hi => by
      rw [Nat.zero_add, cell_of_row w g i cur E (0, 0) hg]
      have h1 : cur.toList[i]? = (cur.toList.take (l.length * 1))[i]? := by rw [List.getElem?_take, if_pos (by omega)]
      have h2 : cur[i]? = cur.toList[i]? := by simp
      rw [h2, h1, htake]
      simp [List.getElem?_eq_getElem hi, List.getD]) dst hd
    rw [hc]
    have e : strOfNums (l.map fun b => (b.toNat : Int)) = ⟨l.toArray⟩ := by
      unfold strOfNums
      rw [List.map_map]
      have : ∀ l : List UInt8, l.map ((fun n : Int => UInt8.ofNat n.toNat) ∘ fun b : UInt8 => (b.toNat : Int)) = l := fun l => by
        induction l with
        | nil => rfl
        | cons b l ih => rw [List.map_cons, ih]; simp
      rw [this]
    rw [e]

theorem ownsB_row {w : World} {B E : Nat} {v : Value} {l : List UInt8} (h : OwnsB w B E v l) (n : Nat) (o : Obj) :
    ((w.drewN n).alloc o).ownsRow B E 1 v l.length (l.map fun b => Value.int .u8 (b.toNat : Int)) := World.ownsRow.alloc (w := w.drewN n) h o
theorem ownsB_row0 {w : World} {B E : Nat} {v : Value} {l : List UInt8} (h : OwnsB w B E v l) (o : Obj) :
    (w.alloc o).ownsRow B E 1 v l.length (l.map fun b => Value.int .u8 (b.toNat : Int)) := World.ownsRow.alloc h o
theorem cell_one {w : World} {x : Value} {t : TypeId} : ∀ (j : Nat) (u : Value), [x][j]? = some u → (w.alloc (.cells #[x] t)).cell? ((⟨w.heap.size, 0, none⟩ : Addr).add j) = some u := by
  intro j u hj
  match j, hj with
  | 0, hj => simp at hj; subst hj; show (w.alloc (.cells #[x] t)).cell? ⟨w.heap.size, 0, none⟩ = some x; rw [World.cell?_alloc_at _ _ _ _ rfl]; rfl

/-- what an append of one byte leaves -/
theorem ownsB_snoc {w : World} {B E : Nat} {v : Value} {l : List UInt8} {n : Int} (b : UInt8)
    (h : w.ownsRow B E 1 v (l.length + 1) ((l.map fun b => Value.int .u8 (b.toNat : Int)) ++ [.int .u8 n])) (hb : n = (b.toNat : Int)) : OwnsB w B E v (l ++ [b]) := by
  subst hb
  unfold OwnsB; simpa using h

theorem one_cell {k : IntKind} {n : Int} : ∀ u ∈ [Value.int k n], u.oneCell' = true := by intro u hu; simp at hu; subst hu; rfl

/-- what a call makes above what was there, and grows, stays above -/
theorem below_grown {B E : Nat} {w wr w1 : World} {v : Value} {l : List UInt8} {o : Obj} (hb : Below B w wr) (hB : B ≤ wr.heap.size) (hown : OwnsB wr B E v l) (hg : (wr.alloc o).grownBy w1 v.ownBlock) : Below B w w1 :=
  (hb.alloc hB o).grown hg (by simp; omega) (fun j hj => (hown.lt j hj).1)

theorem ownsB_made {w : World} {B E m : Nat} {v : Value} (h : w.ownsRow B E 1 v m (madeCells #[Value.int .u8 0] m).toList) : OwnsB w B E v (List.replicate m 0) := by
  unfold OwnsB
  rw [toList_madeCells_one] at h
  simpa using h
theorem ownsB_cell {w : World} {B E g n cap : Nat} {l : List UInt8} (h : OwnsB w B E (.slice (some ⟨g, 0, none⟩) n cap) l) (hn : l.length = n) (j : Nat) (hj : j < n) :
    ∃ x, w.cell? ⟨g, j, none⟩ = some (.int .u8 x) ∧ w.frozen? ⟨g, j, none⟩ = false := by
  unfold OwnsB at h; rw [hn] at h
  exact ⟨_, by rw [h.cellAt j (by omega), List.getElem?_map, List.getElem?_eq_getElem (by omega)]; rfl, h.frozenAt j⟩
theorem ownsB_stored {w : World} {B E g n cap : Nat} {l l' : List UInt8} (h : OwnsB w B E (.slice (some ⟨g, 0, none⟩) n cap) l) (hn : l.length = n) (j : Nat) (b : UInt8) (he : l.set j b = l') :
    OwnsB (w.setCell ⟨g, j, none⟩ (.int .u8 (b.toNat : Int))) B E (.slice (some ⟨g, 0, none⟩) n cap) l' := by
  subst he
  unfold OwnsB at h ⊢; rw [hn] at h
  have := (h.stored j (.int .u8 (b.toNat : Int))).1
  rw [List.length_set, hn, List.map_set]; exact this
theorem ownsB_ge {w : World} {B E g n cap : Nat} {l : List UInt8} (h : OwnsB w B E (.slice (some ⟨g, 0, none⟩) n cap) l) : B ≤ g := (h.lt g rfl).1
/-- one byte in a new block, as a string -/
theorem conv_one {P : Program} (w : World) (b : UInt8) {src dst E : TypeId}
    (hs : P.underlying src = some (.slice E)) (he : P.underlying E = some (.int .u8)) (hd : P.underlying dst = some .string) :
    (convert src dst (.slice (some ⟨w.heap.size, 0, none⟩) 1 1)).run P (w.alloc (.cells #[.int .u8 (b.toNat : Int)] E)) = .ok (.string ⟨#[b]⟩) (w.alloc (.cells #[.int .u8 (b.toNat : Int)] E)) := by
  have ho : OwnsB (w.alloc (.cells #[.int .u8 (b.toNat : Int)] E)) 0 E (.slice (some ⟨w.heap.size, 0, none⟩) 1 1) [b] :=
    ⟨rfl, .inr ⟨w.heap.size, 1, #[.int .u8 (b.toNat : Int)], rfl, Nat.zero_le _, heap_alloc_new w _, Nat.le_refl 1, by unfold maxLen; omega, rfl, rfl⟩⟩
  exact ownsB_conv ho hs he hd
end Go.Proofs.YtpniegglbglbcaaDoor
