/-
  Layer 14: the document's reader of tokens: read, the levels of two.
-/
import Derived.Test.YtekahmlppaabjaaDoorZSynRd3
import Derived.Test.YtekahmlppaabjaaDoorPk3
namespace Go.Proofs.YtekahmlppaabjaaDoor
open Go.RowKit
open Sx (X toksOf isT)
theorem wp_value14 {P : Program} {o : Oper} {a : Act} {w : World} {K : Act → World → Prop} {Q : Exit → Act → World → Prop} (v : Value) (w' : World) (hrun : (execOp a.eval o).run P w = .ok (.value v) w') (h : K (a.put o.dst v) w') : Oper.wp P o a w K Q := by
  unfold Oper.wp
  rw [hrun]
  exact h
abbrev l2 (x y : X) (a ay : Option Addr) (c cy : Nat) : List Value := [.int .i64 x.op, .int .i64 x.v.kind, .int .i64 x.v.n, .string x.v.s, .string x.s, .slice a x.l.length c, .int .i64 y.op, .int .i64 y.v.kind, .int .i64 y.v.n, .string y.v.s, .string y.s, .slice ay y.l.length cy]
theorem two_new (x y : X) (a ay : Option Addr) (c cy : Nat) (w : World) : Below w.heap.size w (w.alloc (.cells (l2 x y a ay c cy).toArray 29)) ∧ RowV (w.alloc (.cells (l2 x y a ay c cy).toArray 29)) w.heap.size 29 (l2 x y a ay c cy) ∧ (w.alloc (.cells (l2 x y a ay c cy).toArray 29)).heap.size = w.heap.size + 1 :=
  ⟨(Below.refl w.heap.size w).alloc (Nat.le_refl _) _, rowV_new w _ _, World.size_alloc _ _⟩
mutual
theorem xat_lt {w : World} {S : Nat → Prop} : ∀ (x : X) (ad : Option Addr), XAt w S x ad → XAt w (fun j => S j ∧ j < w.heap.size) x ad
  | .mk _ _ _ [], ad, _ => by rw [XAt]; exact .inl rfl
  | .mk _ _ _ (y :: r), ad, h => by
    rw [XAt] at h ⊢
    rcases h with h | ⟨b, o, h1, h2, h3⟩
    · cases h
    · have hb : b < w.heap.size := by
        rw [LAt] at h3
        obtain ⟨⟨a, c, hc, _⟩, _⟩ := h3
        exact World.block_lt_of_cell? _ _ hc.1
      exact .inr ⟨b, o, h1, ⟨h2, hb⟩, lat_lt (y :: r) b o h3⟩
theorem lat_lt {w : World} {S : Nat → Prop} : ∀ (l : List X) (b o : Nat), LAt w S l b o → LAt w (fun j => S j ∧ j < w.heap.size) l b o
  | [], _, _, _ => by rw [LAt]; trivial
  | x :: r, b, o, h => by
    rw [LAt] at h ⊢
    obtain ⟨⟨a, c, h1, h2⟩, h3⟩ := h
    exact ⟨⟨a, c, h1, xat_lt x a h2⟩, lat_lt r b (o + 6) h3⟩
end
/-- the box that a loop turns, and what stands in it -/
def KBm (w wx : World) (M : Nat) (y : X) (a : Option Addr) (c : Nat) : Prop := RowV wx M 29 (xC y a c).toList ∧ XAt wx (fun j => w.heap.size < j ∧ j ≠ M) y a ∧ w.heap.size < M
theorem kbm_only {w wx wy : World} {R M : Nat} {y : X} {a : Option Addr} {c : Nat} (h : KBm w wx M y a c) (hR : R < w.heap.size) (ho : Only (fun k => k = R) wx wy) : KBm w wy M y a c :=
  ⟨rowV_only h.1 ho (by have := h.2.2; omega), xat_only ho (fun j hj e => by have hj2 := hj.1; omega) y a h.2.1, h.2.2⟩
theorem kbm_below {w wx wy : World} {M : Nat} {y : X} {a : Option Addr} {c : Nat} (h : KBm w wx M y a c) (hb : Below wx.heap.size wx wy) : KBm w wy M y a c :=
  ⟨rowV_below h.1 hb (rowV_lt h.1), xat_below h.2.1 hb, h.2.2⟩
def posOf (w : World) (R : Nat) : Nat := match w.cell? ⟨R, 1, none⟩ with | some (.int _ p) => p.toNat | _ => 0
end Go.Proofs.YtekahmlppaabjaaDoor
