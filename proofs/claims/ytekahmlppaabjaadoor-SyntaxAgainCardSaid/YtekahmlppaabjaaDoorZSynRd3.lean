/-
  Layer 14: the document's reader of tokens: read, where 'if' stands.
-/
import Derived.Test.YtekahmlppaabjaaDoorZSynRd2
namespace Go.Proofs.YtekahmlppaabjaaDoor
open Go.RowKit
open Sx (X toksOf isT)
namespace Sx
def stP (L : List Lx.T) (s : List UInt8) (r : Option X × Nat) : Nat := if r.1.isNone then r.2 else if isT (toksOf L r.2) 1 s then r.2 + 1 else r.2
def stB (L : List Lx.T) (s : List UInt8) (r : Option X × Nat) : Bool := r.1.isNone || !(isT (toksOf L r.2) 1 s)
def nx (F : Nat → Option X × Nat) (b : Bool) (p : Nat) : Option X × Nat := if b then (none, p) else F p
def ifS (a b c : Option X) : Option X := match a, b, c with | some a, some b, some c => some (.mk 16 Vl.no Vl.mt [a, b, c]) | _, _, _ => none
def ifR (F : Nat → Option X × Nat) (L : List Lx.T) (p : Nat) : Option X × Nat :=
  let r1 := F (p + 1)
  let r2 := nx F (stB L [116, 104, 101, 110] r1) (stP L [116, 104, 101, 110] r1)
  let r3 := nx F (stB L [101, 108, 115, 101] r2) (stP L [101, 108, 115, 101] r2)
  (ifS r1.1 r2.1 r3.1, r3.2)
theorem nx_le {F : Nat → Option X × Nat} {n : Nat} (hF : ∀ q, q ≤ n → q ≤ (F q).2 ∧ (F q).2 ≤ n) (b : Bool) {q : Nat} (hq : q ≤ n) : q ≤ (nx F b q).2 ∧ (nx F b q).2 ≤ n := by
  cases b with
  | true => exact ⟨Nat.le_refl _, hq⟩
  | false => exact hF q hq
theorem stP_le {L : List Lx.T} (s : List UInt8) {r : Option X × Nat} (h : r.2 ≤ L.length) : r.2 ≤ stP L s r ∧ stP L s r ≤ L.length := by
  unfold stP
  split
  · exact ⟨Nat.le_refl _, h⟩
  · split
    · rename_i hi
      have hlt : r.2 < L.length := by
        rcases Nat.lt_or_ge r.2 L.length with hh | hh
        · exact hh
        · rw [toksOf_no hh] at hi; cases hi
      omega
    · exact ⟨Nat.le_refl _, h⟩
theorem ifS_none (F : Nat → Option X × Nat) (L : List Lx.T) (s s' : List UInt8) (r1 : Option X × Nat) : (ifS r1.1 (nx F (stB L s r1) (stP L s r1)).1 (nx F (stB L s' (nx F (stB L s r1) (stP L s r1))) (stP L s' (nx F (stB L s r1) (stP L s r1)))).1).isNone = (nx F (stB L s' (nx F (stB L s r1) (stP L s r1))) (stP L s' (nx F (stB L s r1) (stP L s r1)))).1.isNone := by
  have key : ∀ (r : Option X × Nat) (t : List UInt8), r.1 = none → (nx F (stB L t r) (stP L t r)).1 = none := fun r t h => by unfold nx stB; rw [h]; rfl
  generalize hr2 : nx F (stB L s r1) (stP L s r1) = r2
  generalize hr3 : nx F (stB L s' r2) (stP L s' r2) = r3
  have h12 : r1.1 = none → r2.1 = none := fun h => by rw [← hr2]; exact key r1 s h
  have h23 : r2.1 = none → r3.1 = none := fun h => by rw [← hr3]; exact key r2 s' h
  obtain ⟨o1, q1⟩ := r1
  obtain ⟨o2, q2⟩ := r2
  obtain ⟨o3, q3⟩ := r3
  simp only at h12 h23
  cases o1 with
  | none => rw [h23 (h12 rfl)]; rfl
  | some a => cases o2 with
    | none => rw [h23 rfl]; rfl
    | some b => cases o3 <;> rfl
end Sx
/-- the box of a part -/
def KBx (w wx : World) (M : Nat) (y : X) (a : Option Addr) (c : Nat) : Prop := RowV wx M 29 (xC y a c).toList ∧ XAt wx (fun j => w.heap.size < j) y a ∧ w.heap.size < M
section
variable {w wx wy : World} {R : Nat} {al : Option Addr} {cap : Nat} {L : List Lx.T} {p p' : Nat} {b b' : Bool} {M : Nat} {y : X} {a : Option Addr} {c : Nat}
theorem kbx_only (h : KBx w wx M y a c) (hR : R < w.heap.size) (ho : Only (fun k => k = R) wx wy) : KBx w wy M y a c :=
  ⟨rowV_only h.1 ho (by have := h.2.2; omega), xat_only ho (fun j hj e => by have hj2 : w.heap.size < j := hj; omega) y a h.2.1, h.2.2⟩
theorem kbx_below (h : KBx w wx M y a c) (hb : Below wx.heap.size wx wy) : KBx w wy M y a c :=
  ⟨rowV_below h.1 hb (rowV_lt h.1), xat_below h.2.1 hb, h.2.2⟩
abbrev l3 (y1 y2 y3 : X) (a1 a2 a3 : Option Addr) (s1 s2 s3 : Nat) : List Value := [.int .i64 y1.op, .int .i64 y1.v.kind, .int .i64 y1.v.n, .string y1.v.s, .string y1.s, .slice a1 y1.l.length s1, .int .i64 y2.op, .int .i64 y2.v.kind, .int .i64 y2.v.n, .string y2.v.s, .string y2.s, .slice a2 y2.l.length s2, .int .i64 y3.op, .int .i64 y3.v.kind, .int .i64 y3.v.n, .string y3.v.s, .string y3.s, .slice a3 y3.l.length s3]
end
end Go.Proofs.YtekahmlppaabjaaDoor
