/-
  Layer 14: the document's reader of tokens: read, where 'if' stands.
-/
import Derived.Test.YtekahmlppaabjaaGreatDoorZSynRd2
namespace Go.Proofs.YtekahmlppaabjaaGreatDoor
open Go.RowKit
open Sx (X toksOf isT)
namespace Sx
def stP (L : List Lx.T) (s : List UInt8) (r : Option X × Nat) : Nat := if r.1.isNone then r.2 else if isT (toksOf L r.2) 1 s then r.2 + 1 else r.2
def stB (L : List Lx.T) (s : List UInt8) (r : Option X × Nat) : Bool := r.1.isNone || !(isT (toksOf L r.2) 1 s)
def nx (F : Nat → Option X × Nat) (b : Bool) (p : Nat) : Option X × Nat := if b then (none, p) else F p
def ifS (a b c : Option X) : Option X := match a, b, c with | some a, some b, some c => some (.mk 16 Vl.no Vl.mt [a, b, c]) | _, _, _ => none
def ifR (F : Nat → Option X × Nat) (L : List Lx.T) (p : Nat) : Option X × Nat :=
  let r1 := F (p + 1)
  let r2 := nx F (stB L [116, 104, 101, 110] r1) (stP L [116, 104, 101, 110] r1)
  let r3 := nx F (stB L [101, 108, 115, 101] r2) (stP L [101, 108, 115, 101] r2)
  (ifS r1.1 r2.1 r3.1, r3.2)
theorem nx_le {F : Nat → Option X × Nat} {n : Nat} (hF : ∀ q, q ≤ n → q ≤ (F q).2 ∧ (F q).2 ≤ n) (b : Bool) {q : Nat} (hq : q ≤ n) : q ≤ (nx F b q).2 ∧ (nx F b q).2 ≤ n := by
  cases b with
  | true => exact ⟨Nat.le_refl _, hq⟩
  | false => exact hF q hq
theorem stP_le {L : List Lx.T} (s : List UInt8) {r : Option X × Nat} (h : r.2 ≤ L.length) : r.2 ≤ stP L s r ∧ stP L s r ≤ L.length := by
  unfold stP
  split
  · exact ⟨Nat.le_refl _, h⟩
  · split
    · rename_i hi
      have hlt : r.2 < L.length := by
        rcases Nat.lt_or_ge r.2 L.length with hh | hh
        · exact hh
        · rw [toksOf_no hh] at hi; cases hi
      omega
    · exact ⟨Nat.le_refl _, h⟩
theorem ifS_none (F : Nat → Option X × Nat) (L : List Lx.T) (s s' : List UInt8) (r1 : Option X × Nat) : (ifS r1.1 (nx F (stB L s r1) (stP L s r1)).1 (nx F (stB L s' (nx F (stB L s r1) (stP L s r1))) (stP L s' (nx F (stB L s r1) (stP L s r1)))).1).isNone = (nx F (stB L s' (nx F (stB L s r1) (stP L s r1))) (stP L s' (nx F (stB L s r1) (stP L s r1)))).1.isNone := by
  have key : ∀ (r : Option X × Nat) (t : List UInt8), r.1 = none → (nx F (stB L t r) (stP L t r)).1 = none := fun r t h => by unfold nx stB; rw [h]; rfl
  generalize hr2 : nx F (stB L s r1) (stP L s r1) = r2
  generalize hr3 : nx F (stB L s' r2) (stP L s' r2) = r3
  have h12 : r1.1 = none → r2.1 = none := fun h => by rw [← hr2]; exact key r1 s h
  have h23 : r2.1 = none → r3.1 = none := fun h => by rw [← hr3]; exact key r2 s' h
  obtain ⟨o1, q1⟩ := r1
  obtain ⟨o2, q2⟩ := r2
  obtain ⟨o3, q3⟩ := r3
  simp only at h12 h23
  cases o1 with
  | none => rw [h23 (h12 rfl)]; rfl
  | some a => cases o2 with
    | none => rw [h23 rfl]; rfl
    | some b => cases o3 <;> rfl
end Sx
/-- the reader, and the box of the answer -/
def KSt (w wx : World) (R : Nat) (al : Option Addr) (cap : Nat) (L : List Lx.T) (p : Nat) (b : Bool) : Prop := Rdr wx R al cap L p b ∧ RowV wx w.heap.size 29 (xC Sx.no none 0).toList ∧ Only (fun k => k = R) w wx ∧ R < w.heap.size
/-- the box of a part -/
def KBx (w wx : World) (M : Nat) (y : X) (a : Option Addr) (c : Nat) : Prop := RowV wx M 29 (xC y a c).toList ∧ XAt wx (fun j => w.heap.size < j) y a ∧ w.heap.size < M
section
variable {w wx wy : World} {R : Nat} {al : Option Addr} {cap : Nat} {L : List Lx.T} {p p' : Nat} {b b' : Bool} {M : Nat} {y : X} {a : Option Addr} {c : Nat}
theorem kst_only (h : KSt w wx R al cap L p b) (ho : Only (fun k => k = R) wx wy) (hR : Rdr wy R al cap L p' b') : KSt w wy R al cap L p' b' :=
  ⟨hR, rowV_only h.2.1 ho (by have := h.2.2.2; omega), h.2.2.1.more ho, h.2.2.2⟩
theorem kst_below (h : KSt w wx R al cap L p b) (hb : Below wx.heap.size wx wy) : KSt w wy R al cap L p b :=
  ⟨rdr_below h.1 hb, rowV_below h.2.1 hb (rowV_lt h.2.1), h.2.2.1.more (Only.of_none hb), h.2.2.2⟩
theorem kbx_only (h : KBx w wx M y a c) (hR : R < w.heap.size) (ho : Only (fun k => k = R) wx wy) : KBx w wy M y a c :=
  ⟨rowV_only h.1 ho (by have := h.2.2; omega), xat_only ho (fun j hj e => by have hj2 : w.heap.size < j := hj; omega) y a h.2.1, h.2.2⟩
theorem kbx_below (h : KBx w wx M y a c) (hb : Below wx.heap.size wx wy) : KBx w wy M y a c :=
  ⟨rowV_below h.1 hb (rowV_lt h.1), xat_below h.2.1 hb, h.2.2⟩
/-- a part is read, and laid into a box -/
theorem kbx_new (h : KSt w wx R al cap L p b) (ho : Only (fun k => k = R) wx wy) (hx : XAt wy (fun j => wx.heap.size ≤ j) y a) (c : Nat) : KBx w (wy.alloc (.cells (xC y a c) 29)) wy.heap.size y a c ∧ Below wy.heap.size wy (wy.alloc (.cells (xC y a c) 29)) := by
  have hA := x_new y a c wy
  have hl := rowV_lt h.2.1
  have hs := ho.size
  exact ⟨⟨hA.1, xat_below (xat_mono (fun j hj => by have hj2 : wx.heap.size ≤ j := hj; omega) y a hx) hA.2.1, by omega⟩, hA.2.1⟩
abbrev l3 (y1 y2 y3 : X) (a1 a2 a3 : Option Addr) (s1 s2 s3 : Nat) : List Value := [.int .i64 y1.op, .int .i64 y1.v.kind, .int .i64 y1.v.n, .string y1.v.s, .string y1.s, .slice a1 y1.l.length s1, .int .i64 y2.op, .int .i64 y2.v.kind, .int .i64 y2.v.n, .string y2.v.s, .string y2.s, .slice a2 y2.l.length s2, .int .i64 y3.op, .int .i64 y3.v.kind, .int .i64 y3.v.n, .string y3.v.s, .string y3.s, .slice a3 y3.l.length s3]
set_option maxHeartbeats 1600000 in
theorem rd_if_end {w wc wp : World} {R : Nat} {al : Option Addr} {cap : Nat} {L : List Lx.T} {o1 o2 : Option X} {r3 : Option X × Nat} {y1 y2 y3 : X} {a1 a2 a3 : Option Addr} (s1 s2 s3 : Nat) (K : KSt w wc R al cap L r3.2 r3.1.isNone) (h1 : XAt wc (fun j => w.heap.size < j) y1 a1) (h2 : XAt wc (fun j => w.heap.size < j) y2 a2) (h3 : XAt wc (fun j => w.heap.size < j) y3 a3)
    (hm1 : ∀ x, o1 = some x → y1 = x) (hm2 : ∀ x, o2 = some x → y2 = x) (hm3 : ∀ x, r3.1 = some x → y3 = x) (hN : (Sx.ifS o1 o2 r3.1).isNone = r3.1.isNone) (ho : Only (fun k => k = w.heap.size) wc wp) (hs : wp.heap.size = wc.heap.size) :
    RdPost R al cap L (Sx.ifS o1 o2 r3.1, r3.2) w (.returned (xV (.mk 16 Vl.no Vl.mt [y1, y2, y3]) (some ⟨wc.heap.size + 1, 0, none⟩) 3)) ((wp.alloc (.cells (xC y3 a3 s3) 29)).alloc (.cells (l3 y1 y2 y3 a1 a2 a3 s1 s2 s3).toArray 29)) := by
  have hl := rowV_lt K.2.1
  have hA := x_new y3 a3 s3 wp
  have hz : (wp.alloc (.cells (xC y3 a3 s3) 29)).heap.size = wc.heap.size + 1 := by rw [hA.2.2, hs]
  have hB : RowV ((wp.alloc (.cells (xC y3 a3 s3) 29)).alloc (.cells (l3 y1 y2 y3 a1 a2 a3 s1 s2 s3).toArray 29)) (wc.heap.size + 1) 29 (l3 y1 y2 y3 a1 a2 a3 s1 s2 s3) := by
    have := rowV_new (wp.alloc (.cells (xC y3 a3 s3) 29)) 29 (l3 y1 y2 y3 a1 a2 a3 s1 s2 s3)
    rw [hz] at this
    exact this
  have hb : Below wp.heap.size wp ((wp.alloc (.cells (xC y3 a3 s3) 29)).alloc (.cells (l3 y1 y2 y3 a1 a2 a3 s1 s2 s3).toArray 29)) := (((Below.refl _ wp).alloc (Nat.le_refl _) _).alloc (by rw [hz, hs]; omega) _)
  have up := fun {y : X} {a : Option Addr} (h : XAt wc (fun j => w.heap.size < j) y a) => xat_below (xat_mono (fun j hj => (Nat.le_of_lt hj : w.heap.size ≤ j)) y a (xat_only ho (fun j hj e => by have hj2 : w.heap.size < j := hj; omega) y a h)) hb
  generalize hW : (wp.alloc (.cells (xC y3 a3 s3) 29)).alloc (.cells (l3 y1 y2 y3 a1 a2 a3 s1 s2 s3).toArray 29) = wz at *
  have hX : XAt wz (fun j => w.heap.size ≤ j) (.mk 16 Vl.no Vl.mt [y1, y2, y3]) (some ⟨wc.heap.size + 1, 0, none⟩) := by
    rw [XAt]
    refine .inr ⟨wc.heap.size + 1, 0, rfl, (by show w.heap.size ≤ wc.heap.size + 1; omega), ?_⟩
    rw [LAt, LAt, LAt, LAt]
    exact ⟨⟨a1, s1, ⟨rowV_cell hB 0, rowV_cell hB 1, rowV_cell hB 2, rowV_cell hB 3, rowV_cell hB 4, rowV_cell hB 5⟩, up h1⟩, ⟨a2, s2, ⟨rowV_cell hB 6, rowV_cell hB 7, rowV_cell hB 8, rowV_cell hB 9, rowV_cell hB 10, rowV_cell hB 11⟩, up h2⟩, ⟨a3, s3, ⟨rowV_cell hB 12, rowV_cell hB 13, rowV_cell hB 14, rowV_cell hB 15, rowV_cell hB 16, rowV_cell hB 17⟩, up h3⟩, trivial⟩
  have hR := rdr_below (rdr_put K.1 K.2.2.2 ho) hb
  have hO := (K.2.2.1.trans ho fun i hi e => absurd hi (by omega)).more (Only.of_none hb)
  refine ⟨_, _, 3, rfl, hX, fun x h => ?_, ?_, hO⟩
  · obtain ⟨o3, q3⟩ := r3
    cases o1 <;> cases o2 <;> cases o3 <;> (try (cases h; done))
    cases h
    rw [hm1 _ rfl, hm2 _ rfl, hm3 _ rfl]
  · show Rdr _ R al cap L r3.2 (Sx.ifS o1 o2 r3.1).isNone
    rw [hN]; exact hR
end
set_option maxRecDepth 100000 in
set_option maxHeartbeats 12800000 in
/-- level 0, where 'if' stands -/
theorem rread14_if {w : World} {R : Nat} {al : Option Addr} {cap : Nat} {L : List Lx.T} {p : Nat} (F : Nat → Option X × Nat) (h : Rdr w R al cap L p false) (hp : p < L.length) (hL : L.length ≤ 1000000000) (hF : ∀ q, q ≤ L.length → q ≤ (F q).2 ∧ (F q).2 ≤ L.length) (hi : isT (toksOf L p) 1 [105, 102] = true)
    (H1 : ∀ q b w', p < q → q ≤ L.length → Rdr w' R al cap L q b → Calls Tryz.prog 21 #[.pointer (some ⟨R, 0, none⟩), .int .i64 0] w' (RdPost R al cap L (Sx.nx F b q) w')) :
    Calls Tryz.prog 21 #[.pointer (some ⟨R, 0, none⟩), .int .i64 0] w (RdPost R al cap L (Sx.ifR F L p) w) := by
  have hA := no_new w
  have HR := Lib.hid (show KSt w _ R al cap L p false from ⟨rdr_below h hA.2.1, hA.1, Only.of_none hA.2.1, rowV_lt h.1⟩)
  obtain ⟨c0, c1, c2, c3, c4⟩ := rdr_cells HR.out.1
  have HH := Lib.hid H1
  have HC := Lib.hid ((ris14_any HR.out.1 1 [105, 102]).mono fun e w' hh => (⟨hh.1.trans (ret_bool hi), hh.2⟩ : e = .returned (.bool true) ∧ _))
  have hne : ¬ R = w.heap.size := by have := HR.out.2.2.2; omega
  have hw1 : IntKind.i64.wrap ((p : Int) + 1) = (p : Int) + 1 := IntWalk.i64_in _ (by omega)
  clear h H1 hA hi
  go_enter Tryz.func21, Tryz.ntmps21
  go_wp2_with fail
  refine HC.out.mono ?_
  rintro e w5 ⟨rfl, hb5⟩
  have H5 := Lib.hid (kst_below HR.out hb5)
  clear hb5 c0 c1 c2 c3 c4
  obtain ⟨c0, c1, c2, c3, c4⟩ := rdr_cells H5.out.1
  go_wp2_with fail
  have K5 := Lib.hid (kst_only H5.out (rdr_at H5.out.1 (p + 1)).2 (rdr_at H5.out.1 (p + 1)).1)
  refine (HH.out (p + 1) false _ (by omega) (by omega) K5.out.1).mono ?_
  rintro e w6 ⟨y1, a1, s1, rfl, hx1, hm1, hR6, ho6⟩
  have q1 : p + 1 ≤ (F (p + 1)).2 ∧ (F (p + 1)).2 ≤ L.length := hF (p + 1) (by omega)
  obtain ⟨hb1, hbel1⟩ := kbx_new K5.out ho6 hx1 s1
  have K6 := Lib.hid (kst_below (kst_only K5.out ho6 hR6) hbel1)
  have B1 := Lib.hid hb1
  have HM1 := Lib.hid (show ∀ x, (F (p + 1)).1 = some x → y1 = x from hm1)
  have K6 : Hid (KSt w (w6.alloc (.cells (xC y1 a1 s1) 29)) R al cap L (F (p + 1)).2 (F (p + 1)).1.isNone) := K6
  clear hb1 hbel1 hx1 hm1 hR6 ho6 c0 c1 c2 c3 c4
  go_wp2_with fail
  generalize hwa : World.alloc _ _ = wa at *
  generalize hM1 : w6.heap.size = M1 at *
  clear hwa hM1
  generalize hr1 : F (p + 1) = r1 at *
  have HR1 := Lib.hid hr1
  clear hr1
  refine (rtake14_any K6.out.1 (show r1.2 ≤ 1000000000 by omega) 1 [116, 104, 101, 110]).mono ?_
  rintro e w7 ⟨rfl, hR7, ho7⟩
  have q2 := Sx.stP_le [116, 104, 101, 110] q1.2
  have K7 : Hid (KSt w w7 R al cap L (Sx.stP L [116, 104, 101, 110] r1) (Sx.stB L [116, 104, 101, 110] r1)) := Lib.hid (kst_only K6.out ho7 hR7)
  have B1' := Lib.hid (kbx_only B1.out K6.out.2.2.2 ho7)
  clear hR7 ho7 B1
  go_wp2_with fail
  have q3 := Sx.nx_le hF (Sx.stB L [116, 104, 101, 110] r1) q2.2
  refine (HH.out _ _ _ (by omega) q2.2 K7.out.1).mono ?_
  rintro e w8 ⟨y2, a2, s2, rfl, hx2, hm2, hR8, ho8⟩
  obtain ⟨hb2, hbel2⟩ := kbx_new K7.out ho8 hx2 s2
  have K8 := Lib.hid (kst_below (kst_only K7.out ho8 hR8) hbel2)
  have B2 := Lib.hid hb2
  have B1 := Lib.hid (kbx_below (kbx_only B1'.out K7.out.2.2.2 ho8) hbel2)
  have HM2 := Lib.hid hm2
  clear hb2 hbel2 hx2 hm2 hR8 ho8 B1'
  go_wp2_with fail
  generalize hwa : World.alloc _ _ = wb at *
  generalize hM2 : w8.heap.size = M2 at *
  clear hwa hM2
  have q4 := Sx.stP_le [101, 108, 115, 101] q3.2
  generalize hr2 : Sx.nx F (Sx.stB L [116, 104, 101, 110] r1) (Sx.stP L [116, 104, 101, 110] r1) = r2 at *
  refine (rtake14_any K8.out.1 (show r2.2 ≤ 1000000000 by omega) 1 [101, 108, 115, 101]).mono ?_
  rintro e w9 ⟨rfl, hR9, ho9⟩
  have K9 : Hid (KSt w w9 R al cap L (Sx.stP L [101, 108, 115, 101] r2) (Sx.stB L [101, 108, 115, 101] r2)) := Lib.hid (kst_only K8.out ho9 hR9)
  have B1' := Lib.hid (kbx_only B1.out K8.out.2.2.2 ho9)
  have B2' := Lib.hid (kbx_only B2.out K8.out.2.2.2 ho9)
  clear hR9 ho9 B1 B2
  go_wp2_with fail
  refine (HH.out _ _ _ (by omega) q4.2 K9.out.1).mono ?_
  rintro e wc ⟨y3, a3, s3, rfl, hx3, hm3, hRc, hoc⟩
  obtain ⟨hb3, hbel3⟩ := kbx_new K9.out hoc hx3 s3
  have Kc := Lib.hid (kst_below (kst_only K9.out hoc hRc) hbel3)
  have B3 := Lib.hid hb3
  have B2 := Lib.hid (kbx_below (kbx_only B2'.out K9.out.2.2.2 hoc) hbel3)
  have B1 := Lib.hid (kbx_below (kbx_only B1'.out K9.out.2.2.2 hoc) hbel3)
  have HM3 := Lib.hid hm3
  have Kw := Lib.hid (kst_only K9.out hoc hRc)
  have B2w := Lib.hid (kbx_only B2'.out K9.out.2.2.2 hoc)
  have B1w := Lib.hid (kbx_only B1'.out K9.out.2.2.2 hoc)
  have Hxw := Lib.hid hx3
  clear hb3 hbel3 hx3 hm3 hRc hoc B1' B2'
  obtain ⟨d0, d1, d2, d3, d4, d5⟩ := x_cells B1w.out.1
  simp only [Nat.zero_add] at d0 d1 d2 d3 d4 d5
  obtain ⟨g0, g1, g2, g3, g4, g5⟩ := x_cells B2w.out.1
  simp only [Nat.zero_add] at g0 g1 g2 g3 g4 g5
  obtain ⟨e0, e1, e2, e3, e4, e5⟩ := x_cells Kw.out.2.1
  simp only [Nat.zero_add] at e0 e1 e2 e3 e4 e5
  obtain ⟨f0, f1, f2, f3, f4, f5⟩ := x_ice Kw.out.2.1
  have l1 : M1 < wc.heap.size := rowV_lt B1w.out.1
  have l2 : M2 < wc.heap.size := rowV_lt B2w.out.1
  have l0 : w.heap.size < wc.heap.size := rowV_lt Kw.out.2.1
  have n1 : ¬ M1 = wc.heap.size := by omega
  have n2 : ¬ M2 = wc.heap.size := by omega
  have n0 : ¬ w.heap.size = wc.heap.size := by omega
  have l1' : M1 < wc.heap.size + 1 := by omega
  have l2' : M2 < wc.heap.size + 1 := by omega
  have l0' : w.heap.size < wc.heap.size + 1 := by omega
  have n0' : ¬ w.heap.size = wc.heap.size + 1 := by omega
  have n01 : ¬ w.heap.size = M1 := by have := B1w.out.2.2; omega
  have n02 : ¬ w.heap.size = M2 := by have := B2w.out.2.2; omega
  go_wp2_with fail
  have hE := x_put Kw.out.2.1 16 0 0 ⟨#[]⟩ ⟨#[]⟩ (some ⟨wc.heap.size + 1, 0, none⟩) 3 3
  have h9 := rowV_lt K9.out.2.1
  refine bodyPost_ret (v := xV (.mk 16 Vl.no Vl.mt [y1, y2, y3]) (some ⟨wc.heap.size + 1, 0, none⟩) 3) (results_x (p := 4) rfl _ _ w.heap.size (.mk 16 Vl.no Vl.mt [y1, y2, y3]) (some ⟨wc.heap.size + 1, 0, none⟩) 3 rfl (rowV_alloc (rowV_alloc hE.1 _) _)) rfl ?_
  subst hr2
  have hEnd := rd_if_end (r3 := Sx.nx F (Sx.stB L [101, 108, 115, 101] (Sx.nx F (Sx.stB L [116, 104, 101, 110] r1) (Sx.stP L [116, 104, 101, 110] r1))) (Sx.stP L [101, 108, 115, 101] (Sx.nx F (Sx.stB L [116, 104, 101, 110] r1) (Sx.stP L [116, 104, 101, 110] r1)))) s1 s2 s3 Kw.out B1w.out.2.1 B2w.out.2.1 (xat_mono (fun j hj => by have hj2 : w9.heap.size ≤ j := hj; omega) y3 a3 Hxw.out) HM1.out HM2.out HM3.out (Sx.ifS_none F L _ _ r1) (hE.2 (fun k => k = w.heap.size) rfl) (by simp)
  have e : Sx.ifR F L p = (Sx.ifS r1.1 (Sx.nx F (Sx.stB L [116, 104, 101, 110] r1) (Sx.stP L [116, 104, 101, 110] r1)).1 (Sx.nx F (Sx.stB L [101, 108, 115, 101] (Sx.nx F (Sx.stB L [116, 104, 101, 110] r1) (Sx.stP L [116, 104, 101, 110] r1))) (Sx.stP L [101, 108, 115, 101] (Sx.nx F (Sx.stB L [116, 104, 101, 110] r1) (Sx.stP L [116, 104, 101, 110] r1)))).1, (Sx.nx F (Sx.stB L [101, 108, 115, 101] (Sx.nx F (Sx.stB L [116, 104, 101, 110] r1) (Sx.stP L [116, 104, 101, 110] r1))) (Sx.stP L [101, 108, 115, 101] (Sx.nx F (Sx.stB L [116, 104, 101, 110] r1) (Sx.stP L [116, 104, 101, 110] r1)))).2) := by rw [← HR1.out]; rfl
  rw [e]
  exact hEnd
end Go.Proofs.YtekahmlppaabjaaGreatDoor
