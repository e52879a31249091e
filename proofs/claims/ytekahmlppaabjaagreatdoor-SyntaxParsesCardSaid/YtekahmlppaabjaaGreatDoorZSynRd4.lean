/-
  Layer 14: the document's reader of tokens: read, the levels of two.
-/
import Derived.Test.YtekahmlppaabjaaGreatDoorZSynRd3
import Derived.Test.YtekahmlppaabjaaGreatDoorPk3
namespace Go.Proofs.YtekahmlppaabjaaGreatDoor
open Go.RowKit
open Sx (X toksOf isT)
theorem wp_value14 {P : Program} {o : Oper} {a : Act} {w : World} {K : Act → World → Prop} {Q : Exit → Act → World → Prop} (v : Value) (w' : World) (hrun : (execOp a.eval o).run P w = .ok (.value v) w') (h : K (a.put o.dst v) w') : Oper.wp P o a w K Q := by
  unfold Oper.wp
  rw [hrun]
  exact h
abbrev l2 (x y : X) (a ay : Option Addr) (c cy : Nat) : List Value := [.int .i64 x.op, .int .i64 x.v.kind, .int .i64 x.v.n, .string x.v.s, .string x.s, .slice a x.l.length c, .int .i64 y.op, .int .i64 y.v.kind, .int .i64 y.v.n, .string y.v.s, .string y.s, .slice ay y.l.length cy]
theorem two_new (x y : X) (a ay : Option Addr) (c cy : Nat) (w : World) : Below w.heap.size w (w.alloc (.cells (l2 x y a ay c cy).toArray 29)) ∧ RowV (w.alloc (.cells (l2 x y a ay c cy).toArray 29)) w.heap.size 29 (l2 x y a ay c cy) ∧ (w.alloc (.cells (l2 x y a ay c cy).toArray 29)).heap.size = w.heap.size + 1 :=
  ⟨(Below.refl w.heap.size w).alloc (Nat.le_refl _) _, rowV_new w _ _, World.size_alloc _ _⟩
mutual
theorem xat_lt {w : World} {S : Nat → Prop} : ∀ (x : X) (ad : Option Addr), XAt w S x ad → XAt w (fun j => S j ∧ j < w.heap.size) x ad
  | .mk _ _ _ [], ad, _ => by rw [XAt]; exact .inl rfl
  | .mk _ _ _ (y :: r), ad, h => by
    rw [XAt] at h ⊢
    rcases h with h | ⟨b, o, h1, h2, h3⟩
    · cases h
    · have hb : b < w.heap.size := by
        rw [LAt] at h3
        obtain ⟨⟨a, c, hc, _⟩, _⟩ := h3
        exact World.block_lt_of_cell? _ _ hc.1
      exact .inr ⟨b, o, h1, ⟨h2, hb⟩, lat_lt (y :: r) b o h3⟩
theorem lat_lt {w : World} {S : Nat → Prop} : ∀ (l : List X) (b o : Nat), LAt w S l b o → LAt w (fun j => S j ∧ j < w.heap.size) l b o
  | [], _, _, _ => by rw [LAt]; trivial
  | x :: r, b, o, h => by
    rw [LAt] at h ⊢
    obtain ⟨⟨a, c, h1, h2⟩, h3⟩ := h
    exact ⟨⟨a, c, h1, xat_lt x a h2⟩, lat_lt r b (o + 6) h3⟩
end
/-- the box that a loop turns, and what stands in it -/
def KBm (w wx : World) (M : Nat) (y : X) (a : Option Addr) (c : Nat) : Prop := RowV wx M 29 (xC y a c).toList ∧ XAt wx (fun j => w.heap.size < j ∧ j ≠ M) y a ∧ w.heap.size < M
theorem kbm_only {w wx wy : World} {R M : Nat} {y : X} {a : Option Addr} {c : Nat} (h : KBm w wx M y a c) (hR : R < w.heap.size) (ho : Only (fun k => k = R) wx wy) : KBm w wy M y a c :=
  ⟨rowV_only h.1 ho (by have := h.2.2; omega), xat_only ho (fun j hj e => by have hj2 := hj.1; omega) y a h.2.1, h.2.2⟩
theorem kbm_below {w wx wy : World} {M : Nat} {y : X} {a : Option Addr} {c : Nat} (h : KBm w wx M y a c) (hb : Below wx.heap.size wx wy) : KBm w wy M y a c :=
  ⟨rowV_below h.1 hb (rowV_lt h.1), xat_below h.2.1 hb, h.2.2⟩
theorem rd_two_end {w w7 : World} {R : Nat} {al : Option Addr} {cap : Nat} {L : List Lx.T} {q : Nat} {b : Bool} {M G : Nat} {x y : X} {a ay : Option Addr} {c cy : Nat} {o : Int} (K : KSt w w7 R al cap L q b) (B : KBm w w7 M x a c) (hy : XAt w7 (fun j => w.heap.size < j ∧ j ≠ M) y ay) (hrow : RowV w7 G 29 (l2 x y a ay c cy)) (hMG : M < G) :
    KSt w (w7.setRow M #[.int .i64 o, .int .i64 0, .int .i64 0, .string ⟨#[]⟩, .string ⟨#[]⟩, .slice (some ⟨G, 0, none⟩) 2 2]) R al cap L q b ∧ KBm w (w7.setRow M #[.int .i64 o, .int .i64 0, .int .i64 0, .string ⟨#[]⟩, .string ⟨#[]⟩, .slice (some ⟨G, 0, none⟩) 2 2]) M (Sx.bin o x y) (some ⟨G, 0, none⟩) 2 := by
  have ho : Only (fun k => k = M) w7 (w7.setRow M #[.int .i64 o, .int .i64 0, .int .i64 0, .string ⟨#[]⟩, .string ⟨#[]⟩, .slice (some ⟨G, 0, none⟩) 2 2]) := Only.setRow (F := fun k => k = M) (Only.refl _ _) (fun _ => rfl) _
  have hM := B.2.2
  have hR := K.2.2.2
  have hr2 : RowV (w7.setRow M #[.int .i64 o, .int .i64 0, .int .i64 0, .string ⟨#[]⟩, .string ⟨#[]⟩, .slice (some ⟨G, 0, none⟩) 2 2]) M 29 (xC (Sx.bin o x y) (some ⟨G, 0, none⟩) 2).toList := rowV_row B.1 (xC (Sx.bin o x y) (some ⟨G, 0, none⟩) 2).toList
  have hG := rowV_only hrow ho (show ¬ G = M by omega)
  have hx := xat_only ho (fun j hj e => hj.2 e) x a B.2.1
  have hy := xat_only ho (fun j hj e => hj.2 e) y ay hy
  generalize World.setRow _ _ _ = wz at *
  refine ⟨⟨rdr_put K.1 (by omega) ho, rowV_only K.2.1 ho (by omega), K.2.2.1.trans ho fun i hi e => absurd hi (by omega), hR⟩, hr2, ?_, hM⟩
  rw [XAt]
  refine .inr ⟨G, 0, rfl, ⟨by omega, by omega⟩, ?_⟩
  rw [LAt, LAt, LAt]
  exact ⟨⟨a, c, ⟨rowV_cell hG 0, rowV_cell hG 1, rowV_cell hG 2, rowV_cell hG 3, rowV_cell hG 4, rowV_cell hG 5⟩, hx⟩, ⟨ay, cy, ⟨rowV_cell hG 6, rowV_cell hG 7, rowV_cell hG 8, rowV_cell hG 9, rowV_cell hG 10, rowV_cell hG 11⟩, hy⟩, trivial⟩
def posOf (w : World) (R : Nat) : Nat := match w.cell? ⟨R, 1, none⟩ with | some (.int _ p) => p.toNat | _ => 0
theorem posOf_at {w : World} {R : Nat} {al : Option Addr} {cap : Nat} {L : List Lx.T} {p : Nat} {b : Bool} (h : Rdr w R al cap L p b) : posOf w R = p := by
  unfold posOf; rw [(rdr_cells h).2.1]; rfl
/-- the loop of a level -/
def LInv (w wr : World) (R : Nat) (al : Option Addr) (cap : Nat) (L : List Lx.T) (M lev f0 : Nat) (r : Option X × Nat) : Prop :=
  ∃ x a c q b, KSt w wr R al cap L q b ∧ KBm w wr M x a c ∧ q ≤ L.length ∧ (b = true → r = (none, q)) ∧ (b = false → ∃ f1, f1 ≤ f0 ∧ 10 * (L.length - q) + 1 ≤ f1 ∧ r = Sx.go (toksOf L) f1 lev x q)
theorem linv_ret {w wr wp : World} {R : Nat} {al : Option Addr} {cap : Nat} {L : List Lx.T} {M : Nat} {x : X} {a : Option Addr} {c : Nat} {r : Option X × Nat} {b : Bool} (K : KSt w wr R al cap L r.2 b) (B : KBm w wr M x a c) (hb : r.1.isNone = b) (hx : ∀ y, r.1 = some y → x = y) (ho : Only (fun k => k = w.heap.size) wr wp) : RdPost R al cap L r w (.returned (xV x a c)) wp := by
  have hR := K.2.2.2
  subst hb
  exact ⟨x, a, c, rfl, xat_mono (fun j hj => Nat.le_of_lt hj.1) x a (xat_only ho (fun j hj e => by have hj2 := hj.1; omega) x a B.2.1), hx, rdr_put K.1 hR ho, K.2.2.1.trans ho fun i hi e => absurd hi (by omega)⟩
set_option maxRecDepth 100000 in
set_option maxHeartbeats 25600000 in
theorem rread14_mid {w : World} {R : Nat} {al : Option Addr} {cap : Nat} {L : List Lx.T} {p : Nat} (lev f0 : Nat) (r : Option X × Nat) (h1 : 1 ≤ lev) (h5 : lev ≤ 5) (h : Rdr w R al cap L p false) (hp : p ≤ L.length) (hL : L.length ≤ 1000000000) (hf : 10 * (L.length - p) + (7 - lev) ≤ f0)
    (hr0 : ∀ q, Sx.rd (toksOf L) f0 (lev + 1) p = (none, q) → r = (none, q)) (hr1 : ∀ x q, Sx.rd (toksOf L) f0 (lev + 1) p = (some x, q) → r = Sx.go (toksOf L) f0 lev x q)
    (hO : ∀ f q, q ≤ L.length → q ≤ (Sx.rd (toksOf L) f (lev + 1) q).2 ∧ (Sx.rd (toksOf L) f (lev + 1) q).2 ≤ L.length ∧ ∀ x, (Sx.rd (toksOf L) f (lev + 1) q).1 = some x → q < (Sx.rd (toksOf L) f (lev + 1) q).2)
    (H1 : ∀ f q w', f ≤ f0 → q ≤ L.length → 10 * (L.length - q) + (7 - lev) ≤ f → Rdr w' R al cap L q false → Calls Tryz.prog 21 #[.pointer (some ⟨R, 0, none⟩), .int .i64 (((lev : Nat) : Int) + 1)] w' (RdPost R al cap L (Sx.rd (toksOf L) f (lev + 1) q) w')) :
    Calls Tryz.prog 21 #[.pointer (some ⟨R, 0, none⟩), .int .i64 ((lev : Nat) : Int)] w (RdPost R al cap L r w) := by
  have hA := no_new w
  have HR := Lib.hid (show KSt w _ R al cap L p false from ⟨rdr_below h hA.2.1, hA.1, Only.of_none hA.2.1, rowV_lt h.1⟩)
  obtain ⟨c0, c1, c2, c3, c4⟩ := rdr_cells HR.out.1
  have HH := Lib.hid H1
  have HO := Lib.hid hO
  have HR0 := Lib.hid (And.intro hr0 hr1)
  have q7 : (((lev : Nat) : Int) == 7) = false := by simp; omega
  have q0 : (((lev : Nat) : Int) == 0) = false := by simp; omega
  have q6 : (((lev : Nat) : Int) == 6) = false := by simp; omega
  have hwl : IntKind.i64.wrap (((lev : Nat) : Int) + 1) = ((lev : Nat) : Int) + 1 := IntWalk.i64_in _ (by omega)
  have hne : ¬ R = w.heap.size := by have := HR.out.2.2.2; omega
  clear h H1 hA hO hr0 hr1
  go_enter Tryz.func21, Tryz.ntmps21
  go_wp2_with fail
  refine (HH.out f0 p _ (Nat.le_refl _) hp hf HR.out.1).mono ?_
  rintro e w6 ⟨y, ay, cy, rfl, hx, hm, hR6, ho6⟩
  obtain ⟨hb1, hbel⟩ := kbx_new HR.out ho6 hx cy
  have hlt := xat_lt y ay hx
  have HI0 : Hid (LInv w (w6.alloc (.cells (xC y ay cy) 29)) R al cap L w6.heap.size lev f0 r) := Lib.hid (by
    have hK := kst_below (kst_only HR.out ho6 hR6) hbel
    have h3 := HO.out f0 p hp
    have hl := rowV_lt HR.out.2.1
    refine ⟨y, ay, cy, _, _, hK, ⟨hb1.1, xat_below (xat_mono (fun j hj => ?_) y ay hlt) hbel, hb1.2.2⟩, h3.2.1, fun hb => ?_, fun hb => ?_⟩
    · have hj1 := hj.1
      have hj2 := hj.2
      omega
    · generalize hrd : Sx.rd (toksOf L) f0 (lev + 1) p = rr at *
      obtain ⟨ro, q⟩ := rr
      cases ro with
      | none => exact HR0.out.1 q rfl
      | some x => cases hb
    · generalize hrd : Sx.rd (toksOf L) f0 (lev + 1) p = rr at *
      obtain ⟨ro, q⟩ := rr
      cases ro with
      | none => cases hb
      | some x =>
        have h4 := h3.2.2 x rfl
        have h6 := h3.2.1
        simp only at h4 h6
        refine ⟨f0, Nat.le_refl _, by show 10 * (L.length - q) + 1 ≤ f0; omega, ?_⟩
        rw [hm x rfl]; exact HR0.out.2 x q rfl)
  clear hb1 hbel hlt hx hm hR6 ho6 c0 c1 c2 c3 c4
  go_wp2_with fail
  generalize hwa : World.alloc _ _ = wa at *
  generalize hMM : w6.heap.size = M at *
  clear hwa hMM
  go_loopw [9] (fun i wr => Hid (LInv w wr R al cap L M lev f0 r)) (fun i wr => L.length - posOf wr R)
  case atStart => exact HI0
  case round =>
    obtain ⟨x, a, c, q, b, hK, hB, hq, hb0, hb1⟩ := hrel.out
    have K8 := Lib.hid hK
    have B8 := Lib.hid hB
    have HB := Lib.hid (And.intro hb0 hb1)
    obtain ⟨c0, c1, c2, c3, c4⟩ := rdr_cells K8.out.1
    have hNM : ¬ w.heap.size = M := by have := B8.out.2.2; omega
    have hRM : ¬ R = M := by have := B8.out.2.2; have := K8.out.2.2.2; omega
    obtain ⟨m0, m1, m2, m3, m4, m5⟩ := x_cells B8.out.1
    simp only [Nat.zero_add] at m0 m1 m2 m3 m4 m5
    obtain ⟨e0, e1, e2, e3, e4, e5⟩ := x_cells K8.out.2.1
    simp only [Nat.zero_add] at e0 e1 e2 e3 e4 e5
    obtain ⟨f0', f1', f2', f3', f4', f5'⟩ := x_ice K8.out.2.1
    clear hK hB hb0 hb1 hrel
    cases b with
    | true =>
      have hE := x_put K8.out.2.1 x.op x.v.kind x.v.n x.v.s x.s a x.l.length c
      have HE := Lib.hid hE
      clear hE
      go_wp2_with fail
      refine bodyPost_ret (v := xV x a c) (results_x (p := 4) rfl _ _ w.heap.size x a c rfl HE.out.1) rfl ?_
      have er := HB.out.1 (by first | rfl | trivial)
      subst er
      exact linv_ret (r := (none, q)) K8.out B8.out rfl (fun y h => by cases h) (HE.out.2 (fun k => k = w.heap.size) rfl)
    | false =>
      have HOP := Lib.hid (rop14_any K8.out.1 lev)
      cases ho : Sx.opAt (toksOf L q) lev with
      | none =>
        rw [ho] at HOP
        have HOP : Hid (Calls Tryz.prog 48 #[.pointer (some ⟨R, 0, none⟩), .int .i64 ((lev : Nat) : Int)] wr fun e w' => e = .returned (.int .i64 0) ∧ Below wr.heap.size wr w') := HOP
        have HOO := Lib.hid ho
        clear ho
        go_wp2_with fail
        refine HOP.out.mono ?_
        rintro e w9 ⟨rfl, hb9⟩
        have K9 := Lib.hid (kst_below K8.out hb9)
        have B9 := Lib.hid (kbm_below B8.out hb9)
        clear hb9 m0 m1 m2 m3 m4 m5 e0 e1 e2 e3 e4 e5 f0' f1' f2' f3' f4' f5' c0 c1 c2 c3 c4
        obtain ⟨m0, m1, m2, m3, m4, m5⟩ := x_cells B9.out.1
        simp only [Nat.zero_add] at m0 m1 m2 m3 m4 m5
        obtain ⟨e0, e1, e2, e3, e4, e5⟩ := x_cells K9.out.2.1
        simp only [Nat.zero_add] at e0 e1 e2 e3 e4 e5
        obtain ⟨f0', f1', f2', f3', f4', f5'⟩ := x_ice K9.out.2.1
        have HE := Lib.hid (x_put K9.out.2.1 x.op x.v.kind x.v.n x.v.s x.s a x.l.length c)
        go_wp2_with fail
        refine bodyPost_ret (v := xV x a c) (results_x (p := 4) rfl _ _ w.heap.size x a c rfl HE.out.1) rfl ?_
        obtain ⟨f1, hf1, hf2, er⟩ := HB.out.2 (by first | rfl | trivial)
        rw [Sx.go_end (by omega) HOO.out] at er
        subst er
        exact linv_ret (r := (some x, q)) K9.out B9.out rfl (fun y h => by cases h; rfl) (HE.out.2 (fun k => k = w.heap.size) rfl)
      | some o =>
        have hop := Sx.opAt_range ho
        obtain ⟨h4, h15, hsome, hlv⟩ := hop
        rw [ho] at HOP
        have HOP : Hid (Calls Tryz.prog 48 #[.pointer (some ⟨R, 0, none⟩), .int .i64 ((lev : Nat) : Int)] wr fun e w' => e = .returned (.int .i64 o) ∧ Below wr.heap.size wr w') := HOP
        have hqn : q < L.length := by
          rcases Nat.lt_or_ge q L.length with hh | hh
          · exact hh
          · rw [toksOf_no hh] at hsome; cases hsome
        obtain ⟨f1, hf1, hf2, er⟩ := HB.out.2 (by first | rfl | trivial)
        obtain ⟨f2, rfl⟩ : ∃ f2, f1 = f2 + 1 := ⟨f1 - 1, by omega⟩
        rw [Sx.go, ho] at er
        have HRD := Lib.hid fun (wx : World) (hx : Rdr wx R al cap L (q + 1) false) => HH.out f2 (q + 1) wx (by omega) (by omega) (by omega) hx
        have hoq := HO.out f2 (q + 1) (by omega)
        generalize hrr : Sx.rd (toksOf L) f2 (lev + 1) (q + 1) = rr at *
        have HER := Lib.hid er
        have t0 : (o == 0) = false := by simp; omega
        have hw1 : IntKind.i64.wrap ((q : Int) + 1) = (q : Int) + 1 := IntWalk.i64_in _ (by omega)
        clear ho er hrr hlv hsome
        go_wp2_with fail
        refine HOP.out.mono ?_
        rintro e w9 ⟨rfl, hb9⟩
        have K0 := Lib.hid (kst_below K8.out hb9)
        have B0 := Lib.hid (kbm_below B8.out hb9)
        clear hb9 m0 m1 m2 m3 m4 m5 e0 e1 e2 e3 e4 e5 f0' f1' f2' f3' f4' f5' c0 c1 c2 c3 c4
        obtain ⟨c0, c1, c2, c3, c4⟩ := rdr_cells K0.out.1
        go_wp2_with fail
        have Kq := kst_only K0.out (rdr_at K0.out.1 (q + 1)).2 (rdr_at K0.out.1 (q + 1)).1
        have Bq := kbm_only B0.out K0.out.2.2.2 (rdr_at K0.out.1 (q + 1)).2
        change KSt w (w9.setCell ⟨R, 1, none⟩ (.int .i64 ((q : Int) + 1))) R al cap L (q + 1) false at Kq
        change KBm w (w9.setCell ⟨R, 1, none⟩ (.int .i64 ((q : Int) + 1))) M x a c at Bq
        generalize hW9 : World.setCell _ _ _ = W9 at *
        have K9 := Lib.hid (kst_below Kq ((Below.refl W9.heap.size W9).drew))
        have B9 := Lib.hid (kbm_below Bq ((Below.refl W9.heap.size W9).drew))
        obtain ⟨m0, m1, m2, m3, m4, m5⟩ := x_cells Bq.1
        simp only [Nat.zero_add] at m0 m1 m2 m3 m4 m5
        clear hW9 Kq Bq K0 B0 c0 c1 c2 c3 c4
        refine wp_region_plan (S := fun wx => wx.cell? ⟨M, 0, none⟩ = some (.int .i64 x.op) ∧ wx.cell? ⟨M, 1, none⟩ = some (.int .i64 x.v.kind) ∧ wx.cell? ⟨M, 2, none⟩ = some (.int .i64 x.v.n) ∧ wx.cell? ⟨M, 3, none⟩ = some (.string x.v.s) ∧ wx.cell? ⟨M, 4, none⟩ = some (.string x.s) ∧ wx.cell? ⟨M, 5, none⟩ = some (.slice a x.l.length c)) 8 [(true, 0), (true, 1), (true, 2), (true, 3), (true, 4), (false, 5), (false, 6), (true, 7)] (by kernel_rfl) (fun _ d _ _ _ h => by cases d <;> exact h) (by kernel_rfl) ⟨m0, m1, m2, m3, m4, m5⟩ ?_
        refine wpPlan_step (i := 0) rfl ⟨(.int .i64 o), ⟨by rfl, fun wx hSx => ?_⟩, ?_⟩
        · obtain ⟨z0, z1, z2, z3, z4, z5⟩ := hSx
          go_simp
        simp only [Act.put, List.setIfInBounds_toArray, List.set_cons_zero, List.set_cons_succ]
        refine wpPlan_step (i := 1) rfl ⟨(xV x a c), ⟨by rfl, fun wx hSx => ?_⟩, ?_⟩
        · obtain ⟨z0, z1, z2, z3, z4, z5⟩ := hSx
          go_simp
        simp only [Act.put, List.setIfInBounds_toArray, List.set_cons_zero, List.set_cons_succ]
        refine wpPlan_step (i := 2) rfl ⟨(.pointer (some ⟨R, 0, none⟩)), ⟨by rfl, fun wx hSx => ?_⟩, ?_⟩
        · obtain ⟨z0, z1, z2, z3, z4, z5⟩ := hSx
          go_simp
        simp only [Act.put, List.setIfInBounds_toArray, List.set_cons_zero, List.set_cons_succ]
        refine wpPlan_step (i := 3) rfl ⟨(.int .i64 ((lev : Nat) : Int)), ⟨by rfl, fun wx hSx => ?_⟩, ?_⟩
        · obtain ⟨z0, z1, z2, z3, z4, z5⟩ := hSx
          go_simp
        simp only [Act.put, List.setIfInBounds_toArray, List.set_cons_zero, List.set_cons_succ]
        refine wpPlan_step (i := 4) rfl ⟨(.int .i64 (((lev : Nat) : Int) + 1)), ⟨by rfl, fun wx hSx => ?_⟩, ?_⟩
        · obtain ⟨z0, z1, z2, z3, z4, z5⟩ := hSx
          go_simp
        simp only [Act.put, List.setIfInBounds_toArray, List.set_cons_zero, List.set_cons_succ]
        refine wpPlan_call (i := 5) rfl (by rfl) 21 #[.pointer (some ⟨R, 0, none⟩), .int .i64 (((lev : Nat) : Int) + 1)] (by go_simp) (HRD.out _ (K9.out.1)) ?_
        rintro e w6 ⟨y, ay, cy, rfl, hy, hmy, hR6, ho6⟩
        have K6 := Lib.hid (kst_only K9.out ho6 hR6)
        have B6 := Lib.hid (kbm_only B9.out K9.out.2.2.2 ho6)
        have hS6 := x_cells B6.out.1
        refine .inl ⟨_, rfl, (by unfold Cells6 at hS6; simpa only [Nat.zero_add] using hS6), ?_⟩
        have HY := Lib.hid (show XAt w6 (fun j => w.heap.size < j ∧ j ≠ M) y ay from xat_mono (fun j hj => by have hj2 : W9.drew.heap.size ≤ j := hj; have := rowV_lt K9.out.2.1; have := rowV_lt B9.out.1; omega) y ay hy)
        have HM := Lib.hid hmy
        clear hy hmy hR6 ho6 hS6
        simp only [Act.put, List.setIfInBounds_toArray, List.set_cons_zero, List.set_cons_succ]
        obtain ⟨bA, hrow, hszA⟩ := two_new x y a ay c cy w6
        have K7 := Lib.hid (kst_below K6.out bA)
        have B7 := Lib.hid (kbm_below B6.out bA)
        have hS7 := x_cells B7.out.1
        unfold Cells6 at hS7
        simp only [Nat.zero_add] at hS7
        refine wpPlan_keep (i := 6) rfl (by rfl) fun K hK => wp_value14 (.slice (some ⟨w6.heap.size, 0, none⟩) 2 2) (w6.alloc (.cells (l2 x y a ay c cy).toArray 29)) (by go_simp) (hK _ _ hS7 ?_)
        simp only [Act.put, List.setIfInBounds_toArray, List.set_cons_zero, List.set_cons_succ]
        refine wpPlan_step (i := 7) rfl ⟨(.agg #[.int .i64 o, .int .i64 0, .int .i64 0, .string ⟨#[]⟩, .string ⟨#[]⟩, .slice (some ⟨w6.heap.size, 0, none⟩) 2 2]), ⟨by rfl, fun wx hSx => ?_⟩, ?_⟩
        · obtain ⟨z0, z1, z2, z3, z4, z5⟩ := hSx
          go_simp
        simp only [Act.put, List.setIfInBounds_toArray, List.set_cons_zero, List.set_cons_succ]
        show wpList _ _ _ _ _ (w6.alloc (.cells (l2 x y a ay c cy).toArray 29))
        simp only [List.drop_succ_cons, List.drop_zero]
        refine wpList_store_row rfl 29 (.tmp 8) (.tmp 108) rfl M #[.int .i64 o, .int .i64 0, .int .i64 0, .string ⟨#[]⟩, .string ⟨#[]⟩, .slice (some ⟨w6.heap.size, 0, none⟩) 2 2] rfl rfl 29 _ B7.out.1 info_expr rfl (by simp [Value.oneCell']) ?_
        obtain ⟨Kz, Bz⟩ := rd_two_end (o := o) K7.out B7.out (xat_below HY.out bA) hrow (rowV_lt B6.out.1)
        have KZ := Lib.hid Kz
        have BZ := Lib.hid Bz
        clear Kz Bz hS7 bA hrow hszA
        generalize hwz : World.setRow _ _ _ = wz at *
        have hposz := posOf_at KZ.out.1
        have hposr := posOf_at K8.out.1
        have HPZ := Lib.hid (And.intro hposz hposr)
        clear hposz hposr
        obtain ⟨m0, m1, m2, m3, m4, m5⟩ := x_cells BZ.out.1
        simp only [Nat.zero_add] at m0 m1 m2 m3 m4 m5
        obtain ⟨e0, e1, e2, e3, e4, e5⟩ := x_cells KZ.out.2.1
        simp only [Nat.zero_add] at e0 e1 e2 e3 e4 e5
        obtain ⟨f0', f1', f2', f3', f4', f5'⟩ := x_ice KZ.out.2.1
        have HE := Lib.hid (x_put KZ.out.2.1 o 0 0 ⟨#[]⟩ ⟨#[]⟩ (some ⟨w6.heap.size, 0, none⟩) 2 2)
        simp only [Sx.op_mk, Sx.v_mk, Sx.s_mk, Sx.l_mk, List.length_cons, List.length_nil, Nat.zero_add, Nat.reduceAdd] at m0 m1 m2 m3 m4 m5
        by_cases h3 : lev = 3
        · have q3 : (((lev : Nat) : Int) == 3) = true := by rw [h3]; rfl
          have H3 := Lib.hid h3
          clear h3
          go_wp2_with fail
          refine bodyPost_ret (v := xV (Sx.bin o x y) (some ⟨w6.heap.size, 0, none⟩) 2) (results_x (p := 4) rfl _ _ w.heap.size (Sx.bin o x y) (some ⟨w6.heap.size, 0, none⟩) 2 rfl HE.out.1) rfl ?_
          have er := HER.out
          obtain ⟨ro, q'⟩ := rr
          cases ro with
          | none =>
            simp only at er
            subst er
            exact linv_ret (r := (none, q')) KZ.out BZ.out rfl (fun y h => by cases h) (HE.out.2 (fun k => k = w.heap.size) rfl)
          | some y0 =>
            simp only [if_pos H3.out] at er
            subst er
            exact linv_ret (r := (some (Sx.bin o x y0), q')) KZ.out BZ.out rfl (fun y h => by cases h; rw [HM.out y0 rfl]) (HE.out.2 (fun k => k = w.heap.size) rfl)
        · have q3 : (((lev : Nat) : Int) == 3) = false := by simp; omega
          have H3 := Lib.hid h3
          clear h3
          go_wp2_with fail
          go_roundw
          case rel =>
            refine Lib.hid ⟨Sx.bin o x y, _, _, rr.2, rr.1.isNone, KZ.out, BZ.out, hoq.2.1, fun hb => ?_, fun hb => ?_⟩
            · have er := HER.out
              obtain ⟨ro, q'⟩ := rr
              cases ro with
              | none => exact er
              | some y0 => cases hb
            · have er := HER.out
              obtain ⟨ro, q'⟩ := rr
              cases ro with
              | none => cases hb
              | some y0 =>
                simp only [if_neg H3.out] at er
                have hq' := hoq.2.2 y0 rfl
                have hq'' := hoq.2.1
                simp only at hq' hq''
                refine ⟨f2, by omega, by show 10 * (L.length - q') + 1 ≤ f2; omega, ?_⟩
                rw [HM.out y0 rfl]; exact er
          case measure =>
            rw [HPZ.out.1, HPZ.out.2]
            have := hoq.1
            have := hoq.2.1
            omega
end Go.Proofs.YtekahmlppaabjaaGreatDoor
