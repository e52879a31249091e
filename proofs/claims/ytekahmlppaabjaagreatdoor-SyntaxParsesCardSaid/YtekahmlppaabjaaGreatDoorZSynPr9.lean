/-
  Layer 14, the program's: an expression is read, with a list of what waits.
-/
import Derived.Test.YtekahmlppaabjaaGreatDoorZSynPr8
import Derived.Test.YtekahmlppaabjaaGreatDoorPk5
import Derived.Deep.LoopGhost
namespace Go.Proofs.YtekahmlppaabjaaGreatDoor
open Go.RowKit
open Sx (X toksOf isT)
/-- the reader while it reads -/
def Mst (w0 w : World) (R B : Nat) (al : Option Addr) (cap : Nat) (L : List Lx.T) (p lev : Nat) (ws : List Wb) (y : X) (ay : Option Addr) (cy h : Nat) : Prop :=
  ∃ S wa wc, RdP w R B S al cap L p lev wa wc ws y ay cy h ∧ Glob w R ∧ Only (fun k => k = R ∨ B ≤ k) w0 w ∧ p ≤ L.length ∧ ws.length ≤ p ∧ lev ≤ 7 ∧ ∀ b ∈ ws, b.l.length ≤ 2
theorem mst_step {w0 w w' : World} {R B : Nat} {al : Option Addr} {cap : Nat} {L : List Lx.T} {p lev p' lev' : Nat} {ws ws' : List Wb} {y y' : X} {ay ay' : Option Addr} {cy h cy' h' : Nat} (M : Mst w0 w R B al cap L p lev ws y ay cy h) {S' : Nat → Prop} {wa' : Option Addr} {wc' : Nat} (H : RdP w' R B S' al cap L p' lev' wa' wc' ws' y' ay' cy' h') (ho : Only (fun k => k = R ∨ B ≤ k) w w')
    (hp : p' ≤ L.length) (hw : ws'.length ≤ p') (hl : lev' ≤ 7) (hb : ∀ b ∈ ws', b.l.length ≤ 2) : Mst w0 w' R B al cap L p' lev' ws' y' ay' cy' h' := by
  obtain ⟨S, wa, wc, h1, h2, h3, -⟩ := M
  exact ⟨S', wa', wc', H, glob_only h2 ho (fun k hk e => by have := h1.lt; rcases e with e | e <;> omega), h3.more ho, hp, hw, hl, hb⟩
theorem mst_below {w0 w w' : World} {R B : Nat} {al : Option Addr} {cap : Nat} {L : List Lx.T} {p lev : Nat} {ws : List Wb} {y : X} {ay : Option Addr} {cy h : Nat} (M : Mst w0 w R B al cap L p lev ws y ay cy h) (hb : Below w.heap.size w w') : Mst w0 w' R B al cap L p lev ws y ay cy h := by
  obtain ⟨S, wa, wc, h1, h2, h3, h4⟩ := M
  exact ⟨S, wa, wc, rdP_below h1 hb, glob_below h2 hb, h3.more (Only.of_none hb), h4⟩
def FrR (R : Nat) (a : Act) : Prop := ∃ u1 u2 u3 u4 u5 u6 u7 u8 u9 u10 u11 u12 u13 u14 u15 u16 u17 u18 u19 u20 u21 u22 u23 u24 u25 u26 u27 u28 u29 u30 u31 u32 u33 u34 u35 u36 u37 u38 u39 u40 u41 u42 u43 u44 : Value, a = { tmps := #[.pointer (some ⟨R, 0, none⟩), u1, u2, u3, u4, u5, u6, u7, u8, u9, u10, u11, u12, u13, u14, u15, u16, u17, u18, u19, u20, u21, u22, u23, u24, u25, u26, u27, u28, u29, u30, u31, u32, u33, u34, u35, u36, u37, u38, u39, u40, u41, u42, u43, u44], defers := [] }
/-- a part is to be read -/
def JA (w0 : World) (R B : Nat) (al : Option Addr) (cap : Nat) (L : List Lx.T) (rr : Sx.Res) (n : Nat) (a : Act) (w : World) : Prop := FrR R a ∧ ∃ p lev ws y ay cy h, Mst w0 w R B al cap L p lev ws y ay cy h ∧ Sx.Pt (toksOf L) n p lev (ws.map toB) rr
/-- a part was read -/
def JB (w0 : World) (R B : Nat) (al : Option Addr) (cap : Nat) (L : List Lx.T) (rr : Sx.Res) (n : Nat) (a : Act) (w : World) : Prop := FrR R a ∧ ∃ p lev ws y ay cy h, Mst w0 w R B al cap L p lev ws y ay cy h ∧ Sx.Bh (toksOf L) n p lev (ws.map toB) y h rr
/-- what the reader answers -/
def RdEnd (w0 : World) (R B : Nat) (al : Option Addr) (cap : Nat) (L : List Lx.T) (rr : Sx.Res) (e : Ending) (w : World) : Prop := e = .returned (.bool rr.1.isSome) ∧ ∃ lev ws y ay cy h, Mst w0 w R B al cap L rr.2 lev ws y ay cy h ∧ ∀ x, rr.1 = some x → y = x
theorem toks_lt {L : List Lx.T} {p : Nat} (h : (toksOf L p).isSome = true) : p < L.length := by
  rcases Nat.lt_or_ge p L.length with hh | hh
  · exact hh
  · rw [toksOf_no hh] at h; cases h
theorem leafO_lt {L : List Lx.T} {p : Nat} {x : X} (h : Sx.leafO (toksOf L p) = some x) : p < L.length := by
  refine toks_lt ?_
  cases hh : toksOf L p with
  | none => rw [hh] at h; cases h
  | some t => rfl
theorem opOf_lt {L : List Lx.T} {p : Nat} {op : Int} (h : Sx.opOf (toksOf L p) = some op) : p < L.length := toks_lt (Sx.isT_some (Sx.opOf_some h).2)
theorem map_snoc {ws : List Wb} {V : List Sx.B} {b : Sx.B} (h : ws.map toB = V ++ [b]) : ∃ V' b', ws = V' ++ [b'] ∧ V'.map toB = V ∧ toB b' = b := by
  obtain ⟨V', r, rfl, h1, h2⟩ := List.map_eq_append_iff.1 h
  obtain ⟨b', r', rfl, h3, h4⟩ := List.map_eq_cons_iff.1 h2
  obtain rfl := List.map_eq_nil_iff.1 h4
  exact ⟨V', b', rfl, h1, h3⟩
theorem cnt_of {b : Sx.B} (h : b.op = 0 ∨ b.op = 3 ∨ b.op = 16 ∨ (4 ≤ b.op ∧ b.op ≤ 15)) (h0 : b.op ≠ 0) : Sx.count b.op = cntP b.op := by
  obtain ⟨op, l, v⟩ := b
  simp only at h h0 ⊢
  unfold Sx.count cntP
  rcases h with h | h | h | h
  · exact absurd h h0
  · subst h; rfl
  · subst h; rfl
  · rw [if_neg (by omega), if_neg (by omega), if_neg (by omega), if_pos h, if_neg (by omega), if_pos h]
theorem cnt_le (op : Int) : cntP op ≤ 3 := by unfold cntP; (repeat' split) <;> omega
theorem exit_then {P : Program} {c : Code} {a : Act} {w : World} {Q Q' : Exit → Act → World → Prop} (h : c.wp P Q' a w) (hq : ∀ e a w, Q' e a w → Q e a w) : c.wp P Q a w := Code.wp_mono hq h
theorem ask_kind {b : Sx.B} {k : Int} {s : List UInt8} (h : Sx.askW b = some (k, s)) : ((k = 1 ∧ Lx.word false s = s.length ∧ s ≠ []) ∨ (k = 4 ∧ s ∈ Lx.marks)) ∧ 0 < (Lx.mk s).size := by
  unfold Sx.askW at h
  split at h
  · cases h; exact ⟨.inr ⟨rfl, by decide⟩, by decide⟩
  · split at h
    · cases h; exact ⟨.inl ⟨rfl, by decide, by decide⟩, by decide⟩
    · split at h
      · cases h; exact ⟨.inl ⟨rfl, by decide, by decide⟩, by decide⟩
      · cases h
theorem rdP_at {w : World} {R B : Nat} {S : Nat → Prop} {al : Option Addr} {cap : Nat} {L : List Lx.T} {p lev : Nat} {wa : Option Addr} {wc : Nat} {ws : List Wb} {y : X} {ay : Option Addr} {cy h : Nat} (H : RdP w R B S al cap L p lev wa wc ws y ay cy h) : RdP (w.setCell ⟨R, 1, none⟩ (.int .i64 ((p : Int) + 1))) R B S al cap L (p + 1) lev wa wc ws y ay cy h ∧ Only (fun k => k = R) w (w.setCell ⟨R, 1, none⟩ (.int .i64 ((p : Int) + 1))) := by
  have ho : Only (fun k => k = R) w (w.setCell ⟨R, 1, none⟩ (.int .i64 ((p : Int) + 1))) := Only.setCell (F := fun k => k = R) (Only.refl _ _) (fun _ => rfl) _
  exact ⟨rdP_own H ho (rowV_stored H.row 1 (.int .i64 ((p : Int) + 1))) H.part, ho⟩
set_option maxRecDepth 100000 in
set_option maxHeartbeats 25600000 in
theorem read14_any {w : World} {R B : Nat} {S : Nat → Prop} {al : Option Addr} {cap : Nat} {L : List Lx.T} {p lev : Nat} {y : X} {ay : Option Addr} {cy h : Nat} (H : RdP w R B S al cap L p lev none 0 [] y ay cy h) (hG : Glob w R) (hp : p ≤ L.length) (hl : lev ≤ 7) (hL : L.length ≤ 1000000) (hr : ∀ t ∈ L, Lx.right t ∧ t.n ≤ Lx.maxI) (hs : ∀ t ∈ L, t.s.size ≤ 1000000) :
    Calls Tryz.prog 18 #[.pointer (some ⟨R, 0, none⟩)] w (RdEnd w R B al cap L (Sx.readE L lev p)) := by
  obtain ⟨m0, hPt⟩ := Sx.pt_read (L := L) hr hl hp
  generalize Sx.readE L lev p = rr at *
  have hM : Mst w w R B al cap L p lev [] y ay cy h := ⟨S, none, 0, H, hG, Only.refl _ _, hp, Nat.zero_le _, hl, fun b hb => by cases hb⟩
  have hr1 : ∀ t ∈ L, Lx.right t := fun t ht => (hr t ht).1
  have HM := Lib.hid (And.intro hM hPt)
  have HL := Lib.hid (And.intro hr1 hs)
  clear H hG hPt hM hr hr1 hs
  go_enter Tryz.func18, Tryz.ntmps18
  go_wp2_with fail
  refine wp_scope_two (JA w R B al cap L rr) (JB w R B al cap L rr) (by rfl) ?pass1 ?pass0 m0 ⟨⟨_, _, _, _, _, _, _, _, _, _, _, _, _, _, _, _, _, _, _, _, _, _, _, _, _, _, _, _, _, _, _, _, _, _, _, _, _, _, _, _, _, _, _, _, rfl⟩, p, lev, [], y, ay, cy, h, HM.out.1, HM.out.2⟩
  case pass1 =>
    rintro n0 a wr ⟨⟨u1, u2, u3, u4, u5, u6, u7, u8, u9, u10, u11, u12, u13, u14, u15, u16, u17, u18, u19, u20, u21, u22, u23, u24, u25, u26, u27, u28, u29, u30, u31, u32, u33, u34, u35, u36, u37, u38, u39, u40, u41, u42, u43, u44, rfl⟩, p, lev, ws, y, ay, cy, h, hM, hBh⟩
    clear HM
    have hM2 := hM
    obtain ⟨S, wa, wc, hR, hG, hO, hp, hn, hl, hb⟩ := hM2
    generalize hW : ws.map toB = W at hBh
    cases hBh with
    | @two n1 _ _ _ _ _ _ op ho h1 h2 hP =>
      have cB := between14_yes hR hG hp hL hn HL.out.1 hl ho h1 h2
      have hlt := opOf_lt ho
      have hlv := (Sx.lvl_two (Sx.opOf_some ho).1).2.1
      have HX := Lib.hid (And.intro cB (And.intro hM (And.intro hW (And.intro hP hb))))
      clear cB hM hW hP ho h1 h2 hR hG hO hb
      dsimp only
      go_wp2_with fail
      refine HX.out.1.mono ?_
      rintro e w2 ⟨g, rfl, wa', wc', H2, ho2⟩
      have M2 := mst_step HX.out.2.1 H2 ho2 (by omega) (by rw [List.length_append]; simp; omega) (by omega) (fun b hm => by
        rw [List.mem_append, List.mem_singleton] at hm
        rcases hm with hm | rfl
        · exact HX.out.2.2.2.2 b hm
        · simp)
      have HF := Lib.hid M2
      clear H2 ho2 M2
      go_wp2_with fail
      go_step3
      exact ⟨n1, Nat.lt_succ_self _, .inl ⟨rfl, ⟨_, _, _, _, _, _, _, _, _, _, _, _, _, _, _, _, _, _, _, _, _, _, _, _, _, _, _, _, _, _, _, _, _, _, _, _, _, _, _, _, _, _, _, _, rfl⟩, _, _, _, _, _, _, _, HF.out, by rw [List.map_append, HX.out.2.2.1]; exact HX.out.2.2.2.1⟩⟩
    | stop hno =>
      obtain rfl : ws = [] := List.map_eq_nil_iff.1 hW
      have cB := between14_no hR hG hp HL.out.1 hno
      have HX := Lib.hid (And.intro cB (And.intro hM hR))
      clear cB hM hR hG hO hb hno hW
      dsimp only
      go_wp2_with fail
      refine HX.out.1.mono ?_
      rintro e w2 ⟨rfl, hb2⟩
      obtain ⟨-, -, -, c3, -⟩ := rdP_cells (rdP_below HX.out.2.2 hb2)
      dsimp only [List.length_nil] at c3
      have HF := Lib.hid (mst_below HX.out.2.1 hb2)
      clear hb2
      go_wp2_with fail
      go_ret
      exact ⟨rfl, _, _, _, _, _, _, HF.out, fun x hx => by cases hx; rfl⟩
    | @miss _ _ _ V b _ _ k s hno ha hi =>
      obtain ⟨V', b', rfl, hV', hb'⟩ := map_snoc hW
      subst hb'
      subst hV'
      have cB := between14_no hR hG hp HL.out.1 hno
      obtain ⟨bop, blev, ba, bc, bl⟩ := b'
      have hlv : blev ≤ 7 := (hR.oks ⟨bop, blev, ba, bc, bl⟩ (by simp)).2.2.2.2.2
      have hopw : bop = 0 ∨ bop = 3 ∨ bop = 16 ∨ (4 ≤ bop ∧ bop ≤ 15) := (hR.oks ⟨bop, blev, ba, bc, bl⟩ (by simp)).2.2.2.1
      have hbl2 : bl.length ≤ 2 := hb ⟨bop, blev, ba, bc, bl⟩ (by simp)
      have hbV : ∀ b ∈ V', b.l.length ≤ 2 := fun b hm => hb b (List.mem_append_left _ hm)
      have hnV : V'.length + 1 ≤ p := by have := hn; simp at this; omega
      have hak : askS ⟨bop, bl.map (·.1), blev⟩ = Lx.mk s := by unfold askS; rw [show (⟨bop, bl.map (·.1), blev⟩ : Sx.B) = toB ⟨bop, blev, ba, bc, bl⟩ from rfl, ha]
      have hks := ask_kind ha
      clear ha
      have HK := Lib.hid (And.intro hM (And.intro hR (And.intro hG (And.intro cB (And.intro hbV (And.intro hopw (And.intro hi hks)))))))
      clear hM hR hG cB hbV hopw hno hb hn hO hW
      dsimp only
      go_wp2_with fail
      refine HK.out.2.2.2.1.mono ?_
      rintro e w2 ⟨rfl, hb2⟩
      have R2 := rdP_below HK.out.2.1 hb2
      obtain ⟨g, rfl, c3, hcap, b0, b1, b2, -, -, hRg⟩ := rdP_last R2
      have HA := Lib.hid fun wx => asked14_any bop ba bl.length bc (blev : Int) (bl.map (·.1)) (by simp) blev wx
      rw [hak] at HA
      dsimp only at b0 b1 b2
      have HB2 := Lib.hid (And.intro hb2 R2)
      generalize hn : V'.length = n at *
      generalize hbn : bl.length = bn at *
      have hn6 : n ≤ 1000000 := by omega
      have k3 : w2.drew.cell? ⟨R, 3, none⟩ = some (.slice (some ⟨g, 0, none⟩) (n + 1) wc) := c3
      have k0 : w2.drew.cell? ⟨g, n * 3, none⟩ = some (.int .i64 bop) := b0
      have k1 : w2.drew.cell? ⟨g, n * 3 + 1, none⟩ = some (.slice ba bn bc) := b1
      have k2 : w2.drew.cell? ⟨g, n * 3 + 2, none⟩ = some (.int .i64 (blev : Int)) := b2
      clear hb2 R2
      go_wp2_with fail
      refine wp_region_plan (S := fun wx => wx.cell? ⟨R, 3, none⟩ = some (.slice (some ⟨g, 0, none⟩) (n + 1) wc) ∧ wx.cell? ⟨g, n * 3, none⟩ = some (.int .i64 bop) ∧ wx.cell? ⟨g, n * 3 + 1, none⟩ = some (.slice ba bn bc) ∧ wx.cell? ⟨g, n * 3 + 2, none⟩ = some (.int .i64 (blev : Int))) 13 [(true, 0), (true, 1), (true, 2), (true, 3), (true, 4), (true, 5), (true, 6), (true, 7), (true, 8), (true, 9), (true, 10), (true, 11), (false, 12)] (by kernel_rfl) (fun _ d _ _ _ h => by cases d <;> exact h) (by kernel_rfl) ⟨k3, k0, k1, k2⟩ ?_
      refine wpPlan_step (i := 0) rfl ⟨(.pointer (some ⟨R, 0, none⟩)), ⟨by rfl, fun wx hSx => ?_⟩, ?_⟩
      · obtain ⟨z3, z0, z1, z2⟩ := hSx
        go_simp
      simp only [Act.put, List.setIfInBounds_toArray, List.set_cons_zero, List.set_cons_succ]
      refine wpPlan_step (i := 1) rfl ⟨(.pointer (some ⟨R, 0, none⟩)), ⟨by rfl, fun wx hSx => ?_⟩, ?_⟩
      · obtain ⟨z3, z0, z1, z2⟩ := hSx
        go_simp
      simp only [Act.put, List.setIfInBounds_toArray, List.set_cons_zero, List.set_cons_succ]
      refine wpPlan_step (i := 2) rfl ⟨(.pointer (some ⟨R, 3, none⟩)), ⟨by rfl, fun wx hSx => ?_⟩, ?_⟩
      · obtain ⟨z3, z0, z1, z2⟩ := hSx
        go_simp
      simp only [Act.put, List.setIfInBounds_toArray, List.set_cons_zero, List.set_cons_succ]
      refine wpPlan_step (i := 3) rfl ⟨(.slice (some ⟨g, 0, none⟩) (n + 1) wc), ⟨by rfl, fun wx hSx => ?_⟩, ?_⟩
      · obtain ⟨z3, z0, z1, z2⟩ := hSx
        go_simp
      simp only [Act.put, List.setIfInBounds_toArray, List.set_cons_zero, List.set_cons_succ]
      refine wpPlan_step (i := 4) rfl ⟨(.pointer (some ⟨R, 0, none⟩)), ⟨by rfl, fun wx hSx => ?_⟩, ?_⟩
      · obtain ⟨z3, z0, z1, z2⟩ := hSx
        go_simp
      simp only [Act.put, List.setIfInBounds_toArray, List.set_cons_zero, List.set_cons_succ]
      refine wpPlan_step (i := 5) rfl ⟨(.pointer (some ⟨R, 0, none⟩)), ⟨by rfl, fun wx hSx => ?_⟩, ?_⟩
      · obtain ⟨z3, z0, z1, z2⟩ := hSx
        go_simp
      simp only [Act.put, List.setIfInBounds_toArray, List.set_cons_zero, List.set_cons_succ]
      refine wpPlan_step (i := 6) rfl ⟨(.pointer (some ⟨R, 3, none⟩)), ⟨by rfl, fun wx hSx => ?_⟩, ?_⟩
      · obtain ⟨z3, z0, z1, z2⟩ := hSx
        go_simp
      simp only [Act.put, List.setIfInBounds_toArray, List.set_cons_zero, List.set_cons_succ]
      refine wpPlan_step (i := 7) rfl ⟨(.slice (some ⟨g, 0, none⟩) (n + 1) wc), ⟨by rfl, fun wx hSx => ?_⟩, ?_⟩
      · obtain ⟨z3, z0, z1, z2⟩ := hSx
        go_simp
      simp only [Act.put, List.setIfInBounds_toArray, List.set_cons_zero, List.set_cons_succ]
      refine wpPlan_step (i := 8) rfl ⟨(.int .i64 ((n : Int) + 1)), ⟨by rfl, fun wx hSx => ?_⟩, ?_⟩
      · obtain ⟨z3, z0, z1, z2⟩ := hSx
        go_simp
      simp only [Act.put, List.setIfInBounds_toArray, List.set_cons_zero, List.set_cons_succ]
      refine wpPlan_step (i := 9) rfl ⟨(.int .i64 (n : Int)), ⟨by rfl, fun wx hSx => ?_⟩, ?_⟩
      · obtain ⟨z3, z0, z1, z2⟩ := hSx
        go_simp
        exact IntWalk.i64_in _ (by omega)
      simp only [Act.put, List.setIfInBounds_toArray, List.set_cons_zero, List.set_cons_succ]
      refine wpPlan_step (i := 10) rfl ⟨(.pointer (some ⟨g, n * 3, none⟩)), ⟨by rfl, fun wx hSx => ?_⟩, ?_⟩
      · obtain ⟨z3, z0, z1, z2⟩ := hSx
        go_simp
        intro hh; omega
      simp only [Act.put, List.setIfInBounds_toArray, List.set_cons_zero, List.set_cons_succ]
      refine wpPlan_step (i := 11) rfl ⟨(.agg #[.int .i64 bop, .slice ba bn bc, .int .i64 (blev : Int)]), ⟨by rfl, fun wx hSx => ?_⟩, ?_⟩
      · obtain ⟨z3, z0, z1, z2⟩ := hSx
        go_simp
      simp only [Act.put, List.setIfInBounds_toArray, List.set_cons_zero, List.set_cons_succ]
      refine wpPlan_call (i := 12) rfl (by rfl) 35 #[(.agg #[.int .i64 bop, .slice ba bn bc, .int .i64 (blev : Int)])] (by go_simp) (HA.out _) ?_
      rintro e w7 ⟨rfl, hb7⟩
      refine .inl ⟨_, rfl, ⟨(hb7.cell (p := ⟨R, 3, none⟩) (World.block_lt_of_cell? _ _ k3)).trans k3, (hb7.cell (p := ⟨g, n * 3, none⟩) (World.block_lt_of_cell? _ _ k0)).trans k0, (hb7.cell (p := ⟨g, n * 3 + 1, none⟩) (World.block_lt_of_cell? _ _ k1)).trans k1, (hb7.cell (p := ⟨g, n * 3 + 2, none⟩) (World.block_lt_of_cell? _ _ k2)).trans k2⟩, ?_⟩
      simp only [Act.put, List.setIfInBounds_toArray, List.set_cons_zero, List.set_cons_succ]
      show wpList _ _ _ _ _ w7
      simp only [List.drop_succ_cons, List.drop_zero]
      have hb27 : Below wr.heap.size wr w7 := HB2.out.1.trans (((Below.refl w2.heap.size w2).drew.trans hb7).mono HB2.out.1.size)
      have R7 := rdP_below HK.out.2.1 hb27
      have M7 := mst_below HK.out.1 hb27
      have G7 := glob_below HK.out.2.2.1 hb27
      clear k3 k0 k1 k2 c3 b0 b1 b2 hb7 HB2
      have hnot := Sx.wd_not HL.out.1 HK.out.2.2.2.2.2.2.1 HK.out.2.2.2.2.2.2.2.1
      have hne := str_ne (Lx.mk s) HK.out.2.2.2.2.2.2.2.2
      obtain ⟨e1, e2⟩ := hne
      have e3 : (Lx.mk s).toList.isEmpty = false := by simpa using e1
      have n1 := str_neq hnot
      have n2 : ((Sx.wd L p).toList == (Lx.mk s).toList) = false := by simpa using n1
      have cW := word14_any (rdP_cells R7).1 (rdP_cells R7).2.1 R7.toks hp
      have HF := Lib.hid (And.intro M7 cW)
      generalize Sx.wd L p = wd at *
      generalize Lx.mk s = sb at *
      clear hnot M7 R7 G7 cW hak
      go_wp2_with fail
      refine HF.out.2.mono ?_
      rintro e w8 ⟨rfl, hb8⟩
      have HE := Lib.hid (mst_below HF.out.1 hb8)
      clear hb8
      go_wp2_with fail
      go_ret
      exact ⟨rfl, _, _, _, _, _, _, HE.out, fun x hx => by cases hx⟩
    | @shut n1 _ _ V b _ _ _ k s hno ha hi hd =>
      obtain ⟨V', b', rfl, hV', hb'⟩ := map_snoc hW
      subst hb'
      subst hV'
      have cB := between14_no hR hG hp HL.out.1 hno
      obtain ⟨bop, blev, ba, bc, bl⟩ := b'
      have hlv : blev ≤ 7 := (hR.oks ⟨bop, blev, ba, bc, bl⟩ (by simp)).2.2.2.2.2
      have hopw : bop = 0 ∨ bop = 3 ∨ bop = 16 ∨ (4 ≤ bop ∧ bop ≤ 15) := (hR.oks ⟨bop, blev, ba, bc, bl⟩ (by simp)).2.2.2.1
      have hbl2 : bl.length ≤ 2 := hb ⟨bop, blev, ba, bc, bl⟩ (by simp)
      have hbV : ∀ b ∈ V', b.l.length ≤ 2 := fun b hm => hb b (List.mem_append_left _ hm)
      have hnV : V'.length + 1 ≤ p := by have := hn; simp at this; omega
      have hak : askS ⟨bop, bl.map (·.1), blev⟩ = Lx.mk s := by unfold askS; rw [show (⟨bop, bl.map (·.1), blev⟩ : Sx.B) = toB ⟨bop, blev, ba, bc, bl⟩ from rfl, ha]
      have hks := ask_kind ha
      clear ha
      have HK := Lib.hid (And.intro hM (And.intro hR (And.intro hG (And.intro cB (And.intro hbV (And.intro hopw (And.intro hi (And.intro hks hd))))))))
      clear hM hR hG cB hbV hopw hno hb hn hO hW
      dsimp only
      go_wp2_with fail
      refine HK.out.2.2.2.1.mono ?_
      rintro e w2 ⟨rfl, hb2⟩
      have R2 := rdP_below HK.out.2.1 hb2
      obtain ⟨g, rfl, c3, hcap, b0, b1, b2, -, -, hRg⟩ := rdP_last R2
      have HA := Lib.hid fun wx => asked14_any bop ba bl.length bc (blev : Int) (bl.map (·.1)) (by simp) blev wx
      rw [hak] at HA
      dsimp only at b0 b1 b2
      have HB2 := Lib.hid (And.intro hb2 R2)
      generalize hn : V'.length = n at *
      generalize hbn : bl.length = bn at *
      have hn6 : n ≤ 1000000 := by omega
      have k3 : w2.drew.cell? ⟨R, 3, none⟩ = some (.slice (some ⟨g, 0, none⟩) (n + 1) wc) := c3
      have k0 : w2.drew.cell? ⟨g, n * 3, none⟩ = some (.int .i64 bop) := b0
      have k1 : w2.drew.cell? ⟨g, n * 3 + 1, none⟩ = some (.slice ba bn bc) := b1
      have k2 : w2.drew.cell? ⟨g, n * 3 + 2, none⟩ = some (.int .i64 (blev : Int)) := b2
      clear hb2 R2
      go_wp2_with fail
      refine wp_region_plan (S := fun wx => wx.cell? ⟨R, 3, none⟩ = some (.slice (some ⟨g, 0, none⟩) (n + 1) wc) ∧ wx.cell? ⟨g, n * 3, none⟩ = some (.int .i64 bop) ∧ wx.cell? ⟨g, n * 3 + 1, none⟩ = some (.slice ba bn bc) ∧ wx.cell? ⟨g, n * 3 + 2, none⟩ = some (.int .i64 (blev : Int))) 13 [(true, 0), (true, 1), (true, 2), (true, 3), (true, 4), (true, 5), (true, 6), (true, 7), (true, 8), (true, 9), (true, 10), (true, 11), (false, 12)] (by kernel_rfl) (fun _ d _ _ _ h => by cases d <;> exact h) (by kernel_rfl) ⟨k3, k0, k1, k2⟩ ?_
      refine wpPlan_step (i := 0) rfl ⟨(.pointer (some ⟨R, 0, none⟩)), ⟨by rfl, fun wx hSx => ?_⟩, ?_⟩
      · obtain ⟨z3, z0, z1, z2⟩ := hSx
        go_simp
      simp only [Act.put, List.setIfInBounds_toArray, List.set_cons_zero, List.set_cons_succ]
      refine wpPlan_step (i := 1) rfl ⟨(.pointer (some ⟨R, 0, none⟩)), ⟨by rfl, fun wx hSx => ?_⟩, ?_⟩
      · obtain ⟨z3, z0, z1, z2⟩ := hSx
        go_simp
      simp only [Act.put, List.setIfInBounds_toArray, List.set_cons_zero, List.set_cons_succ]
      refine wpPlan_step (i := 2) rfl ⟨(.pointer (some ⟨R, 3, none⟩)), ⟨by rfl, fun wx hSx => ?_⟩, ?_⟩
      · obtain ⟨z3, z0, z1, z2⟩ := hSx
        go_simp
      simp only [Act.put, List.setIfInBounds_toArray, List.set_cons_zero, List.set_cons_succ]
      refine wpPlan_step (i := 3) rfl ⟨(.slice (some ⟨g, 0, none⟩) (n + 1) wc), ⟨by rfl, fun wx hSx => ?_⟩, ?_⟩
      · obtain ⟨z3, z0, z1, z2⟩ := hSx
        go_simp
      simp only [Act.put, List.setIfInBounds_toArray, List.set_cons_zero, List.set_cons_succ]
      refine wpPlan_step (i := 4) rfl ⟨(.pointer (some ⟨R, 0, none⟩)), ⟨by rfl, fun wx hSx => ?_⟩, ?_⟩
      · obtain ⟨z3, z0, z1, z2⟩ := hSx
        go_simp
      simp only [Act.put, List.setIfInBounds_toArray, List.set_cons_zero, List.set_cons_succ]
      refine wpPlan_step (i := 5) rfl ⟨(.pointer (some ⟨R, 0, none⟩)), ⟨by rfl, fun wx hSx => ?_⟩, ?_⟩
      · obtain ⟨z3, z0, z1, z2⟩ := hSx
        go_simp
      simp only [Act.put, List.setIfInBounds_toArray, List.set_cons_zero, List.set_cons_succ]
      refine wpPlan_step (i := 6) rfl ⟨(.pointer (some ⟨R, 3, none⟩)), ⟨by rfl, fun wx hSx => ?_⟩, ?_⟩
      · obtain ⟨z3, z0, z1, z2⟩ := hSx
        go_simp
      simp only [Act.put, List.setIfInBounds_toArray, List.set_cons_zero, List.set_cons_succ]
      refine wpPlan_step (i := 7) rfl ⟨(.slice (some ⟨g, 0, none⟩) (n + 1) wc), ⟨by rfl, fun wx hSx => ?_⟩, ?_⟩
      · obtain ⟨z3, z0, z1, z2⟩ := hSx
        go_simp
      simp only [Act.put, List.setIfInBounds_toArray, List.set_cons_zero, List.set_cons_succ]
      refine wpPlan_step (i := 8) rfl ⟨(.int .i64 ((n : Int) + 1)), ⟨by rfl, fun wx hSx => ?_⟩, ?_⟩
      · obtain ⟨z3, z0, z1, z2⟩ := hSx
        go_simp
      simp only [Act.put, List.setIfInBounds_toArray, List.set_cons_zero, List.set_cons_succ]
      refine wpPlan_step (i := 9) rfl ⟨(.int .i64 (n : Int)), ⟨by rfl, fun wx hSx => ?_⟩, ?_⟩
      · obtain ⟨z3, z0, z1, z2⟩ := hSx
        go_simp
        exact IntWalk.i64_in _ (by omega)
      simp only [Act.put, List.setIfInBounds_toArray, List.set_cons_zero, List.set_cons_succ]
      refine wpPlan_step (i := 10) rfl ⟨(.pointer (some ⟨g, n * 3, none⟩)), ⟨by rfl, fun wx hSx => ?_⟩, ?_⟩
      · obtain ⟨z3, z0, z1, z2⟩ := hSx
        go_simp
        intro hh; omega
      simp only [Act.put, List.setIfInBounds_toArray, List.set_cons_zero, List.set_cons_succ]
      refine wpPlan_step (i := 11) rfl ⟨(.agg #[.int .i64 bop, .slice ba bn bc, .int .i64 (blev : Int)]), ⟨by rfl, fun wx hSx => ?_⟩, ?_⟩
      · obtain ⟨z3, z0, z1, z2⟩ := hSx
        go_simp
      simp only [Act.put, List.setIfInBounds_toArray, List.set_cons_zero, List.set_cons_succ]
      refine wpPlan_call (i := 12) rfl (by rfl) 35 #[(.agg #[.int .i64 bop, .slice ba bn bc, .int .i64 (blev : Int)])] (by go_simp) (HA.out _) ?_
      rintro e w7 ⟨rfl, hb7⟩
      refine .inl ⟨_, rfl, ⟨(hb7.cell (p := ⟨R, 3, none⟩) (World.block_lt_of_cell? _ _ k3)).trans k3, (hb7.cell (p := ⟨g, n * 3, none⟩) (World.block_lt_of_cell? _ _ k0)).trans k0, (hb7.cell (p := ⟨g, n * 3 + 1, none⟩) (World.block_lt_of_cell? _ _ k1)).trans k1, (hb7.cell (p := ⟨g, n * 3 + 2, none⟩) (World.block_lt_of_cell? _ _ k2)).trans k2⟩, ?_⟩
      simp only [Act.put, List.setIfInBounds_toArray, List.set_cons_zero, List.set_cons_succ]
      show wpList _ _ _ _ _ w7
      simp only [List.drop_succ_cons, List.drop_zero]
      have hb27 : Below wr.heap.size wr w7 := HB2.out.1.trans (((Below.refl w2.heap.size w2).drew.trans hb7).mono HB2.out.1.size)
      have R7 := rdP_below HK.out.2.1 hb27
      have M7 := mst_below HK.out.1 hb27
      have G7 := glob_below HK.out.2.2.1 hb27
      clear k3 k0 k1 k2 c3 b0 b1 b2 hb7 HB2
      have hwd := Sx.wd_is HK.out.2.2.2.2.2.2.1 (HK.out.2.2.2.2.2.2.2.1.1.imp (·.1) (·.1))
      have hplt := toks_lt (Sx.isT_some HK.out.2.2.2.2.2.2.1)
      obtain ⟨e1, e2⟩ := str_ne (Lx.mk s) HK.out.2.2.2.2.2.2.2.1.2
      have e3 : (Lx.mk s).toList.isEmpty = false := by simpa using e1
      have cW := word14_any (rdP_cells R7).1 (rdP_cells R7).2.1 R7.toks hp
      rw [hwd] at cW
      have hwr : IntKind.i64.wrap ((p : Int) + 1) = (p : Int) + 1 := IntWalk.i64_in _ (by omega)
      have HF := Lib.hid (And.intro M7 (And.intro cW (And.intro R7 G7)))
      generalize Lx.mk s = sb at *
      clear hwd M7 R7 G7 cW hak
      go_wp2_with fail
      refine HF.out.2.1.mono ?_
      rintro e w8 ⟨rfl, hb8⟩
      have R8 := rdP_below HF.out.2.2.1 hb8
      obtain ⟨-, c1, -, -, -⟩ := rdP_cells R8
      have i1 := rdP_ice R8 1
      have hat := rdP_at R8
      have M8 := mst_step (mst_below HF.out.1 hb8) hat.1 (hat.2.mono fun k _ e => .inl e) (by omega) (by simp [hn]; omega) hl (fun b hm => by
        rw [List.mem_append, List.mem_singleton] at hm
        rcases hm with hm | rfl
        · exact HK.out.2.2.2.2.1 b hm
        · show bl.length ≤ 2; omega)
      have G8 := glob_only (glob_below HF.out.2.2.2 hb8) hat.2 (fun k hk e => by have e2 : k = R := e; omega)
      have HG8 := Lib.hid (And.intro M8 (And.intro hat.1 G8))
      clear R8 hat M8 G8 hb8 HF
      have hpL : p + 1 ≤ L.length := hplt
      have hd := HK.out.2.2.2.2.2.2.2.2
      cases hd with
      | bra h0 hB =>
        have cH := hand14_bra HG8.out.2.1 h0 (by rw [hn]; exact hn6)
        have HH := Lib.hid (And.intro cH hB)
        clear cH hB h0
        go_wp2_with fail
        refine HH.out.1.mono ?_
        rintro e w3 ⟨rfl, wa3, wc3, H3, ho3⟩
        have M3 := mst_step HG8.out.1 H3 ho3 hpL (by omega) hlv HK.out.2.2.2.2.1
        have HF3 := Lib.hid M3
        clear H3 ho3 M3
        go_wp2_with fail
        go_step3
        exact ⟨n1, Nat.lt_succ_self _, .inr ⟨rfl, ⟨_, _, _, _, _, _, _, _, _, _, _, _, _, _, _, _, _, _, _, _, _, _, _, _, _, _, _, _, _, _, _, _, _, _, _, _, _, _, _, _, _, _, _, _, rfl⟩, _, _, _, _, _, _, _, HF3.out, HH.out.2⟩⟩
      | more h0 hc hP =>
        have hc2 : (bl.length : Int) + 1 < cntP bop := by
          show (bl.length : Int) + 1 < cntP (toB ⟨bop, blev, ba, bc, bl⟩).op
          rw [← cnt_of (b := toB ⟨bop, blev, ba, bc, bl⟩) HK.out.2.2.2.2.2.1 h0]
          have e : (toB ⟨bop, blev, ba, bc, bl⟩).parts.length = bl.length := by simp [toB]
          rw [← e]; exact hc
        have cH := hand14_more HG8.out.2.1 h0 (by rw [hn]; exact hn6) (by dsimp only; omega) hc2
        have hc3 : (bn : Int) + 1 < cntP bop := by rw [← hbn]; exact hc2
        have HH := Lib.hid (And.intro cH (And.intro hP hc3))
        clear cH hP hc hc2 hc3 h0
        go_wp2_with fail
        refine HH.out.1.mono ?_
        rintro e w3 ⟨gg, cp, rfl, wa3, wc3, H3, ho3⟩
        have hb3 : bn + 1 ≤ 2 := by have := cnt_le bop; have h9 := HH.out.2.2; omega
        have M3 := mst_step HG8.out.1 H3 ho3 hpL (by simp [hn]; omega) hl (fun b hm => by
          rw [List.mem_append, List.mem_singleton] at hm
          rcases hm with hm | rfl
          · exact HK.out.2.2.2.2.1 b hm
          · simp; omega)
        have HF3 := Lib.hid M3
        clear H3 ho3 M3
        go_wp2_with fail
        go_step3
        exact ⟨n1, Nat.lt_succ_self _, .inl ⟨rfl, ⟨_, _, _, _, _, _, _, _, _, _, _, _, _, _, _, _, _, _, _, _, _, _, _, _, _, _, _, _, _, _, _, _, _, _, _, _, _, _, _, _, _, _, _, _, rfl⟩, _, _, _, _, _, _, _, HF3.out, by rw [List.map_append]; have h9 := HH.out.2.1; simpa [toB] using h9⟩⟩
      | whole h0 hc hB =>
        have hc2 : ¬ ((bl.length : Int) + 1 < cntP bop) := by
          show ¬ ((bl.length : Int) + 1 < cntP (toB ⟨bop, blev, ba, bc, bl⟩).op)
          rw [← cnt_of (b := toB ⟨bop, blev, ba, bc, bl⟩) HK.out.2.2.2.2.2.1 h0]
          have e : (toB ⟨bop, blev, ba, bc, bl⟩).parts.length = bl.length := by simp [toB]
          rw [← e]; exact hc
        have cH := hand14_whole HG8.out.2.1 HG8.out.2.2 h0 (by rw [hn]; exact hn6) (by dsimp only; omega) hc2
        have HH := Lib.hid (And.intro cH hB)
        clear cH hB hc hc2 h0
        go_wp2_with fail
        refine HH.out.1.mono ?_
        rintro e w3 ⟨gg, cp, rfl, wa3, wc3, H3, ho3⟩
        have M3 := mst_step HG8.out.1 H3 ho3 hpL (by omega) hlv HK.out.2.2.2.2.1
        have HF3 := Lib.hid M3
        clear H3 ho3 M3
        go_wp2_with fail
        go_step3
        exact ⟨n1, Nat.lt_succ_self _, .inr ⟨rfl, ⟨_, _, _, _, _, _, _, _, _, _, _, _, _, _, _, _, _, _, _, _, _, _, _, _, _, _, _, _, _, _, _, _, _, _, _, _, _, _, _, _, _, _, _, _, rfl⟩, _, _, _, _, _, _, _, HF3.out, HH.out.2⟩⟩
    | @over n1 _ _ V b _ _ _ hno ha hd =>
      obtain ⟨V', b', rfl, hV', hb'⟩ := map_snoc hW
      subst hb'
      subst hV'
      have cB := between14_no hR hG hp HL.out.1 hno
      obtain ⟨bop, blev, ba, bc, bl⟩ := b'
      have hlv : blev ≤ 7 := (hR.oks ⟨bop, blev, ba, bc, bl⟩ (by simp)).2.2.2.2.2
      have hopw : bop = 0 ∨ bop = 3 ∨ bop = 16 ∨ (4 ≤ bop ∧ bop ≤ 15) := (hR.oks ⟨bop, blev, ba, bc, bl⟩ (by simp)).2.2.2.1
      have hbl2 : bl.length ≤ 2 := hb ⟨bop, blev, ba, bc, bl⟩ (by simp)
      have hbV : ∀ b ∈ V', b.l.length ≤ 2 := fun b hm => hb b (List.mem_append_left _ hm)
      have hnV : V'.length + 1 ≤ p := by have := hn; simp at this; omega
      have hak : askS ⟨bop, bl.map (·.1), blev⟩ = ⟨#[]⟩ := by unfold askS; rw [show (⟨bop, bl.map (·.1), blev⟩ : Sx.B) = toB ⟨bop, blev, ba, bc, bl⟩ from rfl, ha]
      have hb0' : bop ≠ 0 := fun e => by subst e; unfold Sx.askW toB at ha; rw [if_pos rfl] at ha; cases ha
      clear ha
      have HK := Lib.hid (And.intro hM (And.intro hR (And.intro hG (And.intro cB (And.intro hbV (And.intro hopw hd))))))
      clear hM hR hG cB hbV hopw hno hb hn hO hW
      dsimp only
      go_wp2_with fail
      refine HK.out.2.2.2.1.mono ?_
      rintro e w2 ⟨rfl, hb2⟩
      have R2 := rdP_below HK.out.2.1 hb2
      obtain ⟨g, rfl, c3, hcap, b0, b1, b2, -, -, hRg⟩ := rdP_last R2
      have HA := Lib.hid fun wx => asked14_any bop ba bl.length bc (blev : Int) (bl.map (·.1)) (by simp) blev wx
      rw [hak] at HA
      dsimp only at b0 b1 b2
      have HB2 := Lib.hid (And.intro hb2 R2)
      generalize hn : V'.length = n at *
      generalize hbn : bl.length = bn at *
      have hn6 : n ≤ 1000000 := by omega
      have k3 : w2.drew.cell? ⟨R, 3, none⟩ = some (.slice (some ⟨g, 0, none⟩) (n + 1) wc) := c3
      have k0 : w2.drew.cell? ⟨g, n * 3, none⟩ = some (.int .i64 bop) := b0
      have k1 : w2.drew.cell? ⟨g, n * 3 + 1, none⟩ = some (.slice ba bn bc) := b1
      have k2 : w2.drew.cell? ⟨g, n * 3 + 2, none⟩ = some (.int .i64 (blev : Int)) := b2
      clear hb2 R2
      go_wp2_with fail
      refine wp_region_plan (S := fun wx => wx.cell? ⟨R, 3, none⟩ = some (.slice (some ⟨g, 0, none⟩) (n + 1) wc) ∧ wx.cell? ⟨g, n * 3, none⟩ = some (.int .i64 bop) ∧ wx.cell? ⟨g, n * 3 + 1, none⟩ = some (.slice ba bn bc) ∧ wx.cell? ⟨g, n * 3 + 2, none⟩ = some (.int .i64 (blev : Int))) 13 [(true, 0), (true, 1), (true, 2), (true, 3), (true, 4), (true, 5), (true, 6), (true, 7), (true, 8), (true, 9), (true, 10), (true, 11), (false, 12)] (by kernel_rfl) (fun _ d _ _ _ h => by cases d <;> exact h) (by kernel_rfl) ⟨k3, k0, k1, k2⟩ ?_
      refine wpPlan_step (i := 0) rfl ⟨(.pointer (some ⟨R, 0, none⟩)), ⟨by rfl, fun wx hSx => ?_⟩, ?_⟩
      · obtain ⟨z3, z0, z1, z2⟩ := hSx
        go_simp
      simp only [Act.put, List.setIfInBounds_toArray, List.set_cons_zero, List.set_cons_succ]
      refine wpPlan_step (i := 1) rfl ⟨(.pointer (some ⟨R, 0, none⟩)), ⟨by rfl, fun wx hSx => ?_⟩, ?_⟩
      · obtain ⟨z3, z0, z1, z2⟩ := hSx
        go_simp
      simp only [Act.put, List.setIfInBounds_toArray, List.set_cons_zero, List.set_cons_succ]
      refine wpPlan_step (i := 2) rfl ⟨(.pointer (some ⟨R, 3, none⟩)), ⟨by rfl, fun wx hSx => ?_⟩, ?_⟩
      · obtain ⟨z3, z0, z1, z2⟩ := hSx
        go_simp
      simp only [Act.put, List.setIfInBounds_toArray, List.set_cons_zero, List.set_cons_succ]
      refine wpPlan_step (i := 3) rfl ⟨(.slice (some ⟨g, 0, none⟩) (n + 1) wc), ⟨by rfl, fun wx hSx => ?_⟩, ?_⟩
      · obtain ⟨z3, z0, z1, z2⟩ := hSx
        go_simp
      simp only [Act.put, List.setIfInBounds_toArray, List.set_cons_zero, List.set_cons_succ]
      refine wpPlan_step (i := 4) rfl ⟨(.pointer (some ⟨R, 0, none⟩)), ⟨by rfl, fun wx hSx => ?_⟩, ?_⟩
      · obtain ⟨z3, z0, z1, z2⟩ := hSx
        go_simp
      simp only [Act.put, List.setIfInBounds_toArray, List.set_cons_zero, List.set_cons_succ]
      refine wpPlan_step (i := 5) rfl ⟨(.pointer (some ⟨R, 0, none⟩)), ⟨by rfl, fun wx hSx => ?_⟩, ?_⟩
      · obtain ⟨z3, z0, z1, z2⟩ := hSx
        go_simp
      simp only [Act.put, List.setIfInBounds_toArray, List.set_cons_zero, List.set_cons_succ]
      refine wpPlan_step (i := 6) rfl ⟨(.pointer (some ⟨R, 3, none⟩)), ⟨by rfl, fun wx hSx => ?_⟩, ?_⟩
      · obtain ⟨z3, z0, z1, z2⟩ := hSx
        go_simp
      simp only [Act.put, List.setIfInBounds_toArray, List.set_cons_zero, List.set_cons_succ]
      refine wpPlan_step (i := 7) rfl ⟨(.slice (some ⟨g, 0, none⟩) (n + 1) wc), ⟨by rfl, fun wx hSx => ?_⟩, ?_⟩
      · obtain ⟨z3, z0, z1, z2⟩ := hSx
        go_simp
      simp only [Act.put, List.setIfInBounds_toArray, List.set_cons_zero, List.set_cons_succ]
      refine wpPlan_step (i := 8) rfl ⟨(.int .i64 ((n : Int) + 1)), ⟨by rfl, fun wx hSx => ?_⟩, ?_⟩
      · obtain ⟨z3, z0, z1, z2⟩ := hSx
        go_simp
      simp only [Act.put, List.setIfInBounds_toArray, List.set_cons_zero, List.set_cons_succ]
      refine wpPlan_step (i := 9) rfl ⟨(.int .i64 (n : Int)), ⟨by rfl, fun wx hSx => ?_⟩, ?_⟩
      · obtain ⟨z3, z0, z1, z2⟩ := hSx
        go_simp
        exact IntWalk.i64_in _ (by omega)
      simp only [Act.put, List.setIfInBounds_toArray, List.set_cons_zero, List.set_cons_succ]
      refine wpPlan_step (i := 10) rfl ⟨(.pointer (some ⟨g, n * 3, none⟩)), ⟨by rfl, fun wx hSx => ?_⟩, ?_⟩
      · obtain ⟨z3, z0, z1, z2⟩ := hSx
        go_simp
        intro hh; omega
      simp only [Act.put, List.setIfInBounds_toArray, List.set_cons_zero, List.set_cons_succ]
      refine wpPlan_step (i := 11) rfl ⟨(.agg #[.int .i64 bop, .slice ba bn bc, .int .i64 (blev : Int)]), ⟨by rfl, fun wx hSx => ?_⟩, ?_⟩
      · obtain ⟨z3, z0, z1, z2⟩ := hSx
        go_simp
      simp only [Act.put, List.setIfInBounds_toArray, List.set_cons_zero, List.set_cons_succ]
      refine wpPlan_call (i := 12) rfl (by rfl) 35 #[(.agg #[.int .i64 bop, .slice ba bn bc, .int .i64 (blev : Int)])] (by go_simp) (HA.out _) ?_
      rintro e w7 ⟨rfl, hb7⟩
      refine .inl ⟨_, rfl, ⟨(hb7.cell (p := ⟨R, 3, none⟩) (World.block_lt_of_cell? _ _ k3)).trans k3, (hb7.cell (p := ⟨g, n * 3, none⟩) (World.block_lt_of_cell? _ _ k0)).trans k0, (hb7.cell (p := ⟨g, n * 3 + 1, none⟩) (World.block_lt_of_cell? _ _ k1)).trans k1, (hb7.cell (p := ⟨g, n * 3 + 2, none⟩) (World.block_lt_of_cell? _ _ k2)).trans k2⟩, ?_⟩
      simp only [Act.put, List.setIfInBounds_toArray, List.set_cons_zero, List.set_cons_succ]
      show wpList _ _ _ _ _ w7
      simp only [List.drop_succ_cons, List.drop_zero]
      have hb27 : Below wr.heap.size wr w7 := HB2.out.1.trans (((Below.refl w2.heap.size w2).drew.trans hb7).mono HB2.out.1.size)
      have R7 := rdP_below HK.out.2.1 hb27
      have M7 := mst_below HK.out.1 hb27
      have G7 := glob_below HK.out.2.2.1 hb27
      clear k3 k0 k1 k2 c3 b0 b1 b2 hb7 HB2
      have HG8 := Lib.hid (And.intro M7 (And.intro R7 G7))
      clear M7 R7 G7 hak
      have hpL : p ≤ L.length := hp
      have hd := HK.out.2.2.2.2.2.2
      cases hd with
      | bra h0 hB =>
        exact absurd h0 hb0'
      | more h0 hc hP =>
        have hc2 : (bl.length : Int) + 1 < cntP bop := by
          show (bl.length : Int) + 1 < cntP (toB ⟨bop, blev, ba, bc, bl⟩).op
          rw [← cnt_of (b := toB ⟨bop, blev, ba, bc, bl⟩) HK.out.2.2.2.2.2.1 h0]
          have e : (toB ⟨bop, blev, ba, bc, bl⟩).parts.length = bl.length := by simp [toB]
          rw [← e]; exact hc
        have cH := hand14_more HG8.out.2.1 h0 (by rw [hn]; exact hn6) (by dsimp only; omega) hc2
        have hc3 : (bn : Int) + 1 < cntP bop := by rw [← hbn]; exact hc2
        have HH := Lib.hid (And.intro cH (And.intro hP hc3))
        clear cH hP hc hc2 hc3 h0
        go_wp2_with fail
        refine HH.out.1.mono ?_
        rintro e w3 ⟨gg, cp, rfl, wa3, wc3, H3, ho3⟩
        have hb3 : bn + 1 ≤ 2 := by have := cnt_le bop; have h9 := HH.out.2.2; omega
        have M3 := mst_step HG8.out.1 H3 ho3 hpL (by simp [hn]; omega) hl (fun b hm => by
          rw [List.mem_append, List.mem_singleton] at hm
          rcases hm with hm | rfl
          · exact HK.out.2.2.2.2.1 b hm
          · simp; omega)
        have HF3 := Lib.hid M3
        clear H3 ho3 M3
        go_wp2_with fail
        go_step3
        exact ⟨n1, Nat.lt_succ_self _, .inl ⟨rfl, ⟨_, _, _, _, _, _, _, _, _, _, _, _, _, _, _, _, _, _, _, _, _, _, _, _, _, _, _, _, _, _, _, _, _, _, _, _, _, _, _, _, _, _, _, _, rfl⟩, _, _, _, _, _, _, _, HF3.out, by rw [List.map_append]; have h9 := HH.out.2.1; simpa [toB] using h9⟩⟩
      | whole h0 hc hB =>
        have hc2 : ¬ ((bl.length : Int) + 1 < cntP bop) := by
          show ¬ ((bl.length : Int) + 1 < cntP (toB ⟨bop, blev, ba, bc, bl⟩).op)
          rw [← cnt_of (b := toB ⟨bop, blev, ba, bc, bl⟩) HK.out.2.2.2.2.2.1 h0]
          have e : (toB ⟨bop, blev, ba, bc, bl⟩).parts.length = bl.length := by simp [toB]
          rw [← e]; exact hc
        have cH := hand14_whole HG8.out.2.1 HG8.out.2.2 h0 (by rw [hn]; exact hn6) (by dsimp only; omega) hc2
        have HH := Lib.hid (And.intro cH hB)
        clear cH hB hc hc2 h0
        go_wp2_with fail
        refine HH.out.1.mono ?_
        rintro e w3 ⟨gg, cp, rfl, wa3, wc3, H3, ho3⟩
        have M3 := mst_step HG8.out.1 H3 ho3 hpL (by omega) hlv HK.out.2.2.2.2.1
        have HF3 := Lib.hid M3
        clear H3 ho3 M3
        go_wp2_with fail
        go_step3
        exact ⟨n1, Nat.lt_succ_self _, .inr ⟨rfl, ⟨_, _, _, _, _, _, _, _, _, _, _, _, _, _, _, _, _, _, _, _, _, _, _, _, _, _, _, _, _, _, _, _, _, _, _, _, _, _, _, _, _, _, _, _, rfl⟩, _, _, _, _, _, _, _, HF3.out, HH.out.2⟩⟩
  case pass0 =>
    intro hpass1
    rintro n0 a wr ⟨⟨u1, u2, u3, u4, u5, u6, u7, u8, u9, u10, u11, u12, u13, u14, u15, u16, u17, u18, u19, u20, u21, u22, u23, u24, u25, u26, u27, u28, u29, u30, u31, u32, u33, u34, u35, u36, u37, u38, u39, u40, u41, u42, u43, u44, rfl⟩, p, lev, ws, y, ay, cy, h, hM, hPt⟩
    have HP := Lib.hid hpass1
    have HM0 := Lib.hid (And.intro hM hPt)
    clear HM hM hPt hpass1
    dsimp only
    go_wp2_with fail
    go_loopg [4, 5] n0 (fun gh _ _ wx => gh ≤ n0 ∧ ∃ p lev ws y ay cy h, Mst w wx R B al cap L p lev ws y ay cy h ∧ Sx.Pt (toksOf L) gh p lev (ws.map toB) rr)
    case atStart => exact ⟨Nat.le_refl _, _, _, _, _, _, _, _, HM0.out.1, HM0.out.2⟩
    case round =>
      clear HM0
      obtain ⟨hgh, p, lev, ws, y, ay, cy, h, hM, hPt⟩ := hrel
      have hM2 := hM
      obtain ⟨S, wa, wc, hR, hG, hO, hp, hn, hl, hb⟩ := hM2
      generalize hW : ws.map toB = W at hPt
      cases hPt with
      | @opens n1 _ _ _ _ hi hP =>
        have cA := ahead14_open hR hp hL hn hl hi
        have hlt := toks_lt (Sx.isT_some hi)
        have HX := Lib.hid (And.intro cA (And.intro hM (And.intro hW (And.intro hP hb))))
        clear cA hM hW hP hR hG hO hb hi
        go_wp2_with fail
        refine HX.out.1.mono ?_
        rintro e w2 ⟨rfl, wa', wc', H2, ho2⟩
        have M2 := mst_step HX.out.2.1 H2 ho2 (by omega) (by rw [List.length_append]; simp; omega) (by omega) (fun b hm => by
          rw [List.mem_append, List.mem_singleton] at hm
          rcases hm with hm | rfl
          · exact HX.out.2.2.2.2 b hm
          · simp)
        have HF := Lib.hid M2
        clear H2 ho2 M2
        go_wp2_with fail
        go_roundg n1
        case measure => omega
        case rel => exact ⟨by omega, _, _, _, _, _, _, _, HF.out, by rw [List.map_append, HX.out.2.2.1]; exact HX.out.2.2.2.1⟩
      | @neg n1 _ _ _ _ hi h6 hP =>
        have cA := ahead14_neg hR hp hL hn h6 hi
        have hlt := toks_lt (Sx.isT_some hi)
        have HX := Lib.hid (And.intro cA (And.intro hM (And.intro hW (And.intro hP hb))))
        clear cA hM hW hP hR hG hO hb hi
        go_wp2_with fail
        refine HX.out.1.mono ?_
        rintro e w2 ⟨rfl, wa', wc', H2, ho2⟩
        have M2 := mst_step HX.out.2.1 H2 ho2 (by omega) (by rw [List.length_append]; simp; omega) (by omega) (fun b hm => by
          rw [List.mem_append, List.mem_singleton] at hm
          rcases hm with hm | rfl
          · exact HX.out.2.2.2.2 b hm
          · simp)
        have HF := Lib.hid M2
        clear H2 ho2 M2
        go_wp2_with fail
        go_roundg n1
        case measure => omega
        case rel => exact ⟨by omega, _, _, _, _, _, _, _, HF.out, by rw [List.map_append, HX.out.2.2.1]; exact HX.out.2.2.2.1⟩
      | @cond n1 _ _ _ hi hP =>
        have cA := ahead14_if hR hp hL hn hi
        have hlt := toks_lt (Sx.isT_some hi)
        have HX := Lib.hid (And.intro cA (And.intro hM (And.intro hW (And.intro hP hb))))
        clear cA hM hW hP hR hG hO hb hi
        go_wp2_with fail
        refine HX.out.1.mono ?_
        rintro e w2 ⟨rfl, wa', wc', H2, ho2⟩
        have M2 := mst_step HX.out.2.1 H2 ho2 (by omega) (by rw [List.length_append]; simp; omega) (by omega) (fun b hm => by
          rw [List.mem_append, List.mem_singleton] at hm
          rcases hm with hm | rfl
          · exact HX.out.2.2.2.2 b hm
          · simp)
        have HF := Lib.hid M2
        clear H2 ho2 M2
        go_wp2_with fail
        go_roundg n1
        case measure => omega
        case rel => exact ⟨by omega, _, _, _, _, _, _, _, HF.out, by rw [List.map_append, HX.out.2.2.1]; exact HX.out.2.2.2.1⟩
      | fails h1 h2 h3 hlf =>
        have cA := ahead14_no hR hp HL.out.1 h1 h2 h3
        have HX := Lib.hid (And.intro cA (And.intro hM (And.intro hR (And.intro hG hlf))))
        clear cA hM hR hG hO hb h1 h2 h3 hlf hW
        go_wp2_with fail
        refine HX.out.1.mono ?_
        rintro e w2 ⟨rfl, hb2⟩
        have cS := single14_no (rdP_below HX.out.2.2.1 hb2) (glob_below HX.out.2.2.2.1 hb2) hp HL.out.2 HX.out.2.2.2.2
        have HF := Lib.hid (And.intro (mst_below HX.out.2.1 hb2) cS)
        clear hb2 cS
        go_wp2_with fail
        refine HF.out.2.mono ?_
        rintro e w3 ⟨rfl, hb3⟩
        have HE := Lib.hid (mst_below HF.out.1 hb3)
        clear hb3
        go_wp2_with fail
        go_ret
        exact ⟨rfl, _, _, _, _, _, _, HE.out, fun x hx => by cases hx⟩
      | @leaf n1 _ _ _ _ x h1 h2 h3 hlf hB =>
        have cA := ahead14_no hR hp HL.out.1 h1 h2 h3
        have hlt := leafO_lt hlf
        have HX := Lib.hid (And.intro cA (And.intro hM (And.intro hR (And.intro hG (And.intro hlf (And.intro hW (And.intro hB hb)))))))
        clear cA hM hR hG hO hb h1 h2 h3 hlf hW hB
        go_wp2_with fail
        refine HX.out.1.mono ?_
        rintro e w2 ⟨rfl, hb2⟩
        have cS := single14_yes (rdP_below HX.out.2.2.1 hb2) (glob_below HX.out.2.2.2.1 hb2) hlt hL HL.out.2 HX.out.2.2.2.2.1
        have HF := Lib.hid (And.intro (mst_below HX.out.2.1 hb2) cS)
        clear hb2 cS
        go_wp2_with fail
        refine HF.out.2.mono ?_
        rintro e w3 ⟨rfl, wa3, wc3, H3, ho3⟩
        have M3 := mst_step HF.out.1 H3 ho3 (by omega) (by omega) hl HX.out.2.2.2.2.2.2.2
        have HE := Lib.hid M3
        clear H3 ho3 M3
        go_wp2_with fail
        go_step3
        rename_i hK
        exact hK _ _ (Code.wp_mono (exit2_mono (by omega)) (HP.out n1 _ _ ⟨⟨_, _, _, _, _, _, _, _, _, _, _, _, _, _, _, _, _, _, _, _, _, _, _, _, _, _, _, _, _, _, _, _, _, _, _, _, _, _, _, _, _, _, _, _, rfl⟩, _, _, _, _, _, _, _, HE.out, by rw [HX.out.2.2.2.2.2.1]; exact HX.out.2.2.2.2.2.2.1⟩))
end Go.Proofs.YtekahmlppaabjaaGreatDoor
