/-
  Layer 14, the program's: what begins ahead of its parts; a value or a name.
-/
import Derived.Test.YtekahmlppaabjaaGreatDoorZSynPr4
namespace Go.Proofs.YtekahmlppaabjaaGreatDoor
open Go.RowKit
open Sx (X toksOf isT)
/-- the listed variables, and that they lie below the reader -/
def Glob (w : World) (R : Nat) : Prop := Twos w ∧ ErrR w ∧ 0 < R ∧ 2 < R
theorem glob_only {F : Nat → Prop} {w w' : World} {R : Nat} (h : Glob w R) (ho : Only F w w') (hF : ∀ k, k < R → ¬ F k) : Glob w' R := by
  refine ⟨fun k h4 h15 => ?_, ?_, h.2.2⟩
  · obtain ⟨a, b⟩ := h.1 k h4 h15
    exact ⟨(ho.cell (World.block_lt_of_cell? _ _ a) (hF _ h.2.2.1)).trans a, (ho.cell (World.block_lt_of_cell? _ _ b) (hF _ h.2.2.1)).trans b⟩
  · obtain ⟨te, pe, e⟩ := h.2.1
    exact ⟨te, pe, (ho.cell (World.block_lt_of_cell? _ _ e) (hF _ h.2.2.2)).trans e⟩
theorem glob_below {w w' : World} {R : Nat} (h : Glob w R) (hb : Below w.heap.size w w') : Glob w' R := glob_only h (Only.of_none (F := fun _ => False) hb) fun _ _ h => h
theorem wb_empty (w : World) (B : Nat) (S : Nat → Prop) (op : Int) (lev : Nat) (ho : op = 0 ∨ op = 3 ∨ op = 16 ∨ (4 ≤ op ∧ op ≤ 15)) (hl : lev ≤ 7) : WbOk w B S ⟨op, lev, none, 0, []⟩ :=
  ⟨owL_nil _, fun y hy => (by cases hy), fun j e => (by cases e), ho, Nat.zero_le _, hl⟩
section
variable {w : World} {R B : Nat} {S : Nat → Prop} {al : Option Addr} {cap : Nat} {L : List Lx.T} {p lev : Nat} {wa : Option Addr} {wc : Nat} {ws : List Wb} {y : X} {ay : Option Addr} {cy h : Nat}
/-- what a step of the reader leaves -/
def Stp (w : World) (R B : Nat) (S : Nat → Prop) (al : Option Addr) (cap : Nat) (L : List Lx.T) (p lev : Nat) (ws : List Wb) (y : X) (ay : Option Addr) (cy h : Nat) (b : Bool) (e : Ending) (w' : World) : Prop :=
  e = .returned (.bool b) ∧ ∃ wa wc, RdP w' R B S al cap L p lev wa wc ws y ay cy h ∧ Only (fun k => k = R ∨ B ≤ k) w w'
theorem begin14_empty (H : RdP w R B S al cap L p lev wa wc ws y ay cy h) (hp : p ≤ 1000000000) (hn : ws.length ≤ 1000000) (op : Int) (ho : op = 0 ∨ op = 3 ∨ op = 16 ∨ (4 ≤ op ∧ op ≤ 15)) (hl : lev ≤ 7) (nl : Nat) :
    Calls Tryz.prog 65 #[.pointer (some ⟨R, 0, none⟩), .int .i64 op, .int .i64 (nl : Int), .slice none 0 0] w fun e w' => e = .returned (.tuple #[]) ∧ ∃ wa' wc', RdP w' R B S al cap L (p + 1) nl wa' wc' (ws ++ [⟨op, lev, none, 0, []⟩]) y ay cy h ∧ Only (fun k => k = R ∨ B ≤ k) w w' :=
  begin14_any H hp hn op none 0 [] (wb_empty w B S op lev ho hl) (fun b' _ j _ e => by cases e) nl
set_option maxRecDepth 100000 in
set_option maxHeartbeats 6400000 in
theorem ahead14_open (H : RdP w R B S al cap L p lev wa wc ws y ay cy h) (hp : p ≤ L.length) (hL : L.length ≤ 1000000) (hn : ws.length ≤ p) (hl : lev ≤ 7) (ht : isT (toksOf L p) 4 [40] = true) :
    Calls Tryz.prog 32 #[.pointer (some ⟨R, 0, none⟩)] w (Stp w R B S al cap L (p + 1) 0 (ws ++ [⟨0, lev, none, 0, []⟩]) y ay cy h true) := by
  have cW := word14_any (rdP_cells H).1 (rdP_cells H).2.1 H.toks hp
  rw [Sx.wd_is ht (.inr rfl)] at cW
  have HH := Lib.hid (And.intro H cW)
  clear H cW
  go_enter Tryz.func32, Tryz.ntmps32
  go_wp2_with fail
  refine HH.out.2.mono ?_
  rintro e w1 ⟨rfl, hb1⟩
  have H1 := rdP_below HH.out.1 hb1
  have HB := Lib.hid (And.intro hb1 (begin14_empty H1 (by omega) (by omega) 0 (.inl rfl) hl 0))
  clear hb1 H1
  go_wp2_with fail
  refine HB.out.2.mono ?_
  rintro e w2 ⟨rfl, wa', wc', H2, ho2⟩
  have HF := Lib.hid (And.intro H2 ((Only.of_none HB.out.1).more ho2))
  clear H2 ho2
  go_wp2_with fail
  go_ret
  exact ⟨rfl, _, _, HF.out.1, HF.out.2⟩
set_option maxRecDepth 100000 in
set_option maxHeartbeats 6400000 in
theorem ahead14_neg (H : RdP w R B S al cap L p lev wa wc ws y ay cy h) (hp : p ≤ L.length) (hL : L.length ≤ 1000000) (hn : ws.length ≤ p) (hl : lev ≤ 6) (ht : isT (toksOf L p) 4 [45] = true) :
    Calls Tryz.prog 32 #[.pointer (some ⟨R, 0, none⟩)] w (Stp w R B S al cap L (p + 1) 6 (ws ++ [⟨3, lev, none, 0, []⟩]) y ay cy h true) := by
  have cW := word14_any (rdP_cells H).1 (rdP_cells H).2.1 H.toks hp
  rw [Sx.wd_is ht (.inr rfl)] at cW
  have HH := Lib.hid (And.intro H cW)
  have t0 : ((lev : Nat) : Int) ≤ 6 := by omega
  clear H cW
  go_enter Tryz.func32, Tryz.ntmps32
  go_wp2_with fail
  refine HH.out.2.mono ?_
  rintro e w1 ⟨rfl, hb1⟩
  have H1 := rdP_below HH.out.1 hb1
  obtain ⟨-, -, c2, -, -⟩ := rdP_cells H1
  have HB := Lib.hid (And.intro hb1 (begin14_empty H1 (by omega) (by omega) 3 (.inr (.inl rfl)) (by omega) 6))
  clear hb1 H1
  go_wp2_with fail
  refine HB.out.2.mono ?_
  rintro e w2 ⟨rfl, wa', wc', H2, ho2⟩
  have HF := Lib.hid (And.intro H2 ((Only.of_none HB.out.1).more ho2))
  clear H2 ho2
  go_wp2_with fail
  go_ret
  exact ⟨rfl, _, _, HF.out.1, HF.out.2⟩
set_option maxRecDepth 100000 in
set_option maxHeartbeats 6400000 in
theorem ahead14_if (H : RdP w R B S al cap L p 0 wa wc ws y ay cy h) (hp : p ≤ L.length) (hL : L.length ≤ 1000000) (hn : ws.length ≤ p) (ht : isT (toksOf L p) 1 [105, 102] = true) :
    Calls Tryz.prog 32 #[.pointer (some ⟨R, 0, none⟩)] w (Stp w R B S al cap L (p + 1) 0 (ws ++ [⟨16, 0, none, 0, []⟩]) y ay cy h true) := by
  have cW := word14_any (rdP_cells H).1 (rdP_cells H).2.1 H.toks hp
  rw [Sx.wd_is ht (.inl rfl)] at cW
  have HH := Lib.hid (And.intro H cW)
  clear H cW
  go_enter Tryz.func32, Tryz.ntmps32
  go_wp2_with fail
  refine HH.out.2.mono ?_
  rintro e w1 ⟨rfl, hb1⟩
  have H1 := rdP_below HH.out.1 hb1
  obtain ⟨-, -, c2, -, -⟩ := rdP_cells H1
  have HB := Lib.hid (And.intro hb1 (begin14_empty H1 (by omega) (by omega) 16 (.inr (.inr (.inl rfl))) (by omega) 0))
  clear hb1 H1
  go_wp2_with fail
  refine HB.out.2.mono ?_
  rintro e w2 ⟨rfl, wa', wc', H2, ho2⟩
  have HF := Lib.hid (And.intro H2 ((Only.of_none HB.out.1).more ho2))
  clear H2 ho2
  go_wp2_with fail
  go_ret
  exact ⟨rfl, _, _, HF.out.1, HF.out.2⟩
set_option maxRecDepth 100000 in
set_option maxHeartbeats 6400000 in
theorem ahead14_no (H : RdP w R B S al cap L p lev wa wc ws y ay cy h) (hp : p ≤ L.length) (hr : ∀ t ∈ L, Lx.right t) (h1 : isT (toksOf L p) 4 [40] = false) (h2 : isT (toksOf L p) 4 [45] = false ∨ 6 < lev) (h3 : isT (toksOf L p) 1 [105, 102] = false ∨ 0 < lev) :
    Calls Tryz.prog 32 #[.pointer (some ⟨R, 0, none⟩)] w fun e w' => e = .returned (.bool false) ∧ Below w.heap.size w w' := by
  have cW := word14_any (rdP_cells H).1 (rdP_cells H).2.1 H.toks hp
  have n1 := Sx.wd_not hr h1 (.inr ⟨rfl, by decide⟩)
  by_cases e2 : isT (toksOf L p) 4 [45] = true
  · rw [Sx.wd_is e2 (.inr rfl)] at cW
    have h6 : 6 < lev := h2.resolve_left (by rw [e2]; decide)
    have t0 : ¬ ((lev : Nat) : Int) ≤ 6 := by omega
    have HH := Lib.hid (And.intro H cW)
    clear H cW n1 e2 h1 h2 h3
    go_enter Tryz.func32, Tryz.ntmps32
    go_wp2_with fail
    refine HH.out.2.mono ?_
    rintro e w1 ⟨rfl, hb1⟩
    have H1 := rdP_below HH.out.1 hb1
    obtain ⟨-, -, c2, -, -⟩ := rdP_cells H1
    have HB := Lib.hid hb1
    clear hb1 H1
    go_wp2_with fail
    go_ret
    exact ⟨rfl, HB.out⟩
  · have n2 := Sx.wd_not hr (by simpa using e2) (.inr ⟨rfl, by decide⟩)
    by_cases e3 : isT (toksOf L p) 1 [105, 102] = true
    · rw [Sx.wd_is e3 (.inl rfl)] at cW
      have h0 : 0 < lev := h3.resolve_left (by rw [e3]; decide)
      have t0 : (((lev : Nat) : Int) == 0) = false := by simp; omega
      have HH := Lib.hid (And.intro H cW)
      clear H cW n1 n2 e2 e3 h1 h2 h3
      go_enter Tryz.func32, Tryz.ntmps32
      go_wp2_with fail
      refine HH.out.2.mono ?_
      rintro e w1 ⟨rfl, hb1⟩
      have H1 := rdP_below HH.out.1 hb1
      obtain ⟨-, -, c2, -, -⟩ := rdP_cells H1
      have HB := Lib.hid hb1
      clear hb1 H1
      go_wp2_with fail
      go_ret
      exact ⟨rfl, HB.out⟩
    · have n3 := Sx.wd_not hr (by simpa using e3) (.inl ⟨rfl, by decide, by decide⟩)
      have t1 := res_ne n1
      have t2 := res_ne n2
      have t3 := res_ne n3
      generalize Sx.wd L p = s at *
      have HH := Lib.hid (And.intro H cW)
      clear H cW n1 n2 n3 e2 e3 h1 h2 h3
      go_enter Tryz.func32, Tryz.ntmps32
      go_wp2_with fail
      refine HH.out.2.mono ?_
      rintro e w1 ⟨rfl, hb1⟩
      have HB := Lib.hid hb1
      clear hb1
      go_wp2_with fail
      go_ret
      exact ⟨rfl, HB.out⟩
theorem leaf_flat {t : Lx.T} {x : X} (h : Sx.leaf t = some x) : x.l = [] := by
  unfold Sx.leaf at h
  repeat' split at h
  all_goals first | (cases h; rfl) | (cases h)
theorem leaf_tok (L : List Lx.T) (p : Nat) : Sx.leaf (Sx.tokAt L p) = Sx.leafO (toksOf L p) := by
  unfold Sx.tokAt toksOf Sx.leafO
  cases L[p]? with
  | none => rfl
  | some t => rfl
theorem xat_flat (w : World) (S : Nat → Prop) {x : X} (h : x.l = []) (a : Option Addr) : XAt w S x a := by
  obtain ⟨_, _, _, l⟩ := x
  rw [XAt]; exact .inl h
theorem tokAt_size {L : List Lx.T} (hL : ∀ t ∈ L, t.s.size ≤ 1000000) (p : Nat) : (Sx.tokAt L p).s.size ≤ 1000000 := by
  unfold Sx.tokAt
  cases hp : L[p]? with
  | none => exact Nat.zero_le _
  | some t => exact hL t (List.mem_of_getElem? hp)
theorem rdP_single (H : RdP w R B S al cap L p lev wa wc ws y ay cy h) (xo xk xn : Int) (xvs xs : ByteArray) :
    RdP ((((((((w.setCell ⟨R, 1, none⟩ (.int .i64 ((p : Int) + 1))).setCell ⟨R, 4, none⟩ (.int .i64 xo)).setCell ⟨R, 5, none⟩ (.int .i64 xk)).setCell ⟨R, 6, none⟩ (.int .i64 xn)).setCell ⟨R, 7, none⟩ (.string xvs)).setCell ⟨R, 8, none⟩ (.string xs)).setCell ⟨R, 9, none⟩ (.slice none 0 0)).setCell ⟨R, 10, none⟩ (.int .i64 7)) R B S al cap L (p + 1) lev wa wc ws (.mk xo ⟨xk, xn, xvs⟩ xs []) none 0 7 ∧
    Only (fun k => k = R) w ((((((((w.setCell ⟨R, 1, none⟩ (.int .i64 ((p : Int) + 1))).setCell ⟨R, 4, none⟩ (.int .i64 xo)).setCell ⟨R, 5, none⟩ (.int .i64 xk)).setCell ⟨R, 6, none⟩ (.int .i64 xn)).setCell ⟨R, 7, none⟩ (.string xvs)).setCell ⟨R, 8, none⟩ (.string xs)).setCell ⟨R, 9, none⟩ (.slice none 0 0)).setCell ⟨R, 10, none⟩ (.int .i64 7)) := by
  have hr := rowV_stored (rowV_stored (rowV_stored (rowV_stored (rowV_stored (rowV_stored (rowV_stored (rowV_stored H.row 1 (.int .i64 ((p : Int) + 1))) 4 (.int .i64 xo)) 5 (.int .i64 xk)) 6 (.int .i64 xn)) 7 (.string xvs)) 8 (.string xs)) 9 (.slice none 0 0)) 10 (.int .i64 7)
  have ho : Only (fun k => k = R) w _ := ((((((((Only.refl (fun k => k = R) w).setCell (g := R) (i := 1) (fun _ => rfl) (.int .i64 ((p : Int) + 1))).setCell (g := R) (i := 4) (fun _ => rfl) (.int .i64 xo)).setCell (g := R) (i := 5) (fun _ => rfl) (.int .i64 xk)).setCell (g := R) (i := 6) (fun _ => rfl) (.int .i64 xn)).setCell (g := R) (i := 7) (fun _ => rfl) (.string xvs)).setCell (g := R) (i := 8) (fun _ => rfl) (.string xs)).setCell (g := R) (i := 9) (fun _ => rfl) (.slice none 0 0)).setCell (g := R) (i := 10) (fun _ => rfl) (.int .i64 7)
  exact ⟨rdP_own H ho hr (xat_flat _ _ rfl _), ho⟩
set_option maxRecDepth 100000 in
set_option maxHeartbeats 6400000 in
theorem single14_yes (H : RdP w R B S al cap L p lev wa wc ws y ay cy h) (hG : Glob w R) (hp : p < L.length) (hL : L.length ≤ 1000000) (hs : ∀ t ∈ L, t.s.size ≤ 1000000) {x : X} (hx : Sx.leafO (toksOf L p) = some x) :
    Calls Tryz.prog 33 #[.pointer (some ⟨R, 0, none⟩)] w (Stp w R B S al cap L (p + 1) lev ws x none 0 7 true) := by
  have cT := token14_any (rdP_cells H).1 (rdP_cells H).2.1 H.toks (Nat.le_of_lt hp)
  have cS := fun wx hE => singleOf14_any (Sx.tokAt L p) (tokAt_size hs p) wx hE
  rw [leaf_tok, hx] at cS
  generalize Sx.tokAt L p = t at *
  have hxl : x.l = [] := by
    unfold Sx.leafO at hx
    cases ht : toksOf L p with
    | none => rw [ht] at hx; cases hx
    | some u => rw [ht] at hx; exact leaf_flat hx
  have hwr : IntKind.i64.wrap ((p : Int) + 1) = (p : Int) + 1 := IntWalk.i64_in _ (by omega)
  obtain ⟨xo, ⟨xk, xn, xvs⟩, xs, xl⟩ := x
  obtain rfl : xl = [] := hxl
  have HH := Lib.hid (And.intro H (And.intro hG (And.intro cT cS)))
  clear H hG cT cS hx
  go_enter Tryz.func33, Tryz.ntmps33
  go_wp2_with fail
  refine HH.out.2.2.1.mono ?_
  rintro e w1 ⟨rfl, hb1⟩
  have HB := Lib.hid (And.intro hb1 (HH.out.2.2.2 w1 (glob_below HH.out.2.1 hb1).2.1))
  clear hb1
  go_wp2_with fail
  refine HB.out.2.mono ?_
  rintro e w2 ⟨rfl, hb2⟩
  have hb3 := HB.out.1.trans (hb2.mono HB.out.1.size)
  have hX : RowV (w2.alloc (.cells #[.int .i64 xo, .int .i64 xk, .int .i64 xn, .string xvs, .string xs, .slice none 0 0] 29)) w2.heap.size 29 (xC (.mk xo ⟨xk, xn, xvs⟩ xs []) none 0).toList ∧ Below w2.heap.size w2 (w2.alloc (.cells #[.int .i64 xo, .int .i64 xk, .int .i64 xn, .string xvs, .string xs, .slice none 0 0] 29)) ∧ (w2.alloc (.cells #[.int .i64 xo, .int .i64 xk, .int .i64 xn, .string xvs, .string xs, .slice none 0 0] 29)).heap.size = w2.heap.size + 1 := x_new (.mk xo ⟨xk, xn, xvs⟩ xs []) none 0 w2
  have H3 := rdP_below (rdP_below HH.out.1 hb3) hX.2.1
  obtain ⟨-, c1, -, -, -⟩ := rdP_cells H3
  have ice := rdP_ice H3
  have i1 := ice 1; have i4 := ice 4; have i5 := ice 5; have i6 := ice 6; have i7 := ice 7; have i8 := ice 8; have i9 := ice 9; have i10 := ice 10
  obtain ⟨z4, z5, z6, z7, z8, z9⟩ := rdP_xcells H3
  have z10 := (rdP_cells H3).2.2.2.2
  obtain ⟨e0, e1, e2, e3, e4, e5⟩ := x_cells hX.1
  simp only [Nat.zero_add] at e0 e1 e2 e3 e4 e5
  have hlt : R < w2.heap.size := Nat.lt_of_lt_of_le (rowV_lt HH.out.1.row) hb3.size
  have hne : ¬ R = w2.heap.size := by omega
  have HX := Lib.hid (And.intro hb3 (And.intro hX.2.1 H3))
  clear hb2 hb3 hX H3 ice
  go_upto_region 2 with (fail)
  generalize hws : World.alloc w2 _ = w3 at *
  go_wp2_with fail
  go_ret
  have hf := rdP_single HX.out.2.2 xo xk xn xvs xs
  exact ⟨rfl, _, _, hf.1, ((Only.of_none (HX.out.1.trans (HX.out.2.1.mono HX.out.1.size))).trans hf.2 fun k _ e => .inl e)⟩
set_option maxRecDepth 100000 in
set_option maxHeartbeats 6400000 in
theorem single14_no (H : RdP w R B S al cap L p lev wa wc ws y ay cy h) (hG : Glob w R) (hp : p ≤ L.length) (hs : ∀ t ∈ L, t.s.size ≤ 1000000) (hx : Sx.leafO (toksOf L p) = none) :
    Calls Tryz.prog 33 #[.pointer (some ⟨R, 0, none⟩)] w fun e w' => e = .returned (.bool false) ∧ Below w.heap.size w w' := by
  have cT := token14_any (rdP_cells H).1 (rdP_cells H).2.1 H.toks hp
  have cS := fun wx hE => singleOf14_any (Sx.tokAt L p) (tokAt_size hs p) wx hE
  rw [leaf_tok, hx] at cS
  generalize Sx.tokAt L p = t at *
  have HH := Lib.hid (And.intro hG (And.intro cT cS))
  clear H hG cT cS hx
  go_enter Tryz.func33, Tryz.ntmps33
  go_wp2_with fail
  refine HH.out.2.1.mono ?_
  rintro e w1 ⟨rfl, hb1⟩
  have HB := Lib.hid (And.intro hb1 (HH.out.2.2 w1 (glob_below HH.out.1 hb1).2.1))
  clear hb1
  go_wp2_with fail
  refine HB.out.2.mono ?_
  rintro e w2 ⟨rfl, hb2⟩
  have hb3 := HB.out.1.trans (hb2.mono HB.out.1.size)
  have HX := Lib.hid (hb3.trans ((no_new w2).2.1.mono hb3.size))
  clear hb2 hb3
  go_wp2_with fail
  go_ret
  exact ⟨rfl, HX.out⟩
end
end Go.Proofs.YtekahmlppaabjaaGreatDoor
