/-
  Layer 14, the program's: the reader in memory, with what waits; an op that begins to wait.
-/
import Derived.Test.YtekahmlppaabjaaGreatDoorZSynPr3
import Derived.Test.YtekahmlppaabjaaGreatDoorPk4
import Derived.Test.YtekahmlppaabjaaGreatDoorPk3
import Derived.Test.YtekahmlppaabjaaGreatDoorZSynRd4
namespace Go.Proofs.YtekahmlppaabjaaGreatDoor
open Go.RowKit
open Sx (X toksOf isT)
/-- an expression with where its list lies -/
abbrev Part14 := X × Option Addr × Nat
abbrev fX (y : Part14) : List Value := (xC y.1 y.2.1 y.2.2).toList
/-- an op that waits, in memory: its parts l, where they lie -/
structure Wb where
  op : Int
  lev : Nat
  a : Option Addr
  c : Nat
  l : List Part14
abbrev Wb.v (b : Wb) : Value := .slice b.a b.l.length b.c
abbrev fB (b : Wb) : List Value := [.int .i64 b.op, .slice b.a b.l.length b.c, .int .i64 (b.lev : Int)]
def toB (b : Wb) : Sx.B := ⟨b.op, b.l.map (·.1), b.lev⟩
theorem expr_parts : (Tryz.prog.info? 29).map (fun i => (i.zero, i.size, i.bytes)) = some (some (.agg #[.int .i64 0, .int .i64 0, .int .i64 0, .string ⟨#[]⟩, .string ⟨#[]⟩, .slice none 0 0]), 6, 80) := by kernel_rfl
theorem expr_elem : ElemOk Tryz.prog 29 6 80 := elemOk_of expr_parts rfl (by decide) (by decide)
theorem fX_one (y : Part14) : ∀ u ∈ fX y, u.oneCell' = true := by intro u hu; simp [fX] at hu; rcases hu with rfl | rfl | rfl | rfl | rfl | rfl <;> rfl
theorem begun_parts : (Tryz.prog.info? 77).map (fun i => (i.zero, i.size, i.bytes)) = some (some (.agg #[.int .i64 0, .slice none 0 0, .int .i64 0]), 3, 40) := by kernel_rfl
theorem begun_elem : ElemOk Tryz.prog 77 3 40 := elemOk_of begun_parts rfl (by decide) (by decide)
theorem fB_one (b : Wb) : ∀ u ∈ fB b, u.oneCell' = true := by intro u hu; simp [fB] at hu; rcases hu with rfl | rfl | rfl <;> rfl
/-- rows of unlike types lie apart -/
theorem owns_apart14 {w : World} {B B' n m E E' s s' : Nat} {v u : Value} {xs ys : List Value} (hE : E ≠ E') (h1 : w.ownsRow B E s v n xs) (h2 : w.ownsRow B' E' s' u m ys) : ∀ k, u.ownBlock = some k → ¬ v.ownBlock = some k := by
  intro k hu hv
  rcases h1.2 with ⟨rfl, _⟩ | ⟨g, cap, cur, rfl, _, hh, _⟩
  · cases hv
  · rcases h2.2 with ⟨rfl, _⟩ | ⟨g', cap', cur', rfl, _, hh', _⟩
    · cases hu
    · have e1 : g = k := by simpa [Value.ownBlock] using hv
      have e2 : g' = k := by simpa [Value.ownBlock] using hu
      subst e1 e2
      rw [hh] at hh'
      simp at hh'
      exact hE hh'.2
theorem expr_begun : (29 : Nat) ≠ 77 := by decide
/-- what waits is well, in memory; S: the blocks of what was read -/
def WbOk (w : World) (B : Nat) (S : Nat → Prop) (b : Wb) : Prop :=
  OwL fX 29 6 w B b.v b.l ∧ (∀ y ∈ b.l, XAt w S y.1 y.2.1) ∧ (∀ j, b.v.ownBlock = some j → ¬ S j) ∧ (b.op = 0 ∨ b.op = 3 ∨ b.op = 16 ∨ (4 ≤ b.op ∧ b.op ≤ 15)) ∧ b.l.length ≤ 3 ∧ b.lev ≤ 7
abbrev rdC (al : Option Addr) (ll cap p lev : Nat) (wa : Option Addr) (wn wc : Nat) (y : X) (ay : Option Addr) (cy h : Nat) : List Value :=
  [.slice al ll cap, .int .i64 (p : Int), .int .i64 (lev : Int), .slice wa wn wc, .int .i64 y.op, .int .i64 y.v.kind, .int .i64 y.v.n, .string y.v.s, .string y.s, .slice ay y.l.length cy, .int .i64 (h : Int)]
structure RdP (w : World) (R B : Nat) (S : Nat → Prop) (al : Option Addr) (cap : Nat) (L : List Lx.T) (p lev : Nat) (wa : Option Addr) (wc : Nat) (ws : List Wb) (y : X) (ay : Option Addr) (cy h : Nat) : Prop where
  row : RowV w R 56 (rdC al L.length cap p lev wa ws.length wc y ay cy h)
  toks : ReadsT13 w al L
  wts : OwL fB 77 3 w B (.slice wa ws.length wc) ws
  oks : ∀ b ∈ ws, WbOk w B S b
  sep : ws.Pairwise (fun b c => ∀ j, b.v.ownBlock = some j → ¬ c.v.ownBlock = some j)
  part : XAt w S y ay
  lt : R < B
  hB : B ≤ w.heap.size
  alR : L = [] ∨ ∀ b, al = some b → b.block < R
  hS : ∀ j, S j → B ≤ j ∧ j < w.heap.size
  sepW : ∀ j, (Value.slice wa ws.length wc).ownBlock = some j → ¬ S j
  um : ∀ j, S j → ∃ cs T, w.heap[j]? = some (.cells cs T (0, 0))
/-- an unmarked row stays so -/
theorem um_only {F : Nat → Prop} {w w' : World} {j : Nat} (ho : Only F w w') (h : ∃ cs T, w.heap[j]? = some (.cells cs T (0, 0))) (hn : ¬ F j) : ∃ cs T, w'.heap[j]? = some (.cells cs T (0, 0)) := by
  obtain ⟨cs, T, h⟩ := h
  exact ⟨cs, T, (ho.block j (Array.getElem?_eq_some_iff.1 h).1 hn).trans h⟩
section
variable {w w' : World} {R B : Nat} {S : Nat → Prop} {al : Option Addr} {cap : Nat} {L : List Lx.T} {p lev : Nat} {wa : Option Addr} {wc : Nat} {ws : List Wb} {y : X} {ay : Option Addr} {cy h : Nat}
theorem wbOk_only {F : Nat → Prop} {b : Wb} (hk : WbOk w B S b) (ho : Only F w w') (hn : ∀ j, b.v.ownBlock = some j → ¬ F j) (hS : ∀ j, S j → ¬ F j) : WbOk w' B S b :=
  ⟨owL_only hk.1 ho hn, fun y hy => xat_only ho hS _ _ (hk.2.1 y hy), hk.2.2⟩
theorem wbOk_below {b : Wb} (hk : WbOk w B S b) (hb : Below w.heap.size w w') : WbOk w' B S b := wbOk_only hk (Only.of_none (F := fun _ => False) hb) (fun _ _ h => h) fun _ _ h => h
theorem toks_only {F : Nat → Prop} (hT : ReadsT13 w al L) (ha : L = [] ∨ ∀ b, al = some b → b.block < R) (ho : Only F w w') (hF : ∀ k, k < R → ¬ F k) : ReadsT13 w' al L := by
  rcases ha with e | e
  · subst e; exact readsT13_none _ _
  · exact readsT13_only hT ho fun b hb => hF _ (e b hb)
theorem rdP_below (H : RdP w R B S al cap L p lev wa wc ws y ay cy h) (hb : Below w.heap.size w w') : RdP w' R B S al cap L p lev wa wc ws y ay cy h :=
  ⟨rowV_below H.row hb (rowV_lt H.row), readsT13_below H.toks hb, owL_below H.wts hb, fun b hm => wbOk_below (H.oks b hm) hb, H.sep, xat_below H.part hb, H.lt, Nat.le_trans H.hB hb.size, H.alR, fun j hj => ⟨(H.hS j hj).1, Nat.lt_of_lt_of_le (H.hS j hj).2 hb.size⟩, H.sepW, fun j hj => um_only (Only.of_none (F := fun _ => False) hb) (H.um j hj) fun h => h⟩
/-- only the reader's own cells were written -/
theorem rdP_own (H : RdP w R B S al cap L p lev wa wc ws y ay cy h) (ho : Only (fun k => k = R) w w') {p' lev' h' : Nat} {y' : X} {ay' : Option Addr} {cy' : Nat} (hr : RowV w' R 56 (rdC al L.length cap p' lev' wa ws.length wc y' ay' cy' h')) (hx : XAt w S y' ay') : RdP w' R B S al cap L p' lev' wa wc ws y' ay' cy' h' := by
  have hlt := H.lt
  have hown := fun (v : Value) (E k : Nat) (l : List Value) (n : Nat) (ho : w.ownsRow B E k v n l) => fun j (e : v.ownBlock = some j) => (show ¬ j = R by have := (World.ownsRow.lt ho j e).1; omega)
  exact ⟨hr, toks_only H.toks H.alR ho (fun k hk e => by have e2 : k = R := e; omega), owL_only H.wts ho (fun j e => hown _ _ _ _ _ H.wts j e), fun b hm => wbOk_only (H.oks b hm) ho (fun j e => hown _ _ _ _ _ (H.oks b hm).1 j e) (fun j hj e => by have e2 : j = R := e; have := (H.hS j hj).1; omega), H.sep, xat_only ho (fun j hj e => by have e2 : j = R := e; have := (H.hS j hj).1; omega) _ _ hx, H.lt, Nat.le_trans H.hB ho.size, H.alR, fun j hj => ⟨(H.hS j hj).1, Nat.lt_of_lt_of_le (H.hS j hj).2 ho.size⟩, H.sepW, fun j hj => um_only ho (H.um j hj) fun e => by have e2 : j = R := e; have := (H.hS j hj).1; omega⟩
theorem rdP_cells (H : RdP w R B S al cap L p lev wa wc ws y ay cy h) : w.cell? ⟨R, 0, none⟩ = some (.slice al L.length cap) ∧ w.cell? ⟨R, 1, none⟩ = some (.int .i64 (p : Int)) ∧ w.cell? ⟨R, 2, none⟩ = some (.int .i64 (lev : Int)) ∧ w.cell? ⟨R, 3, none⟩ = some (.slice wa ws.length wc) ∧ w.cell? ⟨R, 10, none⟩ = some (.int .i64 (h : Int)) :=
  ⟨rowV_cell H.row 0, rowV_cell H.row 1, rowV_cell H.row 2, rowV_cell H.row 3, rowV_cell H.row 10⟩
theorem rdP_xcells (H : RdP w R B S al cap L p lev wa wc ws y ay cy h) : w.cell? ⟨R, 4, none⟩ = some (.int .i64 y.op) ∧ w.cell? ⟨R, 5, none⟩ = some (.int .i64 y.v.kind) ∧ w.cell? ⟨R, 6, none⟩ = some (.int .i64 y.v.n) ∧ w.cell? ⟨R, 7, none⟩ = some (.string y.v.s) ∧ w.cell? ⟨R, 8, none⟩ = some (.string y.s) ∧ w.cell? ⟨R, 9, none⟩ = some (.slice ay y.l.length cy) :=
  ⟨rowV_cell H.row 4, rowV_cell H.row 5, rowV_cell H.row 6, rowV_cell H.row 7, rowV_cell H.row 8, rowV_cell H.row 9⟩
theorem rdP_ice (H : RdP w R B S al cap L p lev wa wc ws y ay cy h) : ∀ i, w.frozen? ⟨R, i, none⟩ = false := rowV_frozen H.row
/-- one more waits -/
theorem rdP_more {w1 w2 w6 wz : World} (H : RdP w R B S al cap L p lev wa wc ws y ay cy h) (b : Wb) (hb : WbOk w B S b) (hsep : ∀ b' ∈ ws, ∀ j, b'.v.ownBlock = some j → ¬ b.v.ownBlock = some j)
    (h1 : Only (fun k => k = R) w w1) (h2 : Below w1.heap.size w1 w2) {g cp : Nat} (hown : OwL fB 77 3 w6 B (.slice (some ⟨g, 0, none⟩) (ws.length + 1) cp) (ws ++ [b])) (h6 : Only (fun j => (Value.slice wa ws.length wc).ownBlock = some j) w2 w6) (hg : (Value.slice wa ws.length wc).ownBlock = some g ∨ g = w2.heap.size)
    (hz : Only (fun k => k = R) w6 wz) {p' lev' : Nat} (hr : RowV wz R 56 (rdC al L.length cap p' lev' (some ⟨g, 0, none⟩) (ws.length + 1) cp y ay cy h)) :
    RdP wz R B S al cap L p' lev' (some ⟨g, 0, none⟩) cp (ws ++ [b]) y ay cy h ∧ Only (fun k => k = R ∨ B ≤ k) w wz := by
  have hlt := H.lt
  have s1 := h1.size
  have s2 := h2.size
  have s6 := h6.size
  have sz := hz.size
  have hB := H.hB
  have hwl := owL_lt H.wts
  -- what the four steps together turn
  have hall : Only (fun k => k = R ∨ (Value.slice wa ws.length wc).ownBlock = some k) w wz :=
    ((((h1.mono fun k _ e => .inl e).trans (Only.of_none h2) fun _ _ x => x).trans h6 fun k _ e => .inr e).trans hz fun k _ e => .inl e)
  have hnS : ∀ j, S j → ¬ (j = R ∨ (Value.slice wa ws.length wc).ownBlock = some j) := fun j hj e => by
    rcases e with e | e
    · have := (H.hS j hj).1; omega
    · exact H.sepW j e hj
  have hnB : ∀ b' : Wb, WbOk w B S b' → ∀ j, b'.v.ownBlock = some j → ¬ (j = R ∨ (Value.slice wa ws.length wc).ownBlock = some j) := fun b' hk j e hh => by
    rcases hh with hh | hh
    · have := (owL_lt hk.1 j e).1; omega
    · exact owns_apart14 expr_begun hk.1 H.wts j hh e
  have hown2 : OwL fB 77 3 wz B (.slice (some ⟨g, 0, none⟩) (ws.length + 1) cp) (ws ++ [b]) := owL_only hown hz fun j e => by have := (owL_lt hown j e).1; omega
  have hlen : (ws ++ [b]).length = ws.length + 1 := by simp
  refine ⟨⟨by rw [hlen]; exact hr, toks_only H.toks H.alR hall fun k hk e => ?_, by rw [hlen]; exact hown2, fun b' hm => ?_, ?_, xat_only hall hnS _ _ H.part, hlt, Nat.le_trans hB hall.size, H.alR, fun j hj => ⟨(H.hS j hj).1, Nat.lt_of_lt_of_le (H.hS j hj).2 hall.size⟩, fun j e hj => ?_, fun j hj => um_only hall (H.um j hj) (hnS j hj)⟩, hall.mono fun k hk e => ?_⟩
  · rcases e with e | e
    · omega
    · have := (hwl k e).1; omega
  · rw [List.mem_append, List.mem_singleton] at hm
    rcases hm with hm | rfl
    · exact wbOk_only (H.oks b' hm) hall (hnB b' (H.oks b' hm)) hnS
    · exact wbOk_only hb hall (hnB b' hb) hnS
  · rw [List.pairwise_append]
    exact ⟨H.sep, List.pairwise_singleton _ _, fun b' hm c hc => by rw [List.mem_singleton] at hc; subst hc; exact hsep b' hm⟩
  · rw [hlen] at e
    have e2 : g = j := by simpa [Value.ownBlock] using e
    subst e2
    rcases hg with hg | hg
    · exact H.sepW _ hg hj
    · have := (H.hS _ hj).2; omega
  · rcases e with e | e
    · exact .inl e
    · exact .inr (hwl k e).1
end
theorem begun_new (b : Wb) (w : World) : Below w.heap.size w (w.alloc (.cells #[.int .i64 b.op, .slice b.a b.l.length b.c, .int .i64 (b.lev : Int)] 77)) ∧ RowV (w.alloc (.cells #[.int .i64 b.op, .slice b.a b.l.length b.c, .int .i64 (b.lev : Int)] 77)) w.heap.size 77 (fB b) ∧ (w.alloc (.cells #[.int .i64 b.op, .slice b.a b.l.length b.c, .int .i64 (b.lev : Int)] 77)).heap.size = w.heap.size + 1 :=
  ⟨(Below.refl w.heap.size w).alloc (Nat.le_refl _) _, rowV_new w _ (fB b), World.size_alloc _ _⟩
-- begin, by program
set_option maxRecDepth 100000 in
set_option maxHeartbeats 6400000 in
theorem begin14_any {w : World} {R B : Nat} {S : Nat → Prop} {al : Option Addr} {cap : Nat} {L : List Lx.T} {p lev : Nat} {wa : Option Addr} {wc : Nat} {ws : List Wb} {y : X} {ay : Option Addr} {cy h : Nat} (H : RdP w R B S al cap L p lev wa wc ws y ay cy h) (hp : p ≤ 1000000000) (hn : ws.length ≤ 1000000) (bop : Int) (ba : Option Addr) (bc : Nat) (bl : List Part14)
    (hb : WbOk w B S ⟨bop, lev, ba, bc, bl⟩) (hsep : ∀ b' ∈ ws, ∀ j, b'.v.ownBlock = some j → ¬ (Value.slice ba bl.length bc).ownBlock = some j) (nl : Nat) :
    Calls Tryz.prog 65 #[.pointer (some ⟨R, 0, none⟩), .int .i64 bop, .int .i64 (nl : Int), .slice ba bl.length bc] w fun e w' => e = .returned (.tuple #[]) ∧ ∃ wa' wc', RdP w' R B S al cap L (p + 1) nl wa' wc' (ws ++ [⟨bop, lev, ba, bc, bl⟩]) y ay cy h ∧ Only (fun k => k = R ∨ B ≤ k) w w' := by
  have hwr : IntKind.i64.wrap ((p : Int) + 1) = (p : Int) + 1 := IntWalk.i64_in _ (by omega)
  have HH := Lib.hid (And.intro H (And.intro hb hsep))
  obtain ⟨-, c1, c2, c3, -⟩ := rdP_cells H
  have ice := rdP_ice H
  have i1 := ice 1
  have hlt := H.lt
  have hB := H.hB
  have hown := Lib.hid H.wts
  clear H hb hsep ice
  generalize hbn : bl.length = bn at *
  generalize hwn : ws.length = n at *
  go_enter Tryz.func65, Tryz.ntmps65
  go_wp2_with fail
  have hr1 := rowV_stored HH.out.1.row 1 (.int .i64 ((p : Int) + 1))
  have ho1 : Only (fun k => k = R) w (w.setCell ⟨R, 1, none⟩ (.int .i64 ((p : Int) + 1))) := Only.setCell (F := fun k => k = R) (Only.refl _ _) (fun _ => rfl) _
  generalize hw1 : World.setCell _ _ _ = w1 at *
  have k2 : w1.drew.cell? ⟨R, 2, none⟩ = some (.int .i64 (lev : Int)) := rowV_cell hr1 2
  have k3 : w1.drew.cell? ⟨R, 3, none⟩ = some (.slice wa n wc) := by have := rowV_cell hr1 3; rw [← hwn]; exact this
  have H1 := Lib.hid (And.intro hr1 ho1)
  clear hr1 ho1 hw1 c1 c2 c3 i1 hwr
  refine wp_region_plan (S := fun wx => wx.cell? ⟨R, 2, none⟩ = some (.int .i64 (lev : Int)) ∧ wx.cell? ⟨R, 3, none⟩ = some (.slice wa n wc)) 14 [(true, 0), (true, 1), (true, 2), (true, 3), (true, 4), (true, 5), (true, 6), (true, 7), (true, 8), (true, 9), (true, 10), (true, 11), (false, 12), (false, 13)] (by kernel_rfl) (fun _ d _ _ _ h => by cases d <;> exact h) (by kernel_rfl) ⟨k2, k3⟩ ?_
  refine wpPlan_step (i := 0) rfl ⟨(.pointer (some ⟨R, 0, none⟩)), ⟨by rfl, fun wx hSx => ?_⟩, ?_⟩
  · obtain ⟨z2, z3⟩ := hSx
    go_simp
  simp only [Act.put, List.setIfInBounds_toArray, List.set_cons_zero, List.set_cons_succ]
  refine wpPlan_step (i := 1) rfl ⟨(.pointer (some ⟨R, 0, none⟩)), ⟨by rfl, fun wx hSx => ?_⟩, ?_⟩
  · obtain ⟨z2, z3⟩ := hSx
    go_simp
  simp only [Act.put, List.setIfInBounds_toArray, List.set_cons_zero, List.set_cons_succ]
  refine wpPlan_step (i := 2) rfl ⟨(.pointer (some ⟨R, 0, none⟩)), ⟨by rfl, fun wx hSx => ?_⟩, ?_⟩
  · obtain ⟨z2, z3⟩ := hSx
    go_simp
  simp only [Act.put, List.setIfInBounds_toArray, List.set_cons_zero, List.set_cons_succ]
  refine wpPlan_step (i := 3) rfl ⟨(.pointer (some ⟨R, 3, none⟩)), ⟨by rfl, fun wx hSx => ?_⟩, ?_⟩
  · obtain ⟨z2, z3⟩ := hSx
    go_simp
  simp only [Act.put, List.setIfInBounds_toArray, List.set_cons_zero, List.set_cons_succ]
  refine wpPlan_step (i := 4) rfl ⟨(.slice wa n wc), ⟨by rfl, fun wx hSx => ?_⟩, ?_⟩
  · obtain ⟨z2, z3⟩ := hSx
    go_simp
  simp only [Act.put, List.setIfInBounds_toArray, List.set_cons_zero, List.set_cons_succ]
  refine wpPlan_step (i := 5) rfl ⟨(.int .i64 bop), ⟨by rfl, fun wx hSx => ?_⟩, ?_⟩
  · obtain ⟨z2, z3⟩ := hSx
    go_simp
  simp only [Act.put, List.setIfInBounds_toArray, List.set_cons_zero, List.set_cons_succ]
  refine wpPlan_step (i := 6) rfl ⟨(.slice ba bn bc), ⟨by rfl, fun wx hSx => ?_⟩, ?_⟩
  · obtain ⟨z2, z3⟩ := hSx
    go_simp
  simp only [Act.put, List.setIfInBounds_toArray, List.set_cons_zero, List.set_cons_succ]
  refine wpPlan_step (i := 7) rfl ⟨(.pointer (some ⟨R, 0, none⟩)), ⟨by rfl, fun wx hSx => ?_⟩, ?_⟩
  · obtain ⟨z2, z3⟩ := hSx
    go_simp
  simp only [Act.put, List.setIfInBounds_toArray, List.set_cons_zero, List.set_cons_succ]
  refine wpPlan_step (i := 8) rfl ⟨(.pointer (some ⟨R, 0, none⟩)), ⟨by rfl, fun wx hSx => ?_⟩, ?_⟩
  · obtain ⟨z2, z3⟩ := hSx
    go_simp
  simp only [Act.put, List.setIfInBounds_toArray, List.set_cons_zero, List.set_cons_succ]
  refine wpPlan_step (i := 9) rfl ⟨(.pointer (some ⟨R, 2, none⟩)), ⟨by rfl, fun wx hSx => ?_⟩, ?_⟩
  · obtain ⟨z2, z3⟩ := hSx
    go_simp
  simp only [Act.put, List.setIfInBounds_toArray, List.set_cons_zero, List.set_cons_succ]
  refine wpPlan_step (i := 10) rfl ⟨(.int .i64 (lev : Int)), ⟨by rfl, fun wx hSx => ?_⟩, ?_⟩
  · obtain ⟨z2, z3⟩ := hSx
    go_simp
  simp only [Act.put, List.setIfInBounds_toArray, List.set_cons_zero, List.set_cons_succ]
  refine wpPlan_step (i := 11) rfl ⟨(.agg #[.int .i64 bop, .slice ba bn bc, .int .i64 (lev : Int)]), ⟨by rfl, fun wx hSx => ?_⟩, ?_⟩
  · obtain ⟨z2, z3⟩ := hSx
    go_simp
  simp only [Act.put, List.setIfInBounds_toArray, List.set_cons_zero, List.set_cons_succ]
  obtain ⟨d1, d2, d3⟩ := begun_new ⟨bop, lev, ba, bc, bl⟩ w1.drew
  dsimp only at d1 d2 d3
  rw [hbn] at d1 d2 d3
  have hown1 : OwL fB 77 3 w1.drew B (.slice wa n wc) ws := owL_below (owL_only hown.out H1.out.2 (fun j e => by have := (owL_lt hown.out j e).1; omega)) (Below.refl _ _).drew
  have hown2 := owL_below hown1 d1
  have hsz : B ≤ w1.drew.heap.size := Nat.le_trans hB H1.out.2.size
  have hr2 := rowV_below (rowV_below H1.out.1 (Below.refl _ _).drew (rowV_lt H1.out.1)) d1 (show R < w1.drew.heap.size by omega)
  have g2 : (w1.drew.alloc (.cells #[.int .i64 bop, .slice ba bn bc, .int .i64 (lev : Int)] 77)).cell? ⟨R, 2, none⟩ = some (.int .i64 (lev : Int)) := rowV_cell hr2 2
  have g3 : (w1.drew.alloc (.cells #[.int .i64 bop, .slice ba bn bc, .int .i64 (lev : Int)] 77)).cell? ⟨R, 3, none⟩ = some (.slice wa n wc) := by have := rowV_cell hr2 3; rw [← hwn]; exact this
  have HB := Lib.hid (And.intro d1 (And.intro d2 (And.intro d3 (And.intro hown2 (And.intro hsz hr2)))))
  refine wpPlan_keep (i := 12) rfl (by rfl) fun K hK => wp_value14 (.slice (some ⟨w1.drew.heap.size, 0, none⟩) 1 1) (w1.drew.alloc (.cells #[.int .i64 bop, .slice ba bn bc, .int .i64 (lev : Int)] 77)) (by go_simp) (hK _ _ ⟨g2, g3⟩ ?_)
  clear d1 d2 d3 hown1 hown2 hsz k2 k3 hr2 g2 g3
  simp only [Act.put, List.setIfInBounds_toArray, List.set_cons_zero, List.set_cons_succ]
  generalize hw2 : w1.drew.alloc _ = w2 at *
  refine wpPlan_keep (i := 13) rfl (by rfl) fun K hK => wp_append_one (f := fB) (B := B) begun_elem (.tmp 19) (.tmp 27) 54 rfl Tryz.underlying54 (.slice wa n wc) ws ⟨bop, lev, ba, bc, bl⟩ rfl HB.out.2.2.2.1 w1.drew.heap.size 1 rfl (by have := HB.out.2.1; dsimp only [fB] at this ⊢; rw [hbn] at this ⊢; exact this) rfl (fB_one _) (by omega) (by have := HB.out.2.2.1; have := HB.out.2.2.2.2.1; omega) ?_
  intro gg cp w6 h1 h2 h3 h4
  have hr6 := rowV_only HB.out.2.2.2.2.2 h2 (fun e => by have := (owL_lt HB.out.2.2.2.1 _ e).1; omega)
  have g2 : w6.cell? ⟨R, 2, none⟩ = some (.int .i64 (lev : Int)) := rowV_cell hr6 2
  have g3 : w6.cell? ⟨R, 3, none⟩ = some (.slice wa n wc) := by have := rowV_cell hr6 3; rw [← hwn]; exact this
  refine hK _ _ ⟨g2, g3⟩ ?_
  have j2 := rowV_frozen hr6 2
  have j3 := rowV_frozen hr6 3
  have HF := Lib.hid (And.intro h1 (And.intro h2 (And.intro h3 (And.intro h4 hr6))))
  clear h1 h2 h3 h4 hr6
  simp only [Act.put, List.setIfInBounds_toArray, List.set_cons_zero, List.set_cons_succ]
  rw [hwn]
  show wpList _ _ _ _ _ w6
  simp only [List.drop_succ_cons, List.drop_zero]
  go_wp2_with fail
  have hz := rowV_stored (rowV_stored HF.out.2.2.2.2 3 (.slice (some ⟨gg, 0, none⟩) (n + 1) cp)) 2 (.int .i64 (nl : Int))
  have hoz : Only (fun k => k = R) w6 ((w6.setCell ⟨R, 3, none⟩ (.slice (some ⟨gg, 0, none⟩) (n + 1) cp)).setCell ⟨R, 2, none⟩ (.int .i64 (nl : Int))) := Only.setCell (F := fun k => k = R) (Only.setCell (F := fun k => k = R) (Only.refl _ _) (fun _ => rfl) _) (fun _ => rfl) _
  have hfin := rdP_more (p' := p + 1) (lev' := nl) HH.out.1 ⟨bop, lev, ba, bc, bl⟩ HH.out.2.1 (fun b' hm j e => by show ¬ (Value.slice ba bl.length bc).ownBlock = some j; rw [hbn]; exact HH.out.2.2 b' hm j e) (h1 := H1.out.2.drew) HB.out.1 HF.out.1 (by have := HF.out.2.1; rw [← hwn] at this; exact this) (by have := HF.out.2.2.1; rw [← hwn] at this; exact this) hoz (by rw [hwn]; exact hz)
  exact ⟨rfl, _, results_none rfl _ _ _, rfl, _, _, hfin.1, hfin.2⟩
end Go.Proofs.YtekahmlppaabjaaGreatDoor
