/-
  Layer 15's laws: an expression with another one in place of each null, made anew.
-/
import Derived.Test.YtmkckbidfpinfaaDoorZTypLives
import Derived.Test.YtmkckbidfpinfaaDoorPk5
import Derived.Test.YtmkckbidfpinfaaDoorPk4
import Derived.Test.YtmkckbidfpinfaaDoorZSynSmallW
namespace Go.Proofs.YtmkckbidfpinfaaDoor
open Go.RowKit Go.Shelf
open Sx (X)
attribute [local go_sem] Oper.semAt_some
/-- an expression in rows from B on, unmarked, none of which is the row of the slice v -/
abbrev NewX (B : Nat) (v : Value) (w : World) (x : X) (a : Option Addr) : Prop := XAt w (fun j => B ≤ j ∧ v.ownBlock ≠ some j ∧ ∃ cs T, w.heap[j]? = some (.cells cs T (0, 0))) x a
theorem newX_below {B : Nat} {v : Value} {w w' : World} {x : X} {a : Option Addr} (h : NewX B v w x a) (hb : Below w.heap.size w w') : NewX B v w' x a :=
  xat_mono (fun j ⟨h0, h1, cs, T, hj⟩ => ⟨h0, h1, cs, T, (hb.block j (Array.getElem?_eq_some_iff.1 hj).1).trans hj⟩) x a (xat_below h hb)
/-- behind an append onto the slice -/
theorem newX_app {B g n c : Nat} {v : Value} {w w' : World} {x : X} {a : Option Addr} (h : NewX B v w x a) (ho : Only (fun j => v.ownBlock = some j) w w') (hg : v.ownBlock = some g ∨ g = w.heap.size) : NewX B (.slice (some ⟨g, 0, none⟩) n c) w' x a := by
  have h1 := xat_lt x a h
  have h2 := xat_only ho (fun j hj => hj.1.2.1) x a h1
  refine xat_mono (fun j ⟨⟨h0, h3, cs, T, hj⟩, hlt⟩ => ⟨h0, fun e => ?_, cs, T, (ho.block j hlt h3).trans hj⟩) x a h2
  have e : g = j := by simpa [Value.ownBlock] using e
  rcases hg with hg | hg
  · exact h3 (by rw [hg, e])
  · omega
/-- behind a store into a block that no row of it is -/
theorem newX_only {B Z : Nat} {v : Value} {w w' : World} {x : X} {a : Option Addr} (h : NewX B v w x a) (ho : Only (fun j => j = Z) w w') (hZ : Z < B) : NewX B v w' x a := by
  have h2 := xat_only ho (fun j hj => by have := hj.1; omega) x a (xat_lt x a h |> xat_mono (fun j hj => (⟨hj.1.1, hj⟩ : B ≤ j ∧ _)) x a)
  exact xat_mono (fun j ⟨_, ⟨h0, h3, cs, T, hj⟩, hlt⟩ => ⟨h0, h3, cs, T, (ho.block j hlt (by omega)).trans hj⟩) x a h2
theorem lat_own {w : World} {S : Nat → Prop} : ∀ (PL : List Part14) (g o : Nat), (∀ i (h : i < PL.length), Cells6 w g (o + i * 6) PL[i].1 PL[i].2.1 PL[i].2.2 ∧ XAt w S PL[i].1 PL[i].2.1) → LAt w S (PL.map (·.1)) g o
  | [], _, _, _ => by rw [List.map_nil, LAt]; trivial
  | p :: r, g, o, h => by
    rw [List.map_cons, LAt]
    have h0 := h 0 (Nat.succ_pos _)
    simp only [Nat.zero_mul, Nat.add_zero, List.getElem_cons_zero] at h0
    refine ⟨⟨_, _, h0.1, h0.2⟩, lat_own r g (o + 6) fun i hi => ?_⟩
    have h1 := h (i + 1) (by simpa using hi)
    rw [show o + (i + 1) * 6 = o + 6 + i * 6 by omega] at h1
    exact h1
/-- a list that the call owns, as an expression's -/
theorem xat_own {w : World} {B : Nat} {al : Option Addr} {cp : Nat} {PL : List Part14} (h : OwL fX 36 6 w B (.slice al PL.length cp) PL) (hN : ∀ p ∈ PL, NewX B (.slice al PL.length cp) w p.1 p.2.1) (op : Int) (v : Vl.V) (s : ByteArray) :
    XAt w (fun j => B ≤ j ∧ ∃ cs T, w.heap[j]? = some (.cells cs T (0, 0))) (.mk op v s (PL.map (·.1))) al := by
  rw [XAt]
  by_cases h0 : PL = []
  · subst h0; exact .inl rfl
  right
  have hl : 0 < PL.length := List.length_pos_iff.2 h0
  obtain ⟨g, c, e, -⟩ := owL_cell (f := fX) (fun _ _ => rfl) h 0 hl
  injection e with e1 _ e3
  subst e1; subst e3
  obtain ⟨hB, _, cs, fz, hh⟩ := Upw.owL_block h g rfl
  have hfz : fz = (0, 0) := by
    rcases h.2 with ⟨e, _⟩ | ⟨g2, c2, cur, e, _, hh2, _⟩
    · cases e
    · injection e with e _ _
      injection e with e
      injection e with e _ _
      subst e
      rw [hh] at hh2
      injection hh2 with hh2
      injection hh2
  subst hfz
  refine ⟨g, 0, rfl, ⟨hB, cs, _, hh⟩, lat_own PL g 0 fun i hi => ⟨?_, xat_mono (fun j hj => ⟨hj.1, hj.2.2⟩) _ _ (hN _ (List.getElem_mem hi))⟩⟩
  have hc := owL_at1 (f := fX) (fun _ _ => rfl) h i hi
  have q0 := (hc 0 _ rfl).1
  have q1 := (hc 1 _ rfl).1
  have q2 := (hc 2 _ rfl).1
  have q3 := (hc 3 _ rfl).1
  have q4 := (hc 4 _ rfl).1
  have q5 := (hc 5 _ rfl).1
  rw [Nat.add_zero] at q0
  rw [Nat.zero_add]
  exact ⟨q0, q1, q2, q3, q4, q5⟩
theorem Ty.withL_map (y : X) : ∀ l : List X, Ty.withL y l = l.map (Ty.withX y)
  | [] => rfl
  | x :: r => by rw [Ty.withL, List.map_cons, Ty.withL_map y r]
/-- what 'with' leaves -/
def WithP (x y : X) (w : World) (e : Ending) (w' : World) : Prop :=
  ∃ a c, e = .returned (xV (Ty.withX y x) a c) ∧ XAt w' (fun j => w.heap.size ≤ j ∧ ∃ cs T, w'.heap[j]? = some (.cells cs T (0, 0))) (Ty.withX y x) a ∧ Below w.heap.size w w'
theorem app_cells14 {w w' : World} {v : Value} {p : Addr} {u : Value} (ho : Only (fun j => v.ownBlock = some j) w w') (hc : w.cell? p = some u) (hn : v.ownBlock ≠ some p.block) : w'.cell? p = some u := (ho.cell (World.block_lt_of_cell? _ _ hc) hn).trans hc
set_option maxRecDepth 100000 in
set_option maxHeartbeats 12800000 in
theorem with15_any (y : X) (hy : y.l = []) : ∀ (d : Nat) (x : X), Sx.smallB d x = true → ∀ (S : Nat → Prop) (a : Option Addr) (c : Nat) (w : World), XAt w S x a → Calls Tryd.prog 16 #[xV x a c, xV y none 0] w (WithP x y w) := by
  have HY := Lib.hid hy
  clear hy
  intro d
  induction d with
  | zero => intro x h; exact absurd h (by unfold Sx.smallB; simp)
  | succ d ih =>
    intro x hs S a c w hx
    rw [Sx.smallB_succ] at hs
    simp only [Bool.and_eq_true, decide_eq_true_eq] at hs
    obtain ⟨⟨⟨_, _⟩, hl5⟩, hall⟩ := hs
    rw [List.all_eq_true] at hall
    have eV : ∀ wx, (binOp BinOp.eql 33 (.agg #[.int .i64 x.v.kind, .int .i64 x.v.n, .string x.v.s]) (.agg #[.int .i64 0, .int .i64 0, .string ⟨#[]⟩])).run Tryd.prog wx = .ok (.bool (decide (x.v = Vl.no))) wx := fun wx => eql_val x.v Vl.no wx
    have hb1 := (x_new x a c w).2.1
    have hb2 := (x_new y none 0 (w.alloc (.cells (xC x a c) 36))).2.1
    by_cases hnull : x.op = 1 ∧ x.v = Vl.no
    · have hW : Ty.withX y x = y := by obtain ⟨op, v, s, l⟩ := x; rw [Ty.withX]; exact if_pos hnull
      obtain ⟨h1, h2⟩ := hnull
      rw [decide_eq_true h2] at eV
      have t1 : (x.op == 1) = true := by simpa using h1
      have HW := Lib.hid hW
      have HB := Lib.hid (And.intro hb1 hb2)
      clear hall hx h1 h2 hW hb1 hb2
      go_enter Tryd.func16, Tryd.ntmps16
      go_wp2_with fail
      have hb3 := (x_new y none 0 ((w.alloc (.cells (xC x a c) 36)).alloc (.cells (xC y none 0) 36)))
      rw [World.size_alloc, World.size_alloc] at hb3
      refine bodyPost_ret (v := xV y none 0) (results_x (p := 4) rfl _ _ (w.heap.size + 1 + 1) y none 0 rfl hb3.1) rfl ⟨none, 0, by rw [HW.out], ?_, (HB.out.1.trans (HB.out.2.mono (by simp))).trans (hb3.2.1.mono (show w.heap.size ≤ w.heap.size + 1 + 1 by omega))⟩
      rw [HW.out]
      have hy := HY.out
      clear HB HW eV
      clear ih
      obtain ⟨op, v, s, l⟩ := y
      obtain rfl : l = [] := hy
      rw [XAt]; exact .inl rfl
    · have hW : Ty.withX y x = .mk x.op x.v x.s (Ty.withL y x.l) := by obtain ⟨op, v, s, l⟩ := x; rw [Ty.withX]; exact if_neg hnull
      have hb3 := (x_new Sx.no none 0 ((w.alloc (.cells (xC x a c) 36)).alloc (.cells (xC y none 0) 36)))
      have hb4 := (x_new (.mk x.op x.v x.s []) none 0 (((w.alloc (.cells (xC x a c) 36)).alloc (.cells (xC y none 0) 36)).alloc (.cells (xC Sx.no none 0) 36)))
      have hr1 := (x_new x a c w).1
      have hr2 := (x_new y none 0 (w.alloc (.cells (xC x a c) 36))).1
      have hx0 := hx
      obtain ⟨W4, hW4⟩ : ∃ W4, (((w.alloc (.cells (xC x a c) 36)).alloc (.cells (xC y none 0) 36)).alloc (.cells (xC Sx.no none 0) 36)).alloc (.cells (xC (.mk x.op x.v x.s []) none 0) 36) = W4 := ⟨_, rfl⟩
      have hB4 : Below w.heap.size w W4 := by
        rw [← hW4]
        exact (((Below.refl w.heap.size w).alloc (Nat.le_refl _) _).alloc (by simp) _ |>.alloc (by simp; omega) _).alloc (by simp; omega) _
      have hs4 : W4.heap.size = w.heap.size + 4 := by rw [← hW4]; simp
      have hq1 : RowV W4 w.heap.size 36 (xC x a c).toList := by rw [← hW4]; exact rowV_alloc (rowV_alloc (rowV_alloc hr1 _) _) _
      have hq2 : RowV W4 (w.heap.size + 1) 36 (xC y none 0).toList := by
        rw [World.size_alloc] at hr2
        rw [← hW4]; exact rowV_alloc (rowV_alloc hr2 _) _
      have hq3 : RowV W4 (w.heap.size + 2) 36 (xC Sx.no none 0).toList := by
        have h := hb3.1
        rw [World.size_alloc, World.size_alloc] at h
        rw [← hW4]; exact rowV_alloc h _
      have hq4 : RowV W4 (w.heap.size + 3) 36 (xC (.mk x.op x.v x.s []) none 0).toList := by
        have h := hb4.1
        rw [World.size_alloc, World.size_alloc, World.size_alloc] at h
        rw [← hW4]; exact h
      have H4 := Lib.hid (And.intro hB4 (And.intro hs4 (And.intro hq1 (And.intro hq2 (And.intro hq3 hq4)))))
      have HW4 := Lib.hid hW4
      have HW := Lib.hid hW
      have HA := Lib.hid (And.intro hall (And.intro hx ih))
      clear hall hx hx0 hW hb1 hb2 hb3 hb4 hr1 hr2 hB4 hs4 hq1 hq2 hq3 hq4 hW4
      generalize hNN : w.heap.size = N at *
      have HN := Lib.hid hNN
      clear hNN
      have tests : Hid (((x.op == 1) = false ∧ True) ∨ ((x.op == 1) = true ∧ decide (x.v = Vl.no) = false)) := Lib.hid (by
        by_cases h1 : x.op = 1
        · exact .inr ⟨by simpa using h1, decide_eq_false fun h => hnull ⟨h1, h⟩⟩
        · exact .inl ⟨by simpa using h1, trivial⟩)
      clear hnull
      have hLL : (Ty.withL y x.l).length = x.l.length := by rw [Ty.withL_map, List.length_map]
      have HL := Lib.hid hLL
      clear hLL
      have c0 := (x_cells H4.out.2.2.1)
      obtain ⟨e0, e1, e2, e3, e4, e5⟩ := c0
      simp only [Nat.zero_add] at e0 e1 e2 e3 e4 e5
      rcases tests.out with ⟨t1, -⟩ | ⟨t1, t2⟩
      · clear tests
        go_enter Tryd.func16, Tryd.ntmps16
        go_upto_region 4 with fail
        generalize hWg : World.alloc _ _ = Wg
        obtain rfl : Wg = W4 := hWg.symm.trans HW4.out
        clear hWg
        simp only [HN.out]
        have H4 := H4
        go_wp2_with fail
        go_loopw [6] (fun i wr => ∃ (k : Nat) (PL : List Part14) (ao : Option Addr) (cp : Nat), i = .int .i64 (k : Int) ∧ k ≤ x.l.length ∧ PL.length = k ∧ Hid (PL.map (·.1) = (Ty.withL y x.l).take k ∧ RowV wr (N + 3) 36 [.int .i64 x.op, .int .i64 x.v.kind, .int .i64 x.v.n, .string x.v.s, .string x.s, .slice ao k cp] ∧ OwL fX 36 6 wr (N + 4) (.slice ao k cp) PL ∧ (∀ p ∈ PL, NewX (N + 4) (.slice ao k cp) wr p.1 p.2.1) ∧ Below N w wr ∧ RowV wr N 36 (xC x a c).toList ∧ RowV wr (N + 1) 36 (xC y none 0).toList ∧ RowV wr (N + 2) 36 (xC Sx.no none 0).toList)) (fun i _ => x.l.length - (intOf i).toNat)
        case atStart =>
          exact ⟨0, [], none, 0, rfl, Nat.zero_le _, rfl, Lib.hid ⟨rfl, H4.out.2.2.2.2.2, owL_nil _, fun p hp => (by cases hp), H4.out.1, H4.out.2.2.1, H4.out.2.2.2.1, H4.out.2.2.2.2.1⟩⟩
        case round =>
          obtain ⟨k, PL, ao, cp, rfl, hk, hPL, HI⟩ := hrel
          generalize hn : x.l.length = n at *
          have hsr : N + 4 ≤ wr.heap.size := by have := rowV_lt HI.out.2.1; omega
          have kz := rowV_cell HI.out.2.1 5
          have kx := (x_cells HI.out.2.2.2.2.2.1).2.2.2.2.2
          simp only [List.getElem?_cons_zero, List.getElem?_cons_succ, Nat.zero_add] at kz kx
          rw [hn] at kx
          by_cases hlt : k < n
          · have hkl : k < x.l.length := by omega
            obtain ⟨bb, oo, az, cz, ea, hc6, hxz⟩ := xat_at HA.out.2.1 k hkl
            subst ea
            have hBr := HI.out.2.2.2.2.1
            rw [← HN.out] at hBr
            have hbb : bb < w.heap.size := World.block_lt_of_cell? _ _ hc6.1
            rw [HN.out] at hbb
            have hc6' := cells6_only hc6 (Only.of_none (F := fun _ => False) hBr) (fun h => h)
            obtain ⟨x0, x1, x2, x3, x4, x5⟩ := hc6'
            obtain ⟨y0, y1, y2, y3, y4, y5⟩ := x_cells HI.out.2.2.2.2.2.2.1
            simp only [Nat.zero_add] at y0 y1 y2 y3 y4 y5
            have hcz := HA.out.2.2 x.l[k] (HA.out.1 x.l[k] (List.getElem_mem hkl)) S az cz
            have HZ := Lib.hid fun (wx : World) (hb : Below wr.heap.size wr wx) => hcz wx (xat_below hxz (hBr.trans (hb.mono hBr.size)))
            have hWk : (Ty.withL y x.l).take (k + 1) = (Ty.withL y x.l).take k ++ [Ty.withX y x.l[k]] := by
              rw [List.take_succ_eq_append_getElem (by rw [HL.out]; exact hlt)]
              congr 2
              simp only [Ty.withL_map, List.getElem_map]
            have HWk := Lib.hid hWk
            clear hcz hWk hc6 hxz hBr
            generalize x.l[k] = z at *
            go_wp2_with fail
            refine wp_region_plan (S := fun wx => wx.cell? ⟨N + 3, 5, none⟩ = some (.slice ao k cp) ∧ wx.cell? ⟨N, 5, none⟩ = some (.slice (some ⟨bb, oo, none⟩) n c) ∧ wx.cell? ⟨bb, oo + k * 6, none⟩ = some (.int .i64 z.op) ∧ wx.cell? ⟨bb, oo + k * 6 + 1, none⟩ = some (.int .i64 z.v.kind) ∧ wx.cell? ⟨bb, oo + k * 6 + 2, none⟩ = some (.int .i64 z.v.n) ∧ wx.cell? ⟨bb, oo + k * 6 + 3, none⟩ = some (.string z.v.s) ∧ wx.cell? ⟨bb, oo + k * 6 + 4, none⟩ = some (.string z.s) ∧ wx.cell? ⟨bb, oo + k * 6 + 5, none⟩ = some (.slice az z.l.length cz) ∧ wx.cell? ⟨N + 1, 0, none⟩ = some (.int .i64 y.op) ∧ wx.cell? ⟨N + 1, 1, none⟩ = some (.int .i64 y.v.kind) ∧ wx.cell? ⟨N + 1, 2, none⟩ = some (.int .i64 y.v.n) ∧ wx.cell? ⟨N + 1, 3, none⟩ = some (.string y.v.s) ∧ wx.cell? ⟨N + 1, 4, none⟩ = some (.string y.s) ∧ wx.cell? ⟨N + 1, 5, none⟩ = some (.slice none y.l.length 0) ∧ True) 11 [(true, 0), (true, 1), (true, 2), (true, 3), (true, 4), (true, 5), (true, 6), (true, 7), (false, 8), (false, 9), (false, 10)] (by kernel_rfl) (fun _ d _ _ _ h => by cases d <;> exact h) (by kernel_rfl) ⟨kz, kx, x0, x1, x2, x3, x4, x5, y0, y1, y2, y3, y4, y5, trivial⟩ ?_
            refine wpPlan_step (i := 0) rfl ?_
            apply Exists.intro
            refine ⟨⟨by rfl, fun wx hSx => ?_⟩, ?_⟩
            · obtain ⟨kz, kx, x0, x1, x2, x3, x4, x5, y0, y1, y2, y3, y4, y5, -⟩ := hSx
              go_simp
              with_reducible rfl
            simp only [Act.put, List.setIfInBounds_toArray, List.set_cons_zero, List.set_cons_succ]
            refine wpPlan_step (i := 1) rfl ⟨(.slice ao k cp), ⟨by rfl, fun wx hSx => ?_⟩, ?_⟩
            · obtain ⟨kz, kx, x0, x1, x2, x3, x4, x5, y0, y1, y2, y3, y4, y5, -⟩ := hSx
              go_simp
            simp only [Act.put, List.setIfInBounds_toArray, List.set_cons_zero, List.set_cons_succ]
            refine wpPlan_step (i := 2) rfl ?_
            apply Exists.intro
            refine ⟨⟨by rfl, fun wx hSx => ?_⟩, ?_⟩
            · obtain ⟨kz, kx, x0, x1, x2, x3, x4, x5, y0, y1, y2, y3, y4, y5, -⟩ := hSx
              go_simp
              with_reducible rfl
            simp only [Act.put, List.setIfInBounds_toArray, List.set_cons_zero, List.set_cons_succ]
            refine wpPlan_step (i := 3) rfl ⟨(.slice (some ⟨bb, oo, none⟩) n c), ⟨by rfl, fun wx hSx => ?_⟩, ?_⟩
            · obtain ⟨kz, kx, x0, x1, x2, x3, x4, x5, y0, y1, y2, y3, y4, y5, -⟩ := hSx
              go_simp
            simp only [Act.put, List.setIfInBounds_toArray, List.set_cons_zero, List.set_cons_succ]
            refine wpPlan_step (i := 4) rfl ⟨(.int .i64 (k : Int)), ⟨by rfl, fun wx hSx => ?_⟩, ?_⟩
            · obtain ⟨kz, kx, x0, x1, x2, x3, x4, x5, y0, y1, y2, y3, y4, y5, -⟩ := hSx
              go_simp
            simp only [Act.put, List.setIfInBounds_toArray, List.set_cons_zero, List.set_cons_succ]
            refine wpPlan_step (i := 5) rfl ⟨(.pointer (some ⟨bb, oo + k * 6, none⟩)), ⟨by rfl, fun wx hSx => ?_⟩, ?_⟩
            · obtain ⟨kz, kx, x0, x1, x2, x3, x4, x5, y0, y1, y2, y3, y4, y5, -⟩ := hSx
              go_simp
            simp only [Act.put, List.setIfInBounds_toArray, List.set_cons_zero, List.set_cons_succ]
            refine wpPlan_step (i := 6) rfl ⟨(xV z az cz), ⟨by rfl, fun wx hSx => ?_⟩, ?_⟩
            · obtain ⟨kz, kx, x0, x1, x2, x3, x4, x5, y0, y1, y2, y3, y4, y5, -⟩ := hSx
              go_simp
            simp only [Act.put, List.setIfInBounds_toArray, List.set_cons_zero, List.set_cons_succ]
            refine wpPlan_step (i := 7) rfl ⟨(xV y none 0), ⟨by rfl, fun wx hSx => ?_⟩, ?_⟩
            · obtain ⟨kz, kx, x0, x1, x2, x3, x4, x5, y0, y1, y2, y3, y4, y5, -⟩ := hSx
              go_simp
            simp only [Act.put, List.setIfInBounds_toArray, List.set_cons_zero, List.set_cons_succ]
            have HS0 : Hid (wr.drew.cell? ⟨N + 3, 5, none⟩ = some (.slice ao k cp) ∧ wr.drew.cell? ⟨N, 5, none⟩ = some (.slice (some ⟨bb, oo, none⟩) n c) ∧ wr.drew.cell? ⟨bb, oo + k * 6, none⟩ = some (.int .i64 z.op) ∧ wr.drew.cell? ⟨bb, oo + k * 6 + 1, none⟩ = some (.int .i64 z.v.kind) ∧ wr.drew.cell? ⟨bb, oo + k * 6 + 2, none⟩ = some (.int .i64 z.v.n) ∧ wr.drew.cell? ⟨bb, oo + k * 6 + 3, none⟩ = some (.string z.v.s) ∧ wr.drew.cell? ⟨bb, oo + k * 6 + 4, none⟩ = some (.string z.s) ∧ wr.drew.cell? ⟨bb, oo + k * 6 + 5, none⟩ = some (.slice az z.l.length cz) ∧ wr.drew.cell? ⟨N + 1, 0, none⟩ = some (.int .i64 y.op) ∧ wr.drew.cell? ⟨N + 1, 1, none⟩ = some (.int .i64 y.v.kind) ∧ wr.drew.cell? ⟨N + 1, 2, none⟩ = some (.int .i64 y.v.n) ∧ wr.drew.cell? ⟨N + 1, 3, none⟩ = some (.string y.v.s) ∧ wr.drew.cell? ⟨N + 1, 4, none⟩ = some (.string y.s) ∧ wr.drew.cell? ⟨N + 1, 5, none⟩ = some (.slice none y.l.length 0) ∧ True) := Lib.hid ⟨kz, kx, x0, x1, x2, x3, x4, x5, y0, y1, y2, y3, y4, y5, trivial⟩
            clear kz kx x0 x1 x2 x3 x4 x5 y0 y1 y2 y3 y4 y5
            refine wpPlan_call (i := 8) rfl (by rfl) 16 #[xV z az cz, xV y none 0] (by go_simp) (HZ.out _ (Below.refl _ _).drew) ?_
            rintro e w1 ⟨a1, c1, rfl, hX1, hb1⟩
            have hS0 := HS0.out
            have hS1 : w1.cell? ⟨N + 3, 5, none⟩ = some (.slice ao k cp) ∧ w1.cell? ⟨N, 5, none⟩ = some (.slice (some ⟨bb, oo, none⟩) n c) ∧ w1.cell? ⟨bb, oo + k * 6, none⟩ = some (.int .i64 z.op) ∧ w1.cell? ⟨bb, oo + k * 6 + 1, none⟩ = some (.int .i64 z.v.kind) ∧ w1.cell? ⟨bb, oo + k * 6 + 2, none⟩ = some (.int .i64 z.v.n) ∧ w1.cell? ⟨bb, oo + k * 6 + 3, none⟩ = some (.string z.v.s) ∧ w1.cell? ⟨bb, oo + k * 6 + 4, none⟩ = some (.string z.s) ∧ w1.cell? ⟨bb, oo + k * 6 + 5, none⟩ = some (.slice az z.l.length cz) ∧ w1.cell? ⟨N + 1, 0, none⟩ = some (.int .i64 y.op) ∧ w1.cell? ⟨N + 1, 1, none⟩ = some (.int .i64 y.v.kind) ∧ w1.cell? ⟨N + 1, 2, none⟩ = some (.int .i64 y.v.n) ∧ w1.cell? ⟨N + 1, 3, none⟩ = some (.string y.v.s) ∧ w1.cell? ⟨N + 1, 4, none⟩ = some (.string y.s) ∧ w1.cell? ⟨N + 1, 5, none⟩ = some (.slice none y.l.length 0) ∧ True := ⟨(hb1.cell (World.block_lt_of_cell? _ _ (hS0.1))).trans (hS0.1), (hb1.cell (World.block_lt_of_cell? _ _ (hS0.2.1))).trans (hS0.2.1), (hb1.cell (World.block_lt_of_cell? _ _ (hS0.2.2.1))).trans (hS0.2.2.1), (hb1.cell (World.block_lt_of_cell? _ _ (hS0.2.2.2.1))).trans (hS0.2.2.2.1), (hb1.cell (World.block_lt_of_cell? _ _ (hS0.2.2.2.2.1))).trans (hS0.2.2.2.2.1), (hb1.cell (World.block_lt_of_cell? _ _ (hS0.2.2.2.2.2.1))).trans (hS0.2.2.2.2.2.1), (hb1.cell (World.block_lt_of_cell? _ _ (hS0.2.2.2.2.2.2.1))).trans (hS0.2.2.2.2.2.2.1), (hb1.cell (World.block_lt_of_cell? _ _ (hS0.2.2.2.2.2.2.2.1))).trans (hS0.2.2.2.2.2.2.2.1), (hb1.cell (World.block_lt_of_cell? _ _ (hS0.2.2.2.2.2.2.2.2.1))).trans (hS0.2.2.2.2.2.2.2.2.1), (hb1.cell (World.block_lt_of_cell? _ _ (hS0.2.2.2.2.2.2.2.2.2.1))).trans (hS0.2.2.2.2.2.2.2.2.2.1), (hb1.cell (World.block_lt_of_cell? _ _ (hS0.2.2.2.2.2.2.2.2.2.2.1))).trans (hS0.2.2.2.2.2.2.2.2.2.2.1), (hb1.cell (World.block_lt_of_cell? _ _ (hS0.2.2.2.2.2.2.2.2.2.2.2.1))).trans (hS0.2.2.2.2.2.2.2.2.2.2.2.1), (hb1.cell (World.block_lt_of_cell? _ _ (hS0.2.2.2.2.2.2.2.2.2.2.2.2.1))).trans (hS0.2.2.2.2.2.2.2.2.2.2.2.2.1), (hb1.cell (World.block_lt_of_cell? _ _ (hS0.2.2.2.2.2.2.2.2.2.2.2.2.2.1))).trans (hS0.2.2.2.2.2.2.2.2.2.2.2.2.2.1), trivial⟩
            have H1 := Lib.hid (And.intro hS1 (And.intro hX1 (show Below wr.heap.size wr w1 from (Below.refl _ _).drew.trans hb1)))
            clear hS0 hS1 hX1 hb1
            refine .inl ⟨_, rfl, H1.out.1, ?_⟩
            simp only [Act.put, List.setIfInBounds_toArray, List.set_cons_zero, List.set_cons_succ]
            generalize Ty.withX y z = Z1 at *
            have hnb := (x_new Z1 a1 c1 w1).2.1
            have hnr := (x_new Z1 a1 c1 w1).1
            have hS2 : (w1.alloc (.cells (xC Z1 a1 c1) 36)).cell? ⟨N + 3, 5, none⟩ = some (.slice ao k cp) ∧ (w1.alloc (.cells (xC Z1 a1 c1) 36)).cell? ⟨N, 5, none⟩ = some (.slice (some ⟨bb, oo, none⟩) n c) ∧ (w1.alloc (.cells (xC Z1 a1 c1) 36)).cell? ⟨bb, oo + k * 6, none⟩ = some (.int .i64 z.op) ∧ (w1.alloc (.cells (xC Z1 a1 c1) 36)).cell? ⟨bb, oo + k * 6 + 1, none⟩ = some (.int .i64 z.v.kind) ∧ (w1.alloc (.cells (xC Z1 a1 c1) 36)).cell? ⟨bb, oo + k * 6 + 2, none⟩ = some (.int .i64 z.v.n) ∧ (w1.alloc (.cells (xC Z1 a1 c1) 36)).cell? ⟨bb, oo + k * 6 + 3, none⟩ = some (.string z.v.s) ∧ (w1.alloc (.cells (xC Z1 a1 c1) 36)).cell? ⟨bb, oo + k * 6 + 4, none⟩ = some (.string z.s) ∧ (w1.alloc (.cells (xC Z1 a1 c1) 36)).cell? ⟨bb, oo + k * 6 + 5, none⟩ = some (.slice az z.l.length cz) ∧ (w1.alloc (.cells (xC Z1 a1 c1) 36)).cell? ⟨N + 1, 0, none⟩ = some (.int .i64 y.op) ∧ (w1.alloc (.cells (xC Z1 a1 c1) 36)).cell? ⟨N + 1, 1, none⟩ = some (.int .i64 y.v.kind) ∧ (w1.alloc (.cells (xC Z1 a1 c1) 36)).cell? ⟨N + 1, 2, none⟩ = some (.int .i64 y.v.n) ∧ (w1.alloc (.cells (xC Z1 a1 c1) 36)).cell? ⟨N + 1, 3, none⟩ = some (.string y.v.s) ∧ (w1.alloc (.cells (xC Z1 a1 c1) 36)).cell? ⟨N + 1, 4, none⟩ = some (.string y.s) ∧ (w1.alloc (.cells (xC Z1 a1 c1) 36)).cell? ⟨N + 1, 5, none⟩ = some (.slice none y.l.length 0) ∧ True := ⟨(hnb.cell (World.block_lt_of_cell? _ _ (H1.out.1.1))).trans (H1.out.1.1), (hnb.cell (World.block_lt_of_cell? _ _ (H1.out.1.2.1))).trans (H1.out.1.2.1), (hnb.cell (World.block_lt_of_cell? _ _ (H1.out.1.2.2.1))).trans (H1.out.1.2.2.1), (hnb.cell (World.block_lt_of_cell? _ _ (H1.out.1.2.2.2.1))).trans (H1.out.1.2.2.2.1), (hnb.cell (World.block_lt_of_cell? _ _ (H1.out.1.2.2.2.2.1))).trans (H1.out.1.2.2.2.2.1), (hnb.cell (World.block_lt_of_cell? _ _ (H1.out.1.2.2.2.2.2.1))).trans (H1.out.1.2.2.2.2.2.1), (hnb.cell (World.block_lt_of_cell? _ _ (H1.out.1.2.2.2.2.2.2.1))).trans (H1.out.1.2.2.2.2.2.2.1), (hnb.cell (World.block_lt_of_cell? _ _ (H1.out.1.2.2.2.2.2.2.2.1))).trans (H1.out.1.2.2.2.2.2.2.2.1), (hnb.cell (World.block_lt_of_cell? _ _ (H1.out.1.2.2.2.2.2.2.2.2.1))).trans (H1.out.1.2.2.2.2.2.2.2.2.1), (hnb.cell (World.block_lt_of_cell? _ _ (H1.out.1.2.2.2.2.2.2.2.2.2.1))).trans (H1.out.1.2.2.2.2.2.2.2.2.2.1), (hnb.cell (World.block_lt_of_cell? _ _ (H1.out.1.2.2.2.2.2.2.2.2.2.2.1))).trans (H1.out.1.2.2.2.2.2.2.2.2.2.2.1), (hnb.cell (World.block_lt_of_cell? _ _ (H1.out.1.2.2.2.2.2.2.2.2.2.2.2.1))).trans (H1.out.1.2.2.2.2.2.2.2.2.2.2.2.1), (hnb.cell (World.block_lt_of_cell? _ _ (H1.out.1.2.2.2.2.2.2.2.2.2.2.2.2.1))).trans (H1.out.1.2.2.2.2.2.2.2.2.2.2.2.2.1), (hnb.cell (World.block_lt_of_cell? _ _ (H1.out.1.2.2.2.2.2.2.2.2.2.2.2.2.2.1))).trans (H1.out.1.2.2.2.2.2.2.2.2.2.2.2.2.2.1), trivial⟩
            have H2 := Lib.hid (And.intro hS2 (And.intro hnr hnb))
            clear hS2 hnr hnb
            refine wpPlan_keep (i := 9) rfl (by rfl) fun K hK => wp_value14 (.slice (some ⟨w1.heap.size, 0, none⟩) 1 1) (w1.alloc (.cells (xC Z1 a1 c1) 36)) (by go_simp) (hK _ _ H2.out.1 ?_)
            simp only [Act.put, List.setIfInBounds_toArray, List.set_cons_zero, List.set_cons_succ]
            generalize hw2 : w1.alloc (.cells (xC Z1 a1 c1) 36) = w2 at *
            have hb2 := H1.out.2.2.trans (H2.out.2.2.mono H1.out.2.2.size)
            have how2 := owL_below (owL_below HI.out.2.2.1 H1.out.2.2) H2.out.2.2
            have H3 := Lib.hid (And.intro hb2 how2)
            clear hb2 how2 hw2
            refine wpPlan_keep (i := 10) rfl (by rfl) fun K hK => wp_append_one (f := fX) (B := N + 4) expr_elem (.tmp 32) (.tmp 40) 34 rfl Tryd.underlying34 (.slice ao k cp) PL (Z1, a1, c1) rfl H3.out.2 w1.heap.size 1 rfl H2.out.2.1 rfl (fX_one _) (by omega) (by have := H3.out.1.size; omega) ?_
            intro gg cp6 w6 h1 h2 h3 h4
            have hno : ∀ j, (Value.slice ao k cp).ownBlock = some j → N + 4 ≤ j ∧ j < wr.heap.size := fun j e => owL_lt HI.out.2.2.1 j e
            have hnF : ∀ {b i : Nat}, (b = N + 3 ∨ b < N + 2) → (Value.slice ao k cp).ownBlock ≠ some (⟨b, i, none⟩ : Addr).block := fun {b i} hp e => by have := hno b e; omega
            have hS6 : w6.cell? ⟨N + 3, 5, none⟩ = some (.slice ao k cp) ∧ w6.cell? ⟨N, 5, none⟩ = some (.slice (some ⟨bb, oo, none⟩) n c) ∧ w6.cell? ⟨bb, oo + k * 6, none⟩ = some (.int .i64 z.op) ∧ w6.cell? ⟨bb, oo + k * 6 + 1, none⟩ = some (.int .i64 z.v.kind) ∧ w6.cell? ⟨bb, oo + k * 6 + 2, none⟩ = some (.int .i64 z.v.n) ∧ w6.cell? ⟨bb, oo + k * 6 + 3, none⟩ = some (.string z.v.s) ∧ w6.cell? ⟨bb, oo + k * 6 + 4, none⟩ = some (.string z.s) ∧ w6.cell? ⟨bb, oo + k * 6 + 5, none⟩ = some (.slice az z.l.length cz) ∧ w6.cell? ⟨N + 1, 0, none⟩ = some (.int .i64 y.op) ∧ w6.cell? ⟨N + 1, 1, none⟩ = some (.int .i64 y.v.kind) ∧ w6.cell? ⟨N + 1, 2, none⟩ = some (.int .i64 y.v.n) ∧ w6.cell? ⟨N + 1, 3, none⟩ = some (.string y.v.s) ∧ w6.cell? ⟨N + 1, 4, none⟩ = some (.string y.s) ∧ w6.cell? ⟨N + 1, 5, none⟩ = some (.slice none y.l.length 0) ∧ True := ⟨app_cells14 h2 (H2.out.1.1) (hnF (.inl rfl)), app_cells14 h2 (H2.out.1.2.1) (hnF (.inr (by omega))), app_cells14 h2 (H2.out.1.2.2.1) (hnF (.inr (by omega))), app_cells14 h2 (H2.out.1.2.2.2.1) (hnF (.inr (by omega))), app_cells14 h2 (H2.out.1.2.2.2.2.1) (hnF (.inr (by omega))), app_cells14 h2 (H2.out.1.2.2.2.2.2.1) (hnF (.inr (by omega))), app_cells14 h2 (H2.out.1.2.2.2.2.2.2.1) (hnF (.inr (by omega))), app_cells14 h2 (H2.out.1.2.2.2.2.2.2.2.1) (hnF (.inr (by omega))), app_cells14 h2 (H2.out.1.2.2.2.2.2.2.2.2.1) (hnF (.inr (by omega))), app_cells14 h2 (H2.out.1.2.2.2.2.2.2.2.2.2.1) (hnF (.inr (by omega))), app_cells14 h2 (H2.out.1.2.2.2.2.2.2.2.2.2.2.1) (hnF (.inr (by omega))), app_cells14 h2 (H2.out.1.2.2.2.2.2.2.2.2.2.2.2.1) (hnF (.inr (by omega))), app_cells14 h2 (H2.out.1.2.2.2.2.2.2.2.2.2.2.2.2.1) (hnF (.inr (by omega))), app_cells14 h2 (H2.out.1.2.2.2.2.2.2.2.2.2.2.2.2.2.1) (hnF (.inr (by omega))), trivial⟩
            refine hK _ _ hS6 ?_
            have hrz := rowV_only (rowV_below HI.out.2.1 H3.out.1 (rowV_lt HI.out.2.1)) h2 (fun e => by have := hno _ e; omega)
            have hrx := rowV_only (rowV_below HI.out.2.2.2.2.2.1 H3.out.1 (rowV_lt HI.out.2.2.2.2.2.1)) h2 (fun e => by have := hno _ e; omega)
            have hry := rowV_only (rowV_below HI.out.2.2.2.2.2.2.1 H3.out.1 (rowV_lt HI.out.2.2.2.2.2.2.1)) h2 (fun e => by have := hno _ e; omega)
            have hrr := rowV_only (rowV_below HI.out.2.2.2.2.2.2.2 H3.out.1 (rowV_lt HI.out.2.2.2.2.2.2.2)) h2 (fun e => by have := hno _ e; omega)
            have fz5 := rowV_frozen hrz 5
            have cz5 := rowV_cell hrz 5
            simp only [List.getElem?_cons_zero, List.getElem?_cons_succ] at cz5
            rw [hPL] at h1
            rw [hPL]
            have HF := Lib.hid (And.intro h1 (And.intro hrz (And.intro hrx (And.intro hry hrr))))
            clear hrz hrx hry hrr
            have H6 := Lib.hid (And.intro h1 (And.intro h2 (And.intro h3 (And.intro h4 hS6))))
            clear h1 h2 h3 h4 hS6
            simp only [Act.put, List.setIfInBounds_toArray, List.set_cons_zero, List.set_cons_succ]
            show wpList _ _ _ _ _ w6
            simp only [List.drop_succ_cons, List.drop_zero]
            go_wp2_with fail
            go_roundw
            case rel =>
              have hz0 : N ≤ wr.heap.size := by have h := HI.out.2.2.2.2.1.size; rw [HN.out] at h; exact h
              have ho8 := (Only.refl (fun j => j = N + 3) w6).setCell (g := N + 3) (i := 5) (fun _ => rfl) (.slice (some ⟨gg, 0, none⟩) (k + 1) cp6)
              have h6 := HF.out.2
              have hgg := (owL_lt HF.out.1 gg rfl).1
              have hB6 := HI.out.2.2.2.2.1.trans (H3.out.1.mono hz0)
              have hB7 := hB6.trans (H6.out.2.1.below (fun j _ e => by have := hno j e; omega) (by have h := hB6.size; rw [HN.out] at h; omega))
              refine ⟨k + 1, PL ++ [(Z1, a1, c1)], some ⟨gg, 0, none⟩, cp6, by go_num, by omega, by rw [List.length_append, hPL]; rfl, Lib.hid ⟨?_, rowV_stored h6.1 5 _, owL_only HF.out.1 ho8 (fun j e e2 => by
                have e : gg = j := by simpa [Value.ownBlock] using e
                omega), ?_, hB7.trans (ho8.below (fun j _ e => by omega) (by have h := hB7.size; rw [HN.out] at h; omega)), (by rw [← hn]; exact rowV_only h6.2.1 ho8 (by omega)), rowV_only h6.2.2.1 ho8 (by omega), rowV_only h6.2.2.2 ho8 (by omega)⟩⟩
              · rw [List.map_append, HI.out.1, HWk.out]; rfl
              · intro q hq
                rw [List.mem_append, List.mem_singleton] at hq
                rcases hq with hq | rfl
                · exact newX_only (newX_app (newX_below (HI.out.2.2.2.1 q hq) H3.out.1) H6.out.2.1 H6.out.2.2.1) ho8 (by omega)
                · have h1 : NewX (N + 4) (.slice ao k cp) w1 Z1 a1 := xat_mono (fun j hj => ⟨by have : wr.heap.size ≤ j := hj.1; omega, fun e => by have : wr.heap.size ≤ j := hj.1; have := hno j e; omega, hj.2⟩) _ _ H1.out.2.1
                  exact newX_only (newX_app (newX_below h1 H2.out.2.2) H6.out.2.1 H6.out.2.2.1) ho8 (by omega)
            case measure => simp only [intOf]; omega
          · obtain rfl : k = n := by omega
            obtain ⟨z0, z1, z2, z3, z4⟩ := (⟨rowV_cell HI.out.2.1 0, rowV_cell HI.out.2.1 1, rowV_cell HI.out.2.1 2, rowV_cell HI.out.2.1 3, rowV_cell HI.out.2.1 4⟩ : _ ∧ _ ∧ _ ∧ _ ∧ _)
            simp only [List.getElem?_cons_zero, List.getElem?_cons_succ] at z0 z1 z2 z3 z4
            obtain ⟨f0, f1, f2, f3, f4, f5⟩ := x_ice HI.out.2.2.2.2.2.2.2
            obtain ⟨g0, g1, g2, g3, g4, g5⟩ := x_cells HI.out.2.2.2.2.2.2.2
            simp only [Nat.zero_add] at g0 g1 g2 g3 g4 g5
            go_wp2_with fail
            have hxp := x_put HI.out.2.2.2.2.2.2.2 x.op x.v.kind x.v.n x.v.s x.s ao k cp
            have ho := hxp.2 (fun j => j = N + 2) rfl
            have hPX : PL.map (·.1) = Ty.withL y x.l := by rw [HI.out.1, List.take_of_length_le (by rw [HL.out]; exact Nat.le_refl _)]
            have hz0 : N ≤ wr.heap.size := by have h := HI.out.2.2.2.2.1.size; rw [HN.out] at h; exact h
            have how := owL_only HI.out.2.2.1 ho (fun j e e2 => by have := (owL_lt HI.out.2.2.1 j e).1; omega)
            have hN2 : ∀ q ∈ PL, NewX (N + 4) (.slice ao k cp) _ q.1 q.2.1 := fun q hq => newX_only (HI.out.2.2.2.1 q hq) ho (by omega)
            have hfin := xat_own (w := _) (by rw [hPL]; exact how) (by rw [hPL]; exact hN2) x.op x.v x.s
            rw [hPX] at hfin
            have hlen : (Ty.withL y x.l).length = k := HL.out
            refine bodyPost_ret (v := xV (.mk x.op x.v x.s (Ty.withL y x.l)) ao cp) (results_x (p := 4) rfl _ _ (N + 2) (.mk x.op x.v x.s (Ty.withL y x.l)) ao cp rfl ?_) rfl ⟨ao, cp, by rw [HW.out], ?_, ?_⟩
            · show RowV _ _ _ [.int .i64 x.op, .int .i64 x.v.kind, .int .i64 x.v.n, .string x.v.s, .string x.s, .slice ao (Ty.withL y x.l).length cp]
              rw [hlen]
              exact hxp.1
            · rw [HW.out]
              exact xat_mono (fun j hj => ⟨by have := hj.1; rw [HN.out]; omega, hj.2⟩) _ _ hfin
            · rw [HN.out]
              exact HI.out.2.2.2.2.1.trans (ho.below (fun j _ e => by omega) hz0)
      · clear tests
        rw [t2] at eV
        go_enter Tryd.func16, Tryd.ntmps16
        go_upto_region 4 with fail
        generalize hWg : World.alloc _ _ = Wg
        obtain rfl : Wg = W4 := hWg.symm.trans HW4.out
        clear hWg
        simp only [HN.out]
        have H4 := H4
        go_wp2_with fail
        go_loopw [6] (fun i wr => ∃ (k : Nat) (PL : List Part14) (ao : Option Addr) (cp : Nat), i = .int .i64 (k : Int) ∧ k ≤ x.l.length ∧ PL.length = k ∧ Hid (PL.map (·.1) = (Ty.withL y x.l).take k ∧ RowV wr (N + 3) 36 [.int .i64 x.op, .int .i64 x.v.kind, .int .i64 x.v.n, .string x.v.s, .string x.s, .slice ao k cp] ∧ OwL fX 36 6 wr (N + 4) (.slice ao k cp) PL ∧ (∀ p ∈ PL, NewX (N + 4) (.slice ao k cp) wr p.1 p.2.1) ∧ Below N w wr ∧ RowV wr N 36 (xC x a c).toList ∧ RowV wr (N + 1) 36 (xC y none 0).toList ∧ RowV wr (N + 2) 36 (xC Sx.no none 0).toList)) (fun i _ => x.l.length - (intOf i).toNat)
        case atStart =>
          exact ⟨0, [], none, 0, rfl, Nat.zero_le _, rfl, Lib.hid ⟨rfl, H4.out.2.2.2.2.2, owL_nil _, fun p hp => (by cases hp), H4.out.1, H4.out.2.2.1, H4.out.2.2.2.1, H4.out.2.2.2.2.1⟩⟩
        case round =>
          obtain ⟨k, PL, ao, cp, rfl, hk, hPL, HI⟩ := hrel
          generalize hn : x.l.length = n at *
          have hsr : N + 4 ≤ wr.heap.size := by have := rowV_lt HI.out.2.1; omega
          have kz := rowV_cell HI.out.2.1 5
          have kx := (x_cells HI.out.2.2.2.2.2.1).2.2.2.2.2
          simp only [List.getElem?_cons_zero, List.getElem?_cons_succ, Nat.zero_add] at kz kx
          rw [hn] at kx
          by_cases hlt : k < n
          · have hkl : k < x.l.length := by omega
            obtain ⟨bb, oo, az, cz, ea, hc6, hxz⟩ := xat_at HA.out.2.1 k hkl
            subst ea
            have hBr := HI.out.2.2.2.2.1
            rw [← HN.out] at hBr
            have hbb : bb < w.heap.size := World.block_lt_of_cell? _ _ hc6.1
            rw [HN.out] at hbb
            have hc6' := cells6_only hc6 (Only.of_none (F := fun _ => False) hBr) (fun h => h)
            obtain ⟨x0, x1, x2, x3, x4, x5⟩ := hc6'
            obtain ⟨y0, y1, y2, y3, y4, y5⟩ := x_cells HI.out.2.2.2.2.2.2.1
            simp only [Nat.zero_add] at y0 y1 y2 y3 y4 y5
            have hcz := HA.out.2.2 x.l[k] (HA.out.1 x.l[k] (List.getElem_mem hkl)) S az cz
            have HZ := Lib.hid fun (wx : World) (hb : Below wr.heap.size wr wx) => hcz wx (xat_below hxz (hBr.trans (hb.mono hBr.size)))
            have hWk : (Ty.withL y x.l).take (k + 1) = (Ty.withL y x.l).take k ++ [Ty.withX y x.l[k]] := by
              rw [List.take_succ_eq_append_getElem (by rw [HL.out]; exact hlt)]
              congr 2
              simp only [Ty.withL_map, List.getElem_map]
            have HWk := Lib.hid hWk
            clear hcz hWk hc6 hxz hBr
            generalize x.l[k] = z at *
            go_wp2_with fail
            refine wp_region_plan (S := fun wx => wx.cell? ⟨N + 3, 5, none⟩ = some (.slice ao k cp) ∧ wx.cell? ⟨N, 5, none⟩ = some (.slice (some ⟨bb, oo, none⟩) n c) ∧ wx.cell? ⟨bb, oo + k * 6, none⟩ = some (.int .i64 z.op) ∧ wx.cell? ⟨bb, oo + k * 6 + 1, none⟩ = some (.int .i64 z.v.kind) ∧ wx.cell? ⟨bb, oo + k * 6 + 2, none⟩ = some (.int .i64 z.v.n) ∧ wx.cell? ⟨bb, oo + k * 6 + 3, none⟩ = some (.string z.v.s) ∧ wx.cell? ⟨bb, oo + k * 6 + 4, none⟩ = some (.string z.s) ∧ wx.cell? ⟨bb, oo + k * 6 + 5, none⟩ = some (.slice az z.l.length cz) ∧ wx.cell? ⟨N + 1, 0, none⟩ = some (.int .i64 y.op) ∧ wx.cell? ⟨N + 1, 1, none⟩ = some (.int .i64 y.v.kind) ∧ wx.cell? ⟨N + 1, 2, none⟩ = some (.int .i64 y.v.n) ∧ wx.cell? ⟨N + 1, 3, none⟩ = some (.string y.v.s) ∧ wx.cell? ⟨N + 1, 4, none⟩ = some (.string y.s) ∧ wx.cell? ⟨N + 1, 5, none⟩ = some (.slice none y.l.length 0) ∧ True) 11 [(true, 0), (true, 1), (true, 2), (true, 3), (true, 4), (true, 5), (true, 6), (true, 7), (false, 8), (false, 9), (false, 10)] (by kernel_rfl) (fun _ d _ _ _ h => by cases d <;> exact h) (by kernel_rfl) ⟨kz, kx, x0, x1, x2, x3, x4, x5, y0, y1, y2, y3, y4, y5, trivial⟩ ?_
            refine wpPlan_step (i := 0) rfl ?_
            apply Exists.intro
            refine ⟨⟨by rfl, fun wx hSx => ?_⟩, ?_⟩
            · obtain ⟨kz, kx, x0, x1, x2, x3, x4, x5, y0, y1, y2, y3, y4, y5, -⟩ := hSx
              go_simp
              with_reducible rfl
            simp only [Act.put, List.setIfInBounds_toArray, List.set_cons_zero, List.set_cons_succ]
            refine wpPlan_step (i := 1) rfl ⟨(.slice ao k cp), ⟨by rfl, fun wx hSx => ?_⟩, ?_⟩
            · obtain ⟨kz, kx, x0, x1, x2, x3, x4, x5, y0, y1, y2, y3, y4, y5, -⟩ := hSx
              go_simp
            simp only [Act.put, List.setIfInBounds_toArray, List.set_cons_zero, List.set_cons_succ]
            refine wpPlan_step (i := 2) rfl ?_
            apply Exists.intro
            refine ⟨⟨by rfl, fun wx hSx => ?_⟩, ?_⟩
            · obtain ⟨kz, kx, x0, x1, x2, x3, x4, x5, y0, y1, y2, y3, y4, y5, -⟩ := hSx
              go_simp
              with_reducible rfl
            simp only [Act.put, List.setIfInBounds_toArray, List.set_cons_zero, List.set_cons_succ]
            refine wpPlan_step (i := 3) rfl ⟨(.slice (some ⟨bb, oo, none⟩) n c), ⟨by rfl, fun wx hSx => ?_⟩, ?_⟩
            · obtain ⟨kz, kx, x0, x1, x2, x3, x4, x5, y0, y1, y2, y3, y4, y5, -⟩ := hSx
              go_simp
            simp only [Act.put, List.setIfInBounds_toArray, List.set_cons_zero, List.set_cons_succ]
            refine wpPlan_step (i := 4) rfl ⟨(.int .i64 (k : Int)), ⟨by rfl, fun wx hSx => ?_⟩, ?_⟩
            · obtain ⟨kz, kx, x0, x1, x2, x3, x4, x5, y0, y1, y2, y3, y4, y5, -⟩ := hSx
              go_simp
            simp only [Act.put, List.setIfInBounds_toArray, List.set_cons_zero, List.set_cons_succ]
            refine wpPlan_step (i := 5) rfl ⟨(.pointer (some ⟨bb, oo + k * 6, none⟩)), ⟨by rfl, fun wx hSx => ?_⟩, ?_⟩
            · obtain ⟨kz, kx, x0, x1, x2, x3, x4, x5, y0, y1, y2, y3, y4, y5, -⟩ := hSx
              go_simp
            simp only [Act.put, List.setIfInBounds_toArray, List.set_cons_zero, List.set_cons_succ]
            refine wpPlan_step (i := 6) rfl ⟨(xV z az cz), ⟨by rfl, fun wx hSx => ?_⟩, ?_⟩
            · obtain ⟨kz, kx, x0, x1, x2, x3, x4, x5, y0, y1, y2, y3, y4, y5, -⟩ := hSx
              go_simp
            simp only [Act.put, List.setIfInBounds_toArray, List.set_cons_zero, List.set_cons_succ]
            refine wpPlan_step (i := 7) rfl ⟨(xV y none 0), ⟨by rfl, fun wx hSx => ?_⟩, ?_⟩
            · obtain ⟨kz, kx, x0, x1, x2, x3, x4, x5, y0, y1, y2, y3, y4, y5, -⟩ := hSx
              go_simp
            simp only [Act.put, List.setIfInBounds_toArray, List.set_cons_zero, List.set_cons_succ]
            have HS0 : Hid (wr.drew.cell? ⟨N + 3, 5, none⟩ = some (.slice ao k cp) ∧ wr.drew.cell? ⟨N, 5, none⟩ = some (.slice (some ⟨bb, oo, none⟩) n c) ∧ wr.drew.cell? ⟨bb, oo + k * 6, none⟩ = some (.int .i64 z.op) ∧ wr.drew.cell? ⟨bb, oo + k * 6 + 1, none⟩ = some (.int .i64 z.v.kind) ∧ wr.drew.cell? ⟨bb, oo + k * 6 + 2, none⟩ = some (.int .i64 z.v.n) ∧ wr.drew.cell? ⟨bb, oo + k * 6 + 3, none⟩ = some (.string z.v.s) ∧ wr.drew.cell? ⟨bb, oo + k * 6 + 4, none⟩ = some (.string z.s) ∧ wr.drew.cell? ⟨bb, oo + k * 6 + 5, none⟩ = some (.slice az z.l.length cz) ∧ wr.drew.cell? ⟨N + 1, 0, none⟩ = some (.int .i64 y.op) ∧ wr.drew.cell? ⟨N + 1, 1, none⟩ = some (.int .i64 y.v.kind) ∧ wr.drew.cell? ⟨N + 1, 2, none⟩ = some (.int .i64 y.v.n) ∧ wr.drew.cell? ⟨N + 1, 3, none⟩ = some (.string y.v.s) ∧ wr.drew.cell? ⟨N + 1, 4, none⟩ = some (.string y.s) ∧ wr.drew.cell? ⟨N + 1, 5, none⟩ = some (.slice none y.l.length 0) ∧ True) := Lib.hid ⟨kz, kx, x0, x1, x2, x3, x4, x5, y0, y1, y2, y3, y4, y5, trivial⟩
            clear kz kx x0 x1 x2 x3 x4 x5 y0 y1 y2 y3 y4 y5
            refine wpPlan_call (i := 8) rfl (by rfl) 16 #[xV z az cz, xV y none 0] (by go_simp) (HZ.out _ (Below.refl _ _).drew) ?_
            rintro e w1 ⟨a1, c1, rfl, hX1, hb1⟩
            have hS0 := HS0.out
            have hS1 : w1.cell? ⟨N + 3, 5, none⟩ = some (.slice ao k cp) ∧ w1.cell? ⟨N, 5, none⟩ = some (.slice (some ⟨bb, oo, none⟩) n c) ∧ w1.cell? ⟨bb, oo + k * 6, none⟩ = some (.int .i64 z.op) ∧ w1.cell? ⟨bb, oo + k * 6 + 1, none⟩ = some (.int .i64 z.v.kind) ∧ w1.cell? ⟨bb, oo + k * 6 + 2, none⟩ = some (.int .i64 z.v.n) ∧ w1.cell? ⟨bb, oo + k * 6 + 3, none⟩ = some (.string z.v.s) ∧ w1.cell? ⟨bb, oo + k * 6 + 4, none⟩ = some (.string z.s) ∧ w1.cell? ⟨bb, oo + k * 6 + 5, none⟩ = some (.slice az z.l.length cz) ∧ w1.cell? ⟨N + 1, 0, none⟩ = some (.int .i64 y.op) ∧ w1.cell? ⟨N + 1, 1, none⟩ = some (.int .i64 y.v.kind) ∧ w1.cell? ⟨N + 1, 2, none⟩ = some (.int .i64 y.v.n) ∧ w1.cell? ⟨N + 1, 3, none⟩ = some (.string y.v.s) ∧ w1.cell? ⟨N + 1, 4, none⟩ = some (.string y.s) ∧ w1.cell? ⟨N + 1, 5, none⟩ = some (.slice none y.l.length 0) ∧ True := ⟨(hb1.cell (World.block_lt_of_cell? _ _ (hS0.1))).trans (hS0.1), (hb1.cell (World.block_lt_of_cell? _ _ (hS0.2.1))).trans (hS0.2.1), (hb1.cell (World.block_lt_of_cell? _ _ (hS0.2.2.1))).trans (hS0.2.2.1), (hb1.cell (World.block_lt_of_cell? _ _ (hS0.2.2.2.1))).trans (hS0.2.2.2.1), (hb1.cell (World.block_lt_of_cell? _ _ (hS0.2.2.2.2.1))).trans (hS0.2.2.2.2.1), (hb1.cell (World.block_lt_of_cell? _ _ (hS0.2.2.2.2.2.1))).trans (hS0.2.2.2.2.2.1), (hb1.cell (World.block_lt_of_cell? _ _ (hS0.2.2.2.2.2.2.1))).trans (hS0.2.2.2.2.2.2.1), (hb1.cell (World.block_lt_of_cell? _ _ (hS0.2.2.2.2.2.2.2.1))).trans (hS0.2.2.2.2.2.2.2.1), (hb1.cell (World.block_lt_of_cell? _ _ (hS0.2.2.2.2.2.2.2.2.1))).trans (hS0.2.2.2.2.2.2.2.2.1), (hb1.cell (World.block_lt_of_cell? _ _ (hS0.2.2.2.2.2.2.2.2.2.1))).trans (hS0.2.2.2.2.2.2.2.2.2.1), (hb1.cell (World.block_lt_of_cell? _ _ (hS0.2.2.2.2.2.2.2.2.2.2.1))).trans (hS0.2.2.2.2.2.2.2.2.2.2.1), (hb1.cell (World.block_lt_of_cell? _ _ (hS0.2.2.2.2.2.2.2.2.2.2.2.1))).trans (hS0.2.2.2.2.2.2.2.2.2.2.2.1), (hb1.cell (World.block_lt_of_cell? _ _ (hS0.2.2.2.2.2.2.2.2.2.2.2.2.1))).trans (hS0.2.2.2.2.2.2.2.2.2.2.2.2.1), (hb1.cell (World.block_lt_of_cell? _ _ (hS0.2.2.2.2.2.2.2.2.2.2.2.2.2.1))).trans (hS0.2.2.2.2.2.2.2.2.2.2.2.2.2.1), trivial⟩
            have H1 := Lib.hid (And.intro hS1 (And.intro hX1 (show Below wr.heap.size wr w1 from (Below.refl _ _).drew.trans hb1)))
            clear hS0 hS1 hX1 hb1
            refine .inl ⟨_, rfl, H1.out.1, ?_⟩
            simp only [Act.put, List.setIfInBounds_toArray, List.set_cons_zero, List.set_cons_succ]
            generalize Ty.withX y z = Z1 at *
            have hnb := (x_new Z1 a1 c1 w1).2.1
            have hnr := (x_new Z1 a1 c1 w1).1
            have hS2 : (w1.alloc (.cells (xC Z1 a1 c1) 36)).cell? ⟨N + 3, 5, none⟩ = some (.slice ao k cp) ∧ (w1.alloc (.cells (xC Z1 a1 c1) 36)).cell? ⟨N, 5, none⟩ = some (.slice (some ⟨bb, oo, none⟩) n c) ∧ (w1.alloc (.cells (xC Z1 a1 c1) 36)).cell? ⟨bb, oo + k * 6, none⟩ = some (.int .i64 z.op) ∧ (w1.alloc (.cells (xC Z1 a1 c1) 36)).cell? ⟨bb, oo + k * 6 + 1, none⟩ = some (.int .i64 z.v.kind) ∧ (w1.alloc (.cells (xC Z1 a1 c1) 36)).cell? ⟨bb, oo + k * 6 + 2, none⟩ = some (.int .i64 z.v.n) ∧ (w1.alloc (.cells (xC Z1 a1 c1) 36)).cell? ⟨bb, oo + k * 6 + 3, none⟩ = some (.string z.v.s) ∧ (w1.alloc (.cells (xC Z1 a1 c1) 36)).cell? ⟨bb, oo + k * 6 + 4, none⟩ = some (.string z.s) ∧ (w1.alloc (.cells (xC Z1 a1 c1) 36)).cell? ⟨bb, oo + k * 6 + 5, none⟩ = some (.slice az z.l.length cz) ∧ (w1.alloc (.cells (xC Z1 a1 c1) 36)).cell? ⟨N + 1, 0, none⟩ = some (.int .i64 y.op) ∧ (w1.alloc (.cells (xC Z1 a1 c1) 36)).cell? ⟨N + 1, 1, none⟩ = some (.int .i64 y.v.kind) ∧ (w1.alloc (.cells (xC Z1 a1 c1) 36)).cell? ⟨N + 1, 2, none⟩ = some (.int .i64 y.v.n) ∧ (w1.alloc (.cells (xC Z1 a1 c1) 36)).cell? ⟨N + 1, 3, none⟩ = some (.string y.v.s) ∧ (w1.alloc (.cells (xC Z1 a1 c1) 36)).cell? ⟨N + 1, 4, none⟩ = some (.string y.s) ∧ (w1.alloc (.cells (xC Z1 a1 c1) 36)).cell? ⟨N + 1, 5, none⟩ = some (.slice none y.l.length 0) ∧ True := ⟨(hnb.cell (World.block_lt_of_cell? _ _ (H1.out.1.1))).trans (H1.out.1.1), (hnb.cell (World.block_lt_of_cell? _ _ (H1.out.1.2.1))).trans (H1.out.1.2.1), (hnb.cell (World.block_lt_of_cell? _ _ (H1.out.1.2.2.1))).trans (H1.out.1.2.2.1), (hnb.cell (World.block_lt_of_cell? _ _ (H1.out.1.2.2.2.1))).trans (H1.out.1.2.2.2.1), (hnb.cell (World.block_lt_of_cell? _ _ (H1.out.1.2.2.2.2.1))).trans (H1.out.1.2.2.2.2.1), (hnb.cell (World.block_lt_of_cell? _ _ (H1.out.1.2.2.2.2.2.1))).trans (H1.out.1.2.2.2.2.2.1), (hnb.cell (World.block_lt_of_cell? _ _ (H1.out.1.2.2.2.2.2.2.1))).trans (H1.out.1.2.2.2.2.2.2.1), (hnb.cell (World.block_lt_of_cell? _ _ (H1.out.1.2.2.2.2.2.2.2.1))).trans (H1.out.1.2.2.2.2.2.2.2.1), (hnb.cell (World.block_lt_of_cell? _ _ (H1.out.1.2.2.2.2.2.2.2.2.1))).trans (H1.out.1.2.2.2.2.2.2.2.2.1), (hnb.cell (World.block_lt_of_cell? _ _ (H1.out.1.2.2.2.2.2.2.2.2.2.1))).trans (H1.out.1.2.2.2.2.2.2.2.2.2.1), (hnb.cell (World.block_lt_of_cell? _ _ (H1.out.1.2.2.2.2.2.2.2.2.2.2.1))).trans (H1.out.1.2.2.2.2.2.2.2.2.2.2.1), (hnb.cell (World.block_lt_of_cell? _ _ (H1.out.1.2.2.2.2.2.2.2.2.2.2.2.1))).trans (H1.out.1.2.2.2.2.2.2.2.2.2.2.2.1), (hnb.cell (World.block_lt_of_cell? _ _ (H1.out.1.2.2.2.2.2.2.2.2.2.2.2.2.1))).trans (H1.out.1.2.2.2.2.2.2.2.2.2.2.2.2.1), (hnb.cell (World.block_lt_of_cell? _ _ (H1.out.1.2.2.2.2.2.2.2.2.2.2.2.2.2.1))).trans (H1.out.1.2.2.2.2.2.2.2.2.2.2.2.2.2.1), trivial⟩
            have H2 := Lib.hid (And.intro hS2 (And.intro hnr hnb))
            clear hS2 hnr hnb
            refine wpPlan_keep (i := 9) rfl (by rfl) fun K hK => wp_value14 (.slice (some ⟨w1.heap.size, 0, none⟩) 1 1) (w1.alloc (.cells (xC Z1 a1 c1) 36)) (by go_simp) (hK _ _ H2.out.1 ?_)
            simp only [Act.put, List.setIfInBounds_toArray, List.set_cons_zero, List.set_cons_succ]
            generalize hw2 : w1.alloc (.cells (xC Z1 a1 c1) 36) = w2 at *
            have hb2 := H1.out.2.2.trans (H2.out.2.2.mono H1.out.2.2.size)
            have how2 := owL_below (owL_below HI.out.2.2.1 H1.out.2.2) H2.out.2.2
            have H3 := Lib.hid (And.intro hb2 how2)
            clear hb2 how2 hw2
            refine wpPlan_keep (i := 10) rfl (by rfl) fun K hK => wp_append_one (f := fX) (B := N + 4) expr_elem (.tmp 32) (.tmp 40) 34 rfl Tryd.underlying34 (.slice ao k cp) PL (Z1, a1, c1) rfl H3.out.2 w1.heap.size 1 rfl H2.out.2.1 rfl (fX_one _) (by omega) (by have := H3.out.1.size; omega) ?_
            intro gg cp6 w6 h1 h2 h3 h4
            have hno : ∀ j, (Value.slice ao k cp).ownBlock = some j → N + 4 ≤ j ∧ j < wr.heap.size := fun j e => owL_lt HI.out.2.2.1 j e
            have hnF : ∀ {b i : Nat}, (b = N + 3 ∨ b < N + 2) → (Value.slice ao k cp).ownBlock ≠ some (⟨b, i, none⟩ : Addr).block := fun {b i} hp e => by have := hno b e; omega
            have hS6 : w6.cell? ⟨N + 3, 5, none⟩ = some (.slice ao k cp) ∧ w6.cell? ⟨N, 5, none⟩ = some (.slice (some ⟨bb, oo, none⟩) n c) ∧ w6.cell? ⟨bb, oo + k * 6, none⟩ = some (.int .i64 z.op) ∧ w6.cell? ⟨bb, oo + k * 6 + 1, none⟩ = some (.int .i64 z.v.kind) ∧ w6.cell? ⟨bb, oo + k * 6 + 2, none⟩ = some (.int .i64 z.v.n) ∧ w6.cell? ⟨bb, oo + k * 6 + 3, none⟩ = some (.string z.v.s) ∧ w6.cell? ⟨bb, oo + k * 6 + 4, none⟩ = some (.string z.s) ∧ w6.cell? ⟨bb, oo + k * 6 + 5, none⟩ = some (.slice az z.l.length cz) ∧ w6.cell? ⟨N + 1, 0, none⟩ = some (.int .i64 y.op) ∧ w6.cell? ⟨N + 1, 1, none⟩ = some (.int .i64 y.v.kind) ∧ w6.cell? ⟨N + 1, 2, none⟩ = some (.int .i64 y.v.n) ∧ w6.cell? ⟨N + 1, 3, none⟩ = some (.string y.v.s) ∧ w6.cell? ⟨N + 1, 4, none⟩ = some (.string y.s) ∧ w6.cell? ⟨N + 1, 5, none⟩ = some (.slice none y.l.length 0) ∧ True := ⟨app_cells14 h2 (H2.out.1.1) (hnF (.inl rfl)), app_cells14 h2 (H2.out.1.2.1) (hnF (.inr (by omega))), app_cells14 h2 (H2.out.1.2.2.1) (hnF (.inr (by omega))), app_cells14 h2 (H2.out.1.2.2.2.1) (hnF (.inr (by omega))), app_cells14 h2 (H2.out.1.2.2.2.2.1) (hnF (.inr (by omega))), app_cells14 h2 (H2.out.1.2.2.2.2.2.1) (hnF (.inr (by omega))), app_cells14 h2 (H2.out.1.2.2.2.2.2.2.1) (hnF (.inr (by omega))), app_cells14 h2 (H2.out.1.2.2.2.2.2.2.2.1) (hnF (.inr (by omega))), app_cells14 h2 (H2.out.1.2.2.2.2.2.2.2.2.1) (hnF (.inr (by omega))), app_cells14 h2 (H2.out.1.2.2.2.2.2.2.2.2.2.1) (hnF (.inr (by omega))), app_cells14 h2 (H2.out.1.2.2.2.2.2.2.2.2.2.2.1) (hnF (.inr (by omega))), app_cells14 h2 (H2.out.1.2.2.2.2.2.2.2.2.2.2.2.1) (hnF (.inr (by omega))), app_cells14 h2 (H2.out.1.2.2.2.2.2.2.2.2.2.2.2.2.1) (hnF (.inr (by omega))), app_cells14 h2 (H2.out.1.2.2.2.2.2.2.2.2.2.2.2.2.2.1) (hnF (.inr (by omega))), trivial⟩
            refine hK _ _ hS6 ?_
            have hrz := rowV_only (rowV_below HI.out.2.1 H3.out.1 (rowV_lt HI.out.2.1)) h2 (fun e => by have := hno _ e; omega)
            have hrx := rowV_only (rowV_below HI.out.2.2.2.2.2.1 H3.out.1 (rowV_lt HI.out.2.2.2.2.2.1)) h2 (fun e => by have := hno _ e; omega)
            have hry := rowV_only (rowV_below HI.out.2.2.2.2.2.2.1 H3.out.1 (rowV_lt HI.out.2.2.2.2.2.2.1)) h2 (fun e => by have := hno _ e; omega)
            have hrr := rowV_only (rowV_below HI.out.2.2.2.2.2.2.2 H3.out.1 (rowV_lt HI.out.2.2.2.2.2.2.2)) h2 (fun e => by have := hno _ e; omega)
            have fz5 := rowV_frozen hrz 5
            have cz5 := rowV_cell hrz 5
            simp only [List.getElem?_cons_zero, List.getElem?_cons_succ] at cz5
            rw [hPL] at h1
            rw [hPL]
            have HF := Lib.hid (And.intro h1 (And.intro hrz (And.intro hrx (And.intro hry hrr))))
            clear hrz hrx hry hrr
            have H6 := Lib.hid (And.intro h1 (And.intro h2 (And.intro h3 (And.intro h4 hS6))))
            clear h1 h2 h3 h4 hS6
            simp only [Act.put, List.setIfInBounds_toArray, List.set_cons_zero, List.set_cons_succ]
            show wpList _ _ _ _ _ w6
            simp only [List.drop_succ_cons, List.drop_zero]
            go_wp2_with fail
            go_roundw
            case rel =>
              have hz0 : N ≤ wr.heap.size := by have h := HI.out.2.2.2.2.1.size; rw [HN.out] at h; exact h
              have ho8 := (Only.refl (fun j => j = N + 3) w6).setCell (g := N + 3) (i := 5) (fun _ => rfl) (.slice (some ⟨gg, 0, none⟩) (k + 1) cp6)
              have h6 := HF.out.2
              have hgg := (owL_lt HF.out.1 gg rfl).1
              have hB6 := HI.out.2.2.2.2.1.trans (H3.out.1.mono hz0)
              have hB7 := hB6.trans (H6.out.2.1.below (fun j _ e => by have := hno j e; omega) (by have h := hB6.size; rw [HN.out] at h; omega))
              refine ⟨k + 1, PL ++ [(Z1, a1, c1)], some ⟨gg, 0, none⟩, cp6, by go_num, by omega, by rw [List.length_append, hPL]; rfl, Lib.hid ⟨?_, rowV_stored h6.1 5 _, owL_only HF.out.1 ho8 (fun j e e2 => by
                have e : gg = j := by simpa [Value.ownBlock] using e
                omega), ?_, hB7.trans (ho8.below (fun j _ e => by omega) (by have h := hB7.size; rw [HN.out] at h; omega)), (by rw [← hn]; exact rowV_only h6.2.1 ho8 (by omega)), rowV_only h6.2.2.1 ho8 (by omega), rowV_only h6.2.2.2 ho8 (by omega)⟩⟩
              · rw [List.map_append, HI.out.1, HWk.out]; rfl
              · intro q hq
                rw [List.mem_append, List.mem_singleton] at hq
                rcases hq with hq | rfl
                · exact newX_only (newX_app (newX_below (HI.out.2.2.2.1 q hq) H3.out.1) H6.out.2.1 H6.out.2.2.1) ho8 (by omega)
                · have h1 : NewX (N + 4) (.slice ao k cp) w1 Z1 a1 := xat_mono (fun j hj => ⟨by have : wr.heap.size ≤ j := hj.1; omega, fun e => by have : wr.heap.size ≤ j := hj.1; have := hno j e; omega, hj.2⟩) _ _ H1.out.2.1
                  exact newX_only (newX_app (newX_below h1 H2.out.2.2) H6.out.2.1 H6.out.2.2.1) ho8 (by omega)
            case measure => simp only [intOf]; omega
          · obtain rfl : k = n := by omega
            obtain ⟨z0, z1, z2, z3, z4⟩ := (⟨rowV_cell HI.out.2.1 0, rowV_cell HI.out.2.1 1, rowV_cell HI.out.2.1 2, rowV_cell HI.out.2.1 3, rowV_cell HI.out.2.1 4⟩ : _ ∧ _ ∧ _ ∧ _ ∧ _)
            simp only [List.getElem?_cons_zero, List.getElem?_cons_succ] at z0 z1 z2 z3 z4
            obtain ⟨f0, f1, f2, f3, f4, f5⟩ := x_ice HI.out.2.2.2.2.2.2.2
            obtain ⟨g0, g1, g2, g3, g4, g5⟩ := x_cells HI.out.2.2.2.2.2.2.2
            simp only [Nat.zero_add] at g0 g1 g2 g3 g4 g5
            go_wp2_with fail
            have hxp := x_put HI.out.2.2.2.2.2.2.2 x.op x.v.kind x.v.n x.v.s x.s ao k cp
            have ho := hxp.2 (fun j => j = N + 2) rfl
            have hPX : PL.map (·.1) = Ty.withL y x.l := by rw [HI.out.1, List.take_of_length_le (by rw [HL.out]; exact Nat.le_refl _)]
            have hz0 : N ≤ wr.heap.size := by have h := HI.out.2.2.2.2.1.size; rw [HN.out] at h; exact h
            have how := owL_only HI.out.2.2.1 ho (fun j e e2 => by have := (owL_lt HI.out.2.2.1 j e).1; omega)
            have hN2 : ∀ q ∈ PL, NewX (N + 4) (.slice ao k cp) _ q.1 q.2.1 := fun q hq => newX_only (HI.out.2.2.2.1 q hq) ho (by omega)
            have hfin := xat_own (w := _) (by rw [hPL]; exact how) (by rw [hPL]; exact hN2) x.op x.v x.s
            rw [hPX] at hfin
            have hlen : (Ty.withL y x.l).length = k := HL.out
            refine bodyPost_ret (v := xV (.mk x.op x.v x.s (Ty.withL y x.l)) ao cp) (results_x (p := 4) rfl _ _ (N + 2) (.mk x.op x.v x.s (Ty.withL y x.l)) ao cp rfl ?_) rfl ⟨ao, cp, by rw [HW.out], ?_, ?_⟩
            · show RowV _ _ _ [.int .i64 x.op, .int .i64 x.v.kind, .int .i64 x.v.n, .string x.v.s, .string x.s, .slice ao (Ty.withL y x.l).length cp]
              rw [hlen]
              exact hxp.1
            · rw [HW.out]
              exact xat_mono (fun j hj => ⟨by have := hj.1; rw [HN.out]; omega, hj.2⟩) _ _ hfin
            · rw [HN.out]
              exact HI.out.2.2.2.2.1.trans (ho.below (fun j _ e => by omega) hz0)
end Go.Proofs.YtmkckbidfpinfaaDoor
