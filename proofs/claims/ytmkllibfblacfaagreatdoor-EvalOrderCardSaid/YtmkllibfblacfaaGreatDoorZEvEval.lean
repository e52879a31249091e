/-
  Layer 16, the program's: Eval, of an expression in unmarked rows.
-/
import Derived.Test.YtmkllibfblacfaaGreatDoorZEvAtt
import Derived.Test.YtmkllibfblacfaaGreatDoorPk3
import Derived.Test.YtmkllibfblacfaaGreatDoorZSynLives
namespace Go.Proofs.YtmkllibfblacfaaGreatDoor
open Go.RowKit Go.Shelf
open Sx (X)
open Vl (V)
open Evw
attribute [local go_sem] Oper.semAt_some
/-- what Eval tells -/
def Ev.eval (L : List ColV) (R : List V) (x : X) : V × Int :=
  if Sx.right x = true ∧ L.length = R.length ∧ badRow R = false then (if (Ev.ev (Ev.env L R) x).2 = 0 then Ev.ev (Ev.env L R) x else (Vl.no, (Ev.ev (Ev.env L R) x).2)) else (Vl.no, 2)
theorem Ev.eval_no (L : List ColV) (R : List V) (x : X) : (Ev.eval L R x).2 = 0 ∨ (Ev.eval L R x).1 = Vl.no := by
  unfold Ev.eval
  split
  · split
    · rename_i h; exact .inl h
    · exact .inr rfl
  · exact .inr rfl
theorem results_v1 {fn : Func} {p u : Tmp} (h : fn.results = #[.cell p 31, .tmp u]) (tmps : Array Value) (w : World) (g : Nat) (v : V)
    (hp : tmps.getD p undef = .pointer (some ⟨g, 0, none⟩)) (hg : RowV w g 31 (valC v).toList) :
    (results fn tmps).run Tryz.prog w = .ok (.tuple #[valV v, tmps.getD u undef]) w := by
  have hl : (loadVar 31 ⟨g, 0, none⟩).run Tryz.prog w = .ok (valV v) w := run_loadVar_row (P := Tryz.prog) w g 31 31 (valC v) (0, 0) _ hg Tryz.underlying31 rfl info_val
  have hp' : tmps[p]?.getD undef = .pointer (some ⟨g, 0, none⟩) := by simpa using hp
  simp [results, h, hp', asAddr, hl]
set_option maxRecDepth 100000 in
set_option maxHeartbeats 6400000 in
theorem eval16_any (x : X) (a : Option Addr) (c : Nat) (L : List ColV) (al : Option Addr) (n lc : Nat) (R : List V) (ra : Option Addr) (m rc : Nat) (hn : L.length = n) (hm : R.length = m) (hl : n ≤ 100000) (hm2 : m ≤ 100000) (hN : ∀ y ∈ L, y.name.size ≤ 1000000) (hF : ∀ v ∈ R, Fit16 v)
    (w : World) (hX : XU w x a) (hf : Sx.fine x) (hd : Sx.deep x ≤ 1000) (hE : ErrR w) (hC : ReadsC w al L) (hV : ReadsV w ra R) :
    Calls Tryz.prog 16 #[xV x a c, .slice al n lc, .slice ra m rc] w fun e w' => e = .returned (.tuple #[valV (Ev.eval L R x).1, .int .i64 (Ev.eval L R x).2]) ∧ Below w.heap.size w w' := by
  have hbx := x_new x a c w
  obtain ⟨W2, hW2⟩ : ∃ W2, (w.alloc (.cells (xC x a c) 43)).alloc (.cells #[.int .i64 0, .int .i64 0, .string ⟨#[]⟩] 31) = W2 := ⟨_, rfl⟩
  have hb2 : Below w.heap.size w W2 := by rw [← hW2]; exact ((Below.refl w.heap.size w).alloc (Nat.le_refl _) _).alloc (by simp) _
  have hx2 : RowV W2 w.heap.size 43 (xC x a c).toList := by rw [← hW2]; exact rowV_alloc (rowV_new w _ _) _
  have hz2 : RowV W2 (w.heap.size + 1) 31 (valC Vl.no).toList := by
    rw [← hW2]
    have h := rowV_new (w.alloc (.cells (xC x a c) 43)) 31 (valC Vl.no).toList
    rw [World.size_alloc] at h
    exact h
  have HC := Lib.hid (check14_any (mk := False) x a c W2 (xu_ok (xu_below hX hb2)) hf hd (errR_below hE hb2))
  have c0 := rowV_cell hx2 0
  have c1 := rowV_cell hx2 1
  have c2 := rowV_cell hx2 2
  have c3 := rowV_cell hx2 3
  have c4 := rowV_cell hx2 4
  have c5 := rowV_cell hx2 5
  simp only [List.getElem?_cons_zero, List.getElem?_cons_succ] at c0 c1 c2 c3 c4 c5
  have H2 := Lib.hid (And.intro hb2 (And.intro hx2 hz2))
  clear hb2 hx2 hz2 hbx
  by_cases hr : Sx.right x = true
  · have hR2 : Sx.allR (Sx.po x 1) = true := by rw [← Sx.right_parts x 1]; exact hr
    have HR := Lib.hid hR2
    by_cases hnm : n = m
    · have HW := Lib.hid fun wx (hv : ReadsV wx ra R) => containsW16_any R ra m rc hm (by omega) wx hv
      have HV2 := Lib.hid hV
      cases hbad : badRow R with
      | true =>
        have e : Ev.eval L R x = (Vl.no, 2) := if_neg fun h => by rw [hbad] at h; cases h.2.2
        rw [e]
        rw [hbad] at HW
        subst hnm
        clear hn hm hl hm2 hN hF hX hf hd hE hC hV hr hR2 e hbad
        go_enter Tryz.func16, Tryz.ntmps16
        go_wp2_with fail
        clear hW2
        refine HC.out.mono ?_
        rintro e w3 ⟨r, rfl, hb3, hr⟩
        obtain rfl : r = 0 := by
          rcases hr with h | h
          · exact h.1
          · rcases h.2 with h | h
            · rw [HR.out] at h; cases h
            · exact h.elim
        have hB3 := H2.out.1.trans (hb3.mono H2.out.1.size)
        have H3 := Lib.hid (And.intro hB3 (rowV_below H2.out.2.2 hb3 (rowV_lt H2.out.2.2)))
        clear hr hb3 hB3
        go_wp2_with fail
        refine (HW.out _ (readsV_below16 HV2.out H3.out.1)).mono ?_
        rintro e w4 ⟨rfl, hb4⟩
        have hz4 := rowV_below H3.out.2 hb4 (rowV_lt H3.out.2)
        have z0 := rowV_cell hz4 0
        have z1 := rowV_cell hz4 1
        have z2 := rowV_cell hz4 2
        have f0 := rowV_frozen hz4 0
        have f1 := rowV_frozen hz4 1
        have f2 := rowV_frozen hz4 2
        simp only [List.getElem?_cons_zero, List.getElem?_cons_succ] at z0 z1 z2
        have hp := val_put hz4 0 0 ⟨#[]⟩
        have HB := Lib.hid (And.intro hp.1 ((H3.out.1.trans (hb4.mono H3.out.1.size)).trans (hp.2 _ (Nat.le_add_right _ 1))))
        clear hb4 hz4 hp
        go_wp2_with fail
        exact bodyPost_ret (v := .tuple #[valV Vl.no, .int .i64 2]) (results_v1 (p := 6) (u := 7) rfl _ _ (w.heap.size + 1) Vl.no rfl HB.out.1) rfl ⟨rfl, HB.out.2⟩
      | false =>
        rw [hbad] at HW
        obtain ⟨f0, hrun⟩ := Ev.mrun_all (Ev.env L R) x hr
        have hRz := Ev.eval_no L R x
        have e : Ev.eval L R x = (if (Ev.ev (Ev.env L R) x).2 = 0 then Ev.ev (Ev.env L R) x else (Vl.no, (Ev.ev (Ev.env L R) x).2)) := if_pos ⟨hr, by rw [hn, hm]; exact hnm, hbad⟩
        rw [← e] at hrun
        generalize Ev.eval L R x = Rz at *
        subst hnm
        have hxa : XAt w (fun j => j < w.heap.size) x a := xat_mono (fun j hj => by obtain ⟨cs, T, hj⟩ := hj; exact (Array.getElem?_eq_some_iff.1 hj).1) x a hX
        have HA := Lib.hid fun sb wx hS => attempt16_any (sb := sb) (lc := lc) (rc := rc) (w0 := w) hn hm hl hN hC hV hF x a c hxa ⟨hf, hr⟩ hd wx hS Rz f0 hrun hRz
        clear hn hm hl hm2 hN hF hX hf hd hE hC hV hr hR2 e hbad hrun hRz hxa
        go_enter Tryz.func16, Tryz.ntmps16
        go_wp2_with fail
        clear hW2
        refine HC.out.mono ?_
        rintro e w3 ⟨r, rfl, hb3, hr⟩
        obtain rfl : r = 0 := by
          rcases hr with h | h
          · exact h.1
          · rcases h.2 with h | h
            · rw [HR.out] at h; cases h
            · exact h.elim
        have hB3 := H2.out.1.trans (hb3.mono H2.out.1.size)
        have H3 := Lib.hid (And.intro hB3 (And.intro (rowV_below H2.out.2.2 hb3 (rowV_lt H2.out.2.2)) (rowV_below H2.out.2.1 hb3 (rowV_lt H2.out.2.1))))
        clear hr hb3 hB3
        go_wp2_with fail
        refine (HW.out _ (readsV_below16 HV2.out H3.out.1)).mono ?_
        rintro e w4 ⟨rfl, hb4⟩
        have hz4 := rowV_below H3.out.2.1 hb4 (rowV_lt H3.out.2.1)
        have hx4 := rowV_below H3.out.2.2 hb4 (rowV_lt H3.out.2.2)
        have hB4 := H3.out.1.trans (hb4.mono H3.out.1.size)
        obtain ⟨W5, hW5⟩ : ∃ W5, w4.alloc (.cells #[.slice al n lc, .slice ra n rc, .map none] 63) = W5 := ⟨_, rfl⟩
        have hb5 : Below w4.heap.size w4 W5 := by rw [← hW5]; exact (Below.refl _ _).alloc (Nat.le_refl _) _
        have hs5 : RowV W5 w4.heap.size 63 [.slice al n lc, .slice ra n rc, .map none] := by rw [← hW5]; exact rowV_new w4 _ [_, _, _]
        have hS5 : Scp w w4.heap.size al n lc ra rc L W5 := ⟨hB4.trans (hb5.mono hB4.size), hB4.size, none, hs5, .inl rfl⟩
        have c0 := rowV_cell hx4 0
        have c1 := rowV_cell hx4 1
        have c2 := rowV_cell hx4 2
        have c3 := rowV_cell hx4 3
        have c4 := rowV_cell hx4 4
        have c5 := rowV_cell hx4 5
        simp only [List.getElem?_cons_zero, List.getElem?_cons_succ] at c0 c1 c2 c3 c4 c5
        have hlt : w.heap.size < w4.heap.size := rowV_lt hx4
        have H5 := Lib.hid (And.intro hS5 (And.intro (rowV_below hz4 hb5 (rowV_lt hz4)) (And.intro (hB4.trans (hb5.mono hB4.size)) (And.intro hB4.size (rowV_lt hz4)))))
        have E5 := Lib.hid hW5
        clear hW5 hz4 hx4 hB4 hb4 hb5 hs5 hS5
        go_wp2_with fail
        rw [E5.out]
        refine (HA.out _ _ H5.out.1).mono ?_
        rintro e w6 ⟨rfl, hs6, ho6⟩
        have hz6 := rowV_only H5.out.2.1 ho6 (by have := H5.out.2.2.2; omega)
        have z0 := rowV_cell hz6 0
        have z1 := rowV_cell hz6 1
        have z2 := rowV_cell hz6 2
        have f0 := rowV_frozen hz6 0
        have f1 := rowV_frozen hz6 1
        have f2 := rowV_frozen hz6 2
        simp only [List.getElem?_cons_zero, List.getElem?_cons_succ] at z0 z1 z2
        have hp := val_put hz6 Rz.1.kind Rz.1.n Rz.1.s
        have HB := Lib.hid (And.intro hp.1 ((H5.out.2.2.1.trans (ho6.below (fun k hk e => by have e : k = w4.heap.size := e; have := H5.out.2.2.2; omega) (by have := H5.out.2.2.1.size; omega))).trans (hp.2 _ (Nat.le_add_right _ 1))))
        clear hs6 ho6 hz6 hp
        obtain ⟨⟨vk, vn, vs⟩, r⟩ := Rz
        go_wp2_with fail
        exact bodyPost_ret (v := .tuple #[valV ⟨vk, vn, vs⟩, .int .i64 r]) (results_v1 (p := 6) (u := 7) rfl _ _ (w.heap.size + 1) ⟨vk, vn, vs⟩ rfl HB.out.1) rfl ⟨rfl, HB.out.2⟩
    · have e : Ev.eval L R x = (Vl.no, 2) := if_neg fun h => hnm (by rw [← hn, ← hm]; exact h.2.1)
      rw [e]
      clear hn hm hl hm2 hN hF hX hf hd hE hC hV hr hR2 e
      go_enter Tryz.func16, Tryz.ntmps16
      go_wp2_with fail
      clear hW2
      refine HC.out.mono ?_
      rintro e w3 ⟨r, rfl, hb3, hr⟩
      obtain rfl : r = 0 := by
        rcases hr with h | h
        · exact h.1
        · rcases h.2 with h | h
          · rw [HR.out] at h; cases h
          · exact h.elim
      have hz4 := rowV_below H2.out.2.2 hb3 (rowV_lt H2.out.2.2)
      have z0 := rowV_cell hz4 0
      have z1 := rowV_cell hz4 1
      have z2 := rowV_cell hz4 2
      have f0 := rowV_frozen hz4 0
      have f1 := rowV_frozen hz4 1
      have f2 := rowV_frozen hz4 2
      simp only [List.getElem?_cons_zero, List.getElem?_cons_succ] at z0 z1 z2
      have hp := val_put hz4 0 0 ⟨#[]⟩
      have HB := Lib.hid (And.intro hp.1 ((H2.out.1.trans (hb3.mono H2.out.1.size)).trans (hp.2 _ (Nat.le_add_right _ 1))))
      clear hr hb3 hz4 hp
      go_wp2_with fail
      exact bodyPost_ret (v := .tuple #[valV Vl.no, .int .i64 2]) (results_v1 (p := 6) (u := 7) rfl _ _ (w.heap.size + 1) Vl.no rfl HB.out.1) rfl ⟨rfl, HB.out.2⟩
  · have e : Ev.eval L R x = (Vl.no, 2) := if_neg fun h => hr h.1
    rw [e]
    have hr2 : ¬ Sx.allR (Sx.po x 1) = true := by rw [← Sx.right_parts x 1]; exact hr
    have HR := Lib.hid hr2
    clear hn hm hl hm2 hN hF hX hf hd hE hC hV hr hr2 e
    go_enter Tryz.func16, Tryz.ntmps16
    go_wp2_with fail
    clear hW2
    refine HC.out.mono ?_
    rintro e w3 ⟨r, rfl, hb3, hr⟩
    obtain rfl : r = 2 := by
      rcases hr with h | h
      · exact absurd h.2 HR.out
      · exact h.1
    have hz3 := rowV_below H2.out.2.2 hb3 (rowV_lt H2.out.2.2)
    have z0 := rowV_cell hz3 0
    have z1 := rowV_cell hz3 1
    have z2 := rowV_cell hz3 2
    have f0 := rowV_frozen hz3 0
    have f1 := rowV_frozen hz3 1
    have f2 := rowV_frozen hz3 2
    simp only [List.getElem?_cons_zero, List.getElem?_cons_succ] at z0 z1 z2
    have hp := val_put hz3 0 0 ⟨#[]⟩
    have HB := Lib.hid (And.intro hp.1 ((H2.out.1.trans (hb3.mono H2.out.1.size)).trans (hp.2 _ (Nat.le_add_right _ 1))))
    clear hr hb3 hz3 hp
    go_wp2_with fail
    exact bodyPost_ret (v := .tuple #[valV Vl.no, .int .i64 2]) (results_v1 (p := 6) (u := 7) rfl _ _ (w.heap.size + 1) Vl.no rfl HB.out.1) rfl ⟨rfl, HB.out.2⟩
end Go.Proofs.YtmkllibfblacfaaGreatDoor
