/-
  Layer 14, the program's: Check.
-/
import Derived.Test.YtekahmlppaabjaaGreatDoorZSynPrF
namespace Go.Proofs.YtekahmlppaabjaaGreatDoor
open Go.RowKit Go.Shelf
open Sx (X)
attribute [local go_sem] Oper.semAt_some
/-- may each of these be? -/
def Sx.allR (l : List (X × Nat)) : Bool := l.all fun p => Sx.rightN p.1
theorem Sx.allR_app (l l' : List (X × Nat)) : Sx.allR (l ++ l') = (Sx.allR l && Sx.allR l') := List.all_append
theorem results_errno15 {fn : Func} {q : Tmp} (h : fn.results = #[.cell q 30]) (tmps : Array Value) (w : World) (g : Nat) (n : Int) (hp : tmps.getD q undef = .pointer (some ⟨g, 0, none⟩)) (hr : RowV w g 30 [.int .i64 n]) :
    (results fn tmps).run Tryz.prog w = .ok (.int .i64 n) w := by
  have hl : (loadVar 30 ⟨g, 0, none⟩).run Tryz.prog w = .ok (.int .i64 n) w := by
    have c := rowV_cell hr 0
    simp only [List.getElem?_cons_zero] at c
    go_simp
  have hp' : tmps[q]?.getD undef = .pointer (some ⟨g, 0, none⟩) := by simpa using hp
  simp [results, h, hp', asAddr, hl]
theorem rowV_put15 {W : World} {g T D : Nat} {l : List Value} (h : RowV W g T l) (hD : g ≠ D) (o' : Obj) : RowV (W.putObj D o') g T l := rowV_only h (putObj_only W D o') fun e => hD e
/-- a store into a row of one cell -/
theorem rowV_set15 {W : World} {g T : Nat} {u : Value} (h : RowV W g T [u]) (v : Value) : RowV (W.setCell ⟨g, 0, none⟩ v) g T [v] := rowV_stored h 0 v
set_option maxRecDepth 100000 in
theorem parts14_any (x : X) (a : Option Addr) (c : Nat) (w : World) : Calls Tryz.prog 19 #[xV x a c] w fun e w' => e = .returned (.func (.func 38) #[] #[.pointer (some ⟨w.heap.size, 0, none⟩)]) ∧ w' = w.alloc (.cells (xC x a c) 29) := by
  go_enter Tryz.func19, Tryz.ntmps19
  go_wp2_with fail
  go_ret
  exact ⟨rfl, rfl⟩
set_option maxRecDepth 100000 in
set_option maxHeartbeats 12800000 in
theorem check14_any {mk : Prop} (x : X) (a : Option Addr) (c : Nat) (w : World) (hX : XOk w w.heap.size mk x a) (hf : Sx.fine x) (hd : Sx.deep x ≤ 1000) (hE : ErrR w) :
    Calls Tryz.prog 15 #[xV x a c] w fun e w' => ∃ r : Int, e = .returned (.int .i64 r) ∧ Below w.heap.size w w' ∧ ((r = 0 ∧ Sx.allR (Sx.po x 1) = true) ∨ (r = 2 ∧ (Sx.allR (Sx.po x 1) = false ∨ mk))) := by
  have cP := fun wx => parts14_any x a c wx
  have HC := Lib.hid cP
  clear cP
  have hB0 := Lib.hid (x_new x a c w).2.1
  have HL := Lib.hid fun (wr : World) (hb : Below (w.alloc (.cells (xC x a c) 29)).heap.size (w.alloc (.cells (xC x a c) 29)) wr) => x_look hb
  obtain ⟨⟨c0, c1, c2, c3, c4, c5⟩, _⟩ := HL.out _ (Below.refl _ _)
  simp only [Nat.zero_add] at c0 c1 c2 c3 c4 c5
  refine (callsIn_wide (n := 6)).1 ?_
  refine callsIn_of_wp_marks Tryz.func15 rfl trivial ?_ rfl
  simp only [Tryz.ntmps15, List.size_toArray, List.length_cons, List.length_nil, Nat.reduceAdd, Nat.reduceSub, Array.replicate_succ, Array.replicate_zero, List.push_toArray, List.append_toArray, List.nil_append, List.cons_append]
  gi_wp2_with (refine ⟨trivial, ?_⟩; gi_at_call 19; refine (callsIn_wide.2 (HC.out _)).mono ?_; rintro e w1 ⟨rfl, rfl⟩)
  obtain ⟨W3, hW3⟩ : ∃ W3, ((w.alloc (.cells (xC x a c) 29)).alloc (.cells #[.int .i64 0] 30)).alloc (.cells (xC x a c) 29) = W3 := ⟨_, rfl⟩
  have hB3 : Below w.heap.size w W3 := by
    rw [← hW3]
    exact (((Below.refl w.heap.size w).alloc (Nat.le_refl _) _).alloc (by simp) _).alloc (by simp; omega) _
  have hs3 : W3.heap.size = w.heap.size + 3 := by rw [← hW3]; simp
  have hr1 : RowV W3 (w.heap.size + 1) 30 [.int .i64 0] := by
    rw [← hW3]
    have := rowV_new (w.alloc (.cells (xC x a c) 29)) 30 [.int .i64 0]
    rw [World.size_alloc] at this
    exact rowV_alloc this _
  have hr2 : RowV W3 (w.heap.size + 2) 29 (xC x a c).toList := by
    rw [← hW3]
    have := rowV_new ((w.alloc (.cells (xC x a c) 29)).alloc (.cells #[.int .i64 0] 30)) 29 (xC x a c).toList
    rw [World.size_alloc, World.size_alloc] at this
    exact this
  rw [hW3]
  clear c0 c1 c2 c3 c4 c5
  have hSide : Side w W3 w.heap.size (w.heap.size + 2) x a c := ⟨fun j hj => hB3.block j hj, hr2, by omega, Nat.le_refl _⟩
  generalize hN : w.heap.size = N at *
  obtain ⟨I, eI⟩ : ∃ I : List (PA w N (Gd14 w N mk) mk) → World → Prop, I = fun pre W => (RowV W (N + 1) 30 [.int .i64 0] ∧ Below N w W) ∧ Sx.allR (pre.map pxd) = true := ⟨_, rfl⟩
  obtain ⟨Ix, eIx⟩ : ∃ I : List (PA w N (Gd14 w N mk) mk) → World → Prop, I = fun pre W => (RowV W (N + 1) 30 [.int .i64 2] ∧ Below N w W) ∧ Sx.allR (pre.map pxd) = false := ⟨_, rfl⟩
  replace eI := Lib.hid eI
  replace eIx := Lib.hid eIx
  refine wpIn_hands (n := 6) (gf := 38) (lb := #[.pointer (some ⟨N + 1 + 1, 0, none⟩)]) rfl (enters_of Tryz.func38 (by kernel_rfl) rfl)
    (parts14_hands (n := 6 - 1) (by omega) (B2 := W3.heap.size + 2) (Gd := Gd14 w N mk) (mk := mk) (xok_at x a hX) ⟨hX, hf⟩ gd14 hd hSide) (Below.refl _ _) (fun _ => rfl) kpP_t
    (fun W o o' h1 h2 => kpP_put o' (by omega) (by omega) (by omega) h1 h2)
    I Ix (fun s => by rw [eI.out]; exact survR_and (survR_and (survR_row (by omega)) (survR_below (by omega) (by omega))) (survR_const _))
    (fun s => by rw [eIx.out]; exact survR_and (survR_and (survR_row (by omega)) (survR_below (by omega) (by omega))) (survR_const _))
    (by rw [eI.out]; exact ⟨⟨hr1, hB3⟩, rfl⟩) ?round ?done ?stop
  case round =>
    rintro pre ⟨⟨z, az, cz, dz⟩, hz⟩ W hI hlen hsz
    rw [eI.out] at hI
    obtain ⟨⟨hr, hB⟩, hall⟩ := hI
    have hfz : Sx.fine z := by
      rcases hz.1 with h | h
      · exact h.2.2
      · have e : z = Sx.no := h.2
        rw [e]; exact Sx.fine_no
    obtain ⟨hokz, hsmz, _⟩ := Sx.fine_is hfz
    dsimp only [encP, xV, xC]
    have hnb := (x_new z az cz W).2
    have hnr := (x_new z az cz W).1
    dsimp only [xC] at hnb hnr
    gi_wp2
    refine ⟨⟨hnb.1.block _ (by omega), hnb.1.block _ (by omega)⟩, kpP_below hnb.1, fun W2 ho2 hI2 => ?_⟩
    have hr2 := rowV_only hnr ho2 (by omega)
    have hs2 := ho2.size
    rw [eI.out] at hI2
    obtain ⟨⟨hrr, hBB⟩, -⟩ := hI2 pre ⟨⟨rowV_alloc hr _, hB.alloc (by have := hB.size; omega) _⟩, hall⟩
    clear hI2
    obtain ⟨c0, c1, c2, c3, c4, c5⟩ := x_cells (x := z) (a := az) (c := cz) hr2
    simp only [Nat.zero_add] at c0 c1 c2 c3 c4 c5
    have fr := rowV_frozen hrr 0
    have hE2 : ErrR W2 := errR_below hE (by rw [hN]; exact hBB)
    have HR := Lib.hid (right14_any z hokz hsmz az cz W2 hE2)
    rw [hnb.2] at hs2
    have hsnoc : Sx.allR ((pre ++ [(⟨(z, az, cz, dz), hz⟩ : PA w N (Gd14 w N mk) mk)]).map pxd) = Sx.rightN z := by
      rw [List.map_append, Sx.allR_app, hall, Bool.true_and]
      exact Bool.and_true _
    generalize Sx.rightN z = rz at *
    have H2 := Lib.hid (And.intro hrr (And.intro hBB hr2))
    clear hrr hBB hr2 hnb hnr ho2 hr
    cases rz with
    | true =>
      gi_wp2_with (refine ⟨trivial, ?_⟩; gi_at_call 22; refine (CallsIn.inRound _ (callsIn_wide.2 HR.out)).mono ?_; rintro e w5 ⟨rfl, hb5⟩)
      rw [eI.out]
      exact ⟨⟨hb5.block _ (by omega), hb5.block _ (by omega)⟩, kpP_below hb5, ⟨rowV_below H2.out.1 hb5 (rowV_lt H2.out.1), H2.out.2.1.trans (hb5.mono (by have := H2.out.2.1.size; omega))⟩, hsnoc⟩
    | false =>
      gi_wp2_with (refine ⟨trivial, ?_⟩; gi_at_call 22; refine (CallsIn.inRound _ (callsIn_wide.2 HR.out)).mono ?_; rintro e w5 ⟨rfl, hb5⟩; have r5 := rowV_below H2.out.1 hb5 (rowV_lt H2.out.1); have f5 := rowV_frozen r5 0; have cr5 := rowV_cell r5 0; simp only [List.getElem?_cons_zero] at cr5)
      have ho := (Only.refl (fun k => k = N + 1) w5).setCell (g := N + 1) (i := 0) (fun _ => rfl) (.int .i64 2)
      have hs5 := hb5.size
      rw [eIx.out]
      refine ⟨⟨(ho.block _ (by omega) (by omega)).trans (hb5.block _ (by omega)), (ho.block _ (by omega) (by omega)).trans (hb5.block _ (by omega))⟩, kpP_t (kpP_below hb5) (kpP_only ho (fun k hk => ⟨by omega, by omega, by rw [show k = N + 1 from hk]; exact ⟨_, _, _, r5, by decide⟩⟩)), ⟨rowV_set15 r5 _, (H2.out.2.1.trans (hb5.mono (by have := H2.out.2.1.size; omega))).trans (ho.below (fun k _ hk => by omega) (by have := H2.out.2.1.size; omega))⟩, hsnoc⟩
  case done =>
    rintro xs W hSx hI hK
    rw [eI.out] at hI
    obtain ⟨⟨hr, hB⟩, hall⟩ := hI
    rw [hs3] at hK
    have fr := rowV_frozen hr 0
    have cr := rowV_cell hr 0
    simp only [List.getElem?_cons_zero] at cr
    have hsW : N ≤ W.heap.size := by have := hB.size; omega
    gi_wp2
    have ho := (Only.refl (fun k => k = N + 1) W).setCell (g := N + 1) (i := 0) (fun _ => rfl) (.int .i64 0)
    have hK2 := (ho.block (N + 3) (Array.getElem?_eq_some_iff.1 hK).1 (by omega)).trans hK
    refine ⟨by simp, .inl ⟨_, _, rfl, run_takeDeferred hK2, ?_⟩⟩
    refine ⟨_, results_errno15 rfl _ _ (N + 1) _ rfl (rowV_put15 (rowV_set15 hr _) (by omega) _), 0, rfl, ?_, ?_⟩
    · try rw [hN]
      exact (hB.trans (ho.below (fun k _ hk => by omega) hsW)).trans ((putObj_only _ _ _).below (fun k _ hk => by omega) (by have := ho.size; omega))
    · rcases hSx with hSx | ⟨hmk, pre, d, rest, h1, h2⟩
      · rw [hSx] at hall; exact .inl ⟨rfl, hall⟩
      · rw [h2, Sx.allR_app] at hall
        have : Sx.rightN Sx.no = false := by decide
        rw [show Sx.allR [(Sx.no, d)] = false by unfold Sx.allR; simp [this], Bool.and_false] at hall
        cases hall
  case stop =>
    rintro pre W hSp hI hK
    rw [eIx.out] at hI
    obtain ⟨⟨hr, hB⟩, hall⟩ := hI
    rw [hs3] at hK
    have hsW : N ≤ W.heap.size := by have := hB.size; omega
    gi_wp2
    refine ⟨by simp, .inl ⟨_, _, rfl, run_takeDeferred hK, ?_⟩⟩
    refine ⟨_, results_errno15 rfl _ _ (N + 1) _ rfl (rowV_put15 hr (by omega) _), 2, rfl, ?_, .inr ⟨rfl, ?_⟩⟩
    · try rw [hN]
      exact hB.trans ((putObj_only _ _ _).below (fun k _ hk => by omega) (by omega))
    · rcases hSp with ⟨rest, h1⟩ | ⟨hmk, _⟩
      · refine .inl ?_
        rw [← h1, Sx.allR_app, hall, Bool.false_and]
      · exact .inr hmk
end Go.Proofs.YtekahmlppaabjaaGreatDoor
