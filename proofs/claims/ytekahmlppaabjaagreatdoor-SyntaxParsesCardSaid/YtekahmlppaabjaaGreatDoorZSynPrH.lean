/-
  Layer 14, the program's: Deep.
-/
import Derived.Test.YtekahmlppaabjaaGreatDoorZSynPrG
namespace Go.Proofs.YtekahmlppaabjaaGreatDoor
open Go.RowKit Go.Shelf
open Sx (X)
attribute [local go_sem] Oper.semAt_some
namespace Sx
/-- the greatest depth among these -/
def maxD (l : List (X × Nat)) : Nat := (l.map (·.2)).foldr max 0
theorem maxD_cons (p : X × Nat) (l : List (X × Nat)) : maxD (p :: l) = max p.2 (maxD l) := rfl
theorem maxD_app : ∀ (l l' : List (X × Nat)), maxD (l ++ l') = max (maxD l) (maxD l')
  | [], l' => by rw [List.nil_append]; unfold maxD; simp
  | p :: l, l' => by rw [List.cons_append, maxD_cons, maxD_cons, maxD_app l l', Nat.max_assoc]
mutual
theorem maxD_po : ∀ (x : X) (d : Nat), maxD (po x d) + 1 = d + deep x
  | .mk o v s l, d => by
    rw [po, maxD_cons, deep]
    have := maxD_poL l (d + 1)
    show max d _ + 1 = _
    rcases this with ⟨h1, h2⟩ | ⟨h1, h2⟩ <;> omega
theorem maxD_poL : ∀ (l : List X) (d : Nat), (maxD (poL l d) = 0 ∧ deepL l = 0) ∨ (maxD (poL l d) + 1 = d + deepL l ∧ 1 ≤ deepL l)
  | [], d => by rw [poL, deepL]; exact .inl ⟨rfl, rfl⟩
  | x :: r, d => by
    rw [poL, maxD_app, deepL]
    have h1 := maxD_po x d
    have h2 := maxD_poL r d
    have h3 := deep_pos x
    refine .inr ?_
    rcases h2 with ⟨h4, h5⟩ | ⟨h4, h5⟩ <;> omega
end
end Sx
theorem rowV_int15 {W : World} {g : Nat} {n : Int} (h : RowV W g 3 [.int .i64 n]) : W.cell? ⟨g, 0, none⟩ = some (.int .i64 n) := rowV_cell h 0
set_option maxRecDepth 100000 in
set_option maxHeartbeats 12800000 in
theorem deep14_any {mk : Prop} (x : X) (a : Option Addr) (c : Nat) (w : World) (hX : XOk w w.heap.size mk x a) (hf : Sx.fine x) (hd : Sx.deep x ≤ 1000):
    Calls Tryz.prog 11 #[xV x a c] w fun e w' => ∃ r : Nat, e = .returned (.int .i64 (r : Int)) ∧ Below w.heap.size w w' ∧ (r = Sx.deep x ∨ mk) := by
  have cP := fun wx => parts14_any x a c wx
  have HC := Lib.hid cP
  clear cP
  have hB0 := Lib.hid (x_new x a c w).2.1
  have HL := Lib.hid fun (wr : World) (hb : Below (w.alloc (.cells (xC x a c) 29)).heap.size (w.alloc (.cells (xC x a c) 29)) wr) => x_look hb
  obtain ⟨⟨c0, c1, c2, c3, c4, c5⟩, _⟩ := HL.out _ (Below.refl _ _)
  simp only [Nat.zero_add] at c0 c1 c2 c3 c4 c5
  refine (callsIn_wide (n := 6)).1 ?_
  refine callsIn_of_wp_marks Tryz.func11 rfl trivial ?_ rfl
  simp only [Tryz.ntmps11, List.size_toArray, List.length_cons, List.length_nil, Nat.reduceAdd, Nat.reduceSub, Array.replicate_succ, Array.replicate_zero, List.push_toArray, List.append_toArray, List.nil_append, List.cons_append]
  gi_wp2_with (refine ⟨trivial, ?_⟩; gi_at_call 19; refine (callsIn_wide.2 (HC.out _)).mono ?_; rintro e w1 ⟨rfl, rfl⟩)
  obtain ⟨W3, hW3⟩ : ∃ W3, ((w.alloc (.cells (xC x a c) 29)).alloc (.cells #[.int .i64 0] 3)).alloc (.cells (xC x a c) 29) = W3 := ⟨_, rfl⟩
  have hB3 : Below w.heap.size w W3 := by
    rw [← hW3]
    exact (((Below.refl w.heap.size w).alloc (Nat.le_refl _) _).alloc (by simp) _).alloc (by simp; omega) _
  have hs3 : W3.heap.size = w.heap.size + 3 := by rw [← hW3]; simp
  have hr1 : RowV W3 (w.heap.size + 1) 3 [.int .i64 0] := by
    rw [← hW3]
    have := rowV_new (w.alloc (.cells (xC x a c) 29)) 3 [.int .i64 0]
    rw [World.size_alloc] at this
    exact rowV_alloc this _
  have hr2 : RowV W3 (w.heap.size + 2) 29 (xC x a c).toList := by
    rw [← hW3]
    have := rowV_new ((w.alloc (.cells (xC x a c) 29)).alloc (.cells #[.int .i64 0] 3)) 29 (xC x a c).toList
    rw [World.size_alloc, World.size_alloc] at this
    exact this
  rw [hW3]
  clear c0 c1 c2 c3 c4 c5
  have hSide : Side w W3 w.heap.size (w.heap.size + 2) x a c := ⟨fun j hj => hB3.block j hj, hr2, by omega, Nat.le_refl _⟩
  generalize hN : w.heap.size = N at *
  obtain ⟨I, eI⟩ : ∃ I : List (PA w N (Gd14 w N mk) mk) → World → Prop, I = fun pre W => (RowV W (N + 1) 3 [.int .i64 ((Sx.maxD (pre.map pxd) : Nat) : Int)] ∧ Below N w W) ∧ True := ⟨_, rfl⟩
  obtain ⟨Ix, eIx⟩ : ∃ I : List (PA w N (Gd14 w N mk) mk) → World → Prop, I = fun pre W => (False) ∧ True := ⟨_, rfl⟩
  replace eI := Lib.hid eI
  replace eIx := Lib.hid eIx
  refine wpIn_hands (n := 6) (gf := 38) (lb := #[.pointer (some ⟨N + 1 + 1, 0, none⟩)]) rfl (enters_of Tryz.func38 (by kernel_rfl) rfl)
    (parts14_hands (n := 6 - 1) (by omega) (B2 := W3.heap.size + 2) (Gd := Gd14 w N mk) (mk := mk) (xok_at x a hX) ⟨hX, hf⟩ gd14 hd hSide) (Below.refl _ _) (fun _ => rfl) kpP_t
    (fun W o o' h1 h2 => kpP_put o' (by omega) (by omega) (by omega) h1 h2)
    I Ix (fun s => by rw [eI.out]; exact survR_and (survR_and (survR_row (by omega)) (survR_below (by omega) (by omega))) (survR_const _))
    (fun s => by rw [eIx.out]; exact survR_and (survR_const _) (survR_const _))
    (by rw [eI.out]; exact ⟨⟨hr1, hB3⟩, trivial⟩) ?round ?done ?stop
  case round =>
    rintro pre ⟨⟨z, az, cz, dz⟩, hz⟩ W hI hlen hsz
    rw [eI.out] at hI
    obtain ⟨⟨hr, hB⟩, -⟩ := hI
    have hdz : dz ≤ 2000 := hz.2
    dsimp only [encP, xV, xC]
    gi_wp2
    refine ⟨⟨rfl, rfl⟩, kpP_below (Below.refl _ _), fun W2 ho2 hI2 => ?_⟩
    have hs2 := ho2.size
    rw [eI.out] at hI2
    obtain ⟨⟨hrr, hBB⟩, -⟩ := hI2 pre ⟨⟨hr, hB⟩, trivial⟩
    clear hI2
    have fr := rowV_frozen hrr 0
    have cr := rowV_int15 hrr
    have hsnoc : Sx.maxD ((pre ++ [(⟨(z, az, cz, dz), hz⟩ : PA w N (Gd14 w N mk) mk)]).map pxd) = max (Sx.maxD (pre.map pxd)) dz := by
      rw [List.map_append, Sx.maxD_app]
      show max _ (max dz 0) = _
      rw [Nat.max_zero]
    generalize Sx.maxD (pre.map pxd) = M at *
    have H2 := Lib.hid (And.intro hrr hBB)
    clear hrr hBB hr
    have hm : ((max M dz : Nat) : Int) = max (M : Int) (dz : Int) := by omega
    rw [← hsnoc] at hm
    have HM := Lib.hid hm
    clear hm hsnoc
    gi_wp2
    rw [eI.out]
    have ho : Only (fun k => k = N + 1) W2 (W2.setCell ⟨N + 1, 0, none⟩ (.int .i64 (max (M : Int) (dz : Int)))) := (Only.refl (fun k => k = N + 1) W2).setCell (g := N + 1) (i := 0) (fun _ => rfl) _
    refine ⟨⟨ho.block _ (by omega) (by omega), ho.block _ (by omega) (by omega)⟩, kpP_only ho (fun k hk => ⟨by omega, by omega, by rw [show k = N + 1 from hk]; exact ⟨_, _, _, H2.out.1, by decide⟩⟩), ⟨?_, H2.out.2.trans (ho.below (fun k _ hk => by omega) (by have := H2.out.2.size; omega))⟩, trivial⟩
    rw [HM.out]
    exact rowV_set15 H2.out.1 _
  case done =>
    rintro xs W hSx hI hK
    rw [eI.out] at hI
    obtain ⟨⟨hr, hB⟩, -⟩ := hI
    rw [hs3] at hK
    have fr := rowV_frozen hr 0
    have cr := rowV_int15 hr
    have hsW : N ≤ W.heap.size := by have := hB.size; omega
    have hS2 : Sx.maxD (xs.map pxd) = Sx.deep x ∨ mk := by
      rcases hSx with hSx | hSx
      · have := Sx.maxD_po x 1
        rw [hSx]; exact .inl (by omega)
      · exact .inr hSx.1
    have HS := Lib.hid hS2
    clear hS2 hSx
    generalize Sx.maxD (xs.map pxd) = M at *
    gi_wp2
    refine ⟨by simp, .inl ⟨_, _, rfl, run_takeDeferred hK, ?_⟩⟩
    refine ⟨_, results_tmp (fn := Tryz.f11) (t := 2) rfl _ _ _, M, rfl, ?_, HS.out⟩
    try rw [hN]
    exact hB.trans ((putObj_only _ _ _).below (fun k _ hk => by omega) (by omega))
  case stop =>
    rintro pre W hSp hI hK
    rw [eIx.out] at hI
    exact hI.1.elim
end Go.Proofs.YtekahmlppaabjaaGreatDoor
