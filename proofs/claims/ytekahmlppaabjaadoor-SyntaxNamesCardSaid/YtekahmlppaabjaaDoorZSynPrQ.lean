/-
  Layer 14, the program's: the function that hands out an expression's names, each as often as it stands.
-/
import Derived.Test.YtekahmlppaabjaaDoorZSynPrH
namespace Go.Proofs.YtekahmlppaabjaaDoor
open Go.RowKit Go.Shelf
open Sx (X)
attribute [local go_sem] Oper.semAt_some
namespace Sx
/-- the names among these -/
def nmL (l : List (X × Nat)) : List ByteArray := (l.filter fun p => decide (p.1.op = 2)).map fun p => p.1.s
theorem nmL_app (l l' : List (X × Nat)) : nmL (l ++ l') = nmL l ++ nmL l' := by unfold nmL; rw [List.filter_append, List.map_append]
theorem nmL_len (l : List (X × Nat)) : (nmL l).length ≤ l.length := by unfold nmL; rw [List.length_map]; exact List.length_filter_le ..
mutual
theorem nmL_po : ∀ (x : X) (d : Nat), nmL (po x d) = allN x
  | .mk op v s l, d => by
    rw [po, allN, ← nmL_poL l (d + 1)]
    have e : (X.mk op v s l, d) :: poL l (d + 1) = [(X.mk op v s l, d)] ++ poL l (d + 1) := rfl
    rw [e, nmL_app]
    congr 1
    unfold nmL
    by_cases h : op = 2
    · rw [if_pos h]; simp [h]
    · rw [if_neg h]; simp [h]
theorem nmL_poL : ∀ (l : List X) (d : Nat), nmL (poL l d) = allL l
  | [], d => by rw [poL, allL]; rfl
  | x :: r, d => by rw [poL, allL, nmL_app, nmL_po x d, nmL_poL r d]
end
end Sx
/-- a round's contract at the wide fence holds within another round, at whatever figure -/
theorem roundIn_wide {m m' k : Nat} {P : Program} {l : Nat} {f : FuncId} {tmps : Array Value} {assign body : Code} {w : World} {R : Ending → World → Prop} (h : RoundIn Fence.wide m P l f tmps assign body w R) : RoundIn (Fence.wide.inRound k) m' P l f tmps assign body w R := ⟨h.1, fun c cs _ => h.2 c cs fun _ hd => by cases hd⟩
/-- a name, not too long -/
abbrev NmA := { s : ByteArray // s.size ≤ 1000000 }
abbrev encN (s : NmA) : Array Value := #[.string s.1]
/-- what a round keeps, of which it knows that it lays texts alone -/
def KpN (m B2 : Nat) (W W' : World) : Prop := W.heap.size ≤ W'.heap.size ∧ (∀ j, j < m → j < W.heap.size → W'.heap[j]? = W.heap[j]?) ∧ (∀ (j : Nat) cs fz, W.heap[j]? = some (.cells cs 97 fz) → W'.heap[j]? = W.heap[j]?) ∧ (∀ (j : Nat) cs T fz, B2 ≤ j → W.heap[j]? = some (.cells cs T fz) → T ≠ 9 → W'.heap[j]? = W.heap[j]?) ∧ (∀ (j : Nat) (o : Obj), B2 ≤ j → W.heap[j]? = some o → o.isCells = false → W'.heap[j]? = some o)
theorem kpN_t {m B2 : Nat} {A B C : World} (h : KpN m B2 A B) (k : KpN m B2 B C) : KpN m B2 A C :=
  ⟨Nat.le_trans h.1 k.1, fun j hj hl => (k.2.1 j hj (Nat.lt_of_lt_of_le hl h.1)).trans (h.2.1 j hj hl), fun j cs fz hc => (k.2.2.1 j cs fz ((h.2.2.1 j cs fz hc).trans hc)).trans (h.2.2.1 j cs fz hc),
    fun j cs T fz hB hc hT => (k.2.2.2.1 j cs T fz hB ((h.2.2.2.1 j cs T fz hB hc hT).trans hc) hT).trans (h.2.2.2.1 j cs T fz hB hc hT), fun j o hB ho hn => k.2.2.2.2 j o hB (h.2.2.2.2 j o hB ho hn) hn⟩
theorem kpN_p {m bx B2 B3 : Nat} {W W' : World} (h : KpN m B2 W W') (hb : B2 ≤ bx) (hB : B2 ≤ B3) (hx : ∃ cs T fz, W.heap[bx]? = some (.cells cs T fz) ∧ T ≠ 9) : KpP m bx B3 W W' := by
  refine ⟨h.1, fun j hj hl => ?_, h.2.2.1, fun j o hj ho hn => h.2.2.2.2 j o (by omega) ho hn⟩
  rcases hj with hj | rfl
  · exact h.2.1 j hj hl
  · obtain ⟨cs, T, fz, h1, h2⟩ := hx
    exact h.2.2.2.1 j cs T fz hb h1 h2
section
variable {w0 : World} {m : Nat} {mk : Prop}
theorem pa_fine (y : PA w0 m (Gd14 w0 m mk) mk) : Sx.fine y.1.1 := by
  obtain ⟨⟨z, az, cz, dz⟩, hz⟩ := y
  rcases hz.1 with h | h
  · exact h.2.2
  · have e : z = Sx.no := h.2
    show Sx.fine z
    rw [e]; exact Sx.fine_no
/-- the names among what was handed out -/
def nmP (l : List (PA w0 m (Gd14 w0 m mk) mk)) : List NmA := (l.filter fun y => decide (y.1.1.op = 2)).map fun y => ⟨y.1.1.s, (Sx.fine_is (pa_fine y)).2.1⟩
theorem nmP_val (l : List (PA w0 m (Gd14 w0 m mk) mk)) : (nmP l).map (·.1) = Sx.nmL (l.map pxd) := by
  unfold nmP Sx.nmL
  rw [List.filter_map, List.map_map, List.map_map]
  rfl
theorem nmP_snoc (l : List (PA w0 m (Gd14 w0 m mk) mk)) (y : PA w0 m (Gd14 w0 m mk) mk) : nmP (l ++ [y]) = if y.1.1.op = 2 then nmP l ++ [⟨y.1.1.s, (Sx.fine_is (pa_fine y)).2.1⟩] else nmP l := by
  unfold nmP
  rw [List.filter_append, List.map_append]
  by_cases h : y.1.1.op = 2
  · rw [if_pos h]; simp [h]
  · rw [if_neg h]; simp [h]
theorem nmP_len (l : List (PA w0 m (Gd14 w0 m mk) mk)) : (nmP l).length ≤ l.length := by unfold nmP; rw [List.length_map]; exact List.length_filter_le ..
end
/-- which names were handed out -/
def NmS (mk : Prop) (x : X) (ys : List NmA) : Prop := ∃ pre rest, pre ++ rest = Sx.po x 1 ∧ ys.map (·.1) = Sx.nmL pre ∧ (rest = [] ∨ mk)
def NmE (x : X) (ys : List NmA) : Prop := ∃ pre rest, pre ++ rest = Sx.po x 1 ∧ ys.map (·.1) = Sx.nmL pre
set_option maxRecDepth 100000 in
theorem names14_call (x : X) (a : Option Addr) (c : Nat) (w : World) : Calls Tryd.prog 36 #[xV x a c] w fun e w' => e = .returned (.func (.func 61) #[] #[.pointer (some ⟨w.heap.size, 0, none⟩)]) ∧ w' = w.alloc (.cells (xC x a c) 29) := by
  go_enter Tryd.func36, Tryd.ntmps36
  go_wp2_with fail
  go_ret
  exact ⟨rfl, rfl⟩
set_option maxRecDepth 100000 in
set_option maxHeartbeats 12800000 in
theorem names14_hands {n : Nat} (hn : 4 ≤ n) {w0 w : World} {m bx B2 : Nat} {mk : Prop} {x : X} {a : Option Addr} {c : Nat} (hX : XOk w0 m mk x a) (hf : Sx.fine x) (hd : Sx.deep x ≤ 1000) (hS : Side w0 w m bx x a c) (hB2 : B2 ≤ w.heap.size + 2) (hmB : m ≤ B2) :
    Hands (α := NmA) n Tryd.prog 61 #[.pointer (some ⟨bx, 0, none⟩)] encN (KpN m B2) (NmS mk x) (NmE x) (Sx.po x 1).length 97 w := by
  intro l J Jx W hbw hW2s hJs hJxs hY h0
  have cP := fun wx => parts14_any x a c wx
  have HC := Lib.hid cP
  clear cP
  have hSW : Side w0 W m bx x a c := by
    have hl := rowV_lt hS.2.1
    refine ⟨fun j hj => (hbw.block j (Nat.lt_trans (Nat.lt_of_lt_of_le hj hS.2.2.1) hl)).trans (hS.1 j hj), (hbw.block bx hl).trans hS.2.1, hS.2.2⟩
  have hbxW := rowV_lt hSW.2.1
  have hWB := hbw.size
  obtain ⟨W1, hW1⟩ : ∃ W1, W.alloc (.cells #[.func (.yield l) #[] #[]] 38) = W1 := ⟨_, rfl⟩
  have hrY : RowV W1 W.heap.size 38 [.func (.yield l) #[] #[]] := by rw [← hW1]; exact rowV_new W _ [_]
  have hB1 : Below W.heap.size W W1 := by rw [← hW1]; exact (Below.refl _ _).alloc (Nat.le_refl _) _
  have hs1 : W1.heap.size = W.heap.size + 1 := by rw [← hW1]; simp
  have hS1 := side_below hSW hB1
  have c0 := x_cells hS1.2.1
  obtain ⟨c0, c1, c2, c3, c4, c5⟩ := c0
  simp only [Nat.zero_add] at c0 c1 c2 c3 c4 c5
  have hJ1 := surv_below (fun A A' row hJ hg hr => (hJs []).surv (Nat.le_refl _) A A' row hJ hg hr) h0 hB1
  have H1 := Lib.hid (And.intro hrY (And.intro hB1 (And.intro hS1 hJ1)))
  clear hrY hB1 hS1 hJ1
  refine callsIn_of_wp_marks Tryd.func61 rfl trivial ?_ rfl
  simp only [Tryd.ntmps61, List.size_toArray, List.length_cons, List.length_nil, Nat.reduceAdd, Nat.reduceSub, Array.replicate_succ, Array.replicate_zero, List.push_toArray, List.append_toArray, List.nil_append, List.cons_append]
  gi_wp2
  refine ⟨trivial, fun _ => by omega, (callsIn_wide.2 (HC.out _)).mono ?_⟩
  rintro e w1 ⟨rfl, rfl⟩
  obtain ⟨W2, hW2⟩ : ∃ W2, W1.alloc (.cells (xC x a c) 29) = W2 := ⟨_, rfl⟩
  have hxn := x_new x a c W1
  rw [hW2] at hxn
  have hrY2 := rowV_below H1.out.1 hxn.2.1 (by omega)
  have hS2 : Side w0 W2 m W1.heap.size x a c := by
    refine ⟨fun j hj => (hxn.2.1.block j ?_).trans (H1.out.2.2.1.1 j hj), hxn.1, ?_, H1.out.2.2.1.2.2.2⟩
    · have := H1.out.2.2.1.2.2.1; omega
    · have := H1.out.2.2.1.2.2.1; omega
  have hJ2 := surv_below (fun A A' row hJ hg hr => (hJs []).surv (Nat.le_refl _) A A' row hJ hg hr) h0 (H1.out.2.1.trans (hxn.2.1.mono H1.out.2.1.size))
  have hB2' : Below W.heap.size W W2 := H1.out.2.1.trans (hxn.2.1.mono H1.out.2.1.size)
  have hs2 : W2.heap.size = W.heap.size + 2 := by rw [hxn.2.2, hs1]
  rw [hs1] at hS2
  gi_wp2
  generalize hN : W.heap.size = N at *
  have hmN : m ≤ N := by have := hSW.2.2.1; omega
  obtain ⟨I, eI⟩ : ∃ I : List (PA w0 m (Gd14 w0 m mk) mk) → World → Prop, I = fun pre V => (RowV V N 38 [.func (.yield l) #[] #[]] ∧ RowV V (N + 1) 29 (xC x a c).toList) ∧ J (nmP pre) V := ⟨_, rfl⟩
  obtain ⟨Ix, eIx⟩ : ∃ I : List (PA w0 m (Gd14 w0 m mk) mk) → World → Prop, I = fun pre V => Jx (nmP pre) V := ⟨_, rfl⟩
  replace eI := Lib.hid eI
  replace eIx := Lib.hid eIx
  refine wpIn_handsR (n := n) (gf := 49) (lb := #[.pointer (some ⟨N + 1, 0, none⟩)]) rfl (enters_of Tryd.func49 (by kernel_rfl) rfl)
    (parts14_hands (n := n - 1) (by omega) (B2 := W2.heap.size + 2) (Gd := Gd14 w0 m mk) (mk := mk) (xok_at x a hX) ⟨hX, hf⟩ gd14 hd hS2) (Below.refl _ _) (fun _ => rfl) kpP_t
    (fun V o o' h1 h2 => kpP_put o' (by omega) (by omega) (by omega) h1 h2)
    I Ix ?si ?sx ?i0 ?round ?done ?stop
  case si =>
    intro s
    rw [eI.out]
    exact survR_and (survR_and (survR_row (by omega)) (survR_row (by omega))) ((hJs _).mono (by omega))
  case sx =>
    intro s
    rw [eIx.out]
    exact (hJxs _).mono (by omega)
  case i0 =>
    rw [eI.out]
    exact ⟨⟨hrY2, hS2.2.1⟩, hJ2⟩
  case round =>
    rintro pre y V hI hlen hsz -
    rw [eI.out] at hI
    obtain ⟨⟨hr, hx⟩, hj⟩ := hI
    have hsn := nmP_snoc pre y
    have hsm := (Sx.fine_is (pa_fine y)).2.1
    have hnl : (nmP pre).length < (Sx.po x 1).length := Nat.lt_of_le_of_lt (nmP_len pre) hlen
    obtain ⟨⟨z, az, cz, dz⟩, hz⟩ := y
    dsimp only [encP, xV, xC]
    dsimp only at hsn hsm
    have hnb := (x_new z az cz V).2
    have hnr := (x_new z az cz V).1
    dsimp only [xC] at hnb hnr
    have HSN := Lib.hid hsn
    clear hsn
    gi_wp2
    refine ⟨⟨hnb.1.block _ (by omega), hnb.1.block _ (by omega)⟩, kpP_below hnb.1, fun V2 ho2 hI2 hnc => ?_⟩
    have hr2 := rowV_only hnr ho2 (by omega)
    have hs2' := ho2.size
    rw [eI.out] at hI2
    obtain ⟨⟨hrr, hxx⟩, hj2⟩ := hI2 pre ⟨⟨rowV_alloc hr _, rowV_alloc hx _⟩, surv_below (fun A A' row hJ hg hr => (hJs _).surv (Nat.le_refl _) A A' row hJ hg hr) hj (hnb.1.mono (by omega))⟩
    clear hI2
    obtain ⟨k0, k1, k2, k3, k4, k5⟩ := x_cells (x := z) (a := az) (c := cz) hr2
    simp only [Nat.zero_add] at k0 k1 k2 k3 k4 k5
    have ky := rowV_cell hrr 0
    simp only [List.getElem?_cons_zero] at ky
    by_cases h2 : z.op = 2
    · have q2 : (z.op == 2) = true := by simp [h2]
      obtain ⟨fn, tmps, assign, body, hy, hR⟩ := hY (nmP pre) ⟨z.s, hsm⟩ V2 hj2 hnl
      dsimp only [encN] at hy
      rw [if_pos h2] at HSN
      have H2 := Lib.hid (And.intro hrr (And.intro hxx hnc))
      clear hrr ho2 hr hnr hj hj2 hxx hx hnc
      gi_wp2
      refine ⟨fun h => (by cases h), (roundIn_wide hR).mono ?_⟩
      rintro e w5 (⟨rfl, hJ5, hk5⟩ | ⟨rfl, hJ5, hk5⟩)
      all_goals
        have hrec : Rec2 (N + 2) V2 w5 := by
          have hn2 : NC2 (N + 2) V2 := H2.out.2.2
          obtain ⟨⟨o1, ho1, hc1⟩, ⟨o2, ho2, hc2⟩⟩ := hn2
          exact ⟨(hk5.2.2.2.2 _ o1 (by omega) ho1 hc1).trans ho1.symm, (hk5.2.2.2.2 _ o2 (by omega) ho2 hc2).trans ho2.symm⟩
        have hkp : KpP m (N + 1) (N + 2 + 2) V2 w5 := kpN_p hk5 (by omega) (by omega) ⟨_, _, _, H2.out.2.1, by decide⟩
        have h1 := (hk5.2.2.2.1 N _ _ _ (by omega) H2.out.1 (by decide)).trans H2.out.1
        have h2 := (hk5.2.2.2.1 (N + 1) _ _ _ (by omega) H2.out.2.1 (by decide)).trans H2.out.2.1
        have H5 := Lib.hid (And.intro hJ5 (And.intro hrec (And.intro hkp (And.intro h1 h2))))
        clear hJ5 hk5 hrec hkp h1 h2
        gi_wp2
      · refine ⟨H5.out.2.1, H5.out.2.2.1, ?_⟩
        rw [eI.out]
        exact ⟨⟨H5.out.2.2.2.1, H5.out.2.2.2.2⟩, by rw [HSN.out]; exact H5.out.1⟩
      · refine ⟨H5.out.2.1, H5.out.2.2.1, ?_⟩
        rw [eIx.out]
        show Jx (nmP _) w5
        rw [HSN.out]
        exact H5.out.1
    · have q2 : (z.op == 2) = false := by simp [h2]
      rw [if_neg h2] at HSN
      have H2 := Lib.hid (And.intro hrr (And.intro hxx hj2))
      gi_wp2
      refine ⟨fun f hf => (by cases hf), ?_⟩
      gi_wp2
      refine ⟨⟨rfl, rfl⟩, kpP_below (Below.refl _ _), ?_⟩
      rw [eI.out]
      exact ⟨⟨H2.out.1, H2.out.2.1⟩, by rw [HSN.out]; exact H2.out.2.2⟩
  case done =>
    rintro xs V hSx hI hK
    rw [eI.out] at hI
    rw [hs2] at hK
    obtain ⟨-, hj⟩ := hI
    have hSn : NmS mk x (nmP xs) := by
      rcases hSx with hSx | ⟨hmk, pre, d, rest, h1, h2⟩
      · exact ⟨_, [], by rw [List.append_nil], by rw [nmP_val, hSx], .inl rfl⟩
      · refine ⟨pre, rest, h1, ?_, .inr hmk⟩
        rw [nmP_val, h2, Sx.nmL_app]
        show _ ++ [] = _
        rw [List.append_nil]
    have HS := Lib.hid hSn
    have hjK := ((hJs (nmP xs)).put (o' := .deferred none) hj (by omega : N ≤ N + 2) hK rfl)
    have HJ := Lib.hid hjK
    clear hSn hSx hjK
    gi_wp2
    refine ⟨by simp, .inl ⟨_, _, rfl, run_takeDeferred hK, ?_⟩⟩
    exact ⟨_, results_none rfl _ _ _, ⟨_, rfl⟩, .inl ⟨_, HS.out, HJ.out⟩⟩
  case stop =>
    rintro pre V hSp hI hK
    rw [eIx.out] at hI
    rw [hs2] at hK
    have hSe : NmE x (nmP pre) := by
      rcases hSp with ⟨rest, h1⟩ | ⟨hmk, pre', d, rest, h1, h2⟩
      · exact ⟨_, rest, h1, by rw [nmP_val]⟩
      · refine ⟨pre', rest, h1, ?_⟩
        rw [nmP_val, h2, Sx.nmL_app]
        show _ ++ [] = _
        rw [List.append_nil]
    have HS := Lib.hid hSe
    have HJ := Lib.hid ((hJxs (nmP pre)).put (o' := .deferred none) hI (by omega : N ≤ N + 2) hK rfl)
    clear hSe hSp
    gi_wp2
    refine ⟨by simp, .inl ⟨_, _, rfl, run_takeDeferred hK, ?_⟩⟩
    exact ⟨_, results_none rfl _ _ _, ⟨_, rfl⟩, .inr ⟨_, HS.out, HJ.out⟩⟩
end Go.Proofs.YtekahmlppaabjaaDoor
