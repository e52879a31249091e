/-
  Layer 15, the program's: Kind.
-/
import Derived.Test.YtmkckbidfpinfaaDoorZTypScope2
import Derived.Test.YtmkckbidfpinfaaDoorZTypUp2
import Derived.Test.YtmkckbidfpinfaaDoorZTypMath2
import Derived.Test.YtmkckbidfpinfaaDoorPk5
import Derived.Test.YtmkckbidfpinfaaDoorZSynPrI
import Derived.Test.YtmkckbidfpinfaaDoorZSynPrL
namespace Go.Proofs.YtmkckbidfpinfaaDoor
open Go.RowKit Go.Shelf
open Sx (X)
attribute [local go_sem] Oper.semAt_some
namespace Upw
abbrev fK (k : Int) : List Value := [.int .i64 k]
theorem kind_parts : (Tryd.prog.info? 23).map (fun i => (i.zero, i.size, i.bytes)) = some (some (.int .i64 0), 1, 8) := by kernel_rfl
theorem kind_elem : ElemOk Tryd.prog 23 1 8 := elemOk_of kind_parts rfl (by decide) (by decide)
theorem fK_one (k : Int) : ∀ u ∈ fK k, u.oneCell' = true := by intro u hu; simp [fK] at hu; subst hu; rfl
/-- what Kind tells -/
def KindP (mk : Prop) (cs : List Ty.Col) (x : X) (w : World) (e : Ending) (w' : World) : Prop :=
  ∃ k r : Int, e = .returned (.tuple #[.int .i64 k, .int .i64 r]) ∧ Below w.heap.size w w' ∧ ((k, r) = (if Sx.allR (Sx.po x 1) = true then Ty.kd cs x else ((0 : Int), (2 : Int))) ∨ (mk ∧ k = 0 ∧ r = 2))
theorem results_cells15 {fn : Func} {p q : Tmp} (h : fn.results = #[.cell p 23, .cell q 26]) (tmps : Array Value) (w : World) (g g' : Nat) (k r : Int) (hp : tmps.getD p undef = .pointer (some ⟨g, 0, none⟩)) (hq : tmps.getD q undef = .pointer (some ⟨g', 0, none⟩)) (hk : RowV w g 23 [.int .i64 k]) (hr : RowV w g' 26 [.int .i64 r]) :
    (results fn tmps).run Tryd.prog w = .ok (.tuple #[.int .i64 k, .int .i64 r]) w := by
  have hl : (loadVar 23 ⟨g, 0, none⟩).run Tryd.prog w = .ok (.int .i64 k) w := by
    have c := rowV_cell hk 0
    simp only [List.getElem?_cons_zero] at c
    go_simp
  have hl2 : (loadVar 26 ⟨g', 0, none⟩).run Tryd.prog w = .ok (.int .i64 r) w := by
    have c := rowV_cell hr 0
    simp only [List.getElem?_cons_zero] at c
    go_simp
  have hp' : tmps[p]?.getD undef = .pointer (some ⟨g, 0, none⟩) := by simpa using hp
  have hq' : tmps[q]?.getD undef = .pointer (some ⟨g', 0, none⟩) := by simpa using hq
  simp [results, h, hp', hq', asAddr, hl, hl2]
/-- the first of a list, in its own row -/
theorem owL_take15 {α : Type} {f : α → List Value} {E k B : Nat} (hf : ∀ x, (f x).length = k) {w : World} {al : Option Addr} {cp : Nat} : ∀ (d : Nat) {l : List α}, d ≤ l.length → OwL f E k w B (.slice al l.length cp) l → OwL f E k w B (.slice al (l.length - d) cp) (l.take (l.length - d))
  | 0, l, _, h => by rw [Nat.sub_zero, List.take_length]; exact h
  | d + 1, l, hd, h => by
    have h1 := owL_take15 hf d (by omega) h
    have hlt : l.length - (d + 1) < l.length := by omega
    have e : l.length - d = (l.length - (d + 1)) + 1 := by omega
    rw [e, List.take_succ_eq_append_getElem hlt] at h1
    exact owL_pop hf h1 (by rw [List.length_take]; omega)
theorem kpU_only {F : Nat → Prop} {m bx B2 : Nat} {W W' : World} (ho : Only F W W') (hF : ∀ k, F k → m ≤ k ∧ k ≠ bx ∧ ∃ cs T fz, W.heap[k]? = some (.cells cs T fz) ∧ T ≠ 92) : KpU m bx B2 W W' := by
  refine ⟨ho.size, fun j hj hl => ho.block j hl fun h => ?_, fun j cs fz hc => ho.block j (Array.getElem?_eq_some_iff.1 hc).1 fun h => ?_, fun j o _ hoj hn => (ho.block j (Array.getElem?_eq_some_iff.1 hoj).1 fun h => ?_).trans hoj⟩
  · have := hF j h
    rcases hj with hj | hj
    · omega
    · exact this.2.1 hj
  · obtain ⟨_, _, cs', T, fz', h1, h2⟩ := hF j h
    rw [hc] at h1
    injection h1 with h1
    injection h1 with _ h1
    exact h2 h1.symm
  · obtain ⟨_, _, cs', T, fz', h1, h2⟩ := hF j h
    rw [hoj] at h1
    injection h1 with h1
    rw [h1] at hn
    cases hn

theorem kpU_put {m bx B2 l : Nat} {W : World} {o : Obj} (o' : Obj) (hl : m ≤ l) (hb : l ≠ bx) (h2 : l < B2) (ho : W.heap[l]? = some o) (hc : o.isCells = false) : KpU m bx B2 W (W.putObj l o') := by
  have hp := putObj_only W l o'
  refine ⟨hp.size, fun j hj hlt => hp.block j hlt fun h => ?_, fun j cs fz hj => hp.block j (Array.getElem?_eq_some_iff.1 hj).1 fun h => ?_, fun j o2 hB hj hn => (hp.block j (Array.getElem?_eq_some_iff.1 hj).1 fun h => ?_).trans hj⟩
  · have e : j = l := h
    rcases hj with hj | hj <;> omega
  · have e : j = l := h
    subst e
    rw [ho] at hj
    injection hj with hj
    rw [hj] at hc
    cases hc
  · have e : j = l := h
    omega
theorem _root_.Go.Proofs.YtmkckbidfpinfaaDoor.Ty.kd_err {cs : List Ty.Col} : ∀ (x : X), (Ty.kd cs x).2 ≠ 0 → (Ty.kd cs x).1 = 0
  | .mk o v s l, h => by
    rw [Ty.kd] at h ⊢
    split
    · rename_i h0
      rw [if_pos h0] at h
      unfold Ty.own at h ⊢
      split
      · rename_i h1; rw [if_pos h1] at h; exact absurd rfl h
      · rename_i h1
        rw [if_neg h1] at h
        split
        · rename_i h2
          rw [if_pos h2] at h
          cases hl : Ty.look cs (X.mk o v s l).s with
          | none => rfl
          | some k => rw [hl] at h; exact absurd rfl h
        · rename_i h2
          rw [if_neg h2] at h
          split
          · rename_i h3; rw [if_pos h3] at h; exact absurd rfl h
          · rfl
    · rfl
mutual
theorem mem_up : ∀ (x y : X) (d : Nat), y ∈ Ty.up x → ∃ d', (y, d') ∈ Sx.po x d
  | .mk o v s l, y, d, h => by
    rw [Ty.up, List.mem_append, List.mem_singleton] at h
    rw [Sx.po]
    rcases h with h | h
    · obtain ⟨d', h⟩ := mem_upL l y (d + 1) h
      exact ⟨d', List.mem_cons_of_mem _ h⟩
    · subst h; exact ⟨d, List.mem_cons_self ..⟩
theorem mem_upL : ∀ (l : List X) (y : X) (d : Nat), y ∈ Ty.upL l → ∃ d', (y, d') ∈ Sx.poL l d
  | [], y, d, h => by rw [Ty.upL] at h; cases h
  | x :: r, y, d, h => by
    rw [Ty.upL, List.mem_append] at h
    rw [Sx.poL]
    rcases h with h | h
    · obtain ⟨d', h⟩ := mem_up x y d h
      exact ⟨d', List.mem_append_left _ h⟩
    · obtain ⟨d', h⟩ := mem_upL r y d h
      exact ⟨d', List.mem_append_right _ h⟩
end
theorem need_right {y : X} (h : Sx.rightN y = true) : Ty.need y.op ≤ y.l.length := by
  unfold Sx.rightN at h
  unfold Ty.need
  by_cases h1 : y.op = 1
  · rw [h1]; simp
  by_cases h2 : y.op = 2
  · rw [h2]; simp
  rw [if_neg h1, if_neg h2] at h
  simp only [Bool.and_eq_true, decide_eq_true_eq] at h
  obtain ⟨h3, h4, _⟩ := h
  have h5 : (8 ≤ y.op ∧ y.op ≤ 13 → cntP y.op = 2) ∧ (y.op = 16 → cntP y.op = 3) := by
    refine ⟨fun h => ?_, fun h => by rw [h]; decide⟩
    have : y.op = 8 ∨ y.op = 9 ∨ y.op = 10 ∨ y.op = 11 ∨ y.op = 12 ∨ y.op = 13 := by omega
    rcases this with e | e | e | e | e | e <;> rw [e] <;> decide
  split
  · rename_i h6; have := h5.1 h6; omega
  · split
    · rename_i h6; have := h5.2 h6; omega
    · exact Nat.zero_le _
theorem owL_block {α : Type} {f : α → List Value} {E k B : Nat} {w : World} {v : Value} {l : List α} (h : OwL f E k w B v l) : ∀ j, v.ownBlock = some j → B ≤ j ∧ j < w.heap.size ∧ ∃ cs fz, w.heap[j]? = some (.cells cs E fz) := by
  intro j e
  rcases h.2 with ⟨rfl, _⟩ | ⟨g, cap, cur, rfl, hb, hh, _⟩
  · cases e
  · obtain rfl : g = j := by simpa [Value.ownBlock] using e
    exact ⟨hb, (Array.getElem?_eq_some_iff.1 hh).1, _, _, hh⟩
theorem kind_size15 : (Tryd.prog.info? 23).map (·.size) = some 1 := by kernel_rfl
theorem elem_kind15 : Tryd.prog.elem 65 = 23 := by kernel_rfl
theorem slice_front15 (la : Option Addr) (n cap k : Nat) (hk : k ≤ cap) (w : World) : (Instr.slice 65 (.slice la n cap) none (some (.int .i64 (k : Int))) none).run Tryd.prog w = .ok (.slice la k cap) w := by
  obtain ⟨i0, hi0, hz⟩ := Option.map_eq_some_iff.1 kind_size15
  rw [run_slice_h (P := Tryd.prog) w 65 la n cap (by rw [elem_kind15]; exact Tryd.underlying65) .i64 k (by omega) (by omega)]
  cases la <;> simp [elem_kind15, sizeOf, typeInfo, hi0, Result.andThen, sliced, Addr.add]
theorem slice_from15 (la : Option Addr) (n cap k : Nat) (hk : k ≤ n) (w : World) : (Instr.slice 65 (.slice la n cap) (some (.int .i64 (k : Int))) none none).run Tryd.prog w = .ok (.slice (if cap = k then la else la.map (·.add (k * 1))) (n - k) (cap - k)) w := by
  obtain ⟨i0, hi0, hz⟩ := Option.map_eq_some_iff.1 kind_size15
  rw [run_slice_l (P := Tryd.prog) w 65 la n cap (by rw [elem_kind15]; exact Tryd.underlying65) .i64 k (by omega) (by omega)]
  simp [elem_kind15, sizeOf, typeInfo, hi0, Result.andThen, sliced, hz]
/-- the kinds from one on, read where the slice of them begins -/
theorem owL_from15 {w : World} {B cp FR : Nat} {al : Option Addr} {l : List Int} (h : OwL fK 23 1 w B (.slice al l.length cp) l) (hFR : FR ≤ l.length) : ReadsK w (if cp = FR then al else al.map (·.add (FR * 1))) (l.drop FR) := by
  intro i hi
  rw [List.length_drop] at hi
  obtain ⟨g, c', e, hc⟩ := owL_cell (f := fK) (fun _ _ => rfl) h (FR + i) (by omega)
  injection e with e1 _ e3
  subst e1; subst e3
  have hcap : l.length ≤ cp := by
    obtain ⟨_, _, e, hh, _⟩ := owL_form h
    injection e with _ _ e
    subst e; exact hh
  have hne : ¬ cp = FR := by omega
  rw [if_neg hne]
  refine ⟨g, FR, by simp [Addr.add]; exact fun h => h.symm, ?_⟩
  have h := (hc 0 _ rfl).1
  rw [Nat.mul_one, Nat.add_zero] at h
  rw [List.getElem_drop]; exact h
set_option maxRecDepth 100000 in
set_option maxHeartbeats 12800000 in
theorem Kind15_any {mk : Prop} (x : X) (a : Option Addr) (c : Nat) (L : List ColV) (al : Option Addr) (cap : Nat) (hL : L.length ≤ 100000) (hN : ∀ y ∈ L, y.name.size ≤ 1000000) (w : World) (hX : XOk w w.heap.size mk x a) (hf : Sx.fine x) (hd : Sx.deep x ≤ 1000) (hE : ErrR w) (hC : ReadsC w al L) :
    Calls Tryd.prog 15 #[xV x a c, .slice al L.length cap] w (KindP mk (L.map colK) x w) := by
  have HCh := Lib.hid fun (wx : World) (hb : Below w.heap.size w wx) => check14_any (mk := mk) x a c wx (xok_same hb.size (fun j hj => hb.block j hj) x a hX) hf hd (errR_below hE hb)
  have HSc := Lib.hid fun (wx : World) (hb : Below w.heap.size w wx) => scopeOf15_any L al cap hL hN wx (readsC_below hC hb)
  have HU := Lib.hid fun wx => upward15_call x a c wx
  have HB := Lib.hid (And.intro hX (And.intro hf (And.intro hd (And.intro hE hC))))
  clear hX hE hC hf hd
  obtain ⟨⟨c0, c1, c2, c3, c4, c5⟩, _⟩ := x_look (Below.refl (w.alloc (.cells (xC x a c) 36)).heap.size (w.alloc (.cells (xC x a c) 36)))
  simp only [Nat.zero_add] at c0 c1 c2 c3 c4 c5
  generalize hNN : L.length = NL at *
  refine (callsIn_wide (n := 8)).1 ?_
  refine callsIn_of_wp_marks Tryd.func15 rfl trivial ?_ rfl
  simp only [Tryd.ntmps15, List.size_toArray, List.length_cons, List.length_nil, Nat.reduceAdd, Nat.reduceSub, Array.replicate_succ, Array.replicate_zero, List.push_toArray, List.append_toArray, List.nil_append, List.cons_append]
  gi_wp2
  obtain ⟨W0, hW0⟩ : ∃ W0, ((w.alloc (.cells (xC x a c) 36)).alloc (.cells #[.int .i64 0] 23)).alloc (.cells #[.int .i64 0] 26) = W0 := ⟨_, rfl⟩
  have hB0 : Below w.heap.size w W0 := by
    rw [← hW0]
    exact (((Below.refl w.heap.size w).alloc (Nat.le_refl _) _).alloc (by simp) _).alloc (by simp; omega) _
  have hs0 : W0.heap.size = w.heap.size + 3 := by rw [← hW0]; simp
  have hrx : RowV W0 w.heap.size 36 (xC x a c).toList := by
    rw [← hW0]
    exact rowV_alloc (rowV_alloc (x_new x a c w).1 _) _
  have hrk : RowV W0 (w.heap.size + 1) 23 [.int .i64 0] := by
    rw [← hW0]
    have := rowV_new (w.alloc (.cells (xC x a c) 36)) 23 [.int .i64 0]
    rw [World.size_alloc] at this
    exact rowV_alloc this _
  have hre : RowV W0 (w.heap.size + 2) 26 [.int .i64 0] := by
    rw [← hW0]
    have := rowV_new ((w.alloc (.cells (xC x a c) 36)).alloc (.cells #[.int .i64 0] 23)) 26 [.int .i64 0]
    rw [World.size_alloc, World.size_alloc] at this
    exact this
  rw [hW0]
  clear c0 c1 c2 c3 c4 c5
  refine ⟨trivial, ?_⟩
  gi_at_call 13
  refine (callsIn_wide.2 (HCh.out W0 hB0)).mono ?_
  rintro e w1 ⟨r, rfl, hb1, hr1⟩
  have hB1 := hB0.trans (hb1.mono (by omega))
  have h03 : w.heap.size + 3 ≤ w1.heap.size := by have := hb1.size; omega
  have hrx1 := rowV_below hrx hb1 (rowV_lt hrx)
  have hrk1 := rowV_below hrk hb1 (rowV_lt hrk)
  have hre1 := rowV_below hre hb1 (rowV_lt hre)
  have fk := rowV_frozen hrk1 0
  have fe := rowV_frozen hre1 0
  have ck := rowV_cell hrk1 0
  have ce := rowV_cell hre1 0
  simp only [List.getElem?_cons_zero] at ck ce
  obtain ⟨c0, c1, c2, c3, c4, c5⟩ := x_cells hrx1
  simp only [Nat.zero_add] at c0 c1 c2 c3 c4 c5
  have H1 := Lib.hid (And.intro hB1 (And.intro hrx1 (And.intro hrk1 hre1)))
  clear hB1 hrx1 hrk1 hre1 hrx hrk hre hb1 hB0 hW0
  rcases hr1 with ⟨rfl, hall⟩ | ⟨rfl, hno⟩
  · have HAll := Lib.hid hall
    clear hall
    gi_wp2
    refine ⟨trivial, (callsIn_wide.2 (HSc.out w1 H1.out.1)).mono ?_⟩
    rintro e w2 ⟨mb, mn, rfl, hmb, hM, hb2⟩
    have hB2 := H1.out.1.trans (hb2.mono H1.out.1.size)
    have h04 : w.heap.size + 3 ≤ w2.heap.size := by have := hb2.size; omega
    have hrx2 := rowV_below H1.out.2.1 hb2 (rowV_lt H1.out.2.1)
    have hrk2 := rowV_below H1.out.2.2.1 hb2 (rowV_lt H1.out.2.2.1)
    have hre2 := rowV_below H1.out.2.2.2 hb2 (rowV_lt H1.out.2.2.2)
    obtain ⟨d0, d1, d2, d3, d4, d5⟩ := x_cells hrx2
    simp only [Nat.zero_add] at d0 d1 d2 d3 d4 d5
    have H2 := Lib.hid (And.intro hB2 (And.intro hrk2 (And.intro hre2 (And.intro hmb hM))))
    have hlx := rowV_lt hrx2
    clear hB2 hrx2 hrk2 hre2 hb2 hM fk fe ck ce c0 c1 c2 c3 c4 c5
    gi_wp2
    refine ⟨trivial, (callsIn_wide.2 (HU.out _)).mono ?_⟩
    rintro e w3 ⟨rfl, rfl⟩
    gi_wp2
    obtain ⟨W3, hW3⟩ : ∃ W3, ((w2.alloc (.cells #[.map (some mb)] 63)).alloc (.cells #[.slice none 0 0] 65)).alloc (.cells (xC x a c) 36) = W3 := ⟨_, rfl⟩
    have hb3 : Below w2.heap.size w2 W3 := by
      rw [← hW3]
      exact (((Below.refl w2.heap.size w2).alloc (Nat.le_refl _) _).alloc (by simp) _).alloc (by simp; omega) _
    have hs3 : W3.heap.size = w2.heap.size + 3 := by rw [← hW3]; simp
    have hrm : RowV W3 w2.heap.size 63 [.map (some mb)] := by
      rw [← hW3]
      exact rowV_alloc (rowV_alloc (rowV_new w2 63 [.map (some mb)]) _) _
    have hrs : RowV W3 (w2.heap.size + 1) 65 [.slice none 0 0] := by
      rw [← hW3]
      have := rowV_new (w2.alloc (.cells #[.map (some mb)] 63)) 65 [.slice none 0 0]
      rw [World.size_alloc] at this
      exact rowV_alloc this _
    have hrb : RowV W3 (w2.heap.size + 2) 36 (xC x a c).toList := by
      rw [← hW3]
      have := (x_new x a c ((w2.alloc (.cells #[.map (some mb)] 63)).alloc (.cells #[.slice none 0 0] 65))).1
      rw [World.size_alloc, World.size_alloc] at this
      exact this
    have hB3 := H2.out.1.trans (hb3.mono H2.out.1.size)
    have hSide : Side w W3 w.heap.size (w2.heap.size + 2) x a c := ⟨fun j hj => hB3.block j hj, hrb, by omega, Nat.le_refl _⟩
    have hrk3 := rowV_below H2.out.2.1 hb3 (rowV_lt H2.out.2.1)
    have hre3 := rowV_below H2.out.2.2.1 hb3 (rowV_lt H2.out.2.2.1)
    have hM3 : ScopeS W3 mb mn (L.map colK) := mapS_below H2.out.2.2.2.2 hb3
    have hmbl := mapS_lt H2.out.2.2.2.2
    have hmb2 := H2.out.2.2.2.1
    rw [hW3]
    clear d0 d1 d2 d3 d4 d5
    generalize hCS : L.map colK = CS at *
    have hrt : Sx.right x = true := by rw [Sx.right_parts x 1]; exact HAll.out
    have hHands := up15_hands (n := 8 - 1) (by omega) (w0 := w) (B2 := W3.heap.size + 2) (Gd := Gd14 w w.heap.size mk) (xok_at x a HB.out.1) ⟨HB.out.1, HB.out.2.1⟩ (fun y ay h => ⟨(gd14 y ay h).1, fun i hi b o az cz e hc => ((gd14 y ay h).2 i hi b o az cz e hc).1⟩) HB.out.2.2.1 hSide
    generalize hWN : w.heap.size = N at *
    generalize hWM : w2.heap.size = M at *
    have hNM : N + 3 ≤ M := by omega
    obtain ⟨I, eI⟩ : ∃ I : List (UA w N (Gd14 w N mk)) → World → Prop, I = fun pre V => ∃ (p : Option Addr × Nat) (KS : List Int), (Ty.run CS (pre.map (·.1.1)) [] = (KS, 0) ∧ True) ∧ (RowV V (M + 1) 65 [.slice p.1 KS.length p.2] ∧ OwL fK 23 1 V (M + 5) (.slice p.1 KS.length p.2) KS) ∧
        ((RowV V (N + 1) 23 [.int .i64 0] ∧ RowV V (N + 2) 26 [.int .i64 0]) ∧ (RowV V M 63 [.map (some mb)] ∧ MapS kEnc kLit V mb mn (Ty.look CS))) ∧ Below N w V := ⟨_, rfl⟩
    obtain ⟨Ix, eIx⟩ : ∃ I : List (UA w N (Gd14 w N mk)) → World → Prop, I = fun pre V => ∃ r : Int, ((Ty.run CS (pre.map (·.1.1)) []).2 = r ∧ r ≠ 0) ∧ (RowV V (N + 1) 23 [.int .i64 0] ∧ RowV V (N + 2) 26 [.int .i64 r]) ∧ Below N w V := ⟨_, rfl⟩
    replace eI := Lib.hid eI
    replace eIx := Lib.hid eIx
    refine wpIn_hands2 (n := 8) (gf := 50) (lb := #[.pointer (some ⟨M + 1 + 1, 0, none⟩)]) rfl (enters_of Tryd.func50 (by kernel_rfl) rfl)
      hHands (Below.refl _ _) (fun _ => rfl) kpU_t
      (fun V o o' h1 h2 => kpU_put o' (by omega) (by omega) (by omega) h1 h2)
      I Ix (fun s => by rw [eI.out]; exact survR_ex fun p => survR_ex fun KS => survR_and (survR_const _) (survR_and (survR_and (survR_row (by omega)) (survR_own (by decide))) (survR_and (survR_and (survR_and (survR_row (by omega)) (survR_row (by omega))) (survR_and (survR_row (by omega)) (survR_mapK (by omega)))) (survR_below (by omega) (by omega)))))
      (fun s => by rw [eIx.out]; exact survR_ex fun r => survR_and (survR_const _) (survR_and (survR_and (survR_row (by omega)) (survR_row (by omega))) (survR_below (by omega) (by omega))))
      (by rw [eI.out]; exact ⟨(none, 0), [], ⟨rfl, trivial⟩, ⟨hrs, owL_nil _⟩, ⟨⟨hrk3, hre3⟩, hrm, hM3⟩, hB3⟩) ?round ?done ?stop
    case round =>
      rintro pre ⟨⟨y, ay, cy⟩, hy⟩ V hI hlen hsp hszV hnc
      have hfy : Sx.fine y := hy.2.2
      rw [eI.out] at hI
      obtain ⟨⟨ao, cp⟩, KS, ⟨hrun, hKl⟩, ⟨hr, how⟩, ⟨⟨hk, he⟩, hrm5, hM5⟩, hB⟩ := hI
      dsimp only [encU, xV, xC]
      have hnb := (x_new y ay cy V).2
      have hnr := (x_new y ay cy V).1
      dsimp only [xC] at hnb hnr
      have hI1 : I pre (V.alloc (.cells (xC y ay cy) 36)) := by
        rw [eI.out]
        exact ⟨(ao, cp), KS, ⟨hrun, hKl⟩, ⟨rowV_alloc hr _, owL_below how hnb.1⟩, ⟨⟨rowV_alloc hk _, rowV_alloc he _⟩, rowV_alloc hrm5 _, mapS_below hM5 hnb.1⟩, hB.alloc (by have := hB.size; omega) _⟩
      obtain ⟨rest, hrest⟩ := hsp
      have hroom : y.l.length ≤ KS.length := by
        have h2 : pre.map (fun z => z.1.1) ++ y :: rest = Ty.up x := by rw [← hrest, List.map_append, List.append_assoc]; rfl
        have := Ty.run_room CS x [] _ _ _ h2.symm (by rw [hrun])
        rw [hrun] at this
        exact this
      have hfew : KS.length ≤ 3000 := by
        have h2 : pre.map (fun z => z.1.1) ++ y :: rest = Ty.up x := by rw [← hrest, List.map_append, List.append_assoc]; rfl
        have h3 := Ty.run_few CS x hrt [] _ _ h2.symm (by rw [hrun])
        rw [hrun] at h3
        have h4 := HB.out.2.2.1
        have h5 : KS.length ≤ 0 + 3 * Sx.deep x := h3
        omega
      clear hr how hk he hrm5 hM5 hB
      gi_wp2
      refine ⟨⟨hnb.1.block _ (by omega), hnb.1.block _ (by omega)⟩, kpU_below hnb.1, fun W2 ho2 hI2 hnc2 => ?_⟩
      have hr2 := rowV_only hnr ho2 (by omega)
      have hs2 := ho2.size
      rw [hnb.2] at hs2
      have hI3 := hI2 pre hI1
      rw [eI.out] at hI3
      obtain ⟨⟨ao, cp⟩, KS2, ⟨hrun2, -⟩, ⟨hr, how⟩, ⟨⟨hk, he⟩, hrm5, hM5⟩, hB⟩ := hI3
      obtain rfl : KS2 = KS := congrArg Prod.fst (hrun2.symm.trans hrun)
      dsimp only at hr how
      clear hrun2 hI2 hI1 hnr ho2
      obtain ⟨c0, c1, c2, c3, c4, c5⟩ := x_cells (x := y) (a := ay) (c := cy) hr2
      simp only [Nat.zero_add] at c0 c1 c2 c3 c4 c5
      have k8 := rowV_cell hr 0
      have k7 := rowV_cell hrm5 0
      simp only [List.getElem?_cons_zero] at k8 k7
      have hmem : y ∈ Ty.up x := by
        have h2 : pre.map (fun z => z.1.1) ++ y :: rest = Ty.up x := by rw [← hrest, List.map_append, List.append_assoc]; rfl
        rw [← h2]; simp
      have hrn : Sx.rightN y = true := by
        obtain ⟨d', h⟩ := mem_up x y 1 hmem
        have h2 := HAll.out
        unfold Sx.allR at h2
        exact List.all_eq_true.1 h2 _ h
      have hneed := need_right hrn
      obtain ⟨FR, hFR⟩ : ∃ FR, KS2.length = FR + y.l.length := ⟨KS2.length - y.l.length, by omega⟩
      have eF : ((KS2.length : Nat) : Int) - ((y.l.length : Nat) : Int) = (FR : Int) := by omega
      have hKb : KS2.length ≤ 100000 := by omega
      have hdl : (KS2.drop FR).length = KS2.length - FR := List.length_drop ..
      have HSK := Lib.hid fun (sa : Option Addr) (sc : Nat) (wx : World) (hbx : Below W2.heap.size W2 wx) (hRk : ReadsK W2 sa (KS2.drop FR)) => skind15_any CS mb mn y ay cy (KS2.drop FR) sa (KS2.length - FR) sc hdl (by omega) (by omega) (Sx.fine_is hfy).2.1 wx (mapS_below hM5 hbx) (readsK_below hRk hbx)
      have HRW := Lib.hid (And.intro hr (And.intro how (And.intro hk (And.intro he (And.intro hrm5 (And.intro hM5 (And.intro hB hr2)))))))
      have hrunS : Ty.run CS ((pre ++ [(⟨(y, ay, cy), hy⟩ : UA w N (Gd14 w N mk))]).map (fun z => z.1.1)) [] = if (Ty.own CS y (KS2.drop FR)).2 = 0 then (KS2.take FR ++ [(Ty.own CS y (KS2.drop FR)).1], 0) else ([], (Ty.own CS y (KS2.drop FR)).2) := by
        rw [List.map_append, Ty.run_app, hrun, if_pos rfl]
        show Ty.run CS [y] KS2 = _
        have e1 : KS2.length - y.l.length = FR := by omega
        have e2 : Ty.stp CS KS2 y = if (Ty.own CS y (KS2.drop FR)).2 = 0 then (KS2.take FR ++ [(Ty.own CS y (KS2.drop FR)).1], 0) else ([], (Ty.own CS y (KS2.drop FR)).2) := by
          unfold Ty.stp; rw [e1]
        rw [Ty.run, e2]
        by_cases h : (Ty.own CS y (KS2.drop FR)).2 = 0
        · rw [if_pos h]; show (if (0 : Int) = 0 then _ else _) = _; rw [if_pos rfl, Ty.run]
        · rw [if_neg h]; show (if (Ty.own CS y (KS2.drop FR)).2 = 0 then _ else _) = _; rw [if_neg h]
      obtain ⟨SA, hSA⟩ : ∃ SA, SA = (if cp = FR then ao else ao.map (·.add (FR * 1))) := ⟨_, rfl⟩
      have hRK := owL_from15 how (FR := FR) (by omega)
      rw [← hSA] at hRK
      have q1 : ∀ W, (Instr.slice 65 (.slice ao KS2.length cp) (some (.int .i64 (FR : Int))) none none).run Tryd.prog W = .ok (.slice SA (KS2.length - FR) (cp - FR)) W := fun W => by rw [hSA]; exact slice_from15 ao KS2.length cp FR (by omega) W
      obtain ⟨hcap, hcap2⟩ : KS2.length ≤ cp ∧ cp ≤ maxLen := by
        obtain ⟨_, _, e, h1, h2, _⟩ := owL_form how
        injection e with _ _ e
        subst e; exact ⟨h1, h2⟩
      have q2 : ∀ W, (Instr.slice 65 (.slice ao KS2.length cp) none (some (.int .i64 (FR : Int))) none).run Tryd.prog W = .ok (.slice ao FR cp) W := fun W => slice_front15 ao KS2.length cp FR (by omega) W
      have HK := Lib.hid fun (wx : World) (hbx : Below W2.heap.size W2 wx) => HSK.out SA (cp - FR) wx hbx hRK
      generalize hOW : Ty.own CS y (KS2.drop FR) = OW at *
      obtain ⟨ok, oe⟩ := OW
      have HRS := Lib.hid hrunS
      clear hr hk he hrm5 hM5 hB hr2 hrunS hrun hmem hrn hRK hSA HSK
      have hfo : Tryd.prog.follows .mixedOrders = true := by kernel_rfl
      gi_wp2
      try rw [eF]
      have HFR := Lib.hid (And.intro hFR (And.intro eF (And.intro hKb (And.intro hdl (And.intro hneed (And.intro hKl (And.intro hcap hcap2)))))))
      clear hFR eF hKb hdl hneed hroom hKl hcap hcap2 how
      generalize hKN : KS2.length = KN at *
      have HKN := Lib.hid hKN
      clear hKN
      refine wpIn_round_quiet_tail (C := fun wx => (wx.cell? ⟨M, 0, none⟩ = some (.map (some mb)) ∧ wx.cell? ⟨M + 1, 0, none⟩ = some (.slice ao KN cp) ∧ wx.cell? ⟨V.heap.size, 0, none⟩ = some (.int .i64 y.op) ∧ wx.cell? ⟨V.heap.size, 1, none⟩ = some (.int .i64 y.v.kind) ∧ wx.cell? ⟨V.heap.size, 2, none⟩ = some (.int .i64 y.v.n) ∧ wx.cell? ⟨V.heap.size, 3, none⟩ = some (.string y.v.s) ∧ wx.cell? ⟨V.heap.size, 4, none⟩ = some (.string y.s) ∧ wx.cell? ⟨V.heap.size, 5, none⟩ = some (.slice ay y.l.length cy)) ∧ Hid (Below W2.heap.size W2 wx)) 10 (by kernel_rfl) (by kernel_rfl) (by kernel_rfl) (fun _ _ hh => hh) ⟨⟨k7, k8, c0, c1, c2, c3, c4, c5⟩, Lib.hid (Below.refl W2.heap.size W2).drew⟩ ?_
      simp only [List.take_succ_cons, List.take_zero, List.drop_succ_cons, List.drop_zero]
      go_big_quiet_want
      refine ⟨(.map (some mb)), fun wx hSx => ?_, ?_⟩
      · obtain ⟨⟨k0, k1, k2, k3, k4, k5, k6, k7⟩, -⟩ := hSx
        go_simp
        try first
          | with_reducible rfl
          | rw [if_neg (by omega)]
      simp only [Act.put, List.setIfInBounds_toArray, List.set_cons_zero, List.set_cons_succ]
      go_big_quiet_on
      go_big_quiet_want
      refine ⟨(xV y ay cy), fun wx hSx => ?_, ?_⟩
      · obtain ⟨⟨k0, k1, k2, k3, k4, k5, k6, k7⟩, -⟩ := hSx
        go_simp
        try first
          | with_reducible rfl
          | rw [if_neg (by omega)]
      simp only [Act.put, List.setIfInBounds_toArray, List.set_cons_zero, List.set_cons_succ]
      go_big_quiet_on
      go_big_quiet_want
      refine ⟨(.slice ao KN cp), fun wx hSx => ?_, ?_⟩
      · obtain ⟨⟨k0, k1, k2, k3, k4, k5, k6, k7⟩, -⟩ := hSx
        go_simp
        try first
          | with_reducible rfl
          | rw [if_neg (by omega)]
      simp only [Act.put, List.setIfInBounds_toArray, List.set_cons_zero, List.set_cons_succ]
      go_big_quiet_on
      go_big_quiet_want
      go_big_quiet_op
      go_big_quiet_on
      go_big_quiet_want
      refine ⟨(.slice SA (KN - FR) (cp - FR)), fun wx hSx => ?_, ?_⟩
      · have q := q1 wx
        go_simp
      simp only [Act.put, List.setIfInBounds_toArray, List.set_cons_zero, List.set_cons_succ]
      go_big_quiet_on
      go_big_quiet_want
      refine ⟨(.tuple #[.int .i64 ok, .int .i64 oe]), fun wx hSx => ?_, ?_⟩
      · exact quietAt_call 36 #[.map (some mb), xV y ay cy, .slice SA (KN - FR) (cp - FR)] (by go_simp) ((HK.out wx hSx.2.out).mono fun e w' hh => ⟨hh.1, ⟨(hh.2.cell (p := ⟨M, 0, none⟩) (World.block_lt_of_cell? _ _ hSx.1.1)).trans hSx.1.1, (hh.2.cell (p := ⟨M + 1, 0, none⟩) (World.block_lt_of_cell? _ _ hSx.1.2.1)).trans hSx.1.2.1, (hh.2.cell (p := ⟨V.heap.size, 0, none⟩) (World.block_lt_of_cell? _ _ hSx.1.2.2.1)).trans hSx.1.2.2.1, (hh.2.cell (p := ⟨V.heap.size, 1, none⟩) (World.block_lt_of_cell? _ _ hSx.1.2.2.2.1)).trans hSx.1.2.2.2.1, (hh.2.cell (p := ⟨V.heap.size, 2, none⟩) (World.block_lt_of_cell? _ _ hSx.1.2.2.2.2.1)).trans hSx.1.2.2.2.2.1, (hh.2.cell (p := ⟨V.heap.size, 3, none⟩) (World.block_lt_of_cell? _ _ hSx.1.2.2.2.2.2.1)).trans hSx.1.2.2.2.2.2.1, (hh.2.cell (p := ⟨V.heap.size, 4, none⟩) (World.block_lt_of_cell? _ _ hSx.1.2.2.2.2.2.2.1)).trans hSx.1.2.2.2.2.2.2.1, (hh.2.cell (p := ⟨V.heap.size, 5, none⟩) (World.block_lt_of_cell? _ _ hSx.1.2.2.2.2.2.2.2)).trans hSx.1.2.2.2.2.2.2.2⟩, Lib.hid (hSx.2.out.trans (hh.2.mono hSx.2.out.size))⟩)
      simp only [Act.put, List.setIfInBounds_toArray, List.set_cons_zero, List.set_cons_succ]
      go_big_quiet_on
      go_big_quiet_want
      go_big_quiet_op
      go_big_quiet_on
      go_big_quiet_want
      refine ⟨(.int .i64 ok), fun wx hSx => ?_, ?_⟩
      · obtain ⟨⟨k0, k1, k2, k3, k4, k5, k6, k7⟩, -⟩ := hSx
        go_simp
        try first
          | with_reducible rfl
          | rw [if_neg (by omega)]
      simp only [Act.put, List.setIfInBounds_toArray, List.set_cons_zero, List.set_cons_succ]
      go_big_quiet_on
      go_big_quiet_want
      refine ⟨(.int .i64 oe), fun wx hSx => ?_, ?_⟩
      · obtain ⟨⟨k0, k1, k2, k3, k4, k5, k6, k7⟩, -⟩ := hSx
        go_simp
        try first
          | with_reducible rfl
          | rw [if_neg (by omega)]
      simp only [Act.put, List.setIfInBounds_toArray, List.set_cons_zero, List.set_cons_succ]
      go_big_quiet_on
      go_big_quiet_want
      go_big_quiet_op
      go_big_quiet_on
      refine wpQuiet_nil ?_
      rintro w5 ⟨-, hb5⟩
      have hnN : N + 3 ≤ M := hNM
      have hr5 := rowV_below HRW.out.1 hb5.out (rowV_lt HRW.out.1)
      have how5 := owL_below HRW.out.2.1 hb5.out
      have hk5 := rowV_below HRW.out.2.2.1 hb5.out (rowV_lt HRW.out.2.2.1)
      have he5 := rowV_below HRW.out.2.2.2.1 hb5.out (rowV_lt HRW.out.2.2.2.1)
      have hm5 := rowV_below HRW.out.2.2.2.2.1 hb5.out (rowV_lt HRW.out.2.2.2.2.1)
      have hM5 := mapS_below HRW.out.2.2.2.2.2.1 hb5.out
      have hB5 := HRW.out.2.2.2.2.2.2.1.trans (hb5.out.mono (by have h := HRW.out.2.2.2.2.2.2.1.size; rw [hWN] at h; exact h))
      clear k8 k7 c0 c1 c2 c3 c4 c5
      have k8 := rowV_cell hr5 0
      have f8 := rowV_frozen hr5 0
      have ck := rowV_cell hk5 0
      have ce := rowV_cell he5 0
      have fk := rowV_frozen hk5 0
      have fe := rowV_frozen he5 0
      simp only [List.getElem?_cons_zero] at k8 ck ce
      have H5 := Lib.hid (And.intro hr5 (And.intro how5 (And.intro hk5 (And.intro he5 (And.intro hm5 (And.intro hM5 hB5))))))
      clear hr5 how5 hk5 he5 hm5 hM5 hB5
      by_cases hoe : oe = 0
      · subst hoe
        have hnb := (Below.refl w5.heap.size w5).alloc (Nat.le_refl _) (.cells #[.int .i64 ok] 23)
        have hnew : RowV (w5.alloc (.cells #[.int .i64 ok] 23)) w5.heap.size 23 (fK ok) := rowV_new w5 _ [_]
        have h6 := rowV_alloc H5.out.1 (.cells #[.int .i64 ok] 23)
        have how6 : OwL fK 23 1 (w5.alloc (.cells #[.int .i64 ok] 23)) (M + 5) (.slice ao FR cp) (KS2.take FR) := by
          have e0 : KS2.length = KN := HKN.out
          have e1 : KN = FR + y.l.length := HFR.out.1
          have h := owL_below H5.out.2.1 hnb
          rw [← e0] at h
          have h := owL_take15 (f := fK) (l := KS2) (fun _ => rfl) y.l.length (by omega) h
          have e : KS2.length - y.l.length = FR := by omega
          rw [e] at h
          exact h
        have htl : (KS2.take FR).length = FR := by
          have e0 : KS2.length = KN := HKN.out
          have e1 : KN = FR + y.l.length := HFR.out.1
          rw [List.length_take]; omega
        have HN := Lib.hid (And.intro hnb (And.intro hnew (And.intro h6 (And.intro how6 htl))))
        clear hnb hnew h6 how6 htl
        go_wp2_with fail
        gi_wp2_with (gi_at_builtin; refine wpListIn_append_one14 (f := fK) (B := M + 5) kind_elem rfl _ _ 65 rfl Tryd.underlying65 (.slice ao FR cp) (KS2.take FR) ok rfl HN.out.2.2.2.1 w5.heap.size 1 rfl HN.out.2.1 rfl (fK_one _) (by rw [HN.out.2.2.2.2]; have e1 : KN = FR + y.l.length := HFR.out.1; have := HFR.out.2.2.1; omega) (by rw [World.size_alloc]; have := hb5.out.size; omega) ?_; intro v' w7 ho7 hg7; obtain ⟨a7, c7, he7, -⟩ := owL_form ho7; rw [List.length_append, HN.out.2.2.2.2, List.length_singleton] at he7; subst he7; have hr7 := rowV_only HN.out.2.2.1 hg7 (fun e => by have := (owL_lt HN.out.2.2.2.1 _ e).1; omega); have k7 := rowV_cell hr7 0; have f7 := rowV_frozen hr7 0; simp only [List.getElem?_cons_zero] at k7; have H7 := Lib.hid (And.intro ho7 (And.intro hg7 hr7)); clear ho7 hg7 hr7)
        have hs7 := H7.out.2.1.size
        rw [World.size_alloc] at hs7
        have hs5 := hb5.out.size
        have hnb := HN.out.1
        have hof := owL_block HN.out.2.2.2.1
        rw [World.size_alloc] at hof
        have hb7 := H7.out.2.1
        have ho8 := (Only.refl (fun k => k = M + 1) w7).setCell (g := M + 1) (i := 0) (fun _ => rfl) (.slice a7 (FR + 1) c7)
        refine ⟨?_, ?_, ?_⟩
        · have hm1 : ∀ k, k = M + 3 ∨ k = M + 4 → (w7.setCell ⟨M + 1, 0, none⟩ (.slice a7 (FR + 1) c7)).heap[k]? = W2.heap[k]? := fun k hk =>
            (ho8.block k (by omega) (by omega)).trans ((hb7.block k (by rw [World.size_alloc]; omega) fun e => by have := (hof k e).1; omega).trans ((hnb.block k (by omega)).trans (hb5.out.block k (by omega))))
          exact ⟨hm1 _ (.inl rfl), hm1 _ (.inr rfl)⟩
        · refine kpU_t (kpU_below hb5.out) (kpU_t (kpU_below hnb) (kpU_t (kpU_only hb7 fun k e => ⟨by have := (hof k e).1; omega, by have := (hof k e).1; omega, ?_⟩) (kpU_only ho8 fun k e => ⟨by omega, by omega, ?_⟩)))
          · obtain ⟨cs, fz, h⟩ := (hof k e).2.2
            exact ⟨cs, _, fz, h, by decide⟩
          · rw [e]
            exact ⟨_, _, _, H7.out.2.2, by decide⟩
        · rw [eI.out]
          have hF1 : (KS2.take FR ++ [ok]).length = FR + 1 := by rw [List.length_append, HN.out.2.2.2.2]; rfl
          have hB6 := H5.out.2.2.2.2.2.2
          have z5 := hB6.size
          have hB7 := hB6.trans (hnb.mono (by omega))
          have z6 := hB7.size
          rw [World.size_alloc] at z6
          have hB8 := hB7.trans (hb7.below (fun k _ e => by have := (hof k e).1; omega) (by rw [World.size_alloc]; omega))
          refine ⟨(a7, c7), KS2.take FR ++ [ok], ⟨HRS.out.trans (by simp), ?_⟩, ?_, ⟨⟨?_, ?_⟩, ?_, ?_⟩, hB8.trans (ho8.below (fun k _ e => by omega) (by have := hB8.size; omega))⟩
          · trivial
          · rw [hF1]
            have ho7 := H7.out.1
            exact ⟨rowV_set15 H7.out.2.2 _, owL_only ho7 ho8 fun j e1 e2 => by have := (owL_lt ho7 j e1).1; omega⟩
          · exact rowV_only (rowV_only (rowV_alloc H5.out.2.2.1 _) hb7 fun e => by have := (hof _ e).1; omega) ho8 (by omega)
          · exact rowV_only (rowV_only (rowV_alloc H5.out.2.2.2.1 _) hb7 fun e => by have := (hof _ e).1; omega) ho8 (by omega)
          · exact rowV_only (rowV_only (rowV_alloc H5.out.2.2.2.2.1 _) hb7 fun e => by have := (hof _ e).1; omega) ho8 (by omega)
          · exact mapS_only (mapS_only (mapS_below H5.out.2.2.2.2.2.1 hnb) hb7 fun e => by have := (hof _ e).1; omega) ho8 (by omega)
      · have t1 : (oe != 0) = true := by simpa using hoe
        go_wp2_with fail
        gi_wp2
        have hs5 := hb5.out.size
        have ho1 := (Only.refl (fun k => k = N + 1) w5).setCell (g := N + 1) (i := 0) (fun _ => rfl) (.int .i64 0)
        have hk2 := rowV_set15 H5.out.2.2.1 (.int .i64 0)
        have he2 := rowV_only H5.out.2.2.2.1 ho1 (by omega)
        have hb2 := H5.out.2.2.2.2.2.2.trans (ho1.below (fun k _ e => by omega) (by have := H5.out.2.2.2.2.2.2.size; omega))
        have ho2 := (Only.refl (fun k => k = N + 2) (w5.setCell ⟨N + 1, 0, none⟩ (.int .i64 0))).setCell (g := N + 2) (i := 0) (fun _ => rfl) (.int .i64 oe)
        have hk3 := rowV_only hk2 ho2 (by omega)
        have he3 := rowV_set15 he2 (.int .i64 oe)
        have hb3 := hb2.trans (ho2.below (fun k _ e => by omega) (by have := hb2.size; omega))
        have hs6 := ho1.size
        refine ⟨?_, ?_, ?_⟩
        · have hm1 : ∀ k, k = M + 3 ∨ k = M + 4 → ((w5.setCell ⟨N + 1, 0, none⟩ (.int .i64 0)).setCell ⟨N + 1 + 1, 0, none⟩ (.int .i64 oe)).heap[k]? = W2.heap[k]? := fun k hk =>
            (ho2.block k (by omega) (by omega)).trans ((ho1.block k (by omega) (by omega)).trans (hb5.out.block k (by omega)))
          exact ⟨hm1 _ (.inl rfl), hm1 _ (.inr rfl)⟩
        · refine kpU_t (kpU_below hb5.out) (kpU_t (kpU_only ho1 fun k e => ⟨by omega, by omega, ?_⟩) (kpU_only ho2 fun k e => ⟨by omega, by omega, ?_⟩))
          · rw [e]
            exact ⟨_, _, _, H5.out.2.2.1, by decide⟩
          · rw [e]
            exact ⟨_, _, _, he2, by decide⟩
        · rw [eIx.out]
          exact ⟨oe, ⟨congrArg Prod.snd (HRS.out.trans (if_neg hoe)), hoe⟩, ⟨hk3, he3⟩, hb3⟩
    case done =>
      rintro xs V hSx hI hK
      rw [eI.out] at hI
      obtain ⟨⟨ao, cp⟩, KS, ⟨hrun, -⟩, ⟨hr, how⟩, ⟨⟨hk, he⟩, -⟩, hB⟩ := hI
      dsimp only at hr how
      have hSx2 : xs.map (fun y => y.1.1) = Ty.up x := hSx
      rw [hSx2, Ty.run_up] at hrun
      have hkd2 : (Ty.kd CS x).2 = 0 := by
        by_cases h : (Ty.kd CS x).2 = 0
        · exact h
        · rw [if_neg h] at hrun
          exact congrArg Prod.snd hrun
      rw [if_pos hkd2] at hrun
      have hKS : KS = [(Ty.kd CS x).1] := (congrArg Prod.fst hrun).symm
      subst hKS
      obtain ⟨g, cp2, e, hc⟩ := owL_cell (f := fK) (fun _ _ => rfl) how 0 (by simp)
      injection e with e1 _ _
      subst e1
      have c8 : V.cell? ⟨g, 0, none⟩ = some (.int .i64 (Ty.kd CS x).1) := (hc 0 _ rfl).1
      have hkr := Lib.hid (Prod.ext rfl hkd2.symm : ((Ty.kd CS x).1, (0 : Int)) = Ty.kd CS x)
      clear hrun hc hkd2
      rw [hs3] at hK
      generalize (Ty.kd CS x).1 = KK at *
      have k8 := rowV_cell hr 0
      have fk := rowV_frozen hk 0
      have fe := rowV_frozen he 0
      have ck := rowV_cell hk 0
      have ce := rowV_cell he 0
      simp only [List.getElem?_cons_zero] at k8 ck ce
      have ho1 := (Only.refl (fun k => k = N + 1) V).setCell (g := N + 1) (i := 0) (fun _ => rfl) (.int .i64 KK)
      have hk2 := rowV_set15 hk (.int .i64 KK)
      have he2 := rowV_only he ho1 (by omega)
      have hb2 := hB.trans (ho1.below (fun k _ e => by omega) (by have := hB.size; omega))
      have ho2 := (Only.refl (fun k => k = N + 2) (V.setCell ⟨N + 1, 0, none⟩ (.int .i64 KK))).setCell (g := N + 2) (i := 0) (fun _ => rfl) (.int .i64 0)
      have hk3 := rowV_only hk2 ho2 (by omega)
      have he3 := rowV_set15 he2 (.int .i64 0)
      have hb3 := hb2.trans (ho2.below (fun k _ e => by omega) (by have := hb2.size; omega))
      have hK2 := (ho2.block _ (by have := ho1.size; have := (Array.getElem?_eq_some_iff.1 hK).1; omega) (by omega)).trans ((ho1.block _ (Array.getElem?_eq_some_iff.1 hK).1 (by omega)).trans hK)
      have HF := Lib.hid (And.intro hk3 (And.intro he3 (And.intro hb3 hK2)))
      clear ho1 hk2 he2 hb2 ho2 hk3 he3 hb3 hK2
      gi_wp2
      refine ⟨by simp, .inl ⟨_, _, rfl, run_takeDeferred HF.out.2.2.2, ?_⟩⟩
      refine ⟨_, results_cells15 rfl _ _ (N + 1) (N + 2) KK 0 rfl rfl (rowV_put15 HF.out.1 (by omega) _) (rowV_put15 HF.out.2.1 (by omega) _), KK, 0, rfl, ?_, .inl ?_⟩
      · try rw [hWN]
        exact HF.out.2.2.1.trans ((putObj_only _ _ _).below (fun k _ hk => by omega) (by have := HF.out.2.2.1.size; omega))
      · rw [if_pos HAll.out]; exact hkr.out
    case stop =>
      rintro pre V hSp hI hK
      rw [eIx.out] at hI
      obtain ⟨r, ⟨hr0, hr1⟩, ⟨hk, he⟩, hB⟩ := hI
      rw [hs3] at hK
      have hsV := hB.size
      obtain ⟨rest, hrest⟩ := hSp
      have hkd : Ty.kd CS x = (0, r) := by
        have h1 := Ty.run_up CS x []
        have h2 : pre.map (fun y => y.1.1) ++ rest = Ty.up x := hrest
        rw [← h2, Ty.run_app, if_neg (by rw [hr0]; exact hr1)] at h1
        by_cases h3 : (Ty.kd CS x).2 = 0
        · rw [if_pos h3] at h1
          exact absurd ((congrArg Prod.snd h1 : _ = (0 : Int))) (by rw [show (([] : List Int), (Ty.run CS (pre.map (fun y => y.1.1)) []).2).2 = r from hr0]; exact hr1)
        · rw [if_neg h3] at h1
          have h4 : (Ty.run CS (pre.map (fun y => y.1.1)) []).2 = (Ty.kd CS x).2 := congrArg Prod.snd h1
          have h5 := Ty.kd_err x h3
          rw [hr0] at h4
          exact Prod.ext h5 h4.symm
      gi_wp2
      refine ⟨by simp, .inl ⟨_, _, rfl, run_takeDeferred hK, ?_⟩⟩
      refine ⟨_, results_cells15 rfl _ _ (N + 1) (N + 2) 0 r rfl rfl (rowV_put15 hk (by omega) _) (rowV_put15 he (by omega) _), 0, r, rfl, ?_, .inl ?_⟩
      · try rw [hWN]
        exact hB.trans ((putObj_only _ _ _).below (fun k _ hk => by omega) (by omega))
      · rw [if_pos HAll.out, hkd]
  · have ho1 := (Only.refl (fun k => k = w.heap.size + 1) w1).setCell (g := w.heap.size + 1) (i := 0) (fun _ => rfl) (.int .i64 0)
    have hk2 := rowV_set15 H1.out.2.2.1 (.int .i64 0)
    have he2 := rowV_only H1.out.2.2.2 ho1 (by omega)
    have hb2 := H1.out.1.trans (ho1.below (fun k _ e => by omega) H1.out.1.size)
    have ho2 := (Only.refl (fun k => k = w.heap.size + 2) (w1.setCell ⟨w.heap.size + 1, 0, none⟩ (.int .i64 0))).setCell (g := w.heap.size + 2) (i := 0) (fun _ => rfl) (.int .i64 2)
    have hk3 := rowV_only hk2 ho2 (by omega)
    have he3 := rowV_set15 he2 (.int .i64 2)
    have hb3 := hb2.trans (ho2.below (fun k _ e => by omega) hb2.size)
    have HF := Lib.hid (And.intro hk3 (And.intro he3 hb3))
    clear ho1 hk2 he2 hb2 ho2 hk3 he3 hb3
    gi_wp2
    refine ⟨_, results_cells15 rfl _ _ (w.heap.size + 1) (w.heap.size + 2) 0 2 rfl rfl HF.out.1 HF.out.2.1, 0, 2, rfl, HF.out.2.2, ?_⟩
    rcases hno with hno | hno
    · exact .inl (by rw [if_neg (by rw [hno]; simp)])
    · exact .inr ⟨hno, rfl, rfl⟩
end Upw
end Go.Proofs.YtmkckbidfpinfaaDoor
