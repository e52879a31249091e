/-
  Layer 11: the edits that put a text (the program's).
-/
import Derived.Test.YtlhhecomjhfhjaaChkSeq
namespace Go.Proofs.Ytlhhecomjhfhjaa
open Go.RowKit Go.Shelf
attribute [local go_sem] Oper.semAt_some
theorem edit_parts : (Try.prog.info? 30).map (fun i => (i.zero, i.size, i.bytes)) = some (some (.agg #[.string ⟨#[]⟩, .string ⟨#[]⟩, .bool false, .string ⟨#[]⟩]), 4, 56) := by kernel_rfl
theorem edit_elem : ElemOk Try.prog 30 4 56 := elemOk_of edit_parts rfl (by decide) (by decide)
theorem edC11_one (x : Tr.Ed) : ∀ u ∈ edC11 x, u.oneCell' = true := by
  intro u hu
  simp [edC11] at hu
  rcases hu with rfl | rfl | rfl | rfl <;> rfl
theorem owL_one11 {α : Type} {f : α → List Value} {E k : Nat} {w : World} {g : Nat} {x : α} (h : RowV w g E (f x)) (hf : (f x).length = k) : OwL f E k w g (.slice (some ⟨g, 0, none⟩) 1 1) [x] := by
  have e : [x].flatMap f = f x := by simp
  refine ⟨by rw [e, hf]; simp, .inr ⟨g, 1, (f x).toArray, rfl, Nat.le_refl _, h, Nat.le_refl _, by decide, by rw [List.size_toArray, hf, Nat.one_mul], ?_⟩⟩
  rw [e, List.toList_toArray, List.length_singleton, Nat.one_mul, ← hf]
  exact List.take_length
/-- five boxes behind one another -/
theorem five_boxes11 (w : World) (l0 l1 l2 l3 l4 : List Value) (T0 T1 T2 T3 T4 : Nat) (W0 : World)
    (h : ((((w.alloc (.cells l0.toArray T0)).alloc (.cells l1.toArray T1)).alloc (.cells l2.toArray T2)).alloc (.cells l3.toArray T3)).alloc (.cells l4.toArray T4) = W0) :
    RowV W0 w.heap.size T0 l0 ∧ RowV W0 (w.heap.size + 1) T1 l1 ∧ RowV W0 (w.heap.size + 1 + 1) T2 l2 ∧ RowV W0 (w.heap.size + 1 + 1 + 1) T3 l3 ∧ RowV W0 (w.heap.size + 1 + 1 + 1 + 1) T4 l4 ∧
    Below w.heap.size w W0 ∧ W0.heap.size = w.heap.size + 1 + 1 + 1 + 1 + 1 := by
  have r0 := rowV_new w T0 l0
  have b0 : Below w.heap.size w (w.alloc (.cells l0.toArray T0)) := (Below.refl w.heap.size w).alloc (Nat.le_refl _) _
  have s0 : (w.alloc (.cells l0.toArray T0)).heap.size = w.heap.size + 1 := by simp
  generalize w.alloc (.cells l0.toArray T0) = w0 at *
  have r1 := rowV_new w0 T1 l1
  have s1 : (w0.alloc (.cells l1.toArray T1)).heap.size = w.heap.size + 1 + 1 := by rw [World.size_alloc, s0]
  have b1 : Below w.heap.size w (w0.alloc (.cells l1.toArray T1)) := b0.alloc (by omega) _
  have q1 := rowV_alloc r0 (.cells l1.toArray T1)
  rw [s0] at r1
  generalize w0.alloc (.cells l1.toArray T1) = w1 at *
  have r2 := rowV_new w1 T2 l2
  have s2 : (w1.alloc (.cells l2.toArray T2)).heap.size = w.heap.size + 1 + 1 + 1 := by rw [World.size_alloc, s1]
  have b2 : Below w.heap.size w (w1.alloc (.cells l2.toArray T2)) := b1.alloc (by omega) _
  have q2 := rowV_alloc q1 (.cells l2.toArray T2)
  have q3 := rowV_alloc r1 (.cells l2.toArray T2)
  rw [s1] at r2
  generalize w1.alloc (.cells l2.toArray T2) = w2 at *
  have r3 := rowV_new w2 T3 l3
  have s3 : (w2.alloc (.cells l3.toArray T3)).heap.size = w.heap.size + 1 + 1 + 1 + 1 := by rw [World.size_alloc, s2]
  have b3 : Below w.heap.size w (w2.alloc (.cells l3.toArray T3)) := b2.alloc (by omega) _
  have q4 := rowV_alloc q2 (.cells l3.toArray T3)
  have q5 := rowV_alloc q3 (.cells l3.toArray T3)
  have q6 := rowV_alloc r2 (.cells l3.toArray T3)
  rw [s2] at r3
  generalize w2.alloc (.cells l3.toArray T3) = w3 at *
  have r4 := rowV_new w3 T4 l4
  rw [s3] at r4
  rw [← h]
  exact ⟨rowV_alloc q4 _, rowV_alloc q5 _, rowV_alloc q6 _, rowV_alloc r3 _, r4, b3.alloc (by omega) _, by rw [World.size_alloc, s3]⟩
set_option maxRecDepth 100000 in
set_option maxHeartbeats 4000000 in
theorem edits11_any (p s : ByteArray) (hp : p.size ≤ 1000000000) (hs : s.size ≤ 100000000) (w : World) :
    Calls Try.prog 7 #[.string p, .string s] w fun e w' => ∃ v, e = .returned (.tuple #[v, .int .i64 (Ck.edits p s).2]) ∧ OwL edC11 30 4 w' w.heap.size v (Ck.edits p s).1 ∧ Below w.heap.size w w' := by
  have cC := fun w => clear11_any p hp w
  unfold Ck.edits
  cases hr : Ck.rightB p with
  | false =>
    have hcl : Ck.clear p = (⟨⟨#[]⟩, ⟨#[]⟩, false, ⟨#[]⟩⟩, 2) := by unfold Ck.clear; rw [hr]; rfl
    rw [hcl] at cC
    rw [if_neg (by decide)]
    have HC := Lib.hid cC
    clear cC hcl
    go_enter Try.func7, Try.ntmps7
    go_wp2_with (go_at_call 9; refine (HC.out _).mono ?_; rintro e w1 ⟨rfl, hb⟩; have H1 := Lib.hid hb; clear hb)
    refine bodyPost_ret (results_tmp2 rfl _ _ _) rfl ?_
    exact ⟨_, rfl, owL_nil _, H1.out.alloc H1.out.size _⟩
  | true =>
    have hcl : (Ck.clear p).2 = 0 := by unfold Ck.clear; rw [hr]; rfl
    rw [hcl] at cC
    rw [if_pos rfl]
    generalize hKK : (Ck.clear p).1 = K at *
    obtain ⟨k1, k2, k3, k4⟩ := K
    by_cases hbig : 1400 < s.size
    · rw [if_pos hbig]
      have d1 : decide (1400 < (s.size : Int)) = true := decide_eq_true (by omega)
      have HC := Lib.hid cC
      clear cC hcl hKK
      go_enter Try.func7, Try.ntmps7
      go_wp2_with (go_at_call 9; refine (HC.out _).mono ?_; rintro e w1 ⟨rfl, hb⟩; have H1 := Lib.hid hb; clear hb)
      refine bodyPost_ret (results_tmp2 rfl _ _ _) rfl ?_
      exact ⟨_, rfl, owL_nil _, H1.out.alloc H1.out.size _⟩
    · rw [if_neg hbig]
      have d1 : decide (1400 < (s.size : Int)) = false := decide_eq_false (by omega)
      have HC := Lib.hid (And.intro cC (fun w => chunks11_any p s w))
      clear cC hcl hKK
      refine (callsIn_wide (n := 6)).1 ?_
      refine callsIn_of_wp_marks Try.func7 rfl trivial ?_ rfl
      simp only [Try.ntmps7, List.size_toArray, List.length_cons, List.length_nil, Nat.reduceAdd, Nat.reduceSub, Array.replicate_succ, Array.replicate_zero, List.push_toArray, List.append_toArray, List.nil_append, List.cons_append]
      gi_wp2_with (first
        | (refine ⟨trivial, ?_⟩; gi_at_call 9; refine (callsIn_wide.2 (HC.out.1 _)).mono ?_; rintro e w1 ⟨rfl, hb⟩; have H1 := Lib.hid hb; clear hb)
        | (refine ⟨trivial, ?_⟩; gi_at_call 17; refine (callsIn_wide.2 (HC.out.2 _)).mono ?_; rintro e w2 ⟨rfl, rfl⟩))
      obtain ⟨W0, hW0⟩ : ∃ W0, ((((w1.alloc (.cells #[.string k1, .string k2, .bool k3, .string k4] 30)).alloc (.cells #[.string k1, .string k2, .bool k3, .string k4] 30)).alloc (.cells #[.slice (some ⟨w1.heap.size + 1, 0, none⟩) 1 1] 23)).alloc (.cells #[.string p] 9)).alloc (.cells #[.string s] 9) = W0 := ⟨_, rfl⟩
      obtain ⟨r0, r1, r2, r3, r4, b0, s0⟩ := five_boxes11 w1 [.string k1, .string k2, .bool k3, .string k4] [.string k1, .string k2, .bool k3, .string k4] [.slice (some ⟨w1.heap.size + 1, 0, none⟩) 1 1] [.string p] [.string s] 30 30 23 9 9 W0 hW0
      rw [hW0]
      clear hW0
      have hMw := H1.out.size
      generalize hM : w1.heap.size = M at *
      have o1 := owL_base11 (owL_one11 (f := edC11) (x := ⟨k1, k2, k3, k4⟩) r1 rfl) (show M ≤ M + 1 by omega)
      clear r0 r1
      refine wpIn_rangeFunc_ownH rfl (by omega) (gf := 25) (lb := #[.pointer (some ⟨M + 1 + 1 + 1 + 1, 0, none⟩), .pointer (some ⟨M + 1 + 1 + 1, 0, none⟩)]) rfl trivial (enters_of Try.func25 (by kernel_rfl) rfl)
        (stops11 (6 - 1) (by omega) (M + 1 + 1 + 1 + 1) (M + 1 + 1 + 1) p s hp (by omega) W0 r4 r3) keeps2_t (keeps2_b (by omega) (by omega)) (Below.refl _ _) (fun _ => rfl)
        (fun pre W => ∃ v, RowV W (M + 1 + 1) 23 [v] ∧ OwL edC11 30 4 W M v ((⟨k1, k2, k3, k4⟩ : Tr.Ed) :: pre.map Ck.ed) ∧ (RowV W (M + 1 + 1 + 1) 9 [.string p] ∧ RowV W (M + 1 + 1 + 1 + 1) 9 [.string s]) ∧ Below M w1 W)
        (fun _ _ _ => False)
        (fun pre X Y row hs hg hr => by
          obtain ⟨v, h1, h2, ⟨h4, h5⟩, h3⟩ := hs
          exact ⟨v, rowV_own11 h1 hg (fun r e => (hr r e).2), owL_own11 h2 hg (fun r e => (hr r e).2), ⟨rowV_own11 h4 hg (fun r e => (hr r e).2), rowV_own11 h5 hg (fun r e => (hr r e).2)⟩, h3.grown hg (by have := h3.size; omega) (fun r e => by have := (hr r e).1; omega)⟩)
        (fun _ _ _ _ _ hs _ _ => hs)
        ⟨_, r2, o1, ⟨r3, r4⟩, b0⟩
        (fun x a' W => ∃ Bx, M + 1 + 1 + 1 + 1 < Bx ∧ RowV W Bx 46 (pC x) ∧ a' = { tmps := #[.string p, .string s, undef, undef, .slice none 0 0, .int .i64 0, .pointer (some ⟨M, 0, none⟩), .int .i64 0, .pointer (some ⟨M + 1 + 1, 0, none⟩), .pointer (some ⟨Bx, 0, none⟩), .tuple #[edV11 ⟨k1, k2, k3, k4⟩, .int .i64 0], .string p, .tuple #[edV11 ⟨k1, k2, k3, k4⟩, .int .i64 0], edV11 ⟨k1, k2, k3, k4⟩, .int .i64 0, .bool false, .int .i64 0, .bool false, undef, .bool false, .string s, .int .i64 (s.size : Int), .bool false, .agg #[.string k1, .string k2, .bool k3, .string k4], .slice (some ⟨M + 1, 0, none⟩) 1 1, .string p, .string s, .func (.func 25) #[] #[.pointer (some ⟨M + 1 + 1 + 1 + 1, 0, none⟩), .pointer (some ⟨M + 1 + 1 + 1, 0, none⟩)], prV11 x, undef, undef, undef, undef, undef, undef, undef, undef, undef], defers := [] })
        (fun x a' _ X Y row hs hg hr => by obtain ⟨Bx, h1, h2, h3⟩ := hs; exact ⟨Bx, h1, rowV_own11 h2 hg (fun r e => (hr r e).2), h3⟩)
        ?assign ?body ?done ?stop
      case assign =>
        rintro l pre ⟨x1, x2⟩ W K ⟨v, rN, oV, rPS, hB1⟩ hK
        have hs1 : M ≤ W.heap.size := by have := hB1.size; omega
        have hlN := rowV_lt rPS.2
        have hK2 := Lib.hid hK
        clear hK
        gi_wp2
        exact hK2.out _ _ ((KeepsOthers.alloc _ _).from _) ⟨Below.heap_alloc _ _ _ (by omega), Below.heap_alloc _ _ _ (by omega)⟩ ⟨v, rowV_alloc rN _, owL_below oV ((Below.refl _ W).alloc (Nat.le_refl _) _), ⟨rowV_alloc rPS.1 _, rowV_alloc rPS.2 _⟩, hB1.alloc hs1 _⟩ ⟨W.heap.size, hlN, rowV_new W _ [_, _], rfl⟩
      case body =>
        rintro l pre ⟨x1, x2⟩ a' W hl _ ⟨v, rN, oV, rPS, hB1⟩ ⟨Bx, hBx, bX, rfl⟩ hlen
        have hcs := Ck.cnt_size s.size
        have hlN := rowV_lt rPS.2
        have cN := rowV_cell rN 0
        have c0 := rowV_cell bX 0
        have c1 := rowV_cell bX 1
        simp only [pC, List.getElem?_cons_zero, List.getElem?_cons_succ] at cN c0 c1
        have hsm : M ≤ W.heap.size := by have := hB1.size; omega
        have H := Lib.hid (And.intro rN (And.intro oV (And.intro hB1 rPS)))
        clear rN oV hB1 bX rPS
        obtain ⟨rBox, bBox⟩ : RowV (W.alloc (.cells #[.string x1, .string x2, .bool false, .string ⟨#[]⟩] 30)) W.heap.size 30 (edC11 (Ck.ed (x1, x2))) ∧ Below W.heap.size W (W.alloc (.cells #[.string x1, .string x2, .bool false, .string ⟨#[]⟩] 30)) := ⟨rowV_new W _ [_, _, _, _], (Below.refl _ W).alloc (Nat.le_refl _) _⟩
        have HB := Lib.hid (And.intro rBox bBox)
        clear rBox bBox
        have hne : ∀ j T cs, W.heap[j]? = some (.cells cs T (0, 0)) → T ≠ 30 → v.ownBlock ≠ some j := by
          intro j T cs hj hT e
          rcases H.out.2.1.2 with ⟨rfl, _⟩ | ⟨g, cap, cur, rfl, _, hgb, _⟩
          · cases e
          · injection e with e
            have e : g = j := e
            subst e
            rw [hgb] at hj; cases hj; exact hT rfl
        have hn2 := hne _ _ _ H.out.1 (by decide)
        have hn3 := hne _ _ _ H.out.2.2.2.1 (by decide)
        have hn4 := hne _ _ _ H.out.2.2.2.2 (by decide)
        have HN := Lib.hid hne
        clear hne
        gi_wp2_with (gi_at_builtin; refine wpListIn_append_one (f := edC11) (B := M) edit_elem rfl _ _ 23 rfl Try.underlying23 v _ (Ck.ed (x1, x2)) rfl (owL_below H.out.2.1 HB.out.2) W.heap.size 1 rfl HB.out.1 rfl (edC11_one _) (by rw [List.length_cons, List.length_map]; omega) (by have := HB.out.2.size; omega) ?_; intro v' w3 ho3 hg3; obtain ⟨a3, c3, he3, -⟩ := owL_form ho3; rw [List.length_append, List.length_singleton] at he3; generalize hLL : (List.length _ + 1) = LL at he3; subst he3; have h3N := rowV_only (rowV_below H.out.1 HB.out.2 (rowV_lt H.out.1)) hg3 hn2; have cN3 := rowV_cell h3N 0; have fN3 := rowV_frozen h3N 0; simp only [List.getElem?_cons_zero] at cN3; have H3 := Lib.hid (And.intro ho3 (And.intro hg3 h3N)); clear ho3 hg3 h3N)
        have hO : Only (fun k => k = M + 1 + 1 ∨ v.ownBlock = some k) W (w3.setCell ⟨M + 1 + 1, 0, none⟩ (.slice a3 LL c3)) :=
          (((Only.of_none (F := fun k => k = M + 1 + 1 ∨ v.ownBlock = some k) HB.out.2).trans H3.out.2.1 (fun _ _ h => .inr h)).setCell (fun _ => .inl rfl) _)
        have hO3 : Only (fun k => k = M + 1 + 1) w3 (w3.setCell ⟨M + 1 + 1, 0, none⟩ (.slice a3 LL c3)) := (Only.refl (fun k => k = M + 1 + 1) w3).setCell (fun _ => rfl) _
        have hnc : ∀ k o, W.heap[k]? = some o → o.isCells = false → ¬ (k = M + 1 + 1 ∨ v.ownBlock = some k) := by
          rintro k o hk hc (rfl | e)
          · rw [show W.heap[_]? = _ from H.out.1] at hk; cases hk; cases hc
          · rcases H.out.2.1.2 with ⟨rfl, _⟩ | ⟨g, cap, cur, rfl, _, hgb, _⟩
            · cases e
            · injection e with e
              have e : g = k := e
              subst e
              rw [hgb] at hk; cases hk; cases hc
        have hown := fun j e => (owL_lt H.out.2.1 j e)
        have hf3 : ¬ (M + 1 + 1 + 1 = M + 1 + 1 ∨ v.ownBlock = some (M + 1 + 1 + 1)) := fun h => h.elim (fun h => by omega) hn3
        have hf4 : ¬ (M + 1 + 1 + 1 + 1 = M + 1 + 1 ∨ v.ownBlock = some (M + 1 + 1 + 1 + 1)) := fun h => h.elim (fun h => by omega) hn4
        refine ⟨⟨hO.size, fun k o _ hk hc => (hO.block k (Array.getElem?_eq_some_iff.1 hk).1 (hnc k o hk hc)).trans hk⟩, ⟨hO.block _ (by omega) hf4, hO.block _ (by omega) hf3⟩, .slice a3 LL c3, ?_, ?_, ⟨rowV_only H.out.2.2.2.1 hO hf3, rowV_only H.out.2.2.2.2 hO hf4⟩, ?_⟩
        · exact rowV_stored H3.out.2.2 0 _
        · rw [List.map_append]
          refine owL_only H3.out.1 hO3 (fun j e e2 => ?_)
          rcases H3.out.1.2 with ⟨h, _⟩ | ⟨g, cap, cur, h, _, hgb, _⟩
          · rw [h] at e; cases e
          · rw [h] at e
            injection e with e
            have e : g = j := e
            rw [e, e2, show w3.heap[_]? = _ from H3.out.2.2] at hgb
            injection hgb with hgb
            injection hgb with _ hT _
            exact absurd hT (by decide)
        · exact H.out.2.2.1.trans (hO.below (fun k _ hF => by rcases hF with rfl | e; omega; have := (hown _ e).1; omega) (by omega))
      case done =>
        rintro D zs W hD rfl ⟨v, rN, oV, rPS, hB1⟩ hK
        have cN := rowV_cell rN 0
        simp only [List.getElem?_cons_zero] at cN
        have H := Lib.hid (And.intro rN (And.intro oV hB1))
        clear rN oV hB1
        gi_wp2
        have hg := grownBy_putObj' W D (.deferred none)
        have hr : ∀ r, some D = some r → ∃ o : Obj, W.heap[r]? = some o ∧ o.isCells = false := fun r e => by cases e; exact ⟨_, hK, rfl⟩
        refine ⟨by simp, .inl ⟨_, _, rfl, run_takeDeferred hK, ?_⟩⟩
        refine ⟨_, results_tmp2 (fn := Try.f7) (t := 4) (u := 5) rfl _ _ _, v, rfl, ?_, ?_⟩
        · exact owL_base11 (owL_own11 H.out.2.1 hg hr) (by omega)
        · exact (H1.out.trans (H.out.2.2.mono hMw)).grown hg (by have := H.out.2.2.size; omega) (fun k e => by cases e; omega)
      case stop =>
        rintro D c pre W _ _ h _
        exact h.elim
end Go.Proofs.Ytlhhecomjhfhjaa
