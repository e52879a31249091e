/-
  Layer 11: what hands out a text's chunks, gathered: slices.AppendSeq, slices.Collect.
-/
import Derived.Laws.EntriesVeiled
import Derived.Test.YtlhhecomjhfhjaaChkIter
import Derived.Test.YtlhhecomjhfhjaaAppOne
namespace Go.Proofs.Ytlhhecomjhfhjaa
open Go.RowKit Go.Shelf
attribute [local go_sem] Oper.semAt_some
section
variable {α : Type} {f : α → List Value} {E k bytes : Nat} {P : Program} {w : World} {B : Nat}
theorem owL_own11 {X Y : World} {v : Value} {l : List α} {row : Option Nat} (h : OwL f E k X B v l) (hg : X.grownBy Y row) (hr : ∀ r, row = some r → ∃ o : Obj, X.heap[r]? = some o ∧ o.isCells = false) : OwL f E k Y B v l := by
  refine World.ownsRow.kept h hg ?_
  rcases h.2 with ⟨rfl, _⟩ | ⟨g, cap, cur, rfl, _, hgb, _⟩
  · exact .inl rfl
  · refine .inr fun e' => ?_
    obtain ⟨o, ho, hw⟩ := hr g e'.symm
    rw [hgb] at ho; cases ho; cases hw
theorem rowV_own11 {X Y : World} {g T : Nat} {l : List Value} {row : Option Nat} (h : RowV X g T l) (hg : X.grownBy Y row) (hr : ∀ r, row = some r → ∃ o : Obj, X.heap[r]? = some o ∧ o.isCells = false) : RowV Y g T l := by
  refine (hg.block g (rowV_lt h) fun e => ?_).trans h
  obtain ⟨o, ho, hc⟩ := hr g e.symm
  rw [show X.heap[g]? = _ from h] at ho; cases ho; cases hc
theorem owL_base11 {B' : Nat} {v : Value} {l : List α} (h : OwL f E k w B v l) (hB : B' ≤ B) : OwL f E k w B' v l := by
  obtain ⟨h1, h2⟩ := h
  refine ⟨h1, ?_⟩
  rcases h2 with h2 | ⟨g, cap, cur, e, hb, rest⟩
  · exact .inl h2
  · exact .inr ⟨g, cap, cur, e, by omega, rest⟩
/-- one element more, as an operation of a walk in a fence: its box at block N -/
theorem wpListIn_append_one {F : Fence} {n : Nat} (he : ElemOk P E k bytes) {ops : Array Oper} {rest : List Oper} {o : Oper} {a : Act} {Q : Exit → Act → World → Prop} (hgd : o.guard = none) (s x : Operand) (t : TypeId)
    (ho : o.op = .call { callee := .builtin .append, args := #[s, x], argTypes := #[t, t] }) (ht : P.underlying t = some (.slice E)) (v : Value) (l : List α) (y : α) (hs : a.eval s = v) (hown : OwL f E k w B v l) (N c : Nat) (hx : a.eval x = .slice (some ⟨N, 0, none⟩) 1 c)
    (hN : RowV w N E (f y)) (hfl : (f y).length = k) (h1 : ∀ u ∈ f y, u.oneCell' = true) (hl : l.length ≤ 1000000) (hB : B ≤ w.heap.size)
    (h : ∀ v' w', OwL f E k w' B v' (l ++ [y]) → Only (fun j => v.ownBlock = some j) w w' → wpListIn F n P ops Q rest (a.put o.dst v') w') :
    wpListIn F n P ops Q (o :: rest) a w := by
  obtain ⟨i, z, hi, hz, hsz, hby, hzs, hk, hb⟩ := he
  refine wpListIn_append_own w hgd s x t ho B E i z k bytes ht hi hz hsz hby hzs hk v l.length (l.flatMap f) hs hown ⟨N, 0, none⟩ 1 c (f y) hx (by rw [hfl, Nat.one_mul]) (fun j u hj => by rw [Addr.add_mid, Nat.zero_add, rowV_cell hN]; exact hj) h1 (by unfold maxLen; omega) ?_ hB ?_
  · have := Nat.mul_le_mul (show l.length + 1 ≤ 1000001 by omega) hb
    omega
  · intro v' w' h2 h3 _
    refine h v' w' ?_ ((Only.refl _ w).grown h3 fun j _ e => e)
    unfold OwL
    rw [List.flatMap_append, List.length_append]
    simpa using h2
end
theorem pair_elem : ElemOk Try.prog 46 2 32 := elemOk_of pair_parts rfl (by decide) (by decide)
theorem stops11 (n : Nat) (hn : 1 ≤ n) (a b : Nat) (p s : ByteArray) (hp : p.size ≤ 1000000000) (hs : s.size ≤ 900000) (w : World) (ha : RowV w a 9 [.string s]) (hb : RowV w b 9 [.string p]) :
    SeqStopsK Fence.wide n Try.prog 25 #[.pointer (some ⟨a, 0, none⟩), .pointer (some ⟨b, 0, none⟩)] prC11 (Keeps2 a b) (fun ys => ys = Ck.chunks p s) (fun _ => True) (Ck.cnt s.size) w := fun l J Jx W hW hJ _ hY h0 =>
  iter11_in n hn l a b p s hp hs J Jx hY W hJ (rowV_below ha hW (rowV_lt ha)) (rowV_below hb hW (rowV_lt hb)) h0
set_option maxRecDepth 100000 in
set_option maxHeartbeats 4000000 in
theorem appendSeq11_any (a b : Nat) (p s : ByteArray) (hp : p.size ≤ 1000000000) (hs : s.size ≤ 900000) (w : World) (ha : RowV w a 9 [.string s]) (hb : RowV w b 9 [.string p]) :
    Calls Try.prog 30 #[.slice none 0 0, .func (.func 25) #[] #[.pointer (some ⟨a, 0, none⟩), .pointer (some ⟨b, 0, none⟩)]] w fun e w' =>
      ∃ v, e = .returned v ∧ OwL pC 46 2 w' w.heap.size v (Ck.chunks p s) ∧ Below w.heap.size w w' := by
  have hla := rowV_lt ha
  have hlb := rowV_lt hb
  have r0 := rowV_new w 38 [.slice none 0 0]
  have b0 : Below w.heap.size w (w.alloc (.cells [Value.slice none 0 0].toArray 38)) := (Below.refl w.heap.size w).alloc (Nat.le_refl _) _
  have s0 : (w.alloc (.cells [Value.slice none 0 0].toArray 38)).heap.size = w.heap.size + 1 := World.size_alloc _ _
  have ha0 := rowV_below ha b0 hla
  have hb0 := rowV_below hb b0 hlb
  refine (callsIn_wide (n := 6)).1 ?_
  refine callsIn_of_wp_marks Try.func30 rfl trivial ?_ rfl
  simp only [Try.ntmps30, List.size_toArray, List.length_cons, List.length_nil, Nat.reduceAdd, Nat.reduceSub, Array.replicate_succ, Array.replicate_zero, List.push_toArray, List.append_toArray, List.nil_append, List.cons_append]
  gi_wp2
  obtain ⟨W0, hW0⟩ : ∃ W0, w.alloc (.cells #[.slice none 0 0] 38) = W0 := ⟨_, rfl⟩
  have hW1 : w.alloc (.cells [Value.slice none 0 0].toArray 38) = W0 := hW0
  rw [hW1] at r0 b0 s0 ha0 hb0
  rw [hW0]
  clear hW0 hW1
  generalize hN : w.heap.size = N at *
  refine wpIn_rangeFunc_ownH rfl (by omega) (gf := 25) (lb := #[.pointer (some ⟨a, 0, none⟩), .pointer (some ⟨b, 0, none⟩)]) rfl trivial (enters_of Try.func25 (by kernel_rfl) rfl)
    (stops11 (6 - 1) (by omega) a b p s hp hs W0 ha0 hb0) keeps2_t (keeps2_b (by omega) (by omega)) (Below.refl _ _) (fun _ => rfl)
    (fun pre W => ∃ v, RowV W N 38 [v] ∧ OwL pC 46 2 W (N + 1) v pre ∧ Below N w W)
    (fun _ _ _ => False)
    (fun pre X Y row hs hg hr => by
      obtain ⟨v, h1, h2, h3⟩ := hs
      exact ⟨v, rowV_own11 h1 hg (fun r e => (hr r e).2), owL_own11 h2 hg (fun r e => (hr r e).2), h3.grown hg (by have := h3.size; omega) (fun r e => by have := (hr r e).1; omega)⟩)
    (fun _ _ _ _ _ hs _ _ => hs)
    ⟨_, r0, owL_nil _, b0⟩
    (fun x a' W => ∃ Bx, N < Bx ∧ RowV W Bx 46 (pC x) ∧ a' = { tmps := #[.slice none 0 0, .func (.func 25) #[] #[.pointer (some ⟨a, 0, none⟩), .pointer (some ⟨b, 0, none⟩)], .pointer (some ⟨N, 0, none⟩), undef, .slice none 0 0, .pointer (some ⟨Bx, 0, none⟩), .func (.func 25) #[] #[.pointer (some ⟨a, 0, none⟩), .pointer (some ⟨b, 0, none⟩)], prV11 x, undef, undef, undef, undef, undef], defers := [] })
    (fun x a' _ X Y row hs hg hr => by obtain ⟨Bx, h1, h2, h3⟩ := hs; exact ⟨Bx, h1, rowV_own11 h2 hg (fun r e => (hr r e).2), h3⟩)
    ?assign ?body ?done ?stop
  case assign =>
    rintro l pre ⟨x1, x2⟩ W K ⟨v, rN, oV, hB1⟩ hK
    have hs1 : N ≤ W.heap.size := by have := hB1.size; omega
    have hlN := rowV_lt rN
    have hK2 := Lib.hid hK
    clear hK
    gi_wp2
    exact hK2.out _ _ ((KeepsOthers.alloc _ _).from _) ⟨Below.heap_alloc _ _ a (by omega), Below.heap_alloc _ _ b (by omega)⟩ ⟨v, rowV_alloc rN _, owL_below oV ((Below.refl _ W).alloc (Nat.le_refl _) _), hB1.alloc hs1 _⟩ ⟨W.heap.size, hlN, rowV_new W _ [_, _], rfl⟩
  case body =>
    rintro l pre ⟨x1, x2⟩ a' W hl _ ⟨v, rN, oV, hB1⟩ ⟨Bx, hBx, bX, rfl⟩ hlen
    have hcs := Ck.cnt_size s.size
    have hlN := rowV_lt rN
    have cN := rowV_cell rN 0
    have c0 := rowV_cell bX 0
    have c1 := rowV_cell bX 1
    simp only [pC, List.getElem?_cons_zero, List.getElem?_cons_succ] at cN c0 c1
    have H := Lib.hid (And.intro rN (And.intro oV hB1))
    clear rN oV hB1 bX
    obtain ⟨rBox, bBox⟩ : RowV (W.alloc (.cells #[.string x1, .string x2] 46)) W.heap.size 46 (pC (x1, x2)) ∧ Below W.heap.size W (W.alloc (.cells #[.string x1, .string x2] 46)) := ⟨rowV_new W _ [_, _], (Below.refl _ W).alloc (Nat.le_refl _) _⟩
    have HB := Lib.hid (And.intro rBox bBox)
    clear rBox bBox
    gi_wp2_with (gi_at_builtin; refine wpListIn_append_one (f := pC) (B := N + 1) pair_elem rfl _ _ 38 rfl Try.underlying38 v pre (x1, x2) rfl (owL_below H.out.2.1 HB.out.2) W.heap.size 1 rfl HB.out.1 rfl (fun u hu => by simp [pC] at hu; rcases hu with rfl | rfl <;> rfl) (by omega) (by have := HB.out.2.size; omega) ?_; intro v' w3 ho3 hg3; obtain ⟨a3, c3, he3, -⟩ := owL_form ho3; rw [List.length_append, List.length_singleton] at he3; subst he3; have h3N := rowV_only (rowV_below H.out.1 HB.out.2 hlN) hg3 (fun e => by have := (owL_lt H.out.2.1 _ e).1; omega); have cN3 := rowV_cell h3N 0; have fN3 := rowV_frozen h3N 0; simp only [List.getElem?_cons_zero] at cN3; have H3 := Lib.hid (And.intro ho3 (And.intro hg3 h3N)); clear ho3 hg3 h3N)
    have hO : Only (fun k => k = N ∨ v.ownBlock = some k) W (w3.setCell ⟨N, 0, none⟩ (.slice a3 (pre.length + 1) c3)) :=
      (((Only.of_none (F := fun k => k = N ∨ v.ownBlock = some k) HB.out.2).trans H3.out.2.1 (fun _ _ h => .inr h)).setCell (fun _ => .inl rfl) _)
    have hO3 : Only (fun k => k = N) w3 (w3.setCell ⟨N, 0, none⟩ (.slice a3 (pre.length + 1) c3)) := (Only.refl (fun k => k = N) w3).setCell (fun _ => rfl) _
    have hnc : ∀ k o, W.heap[k]? = some o → o.isCells = false → ¬ (k = N ∨ v.ownBlock = some k) := by
      rintro k o hk hc (rfl | e)
      · rw [show W.heap[k]? = _ from H.out.1] at hk; cases hk; cases hc
      · rcases H.out.2.1.2 with ⟨rfl, _⟩ | ⟨g, cap, cur, rfl, _, hgb, _⟩
        · cases e
        · injection e with e
          have e : g = k := e
          subst e
          rw [hgb] at hk; cases hk; cases hc
    have hown := fun j e => (owL_lt H.out.2.1 j e)
    refine ⟨⟨hO.size, fun k o _ hk hc => (hO.block k (Array.getElem?_eq_some_iff.1 hk).1 (hnc k o hk hc)).trans hk⟩, ⟨hO.block a (by omega) ?_, hO.block b (by omega) ?_⟩, .slice a3 (pre.length + 1) c3, ?_, ?_, ?_⟩
    · rintro (e | e)
      · omega
      · have := hown _ e; omega
    · rintro (e | e)
      · omega
      · have := hown _ e; omega
    · exact rowV_stored H3.out.2.2 0 _
    · refine owL_only H3.out.1 hO3 (fun j e e2 => ?_)
      have := (owL_lt H3.out.1 j e).1
      omega
    · exact H.out.2.2.trans (hO.below (fun k _ hF => by rcases hF with rfl | e; exact Nat.le_refl _; have := (hown _ e).1; omega) (by omega))
  case done =>
    rintro D zs W hD rfl ⟨v, rN, oV, hB1⟩ hK
    have cN := rowV_cell rN 0
    simp only [List.getElem?_cons_zero] at cN
    have H := Lib.hid (And.intro rN (And.intro oV hB1))
    clear rN oV hB1
    gi_wp2
    have hg := grownBy_putObj' W D (.deferred none)
    have hr : ∀ r, some D = some r → ∃ o : Obj, W.heap[r]? = some o ∧ o.isCells = false := fun r e => by cases e; exact ⟨_, hK, rfl⟩
    refine ⟨by simp, .inl ⟨_, _, rfl, run_takeDeferred hK, ?_⟩⟩
    refine ⟨_, results_tmp (fn := Try.f30) (t := 4) rfl _ _ _, v, rfl, ?_, ?_⟩
    · rw [hN]; exact owL_base11 (owL_own11 H.out.2.1 hg hr) (by omega)
    · rw [hN]; exact H.out.2.2.grown hg (by have := H.out.2.2.size; omega) (fun k e => by cases e; omega)
  case stop =>
    rintro D c pre W _ _ h _
    exact h.elim
set_option maxRecDepth 100000 in
theorem collect11_any (a b : Nat) (p s : ByteArray) (hp : p.size ≤ 1000000000) (hs : s.size ≤ 900000) (w : World) (ha : RowV w a 9 [.string s]) (hb : RowV w b 9 [.string p]) :
    Calls Try.prog 24 #[.func (.func 25) #[] #[.pointer (some ⟨a, 0, none⟩), .pointer (some ⟨b, 0, none⟩)]] w fun e w' =>
      ∃ v, e = .returned v ∧ OwL pC 46 2 w' w.heap.size v (Ck.chunks p s) ∧ Below w.heap.size w w' := by
  have H := Lib.hid (appendSeq11_any a b p s hp hs w ha hb)
  clear ha hb
  go_enter Try.func24, Try.ntmps24
  go_wp2_with (go_at_call 30; refine H.out.mono ?_; rintro e w1 ⟨v, rfl, ho, hb⟩; have H1 := Lib.hid (And.intro ho hb); clear ho hb)
  go_ret
  exact ⟨v, rfl, H1.out⟩
end Go.Proofs.Ytlhhecomjhfhjaa
