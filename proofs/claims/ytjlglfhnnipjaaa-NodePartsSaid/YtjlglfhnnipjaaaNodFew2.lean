/-
  Layer 9: the document's count of parts: the steps of its copy that turn memory: two appends, a store.
-/
import Derived.Test.YtjlglfhnnipjaaaNodFew
namespace Go.Proofs.Ytjlglfhnnipjaaa
open Go.RowKit
theorem nod_one (b : Bool) (a : Option Addr) (n c : Nat) : (#[.bool b, .slice a n c] : Array Value).all (·.oneCell') = true := by
  rw [Array.all_eq_true_iff_forall_mem]
  intro x hx
  simp at hx
  rcases hx with rfl | rfl <;> rfl
section
variable {F : Few} {w0 w : World} {st : Nat → Option Value}
theorem few_5 (h : FewG F w0 st w) (hB : F.B = w0.heap.size) (hr : ReadsP w0 F.va F.now) (hl : F.now.length ≤ 1000) (hn : st 5 = none) {v2 v4 : Value} (h2 : st 2 = some v2) (h4 : st 4 = some v4) (ty : TypeId) :
    ∃ v w', (Builtin.append_ #[22, 22] ty #[v2, v4]).run Try.prog w = .ok v w' ∧ FewG F w0 (came st 5 v) w' := by
  obtain ⟨i0, hi, hz0, hz1, hz2⟩ := info_parts pair_parts
  obtain ⟨g, rfl, hg, hgB⟩ := h.2 2 v2 h2 hn
  have e4 : v4 = .slice F.va F.now.length F.vc := h.2 4 v4 h4
  subst e4
  have hBw : F.B ≤ w.heap.size := by rw [hB]; exact (hB ▸ h.1).size
  have hrw : ReadsP w F.va F.now := readsP_below hr (hB ▸ h.1)
  obtain ⟨v, w', hrun, hown, hgr, _⟩ := run_append_pairs (P := Try.prog) 22 ty i0 _ Try.underlying22 hi hz0 hz1 hz2 rfl (own_empty hg hgB) rfl F.va F.vc hrw (by simp; omega) hBw
  refine ⟨v, w', hrun, ?_⟩
  have hob : (Value.slice (some ⟨g, 0, none⟩) 0 0).ownBlock = some g := rfl
  rw [hob] at hgr
  rw [Nat.zero_add, List.nil_append] at hown
  refine ⟨h.1.grown hgr hBw (fun k e => by cases e; exact hgB), fun j u hj => ?_⟩
  by_cases e : j = 5
  · subst e
    rw [came_at] at hj
    cases hj
    exact fun _ => hown
  · rw [came_far e] at hj
    have hV := h.2 j u hj
    have h12 : st 12 = none := by
      cases hs : st 12 with
      | none => rfl
      | some y =>
        have := (h.2 12 y hs).1
        rw [hn] at this; cases this
    match j, hj, hV, e with
    | 0, _, hV, _ => exact hV
    | 1, _, hV, _ => exact hV
    | 2, _, _, _ => intro x; rw [came_at] at x; cases x
    | 3, _, hV, _ => exact hV
    | 4, _, hV, _ => exact hV
    | 5, _, _, e => exact absurd rfl e
    | 6, _, hV, _ => exact hV
    | 7, _, hV, _ => exact hV
    | 8, _, hV, _ => exact hV
    | 9, _, hV, _ => exact hV
    | 10, _, hV, _ => exact hV
    | 11, _, hV, _ =>
      intro x
      obtain ⟨b, e1, hb, hbB⟩ := hV (came_none x)
      have hne := rowV_apart hg hb (.inr (by simp))
      exact ⟨b, e1, rowV_grown hb hgr (fun x => hne (Option.some.inj x)), hbB⟩
    | 12, hj, _, _ => rw [h12] at hj; cases hj
    | 13, _, ⟨y, hy, _⟩, _ => rw [h12] at hy; cases hy
    | 14, _, ⟨b, e1, hbB, hb⟩, _ =>
      refine ⟨b, e1, hbB, fun x => ?_⟩
      have hb2 := hb (came_none x)
      have hne := rowV_apart hg hb2 (.inl (by decide))
      exact rowV_grown hb2 hgr (fun x => hne (Option.some.inj x))
    | 15, _, ⟨y, b, hy, _, _⟩, _ => rw [h12] at hy; cases hy
    | k + 16, _, _, _ => trivial
theorem few_12 (h : FewG F w0 st w) (hB : F.B = w0.heap.size) (hl : F.now.length ≤ 1000) (hn : st 12 = none) {v5 v11 : Value} (h5 : st 5 = some v5) (h11 : st 11 = some v11) (ty : TypeId) :
    ∃ v w', (Builtin.append_ #[22, 22] ty #[v5, v11]).run Try.prog w = .ok v w' ∧ FewG F w0 (came st 12 v) w' := by
  obtain ⟨i0, hi, hz0, hz1, hz2⟩ := info_parts pair_parts
  have hown := h.2 5 v5 h5 hn
  obtain ⟨b, rfl, hb, hbB⟩ := h.2 11 v11 h11 hn
  have hBw : F.B ≤ w.heap.size := by rw [hB]; exact (hB ▸ h.1).size
  have hrw : ReadsP w (some ⟨b, 0, none⟩) [F.x] := by
    intro i hi
    have hi : i < 1 := hi
    obtain rfl : i = 0 := by omega
    exact ⟨b, 0, rfl, rowV_cell hb 0, rowV_cell hb 1⟩
  obtain ⟨v, w', hrun, hown2, hgr, _⟩ := run_append_pairs (P := Try.prog) 22 ty i0 _ Try.underlying22 hi hz0 hz1 hz2 rfl hown rfl (some ⟨b, 0, none⟩) 1 hrw (by simp; omega) hBw
  refine ⟨v, w', hrun, ?_⟩
  refine ⟨h.1.grown hgr hBw (fun k e => (World.ownsRow.lt hown k e).1), fun j u hj => ?_⟩
  have h5s : (came st 12 v 5).isSome = true := by rw [came_far (by decide), h5]; rfl
  by_cases e : j = 12
  · subst e
    rw [came_at] at hj
    cases hj
    exact ⟨h5s, hown2⟩
  · rw [came_far e] at hj
    have hV := h.2 j u hj
    match j, hj, hV, e with
    | 0, _, hV, _ => exact hV
    | 1, _, hV, _ => exact hV
    | 2, _, _, _ => intro x; rw [x] at h5s; cases h5s
    | 3, _, hV, _ => exact hV
    | 4, _, hV, _ => exact hV
    | 5, _, _, _ => intro x; rw [came_at] at x; cases x
    | 6, _, hV, _ => exact hV
    | 7, _, hV, _ => exact hV
    | 8, _, hV, _ => exact hV
    | 9, _, hV, _ => exact hV
    | 10, _, hV, _ => exact hV
    | 11, _, _, _ => intro x; rw [came_at] at x; cases x
    | 12, _, _, e => exact absurd rfl e
    | 13, _, ⟨y, hy, _⟩, _ => rw [hn] at hy; cases hy
    | 14, _, ⟨g, e1, hgB, hg⟩, _ =>
      refine ⟨g, e1, hgB, fun x => ?_⟩
      have hg2 := hg (came_none x)
      exact rowV_grown hg2 hgr (rowV_own_apart hg2 hown (by decide))
    | 15, _, ⟨y, g, hy, _, _⟩, _ => rw [hn] at hy; cases hy
    | k + 16, _, _, _ => trivial
theorem few_15 (h : FewG F w0 st w) (hB : F.B = w0.heap.size) (hn : st 15 = none) {v13 v14 : Value} (h13 : st 13 = some v13) (h14 : st 14 = some v14) :
    ∃ g u, v14 = .pointer (some ⟨g, 0, none⟩) ∧ v13 = .agg #[.bool F.leaf, u] ∧ RowV w g 24 [.bool false, .slice none 0 0] ∧ (#[.bool F.leaf, u] : Array Value).all (·.oneCell') = true ∧ FewG F w0 (came st 15 undef) (w.setRow g #[.bool F.leaf, u]) := by
  obtain ⟨u, hu, rfl⟩ := h.2 13 v13 h13
  obtain ⟨g, rfl, hgB, hg⟩ := h.2 14 v14 h14
  have hg := hg hn
  obtain ⟨h5, hown⟩ := h.2 12 u hu
  have hsl : ∃ a n c, u = .slice a n c := by
    obtain ⟨g', cap, e, _⟩ := World.ownsRow.form hown (by omega)
    exact ⟨_, _, _, e⟩
  obtain ⟨a, n, c, rfl⟩ := hsl
  refine ⟨g, _, rfl, rfl, hg, nod_one _ _ _ _, ?_⟩
  have hBw : F.B ≤ w0.heap.size := Nat.le_of_eq hB
  refine ⟨((Only.of_below h.1).setRow (fun _ => hgB) _).below (fun k _ hk => hk) hBw, fun j v hj => ?_⟩
  by_cases e : j = 15
  · subst e
    exact ⟨_, g, came_some hn hu, came_some hn h14, rowV_row hg [.bool F.leaf, .slice a n c]⟩
  · rw [came_far e] at hj
    have hV := h.2 j v hj
    match j, hj, hV, e with
    | 0, _, hV, _ => exact hV
    | 1, _, hV, _ => exact hV
    | 2, _, _, _ => intro x; rw [came_none x] at h5; cases h5
    | 3, _, hV, _ => exact hV
    | 4, _, hV, _ => exact hV
    | 5, _, _, _ => intro x; have := came_none x; rw [hu] at this; cases this
    | 6, _, hV, _ => exact hV
    | 7, _, hV, _ => exact hV
    | 8, _, hV, _ => exact hV
    | 9, _, hV, _ => exact hV
    | 10, _, hV, _ => exact hV
    | 11, _, _, _ => intro x; have := came_none x; rw [hu] at this; cases this
    | 12, hj, hV, _ =>
      obtain ⟨y, hy⟩ := Option.isSome_iff_exists.1 hV.1
      refine ⟨by rw [came_some hn hy]; rfl, ?_⟩
      have hap := rowV_own_apart hg hV.2 (by decide)
      exact ownsRow_only hV.2 ((Only.refl (fun k => k = g) w).setRow (g := g) (fun _ => rfl) _) (fun k hk e => hap (by rw [hk, e]))
    | 13, _, ⟨y, hy, e1⟩, _ => exact ⟨y, came_some hn hy, e1⟩
    | 14, _, ⟨b, e1, hbB, hb⟩, _ => exact ⟨b, e1, hbB, fun x => by rw [came_at] at x; cases x⟩
    | 15, _, _, e => exact absurd rfl e
    | k + 16, _, _, _ => trivial
end
end Go.Proofs.Ytjlglfhnnipjaaa
