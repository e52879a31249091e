/-
  Layer 7: the document's log: Room, Trim, Append.
-/
import Derived.Test.YtednmncapfclfaaZWalPair
import Derived.Test.YtednmncapfclfaaPk4
import Derived.StillTailTactics
namespace Go.Proofs.Ytednmncapfclfaa
open Go.RowKit
/-- the document's disk's calls, whatever stands beside it -/
structure DskR (q : Nat) (E : World → (Nat → Prop) → Dk.D → Prop) : Prop where
  ok : ∀ {w X d}, E w X d → Dk.Ok d
  lt : ∀ {w X d}, E w X d → ∀ k, X k → k < w.heap.size
  read : ∀ {w X d}, E w X d → ∀ i, Calls Try.prog 49 #[.pointer (some ⟨q, 0, none⟩), .int .i64 i] w fun en w' => en = .returned (.tuple #[.string (Dk.readS d i), .int .i64 (Dk.readE d i)]) ∧ w' = w
  len : ∀ {w X d}, E w X d → ∃ lb cb, w.cell? ⟨q, 0, none⟩ = some (.slice lb d.B.length cb)
  write : ∀ {w X d}, E w X d → ∀ i s, d.W.length ≤ 1000000 → Calls Try.prog 32 #[.pointer (some ⟨q, 0, none⟩), .int .i64 i, .string s] w fun en w' => en = .returned (.int .i64 (Dk.writeE d i s)) ∧ E w' X (Dk.write d i s) ∧ Only (fun k => ¬ X k) w w'
  less : ∀ {w X Y d}, E w X d → (∀ k, Y k → X k) → E w Y d
  grow : ∀ {w w' X d}, E w X d → Only X w w' → E w' (fun k => X k ∨ (w.heap.size ≤ k ∧ k < w'.heap.size)) d
theorem DskR.apart {q : Nat} {E : World → (Nat → Prop) → Dk.D → Prop} (K : DskR q E) : Apart E := ⟨K.ok, K.lt, K.less, K.grow⟩
section
variable {w w' : World} {X S : Nat → Prop} {l p q : Nat} {d e : Dk.D} {g : Wl.Lg} {E : World → (Nat → Prop) → Dk.D → Prop}
/-- beside the program's disk and its log -/
abbrev Both (l p q : Nat) (d : Dk.D) (g : Wl.Lg) : World → (Nat → Prop) → Dk.D → Prop := fun w Y e => Pair 63 (fun w X d => Two w X p q d e) w Y l p d g
theorem dskR_two (p q : Nat) (d : Dk.D) : DskR q (fun w X e => Two w X p q d e) :=
  ⟨fun ⟨_, _, _, ⟨_, _, _, _, hr⟩, _⟩ => hr.ok, fun ⟨_, _, _, _, _, _, _, h⟩ => h, fun h => two_rread h, fun h => by obtain ⟨lb, cb, _, _, h, _⟩ := two_cells h; exact ⟨lb, cb, h⟩, fun h => two_rwrite h, fun h => two_less h, fun h => two_grow h⟩
theorem dskR_both (l p q : Nat) (d : Dk.D) (g : Wl.Lg) : DskR q (Both l p q d g) := by
  refine ⟨fun {w X e} h => ?_, fun {w X e} h => pair_lt (dskP_two p q e).apart h, fun {w X e} h i => ?_, fun {w X e} h => ?_, fun {w X e} h i s hW => ?_, fun h hY => pair_less h hY, fun {w w' X e} h ho => pair_grow (dskP_two p q e).apart h ho⟩
  · obtain ⟨Z, hz, _⟩ := pair_base h
    exact (dskR_two p q d).ok hz
  · obtain ⟨Z, hz, _⟩ := pair_base h
    exact two_rread hz i
  · obtain ⟨Z, hz, _⟩ := pair_base h
    exact (dskR_two p q d).len hz
  · exact pair_lift (D' := fun w X d' => Two w X p q d' (Dk.write e i s)) (d' := d) (Q := fun en _ => en = .returned (.int .i64 (Dk.writeE e i s))) h fun X hx _ => two_rwrite hx i s hW
set_option maxRecDepth 100000 in
set_option maxHeartbeats 800000 in
theorem rroom7_any {m : Nat} (h : LogAt 45 w S l q g) (hg : Wl.Good m g) (hm : m ≤ 4096) (hh : g.head ≤ 1125900000000000) :
    Calls Try.prog 16 #[.pointer (some ⟨l, 0, none⟩)] w fun e w' => e = .returned (.int .i64 ((g.n - g.L.length : Nat) : Int)) ∧ ∃ n, w' = w.drewN n := by
  obtain ⟨la, cap, h1, _⟩ := h
  have hr := hg.room
  have he := hg.ends
  have hf := hg.fits
  have c2 := lg_2 h1
  have c3 := lg_3 h1
  have c4 := lg_4 h1
  clear h1 hg
  obtain ⟨fr, n, tail, head, L⟩ := g
  dsimp only at *
  generalize L.length = k at *
  have hs1 : IntKind.i64.wrap ((head : Int) - (tail : Int)) = (k : Int) := by rw [IntWalk.i64_in _ (by omega)]; omega
  have hs2 : IntKind.i64.wrap ((n : Int) - (k : Int)) = ((n - k : Nat) : Int) := by rw [IntWalk.i64_in _ (by omega)]; omega
  clear he hr
  go_enter Try.func16, Try.ntmps16
  go_wp2_with fail
  go_quiet (fail)
  go_wp2_with fail
  go_ret
  exact ⟨rfl, _, rfl⟩
set_option maxRecDepth 100000 in
set_option maxHeartbeats 1600000 in
theorem rtrim7_any {m : Nat} (h : LogAt 45 w S l q g) (hg : Wl.Good m g) (hh : g.head ≤ 1125900000000000) (t : Int) :
    Calls Try.prog 26 #[.pointer (some ⟨l, 0, none⟩), .int .i64 t] w fun e w' => e = .returned (.int .i64 (Wl.trimE g t)) ∧ LogAt 45 w' S l q (Wl.trimG g t) ∧ Only S w w' := by
  have h0 := h
  obtain ⟨la, cap, h1, h2, h3⟩ := h
  have he := hg.ends
  have c3 := lg_3 h1
  have c4 := lg_4 h1
  have c5 := lg_5 h1
  by_cases hlo : t < (g.tail : Int)
  · obtain ⟨e1, e2⟩ := Wl.trim_no (.inl hlo)
    rw [e1, e2]
    have H := Lib.hid h0
    clear h0 h1 h2 h3 e1 e2 hg he
    go_enter Try.func26, Try.ntmps26
    go_wp2_with fail
    go_ret
    exact ⟨rfl, H.out, Only.refl _ _⟩
  · by_cases hhi : (g.head : Int) < t
    · obtain ⟨e1, e2⟩ := Wl.trim_no (.inr hhi)
      rw [e1, e2]
      have H := Lib.hid h0
      clear h0 h1 h2 h3 e1 e2 hg he
      go_enter Try.func26, Try.ntmps26
      go_wp2_with fail
      go_ret
      exact ⟨rfl, H.out, Only.refl _ _⟩
    · obtain ⟨e1, e2⟩ := Wl.trim_yes (g := g) (t := t) (fun h => h.elim hlo hhi)
      rw [e1, e2]
      obtain ⟨k, hk⟩ : ∃ k : Nat, k = t.toNat - g.tail := ⟨_, rfl⟩
      rw [← hk]
      have hkL : k ≤ g.L.length := by omega
      have hs : IntKind.i64.wrap (t - (g.tail : Int)) = (k : Int) := by rw [IntWalk.i64_in _ (by omega)]; omega
      obtain ⟨hcl, hcm⟩ := recAt_len h2
      have q2 := fun W => slice_from la g.L.length cap k hkL W
      have hcut := recAt_cut h2 k hkL cap hcl (Nat.le_refl _)
      have hT : ∀ wx, RowV wx l 45 (lgC q g la cap) → RowV (((wx.setCell ⟨l, 5, none⟩ (.slice (if cap = k then la else la.map (·.add (k * 1))) (g.L.length - k) (cap - k)))).setCell ⟨l, 3, none⟩ (.int .i64 t)) l 45 (lgC q { g with tail := t.toNat, L := g.L.drop k } (if cap = k then la else la.map (·.add (k * 1))) (cap - k)) := fun wx hx => by
        have r := rowV_stored (rowV_stored hx 5 (.slice (if cap = k then la else la.map (·.add (k * 1))) (g.L.length - k) (cap - k))) 3 (.int .i64 t)
        have : lgC q { g with tail := t.toNat, L := g.L.drop k } (if cap = k then la else la.map (·.add (k * 1))) (cap - k) = ((lgC q g la cap).set 5 (.slice (if cap = k then la else la.map (·.add (k * 1))) (g.L.length - k) (cap - k))).set 3 (.int .i64 t) := by
          show [_, _, _, Value.int .i64 ((t.toNat : Nat) : Int), _, Value.slice _ (g.L.drop k).length _] = [_, _, _, _, _, _]
          rw [List.length_drop, Int.toNat_of_nonneg (by omega)]
        rw [this]; exact r
      have hR : ∀ wy lb, RecAt w S (fun x => x = l) lb (cap - k) (g.L.drop k) → Only (fun j => j = l) w wy → RecAt wy S (fun x => x = l) lb (cap - k) (g.L.drop k) := fun wy lb hx ho => by
        rcases hx with hx | ⟨g', A, r, a1, a2, a3, a4, a5, a6, a7⟩
        · exact .inl hx
        · exact .inr ⟨g', A, r, a1, rowV_only a2 ho a6, a3, a4, a5, a6, a7⟩
      have f5 := rowV_frozen h1 5
      have f3 := rowV_frozen h1 3
      generalize (if cap = k then la else la.map (·.add (k * 1))) = lb at *
      have H := Lib.hid (And.intro h1 (And.intro hcut (And.intro h3 (And.intro hT hR))))
      clear h0 h1 h2 h3 e1 e2 hg he hT hR hk hcut hkL hcl
      obtain ⟨fr, n, tail, head, L⟩ := g
      dsimp only at *
      go_enter Try.func26, Try.ntmps26
      go_wp2_with fail
      go_still_tail 12, (by kernel_rfl)
      change wpList _ _ _ _ _ w.drew
      clear c4 hs
      go_wp2_with fail
      go_ret
      obtain ⟨h1, hcut, h3, hT, hR⟩ := H.out
      have ho : Only (fun j => j = l) w (((w.drew).setCell ⟨l, 5, none⟩ (.slice lb (L.length - k) (cap - k))).setCell ⟨l, 3, none⟩ (.int .i64 t)) := (((Only.refl (fun j => j = l) w).drew).setCell (fun _ => rfl) _).setCell (fun _ => rfl) _
      exact ⟨rfl, ⟨lb, cap - k, hT w.drew h1, hR _ lb hcut ho, h3⟩, ho.mono fun j _ e => e ▸ h3⟩
end
end Go.Proofs.Ytednmncapfclfaa
