/-
  Layer 7: the program's Trim.
-/
import Derived.Test.YtednmncapfclfaaZWalPlace
namespace Go.Proofs.Ytednmncapfclfaa
open Go.RowKit
theorem elem_str : Try.prog.elem 39 = 9 := by kernel_rfl
theorem zero_str (w : World) : (zeroValue 9).run Try.prog w = .ok (.string ByteArray.empty) w := by
  obtain ⟨i0, hi0, hz0, hz1, hz2⟩ := info_parts info_str
  simp [zeroValue, typeInfo, hi0, hz0]
theorem slice_front (la : Option Addr) (n cap k : Nat) (hk : k ≤ cap) (w : World) : (Instr.slice 39 (.slice la n cap) none (some (.int .i64 (k : Int))) none).run Try.prog w = .ok (.slice la k cap) w := by
  obtain ⟨i0, hi0, hz0, hz1, hz2⟩ := info_parts info_str
  rw [run_slice_h (P := Try.prog) w 39 la n cap (by rw [elem_str]; exact Try.underlying39) .i64 k (by omega) (by omega)]
  cases la <;> simp [elem_str, sizeOf, typeInfo, hi0, Result.andThen, sliced, Addr.add]
theorem slice_cut (la : Option Addr) (n cap k : Nat) (hk : k ≤ n) (hn : n ≤ cap) (w : World) : (Instr.slice 39 (.slice la n cap) (some (.int .i64 (k : Int))) (some (.int .i64 (n : Int))) (some (.int .i64 (n : Int)))).run Try.prog w = .ok (.slice (if n = k then la else la.map (·.add (k * 1))) (n - k) (n - k)) w := by
  obtain ⟨i0, hi0, hz0, hz1, hz2⟩ := info_parts info_str
  rw [run_slice_lhm (P := Try.prog) w 39 la n cap (by rw [elem_str]; exact Try.underlying39) .i64 .i64 .i64 k n n (by omega) (by omega) (by omega) (by omega)]
  simp [elem_str, sizeOf, typeInfo, hi0, Result.andThen, sliced, hz1]
theorem slice_from (la : Option Addr) (n cap k : Nat) (hk : k ≤ n) (w : World) : (Instr.slice 39 (.slice la n cap) (some (.int .i64 (k : Int))) none none).run Try.prog w = .ok (.slice (if cap = k then la else la.map (·.add (k * 1))) (n - k) (cap - k)) w := by
  obtain ⟨i0, hi0, hz0, hz1, hz2⟩ := info_parts info_str
  rw [run_slice_l (P := Try.prog) w 39 la n cap (by rw [elem_str]; exact Try.underlying39) .i64 k (by omega) (by omega)]
  simp [elem_str, sizeOf, typeInfo, hi0, Result.andThen, sliced, hz1]
theorem Wl.trim_no {g : Wl.Lg} {t : Int} (h : t < g.tail ∨ (g.head : Int) < t) : Wl.trimE g t = 2 ∧ Wl.trimG g t = g := by
  unfold Wl.trimE Wl.trimG; rw [if_pos h, if_pos h]; exact ⟨rfl, rfl⟩
theorem Wl.trim_yes {g : Wl.Lg} {t : Int} (h : ¬ (t < g.tail ∨ (g.head : Int) < t)) : Wl.trimE g t = 0 ∧ Wl.trimG g t = { g with tail := t.toNat, L := g.L.drop (t.toNat - g.tail) } := by
  unfold Wl.trimE Wl.trimG; rw [if_neg h, if_neg h]; exact ⟨rfl, rfl⟩
section
variable {w : World} {S : Nat → Prop} {l p : Nat} {g : Wl.Lg}
set_option maxRecDepth 100000 in
set_option maxHeartbeats 1600000 in
theorem wtrim_any {m : Nat} (h : LogAt 63 w S l p g) (hg : Wl.Good m g) (hh : g.head ≤ 1125900000000000) (t : Int) :
    Calls Try.prog 21 #[.pointer (some ⟨l, 0, none⟩), .int .i64 t] w fun e w' => e = .returned (.int .i64 (Wl.trimE g t)) ∧ LogAt 63 w' S l p (Wl.trimG g t) ∧ Only S w w' := by
  have h0 := h
  obtain ⟨la, cap, h1, h2, h3⟩ := h
  have he := hg.ends
  have c3 := lg_3 h1
  have c4 := lg_4 h1
  have c5 := lg_5 h1
  have hw := wnone_any h1
  by_cases hlo : t < (g.tail : Int)
  · obtain ⟨e1, e2⟩ := Wl.trim_no (.inl hlo)
    rw [e1, e2]
    have H := Lib.hid (And.intro hw h0)
    clear hw h0 h1 h2 h3 e1 e2 hg he
    generalize hlo' : g.tail = a at *
    go_enter Try.func21, Try.ntmps21
    go_wp2_with fail
    refine H.out.1.mono ?_
    rintro e w1 ⟨rfl, hw1⟩
    obtain rfl := hw1.symm; clear hw1
    go_wp2_with fail
    go_ret
    exact ⟨rfl, H.out.2, Only.refl _ _⟩
  · by_cases hhi : (g.head : Int) < t
    · obtain ⟨e1, e2⟩ := Wl.trim_no (.inr hhi)
      rw [e1, e2]
      have H := Lib.hid (And.intro hw h0)
      clear hw h0 h1 h2 h3 e1 e2 hg he
      go_enter Try.func21, Try.ntmps21
      go_wp2_with fail
      refine H.out.1.mono ?_
      rintro e w1 ⟨rfl, hw1⟩
      obtain rfl := hw1.symm; clear hw1
      go_wp2_with fail
      go_ret
      exact ⟨rfl, H.out.2, Only.refl _ _⟩
    · obtain ⟨e1, e2⟩ := Wl.trim_yes (g := g) (t := t) (fun h => h.elim hlo hhi)
      rw [e1, e2]
      obtain ⟨k, hk⟩ : ∃ k : Nat, k = t.toNat - g.tail := ⟨_, rfl⟩
      rw [← hk]
      have hkL : k ≤ g.L.length := by omega
      have hs : IntKind.i64.wrap (t - (g.tail : Int)) = (k : Int) := by rw [IntWalk.i64_in _ (by omega)]; omega
      obtain ⟨hcl, hcm⟩ := recAt_len h2
      have q1 := fun W => slice_front la g.L.length cap k (by omega) W
      have q2 := fun W => slice_cut la g.L.length cap k hkL hcl W
      have hT : ∀ wx, RowV wx l 63 (lgC p g la cap) → RowV (((wx.setCell ⟨l, 5, none⟩ (.slice (if g.L.length = k then la else la.map (·.add (k * 1))) (g.L.length - k) (g.L.length - k)))).setCell ⟨l, 3, none⟩ (.int .i64 t)) l 63 (lgC p { g with tail := t.toNat, L := g.L.drop k } (if g.L.length = k then la else la.map (·.add (k * 1))) (g.L.length - k)) := fun wx hx => by
        have r := rowV_stored (rowV_stored hx 5 (.slice (if g.L.length = k then la else la.map (·.add (k * 1))) (g.L.length - k) (g.L.length - k))) 3 (.int .i64 t)
        have : lgC p { g with tail := t.toNat, L := g.L.drop k } (if g.L.length = k then la else la.map (·.add (k * 1))) (g.L.length - k) = ((lgC p g la cap).set 5 (.slice (if g.L.length = k then la else la.map (·.add (k * 1))) (g.L.length - k) (g.L.length - k))).set 3 (.int .i64 t) := by
          show [_, _, _, Value.int .i64 ((t.toNat : Nat) : Int), _, Value.slice _ (g.L.drop k).length _] = [_, _, _, _, _, _]
          rw [List.length_drop, Int.toNat_of_nonneg (by omega)]
        rw [this]; exact r
      have hR : ∀ wx wy lb, RecAt wx S (fun x => x = l) lb (g.L.length - k) (g.L.drop k) → Only (fun j => j = l) wx wy → RecAt wy S (fun x => x = l) lb (g.L.length - k) (g.L.drop k) := fun wx wy lb hx ho => by
        rcases hx with hx | ⟨g', A, r, a1, a2, a3, a4, a5, a6, a7⟩
        · exact .inl hx
        · exact .inr ⟨g', A, r, a1, rowV_only a2 ho a6, a3, a4, a5, a6, a7⟩
      generalize hlb : (if g.L.length = k then la else la.map (·.add (k * 1))) = lb at *
      have HLB := Lib.hid hlb
      clear hlb
      have H := Lib.hid (And.intro hw (And.intro h1 (And.intro h2 (And.intro h3 (And.intro hT hR)))))
      have HK := Lib.hid (And.intro hkL (And.intro hk hcl))
      clear hw h0 h1 h2 h3 e1 e2 hg he hT hR hk
      obtain ⟨fr, n, tail, head, L⟩ := g
      dsimp only at *
      go_enter Try.func21, Try.ntmps21
      go_wp2_with fail
      refine H.out.1.mono ?_
      rintro e w1 ⟨rfl, hw1⟩
      obtain rfl := hw1.symm; clear hw1
      go_wp2_with fail
      go_quiet (fail)
      generalize hwq : World.drewN _ _ = wq at *
      have HW := Lib.hid (show RowV wq l 63 (lgC p ⟨fr, n, tail, head, L⟩ la cap) ∧ RecAt wq S (fun x => x = l) la cap L ∧ Only S w wq by rw [← hwq]; exact ⟨H.out.2.1, H.out.2.2.1, (Only.refl S w).drewN _⟩)
      have d5 : wq.cell? ⟨l, 5, none⟩ = some (.slice la L.length cap) := by rw [← hwq]; exact c5
      clear hwq hs c3 c4 c5
      go_wp2_with (with_reducible refine wpList_clear_rec rfl (.tmp 44) 39 rfl Try.underlying39 zero_str HW.out.2.1 k HK.out.1 cap rfl ?_
                   intro w3 hR3 ho3
                   rw [HLB.out] at hR3
                   have hr3 : RowV w3 l 63 (lgC p ⟨fr, n, tail, head, L⟩ la cap) := rowV_only HW.out.1 ho3 (fun hn => hn.2 rfl)
                   have e5 : w3.cell? ⟨l, 5, none⟩ = some (.slice la L.length cap) := rowV_cell hr3 5
                   have e3 : w3.cell? ⟨l, 3, none⟩ = some (.int .i64 (tail : Int)) := rowV_cell hr3 3
                   have f5 := rowV_frozen hr3 5
                   have f3 := rowV_frozen hr3 3
                   have H3 := Lib.hid (And.intro hr3 (And.intro hR3 ho3))
                   clear hr3 hR3 ho3)
      go_ret
      have ho : Only S w w3 := HW.out.2.2.trans H3.out.2.2 fun _ _ h => h.1
      have hS := H.out.2.2.2.1
      refine ⟨rfl, ⟨lb, L.length - k, H.out.2.2.2.2.1 w3 H3.out.1, ?_, hS⟩, (ho.setCell (fun _ => hS) _).setCell (fun _ => hS) _⟩
      exact H.out.2.2.2.2.2 w3 _ lb H3.out.2.1 (((Only.refl (fun j => j = l) w3).setCell (fun _ => rfl) _).setCell (fun _ => rfl) _)
end
end Go.Proofs.Ytednmncapfclfaa
