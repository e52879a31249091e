/-
  Layer 15, the program's: which kinds go together, and what an op makes of its parts' kinds.
-/
import Derived.Test.YtmkckbidfpinfaaDoorZTypMath
import Derived.Test.YtmkckbidfpinfaaDoorPk1
import Derived.BigQuiet
import Derived.WalkKit
import Derived.Below
namespace Go.Proofs.YtmkckbidfpinfaaDoor
open Go.RowKit
/-- a list of kinds, read -/
def ReadsK (w : World) (a : Option Addr) (ks : List Int) : Prop := ∀ i (h : i < ks.length), ∃ b off, a = some ⟨b, off, none⟩ ∧ w.cell? ⟨b, off + i, none⟩ = some (.int .i64 ks[i])
theorem readsK_below {w w' : World} {a : Option Addr} {ks : List Int} (h : ReadsK w a ks) (hb : Below w.heap.size w w') : ReadsK w' a ks := fun i hi => by
  obtain ⟨b, off, e, hc⟩ := h i hi
  exact ⟨b, off, e, (hb.cell (World.block_lt_of_cell? _ _ hc)).trans hc⟩
namespace Ty
theorem all_take {want : Int} {ks : List Int} {k : Nat} (h : ∀ y ∈ ks.take k, fits y want = true) (hk : k < ks.length) (hp : fits ks[k] want = true) : ∀ y ∈ ks.take (k + 1), fits y want = true := by
  intro y hy
  rw [List.take_succ_eq_append_getElem hk, List.mem_append] at hy
  rcases hy with hy | hy
  · exact h y hy
  · simp at hy; subst hy; exact hp
theorem all_full {want : Int} {ks : List Int} {k : Nat} (h : ∀ y ∈ ks.take k, fits y want = true) (hk : ¬ k < ks.length) : all want ks = true := by
  rw [List.take_of_length_le (by omega)] at h
  exact List.all_eq_true.2 h
theorem all_not {want : Int} {ks : List Int} {k : Nat} (hk : k < ks.length) (hp : fits ks[k] want = false) : all want ks = false := by
  cases h : all want ks with
  | false => rfl
  | true => rw [List.all_eq_true.1 h _ (List.getElem_mem hk)] at hp; cases hp
end Ty
set_option maxRecDepth 100000 in
theorem fits15_any (k want : Int) (w : World) : Calls Tryd.prog 10 #[.int .i64 k, .int .i64 want] w fun e w' => e = .returned (.bool (Ty.fits k want)) ∧ w' = w := by
  have hE : Ty.fits k want = (decide (k = want) || (decide (k = 0) || decide (want = 0))) := rfl
  rw [hE]
  by_cases h1 : k = want
  · have t1 : (k == want) = true := by simpa using h1
    go_enter Tryd.func10, Tryd.ntmps10
    go_wp2_with fail
    go_ret
    exact ⟨ret_bool (by rw [decide_eq_true h1]; rfl), rfl⟩
  · have t1 : (k == want) = false := by simpa using h1
    by_cases h2 : k = 0
    · have t2 : (k == 0) = true := by simpa using h2
      go_enter Tryd.func10, Tryd.ntmps10
      go_wp2_with fail
      go_ret
      exact ⟨ret_bool (by rw [decide_eq_false h1, decide_eq_true h2]; rfl), rfl⟩
    · have t2 : (k == 0) = false := by simpa using h2
      by_cases h3 : want = 0
      · have t3 : (want == 0) = true := by simpa using h3
        go_enter Tryd.func10, Tryd.ntmps10
        go_wp2_with fail
        go_ret
        exact ⟨ret_bool (by rw [decide_eq_false h1, decide_eq_false h2, decide_eq_true h3]; rfl), rfl⟩
      · have t3 : (want == 0) = false := by simpa using h3
        go_enter Tryd.func10, Tryd.ntmps10
        go_wp2_with fail
        go_ret
        exact ⟨ret_bool (by rw [decide_eq_false h1, decide_eq_false h2, decide_eq_false h3]; rfl), rfl⟩
set_option maxRecDepth 100000 in
theorem some15_any (a b : Int) (w : World) : Calls Tryd.prog 66 #[.int .i64 a, .int .i64 b] w fun e w' => e = .returned (.int .i64 (Ty.some2 a b)) ∧ w' = w := by
  unfold Ty.some2
  by_cases h1 : a = 0
  · subst h1
    rw [if_pos rfl]
    go_enter Tryd.func66, Tryd.ntmps66
    go_wp2_with fail
    go_ret
    exact ⟨rfl, rfl⟩
  · rw [if_neg h1]
    have t1 : (a == 0) = false := by simpa using h1
    go_enter Tryd.func66, Tryd.ntmps66
    go_wp2_with fail
    go_ret
    exact ⟨rfl, rfl⟩
set_option maxRecDepth 100000 in
theorem all15_any (want : Int) (ks : List Int) (a : Option Addr) (n c : Nat) (hn : ks.length = n) (hl : n ≤ 1000000) (w : World) (hR : ReadsK w a ks) : Calls Tryd.prog 65 #[.int .i64 want, .slice a n c] w fun e w' => e = .returned (.bool (Ty.all want ks)) ∧ w' = w := by
  have HR := Lib.hid (And.intro hR hn)
  clear hR hn
  have HC := Lib.hid fun k wx => fits15_any k want wx
  go_enter Tryd.func65, Tryd.ntmps65
  go_wp2_with fail
  go_loopw [9] (fun i wr => ∃ k : Nat, i = .int .i64 (k : Int) ∧ k ≤ n ∧ Hid (∀ y ∈ ks.take k, Ty.fits y want = true) ∧ wr = w) (fun i _ => n - (intOf i).toNat)
  case atStart => exact ⟨0, rfl, Nat.zero_le _, Lib.hid (by intro y hy; simp at hy), rfl⟩
  case round =>
    obtain ⟨k, rfl, hk, HK, rfl⟩ := hrel
    by_cases hlt : k < n
    · have hlt2 : k < ks.length := by rw [HR.out.2]; exact hlt
      obtain ⟨b, off, rfl, c0⟩ := HR.out.1 k hlt2
      cases hf : Ty.fits ks[k] want with
      | true =>
        have HN := Lib.hid (Ty.all_take HK.out hlt2 hf)
        have HF := Lib.hid (HC.out ks[k])
        rw [hf] at HF
        generalize ks[k] = y at *
        clear hf hlt2
        go_wp2_with fail
        refine (HF.out _).mono ?_
        rintro e w1 ⟨rfl, rfl⟩
        go_wp2_with fail
        go_roundw
        case rel => exact ⟨k + 1, by go_num, by omega, HN, by first | rfl | trivial⟩
        case measure => simp only [intOf]; omega
      | false =>
        have HN := Lib.hid (Ty.all_not hlt2 hf)
        have HF := Lib.hid (HC.out ks[k])
        rw [hf] at HF
        generalize ks[k] = y at *
        clear hf hlt2
        go_wp2_with fail
        refine (HF.out _).mono ?_
        rintro e w1 ⟨rfl, rfl⟩
        go_wp2_with fail
        go_ret
        exact ⟨ret_bool HN.out.symm, rfl⟩
    · have HN := Lib.hid (Ty.all_full HK.out (by rw [HR.out.2]; exact hlt))
      go_wp2_with fail
      go_ret
      exact ⟨ret_bool HN.out.symm, rfl⟩
end Go.Proofs.YtmkckbidfpinfaaDoor
