/-
  Layer 9: are a node's pairs few, and short?
-/
import Derived.Test.YtjlglfhnnipjaaaNodLives
namespace Go.Proofs.Ytjlglfhnnipjaaa
open Go.RowKit
section
variable {w : World}
set_option maxRecDepth 100000 in
set_option maxHeartbeats 1600000 in
theorem small9_any (leaf : Bool) (a : Option Addr) (L : Nd.Prs) (c : Nat) (w : World) (hr : ReadsP w a L) (_hL : L.length ≤ maxLen) (hS : ∀ x ∈ L, x.1.size ≤ maxLen ∧ x.2.size ≤ maxLen) :
    Calls Try.prog 8 #[nodV leaf a L.length c] w fun e w' => e = .returned (.bool (decide (Nd.small L))) ∧ Below w.heap.size w w' := by
  have hb : Below w.heap.size w (w.alloc (.cells #[.bool leaf, .slice a L.length c] 25)) := (Below.refl w.heap.size w).alloc (Nat.le_refl _) _
  have hrow := rowV_new w 25 (nodC leaf a L.length c)
  have r1 := rowV_cell hrow 1
  simp only [List.getElem?_cons_zero, List.getElem?_cons_succ] at r1
  have hsm : Nd.small L ↔ L.length ≤ 60 ∧ ∀ x ∈ L, x.1.size ≤ 300 ∧ x.2.size ≤ 600 := Iff.rfl
  generalize hRR : decide (Nd.small L) = RR
  have HR := Lib.hid hRR
  clear hRR
  by_cases h60 : 60 < L.length
  · have hno : RR = false := by rw [← HR.out]; exact decide_eq_false fun x => by have := hsm.1 x; omega
    subst hno
    have d0 : decide (60 < (L.length : Int)) = true := decide_eq_true (by omega)
    have H := Lib.hid hb
    clear hb hrow hsm
    go_enter Try.func8, Try.ntmps8
    go_wp2_with fail
    go_ret
    exact ⟨rfl, H.out⟩
  · have d0 : decide (60 < (L.length : Int)) = false := decide_eq_false (by omega)
    have hr1 := readsP_below hr hb
    have H := Lib.hid (And.intro hb (And.intro hrow (And.intro hr1 hsm)))
    clear hb hrow hr1 hsm hr
    go_enter Try.func8, Try.ntmps8
    go_wp2_with fail
    generalize hN : w.heap.size = N at *
    generalize World.alloc w _ = w1 at *
    go_loop [3] (fun i => ∃ k : Nat, k ≤ L.length ∧ i = .int .i64 (k : Int) ∧ Hid (∀ x ∈ L.take k, x.1.size ≤ 300 ∧ x.2.size ≤ 600)) (fun i => L.length - (intOf i).toNat)
    case atStart => exact ⟨0, Nat.zero_le _, rfl, Lib.hid (fun x hx => by simp at hx)⟩
    case round =>
      obtain ⟨k, hk, rfl, HK⟩ := hrel
      by_cases hlt : k < L.length
      · obtain ⟨ab, off, rfl, c0, c1⟩ := H.out.2.2.1 k hlt
        have hmem := List.getElem_mem hlt
        have hbad : (300 < L[k].1.size ∨ 600 < L[k].2.size) → RR = false := fun h => by
          rw [← HR.out]
          exact decide_eq_false fun x => by have := (H.out.2.2.2.1 x).2 _ hmem; omega
        have hok : L[k].1.size ≤ 300 → L[k].2.size ≤ 600 → ∀ x ∈ L.take (k + 1), x.1.size ≤ 300 ∧ x.2.size ≤ 600 := fun h1 h2 x hx => by
          rw [List.take_succ_eq_append_getElem hlt] at hx
          rcases List.mem_append.1 hx with hx | hx
          · exact HK.out x hx
          · simp at hx; subst hx; exact ⟨h1, h2⟩
        obtain ⟨z1, z2⟩ := hS _ hmem
        unfold maxLen at z1 z2
        generalize L[k].1 = key at *
        generalize L[k].2 = val at *
        have HB := Lib.hid (And.intro hbad hok)
        clear hbad hok hmem
        by_cases q1 : 300 < key.size
        · have d1 : decide (300 < (key.size : Int)) = true := decide_eq_true (by omega)
          have hno := HB.out.1 (.inl q1)
          subst hno
          go_wp2_with fail
          go_ret
          exact ⟨rfl, by first | exact H.out.1 | (rw [hN]; exact H.out.1)⟩
        · have d1 : decide (300 < (key.size : Int)) = false := decide_eq_false (by omega)
          by_cases q2 : 600 < val.size
          · have d2 : decide (600 < (val.size : Int)) = true := decide_eq_true (by omega)
            have hno := HB.out.1 (.inr q2)
            subst hno
            go_wp2_with fail
            go_ret
            exact ⟨rfl, by first | exact H.out.1 | (rw [hN]; exact H.out.1)⟩
          · have d2 : decide (600 < (val.size : Int)) = false := decide_eq_false (by omega)
            go_wp2_with fail
            go_round
            case rel => exact ⟨k + 1, by omega, by go_num, Lib.hid (HB.out.2 (by omega) (by omega))⟩
            case measure => simp [intOf]; omega
      · obtain rfl : k = L.length := by omega
        have hyes : RR = true := by
          rw [← HR.out]
          have h := HK.out
          rw [List.take_length] at h
          exact decide_eq_true (H.out.2.2.2.2 ⟨by omega, h⟩)
        subst hyes
        go_wp2_with fail
        go_ret
        exact ⟨rfl, by first | exact H.out.1 | (rw [hN]; exact H.out.1)⟩
end
end Go.Proofs.Ytjlglfhnnipjaaa
