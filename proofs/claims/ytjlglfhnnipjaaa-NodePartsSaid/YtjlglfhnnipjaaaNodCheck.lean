/-
  Layer 9: the document's node: its error.
-/
import Derived.Test.YtjlglfhnnipjaaaNodRight
namespace Go.Proofs.Ytjlglfhnnipjaaa
open Go.RowKit
section
variable {w : World}
theorem Nd.check_cases (n : Nd.Node) : (¬ Nd.right n ∧ Nd.checkE n = 2) ∨ (Nd.right n ∧ 480 < (Nd.text n).size ∧ Nd.checkE n = 5) ∨ (Nd.right n ∧ ¬ 480 < (Nd.text n).size ∧ Nd.checkE n = 0) := by
  unfold Nd.checkE
  by_cases h1 : Nd.right n
  · rw [if_neg (fun x => x h1)]
    by_cases h2 : 480 < (Nd.text n).size
    · rw [if_pos h2]; exact .inr (.inl ⟨h1, h2, rfl⟩)
    · rw [if_neg h2]; exact .inr (.inr ⟨h1, h2, rfl⟩)
  · rw [if_pos h1]; exact .inl ⟨h1, rfl⟩
set_option maxRecDepth 100000 in
set_option maxHeartbeats 1600000 in
theorem rcheck9_any (leaf : Bool) (a : Option Addr) (L : List (ByteArray × ByteArray)) (c : Nat) (w : World) (hr : ReadsP w a L) (hL : L.length ≤ 1000) (hS : ∀ x ∈ L, x.1.size ≤ 1000 ∧ x.2.size ≤ 1000) :
    Calls Try.prog 23 #[nodV leaf a L.length c] w fun e w' => e = .returned (.int .i64 (Nd.checkE ⟨leaf, L⟩)) ∧ Below w.heap.size w w' := by
  have hb : Below w.heap.size w (w.alloc (.cells #[.bool leaf, .slice a L.length c] 24)) := (Below.refl w.heap.size w).alloc (Nat.le_refl _) _
  have hrow := rowV_new w 24 (nodC leaf a L.length c)
  have r0 := rowV_cell hrow 0
  have r1 := rowV_cell hrow 1
  simp only [List.getElem?_cons_zero, List.getElem?_cons_succ] at r0 r1
  have cR := rright9_any leaf a L c (w.alloc (.cells #[.bool leaf, .slice a L.length c] 24)) (readsP_below hr hb) hL
  have cS := fun wx (hx : Below w.heap.size w wx) => rsize9_any leaf a L c wx (readsP_below hr hx) hL hS
  have hcase := Nd.check_cases ⟨leaf, L⟩
  generalize (Nd.text ⟨leaf, L⟩).size = T at *
  generalize hE : Nd.checkE ⟨leaf, L⟩ = E at *
  clear hE
  rcases hcase with ⟨h1, rfl⟩ | ⟨h1, h2, rfl⟩ | ⟨h1, h2, rfl⟩
  · rw [decide_eq_false h1] at cR
    have H := Lib.hid (And.intro cR (And.intro hb (And.intro hrow cS)))
    clear hr hb hrow cR cS
    go_enter Try.func23, Try.ntmps23
    go_wp2_with (go_at_call 16; refine H.out.1.mono ?_; rintro e w1 ⟨rfl, hb1⟩; have H1 := Lib.hid (H.out.2.1.trans (hb1.mono H.out.2.1.size)); clear hb1)
    go_ret
    exact ⟨rfl, H1.out⟩
  · have d2 : decide (480 < (T : Int)) = true := decide_eq_true (by omega)
    rw [decide_eq_true h1] at cR
    have H := Lib.hid (And.intro cR (And.intro hb (And.intro hrow cS)))
    clear hr hb hrow cR cS
    go_enter Try.func23, Try.ntmps23
    go_wp2_with (first
      | (go_at_call 16; refine H.out.1.mono ?_; rintro e w1 ⟨rfl, hb1⟩; have s0 := rowV_cell (rowV_below H.out.2.2.1 hb1 (rowV_lt H.out.2.2.1)) 0; have s1 := rowV_cell (rowV_below H.out.2.2.1 hb1 (rowV_lt H.out.2.2.1)) 1; simp only [List.getElem?_cons_zero, List.getElem?_cons_succ] at s0 s1; have H1 := Lib.hid (H.out.2.1.trans (hb1.mono H.out.2.1.size)); clear hb1)
      | (go_at_call 14; refine (H.out.2.2.2 _ H1.out).mono ?_; rintro e w2 ⟨rfl, hb2⟩; have H2 := Lib.hid (H1.out.trans (hb2.mono H1.out.size)); clear hb2))
    go_ret
    exact ⟨rfl, H2.out⟩
  · have d2 : decide (480 < (T : Int)) = false := decide_eq_false (by omega)
    rw [decide_eq_true h1] at cR
    have H := Lib.hid (And.intro cR (And.intro hb (And.intro hrow cS)))
    clear hr hb hrow cR cS
    go_enter Try.func23, Try.ntmps23
    go_wp2_with (first
      | (go_at_call 16; refine H.out.1.mono ?_; rintro e w1 ⟨rfl, hb1⟩; have s0 := rowV_cell (rowV_below H.out.2.2.1 hb1 (rowV_lt H.out.2.2.1)) 0; have s1 := rowV_cell (rowV_below H.out.2.2.1 hb1 (rowV_lt H.out.2.2.1)) 1; simp only [List.getElem?_cons_zero, List.getElem?_cons_succ] at s0 s1; have H1 := Lib.hid (H.out.2.1.trans (hb1.mono H.out.2.1.size)); clear hb1)
      | (go_at_call 14; refine (H.out.2.2.2 _ H1.out).mono ?_; rintro e w2 ⟨rfl, hb2⟩; have H2 := Lib.hid (H1.out.trans (hb2.mono H1.out.size)); clear hb2))
    go_ret
    exact ⟨rfl, H2.out⟩
end
end Go.Proofs.Ytjlglfhnnipjaaa
