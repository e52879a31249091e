/-
  Layer 9: the document's node: its page.
-/
import Derived.Test.YtjlglfhnnipjaaaNodCheck
import Derived.Test.YtjlglfhnnipjaaaOctOwn
import Derived.OwnWalk
namespace Go.Proofs.Ytjlglfhnnipjaaa
open Go.RowKit
set_option maxRecDepth 100000 in
set_option maxHeartbeats 1600000 in
theorem rput9_any (leaf : Bool) (a : Option Addr) (L : List (ByteArray × ByteArray)) (c : Nat) (w : World) (hr : ReadsP w a L) (hL : L.length ≤ 1000) (hS : ∀ x ∈ L, x.1.size ≤ 1000 ∧ x.2.size ≤ 1000) :
    Calls Try.prog 11 #[nodV leaf a L.length c] w fun e w' => e = .returned (.tuple #[.string (Nd.put ⟨leaf, L⟩), .int .i64 (Nd.checkE ⟨leaf, L⟩)]) ∧ Below w.heap.size w w' := by
  obtain ⟨i0, hi, hz0, hz1, hz2⟩ := info_parts Try.info5
  have hb : Below w.heap.size w (w.alloc (.cells #[.bool leaf, .slice a L.length c] 24)) := (Below.refl w.heap.size w).alloc (Nat.le_refl _) _
  have hrow := rowV_new w 24 (nodC leaf a L.length c)
  have r0 := rowV_cell hrow 0
  have r1 := rowV_cell hrow 1
  simp only [List.getElem?_cons_zero, List.getElem?_cons_succ] at r0 r1
  have cC := rcheck9_any leaf a L c (w.alloc (.cells #[.bool leaf, .slice a L.length c] 24)) (readsP_below hr hb) hL hS
  have cT := fun wx (hx : Below w.heap.size w wx) => rtext9_any leaf a L c wx (readsP_below hr hx) hL hS
  by_cases hE : Nd.checkE ⟨leaf, L⟩ = 0
  · have hsz := (Nd.check_ok hE).2
    have hput : Nd.put ⟨leaf, L⟩ = Nd.text ⟨leaf, L⟩ ++ Nd.zer (480 - (Nd.text ⟨leaf, L⟩).size) := by unfold Nd.put; rw [if_neg (fun x => x hE)]
    rw [hput, hE]
    rw [hE] at cC
    generalize Nd.text ⟨leaf, L⟩ = T at *
    have hn : (480 : Int) - (T.size : Int) = ((480 - T.size : Nat) : Int) := by omega
    have hmb : i0.bytes * (480 - T.size) ≤ 281474976710656 := by rw [hz2]; omega
    have hml : 480 - T.size ≤ maxLen := by unfold maxLen; omega
    have HI := Lib.hid (And.intro hi (And.intro hz0 (And.intro hz1 (And.intro hmb hml))))
    have hzs : (Nd.zer (480 - T.size)).size = 480 - T.size := Nd.zer_size _
    have H := Lib.hid (And.intro cC (And.intro hb (And.intro hrow cT)))
    clear hi hz0 hz1 hz2 hmb hml hr hb hrow cC cT hput
    go_enter Try.func11, Try.ntmps11
    go_wp2_with (first
      | (go_at_call 23; refine H.out.1.mono ?_; rintro e w1 ⟨rfl, hb1⟩; have s0 := rowV_cell (rowV_below H.out.2.2.1 hb1 (rowV_lt H.out.2.2.1)) 0; have s1 := rowV_cell (rowV_below H.out.2.2.1 hb1 (rowV_lt H.out.2.2.1)) 1; simp only [List.getElem?_cons_zero, List.getElem?_cons_succ] at s0 s1; have H1 := Lib.hid (H.out.2.1.trans (hb1.mono H.out.2.1.size)); clear hb1)
      | (go_at_call 32; refine (H.out.2.2.2 _ H1.out).mono ?_; rintro e w2 ⟨rfl, hb2⟩; have H2 := Lib.hid (H1.out.trans (hb2.mono H1.out.size)); clear hb2)
      | (at_make; go_loud (refine wpList_make_full _ rfl _ _ 51 rfl w2.heap.size 5 i0 (.int .u8 0) 1 Try.underlying51 HI.out.1 HI.out.2.1 HI.out.2.2.1 .i64 .i64 _ _ (480 - T.size) rfl rfl (by omega) (by omega) HI.out.2.2.2.1 HI.out.2.2.2.2 (Nat.le_refl _) ?_)))
    intro w3 hown hgrow
    have ho : OwnsB w3 w2.heap.size 5 _ (List.replicate (480 - T.size) 0) := ownsB_made hown
    have hb3 : Below w2.heap.size w2 w3 := (Below.refl _ w2).grown hgrow (Nat.le_refl _) (by simp)
    have hconv := ownsB_conv (P := Try.prog) (src := 51) (dst := 9) ho Try.underlying51 Try.underlying5 Try.underlying9
    have HF := Lib.hid (H2.out.trans (hb3.mono H2.out.size))
    have hzz : (⟨(List.replicate (480 - T.size) (0 : UInt8)).toArray⟩ : ByteArray) = Nd.zer (480 - T.size) := rfl
    rw [hzz] at hconv
    clear ho hb3 hown hgrow hzz
    go_wp2
    go_ret2
    exact ⟨rfl, HF.out⟩
  · have hput : Nd.put ⟨leaf, L⟩ = ⟨#[]⟩ := by unfold Nd.put; rw [if_pos hE]
    rw [hput]
    generalize Nd.checkE ⟨leaf, L⟩ = E at *
    have qE : (E != 0) = true := by simpa using hE
    have H := Lib.hid (And.intro cC hb)
    clear hi hz0 hz1 hz2 hr hb hrow cC cT hput
    go_enter Try.func11, Try.ntmps11
    go_wp2_with (go_at_call 23; refine H.out.1.mono ?_; rintro e w1 ⟨rfl, hb1⟩; have H1 := Lib.hid (H.out.2.trans (hb1.mono H.out.2.size)); clear hb1)
    go_ret2
    exact ⟨rfl, H1.out⟩
end Go.Proofs.Ytjlglfhnnipjaaa
