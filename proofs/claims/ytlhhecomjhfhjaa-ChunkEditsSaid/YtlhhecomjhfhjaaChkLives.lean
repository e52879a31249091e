/-
  Layer 11's laws: does the program tell the document's example?
-/
import Derived.Test.YtlhhecomjhfhjaaChkEdits
import Derived.Test.YtlhhecomjhfhjaaChkJoin
import Derived.Test.YtlhhecomjhfhjaaChkSame
import Derived.Test.YtlhhecomjhfhjaaChkRjoin
namespace Go.Proofs.Ytlhhecomjhfhjaa
open Go.RowKit
theorem readsE_two11 (w : World) (x y : Tr.Ed) : ReadsE (w.alloc (.cells #[.string x.key, .string x.val, .bool x.cut, .string x.to, .string y.key, .string y.val, .bool y.cut, .string y.to] 30)) (some ⟨w.heap.size, 0, none⟩) [x, y] := by
  have hr := rowV_new w 30 [.string x.key, .string x.val, .bool x.cut, .string x.to, .string y.key, .string y.val, .bool y.cut, .string y.to]
  intro i hi
  have h2 : i = 0 ∨ i = 1 := by simp at hi; omega
  rcases h2 with rfl | rfl
  · exact ⟨_, _, rfl, rowV_cell hr 0, rowV_cell hr 1, rowV_cell hr 2, rowV_cell hr 3⟩
  · exact ⟨_, _, rfl, rowV_cell hr 4, rowV_cell hr 5, rowV_cell hr 6, rowV_cell hr 7⟩
theorem readsP_one11 (w : World) (x y : ByteArray) : ReadsP (w.alloc (.cells #[.string x, .string y] 46)) (some ⟨w.heap.size, 0, none⟩) [(x, y)] := by
  have hr := rowV_new w 46 [.string x, .string y]
  intro i hi
  obtain rfl : i = 0 := by simp at hi; omega
  exact ⟨_, _, rfl, rowV_cell hr 0, rowV_cell hr 1⟩
theorem ex_edits : Ck.edits ⟨#[112]⟩ ⟨#[120]⟩ = ([⟨⟨#[112, 0, 0]⟩, ⟨#[]⟩, true, ⟨#[112, 255, 255]⟩⟩, ⟨⟨#[112, 0, 0]⟩, ⟨#[120]⟩, false, ⟨#[]⟩⟩], 0) := by kernel_rfl
theorem ex_chunks : Ck.chunks ⟨#[112]⟩ ⟨#[120]⟩ = [(⟨#[112, 0, 0]⟩, ⟨#[120]⟩)] := by kernel_rfl
theorem ex_join : Ck.join ⟨#[112]⟩ [(⟨#[112, 0, 0]⟩, ⟨#[120]⟩)] = (⟨#[120]⟩, 0) := by
  rw [← ex_chunks]; exact Ck.join_chunks (by kernel_rfl) (by decide)
set_option maxRecDepth 100000 in
set_option maxHeartbeats 4000000 in
theorem lives11_any (w : World) : Calls Try.prog 6 #[] w fun e w' => e = .returned (.bool true) ∧ Below w.heap.size w w' := by
  have cE := fun w => edits11_any ⟨#[112]⟩ ⟨#[120]⟩ (by show 1 ≤ 1000000000; omega) (by show 1 ≤ 100000000; omega) w
  rw [ex_edits] at cE
  have cJ : ∀ w a c, ReadsP w a [(⟨#[112, 0, 0]⟩, ⟨#[120]⟩)] → Calls Try.prog 15 #[.string ⟨#[112]⟩, .slice a 1 c] w fun e w' => e = .returned (.tuple #[.string ⟨#[120]⟩, .int .i64 0]) ∧ Below w.heap.size w w' := fun w a c hr => by
    have h := join11_any ⟨#[112]⟩ (by show 1 ≤ 1000000000; omega) a [(⟨#[112, 0, 0]⟩, ⟨#[120]⟩)] c w hr (by show 1 ≤ 900000; omega) (fun x hx => by rw [List.mem_singleton] at hx; subst hx; show 1 ≤ 80000; omega)
    rw [ex_join] at h
    exact h
  have cS : ∀ w a b c d, ReadsE w a [⟨⟨#[112, 0, 0]⟩, ⟨#[]⟩, true, ⟨#[112, 255, 255]⟩⟩, ⟨⟨#[112, 0, 0]⟩, ⟨#[120]⟩, false, ⟨#[]⟩⟩] → ReadsE w b [⟨⟨#[112, 0, 0]⟩, ⟨#[]⟩, true, ⟨#[112, 255, 255]⟩⟩, ⟨⟨#[112, 0, 0]⟩, ⟨#[120]⟩, false, ⟨#[]⟩⟩] →
      Calls Try.prog 11 #[.slice a 2 c, .slice b 2 d] w fun e w' => e = .returned (.bool true) ∧ Below w.heap.size w w' := fun w a b c d h1 h2 => by
    have h := rsame11_any a b ([⟨⟨#[112, 0, 0]⟩, ⟨#[]⟩, true, ⟨#[112, 255, 255]⟩⟩, ⟨⟨#[112, 0, 0]⟩, ⟨#[120]⟩, false, ⟨#[]⟩⟩] : List Tr.Ed) c d w h1 h2 (by show 2 ≤ 1000000; omega)
    exact h
  have cN : ∀ w, Calls Try.prog 12 #[.int .i64 151] w fun e w' => e = .returned (.int .i64 2) ∧ Below w.heap.size w w' := fun w => count11_any 151 (by omega) (by omega) w
  have H := Lib.hid (And.intro cE (And.intro cJ (And.intro cS cN)))
  clear cE cJ cS cN
  go_enter Try.func6, Try.ntmps6
  go_wp2_with (first
    | (go_at_call 7; refine (H.out.1 _).mono ?_; rintro e w1 ⟨v, rfl, ho, hb⟩; obtain ⟨a1, c1, rfl, hr1⟩ := owL_readsE11 ho; have H1 := Lib.hid (And.intro hb hr1); clear ho hb hr1)
    | (go_at_call 15; refine (H.out.2.1 _ _ _ (readsP_one11 _ _ _)).mono ?_; rintro e w2 ⟨rfl, hb⟩; have b2 := ((Below.refl w1.heap.size w1).alloc (Nat.le_refl _) (.cells #[.string ⟨#[112, 0, 0]⟩, .string ⟨#[120]⟩] 46)).trans (hb.mono (by rw [World.size_alloc]; omega)); have H2 := Lib.hid (And.intro (H1.out.1.trans (b2.mono H1.out.1.size)) (readsE_below H1.out.2 b2)); clear hb b2)
    | (go_at_call 11; have b3 := (Below.refl w2.heap.size w2).alloc (Nat.le_refl _) (.cells #[.string ⟨#[112, 0, 0]⟩, .string ⟨#[]⟩, .bool true, .string ⟨#[112, 255, 255]⟩, .string ⟨#[112, 0, 0]⟩, .string ⟨#[120]⟩, .bool false, .string ⟨#[]⟩] 30); refine (H.out.2.2.1 _ _ _ _ _ (readsE_below H2.out.2 b3) (readsE_two11 w2 ⟨⟨#[112, 0, 0]⟩, ⟨#[]⟩, true, ⟨#[112, 255, 255]⟩⟩ ⟨⟨#[112, 0, 0]⟩, ⟨#[120]⟩, false, ⟨#[]⟩⟩)).mono ?_; rintro e w3 ⟨rfl, hb⟩; have H3 := Lib.hid ((H2.out.1.trans (b3.mono H2.out.1.size)).trans (hb.mono (by have := H2.out.1.size; rw [World.size_alloc]; omega))); clear hb b3)
    | (go_at_call 12; refine (H.out.2.2.2 _).mono ?_; rintro e w4 ⟨rfl, hb⟩; have H4 := Lib.hid (H3.out.trans (hb.mono H3.out.size)); clear hb))
  go_ret
  exact ⟨rfl, H4.out⟩
end Go.Proofs.Ytlhhecomjhfhjaa
