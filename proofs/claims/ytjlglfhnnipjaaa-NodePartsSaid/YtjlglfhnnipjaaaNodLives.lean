/-
  Layer 9: the document's example; small nodes.
-/
import Derived.Test.YtjlglfhnnipjaaaNodParts
import Derived.Test.YtjlglfhnnipjaaaNodPut
import Derived.Test.YtjlglfhnnipjaaaNodPfind
namespace Go.Proofs.Ytjlglfhnnipjaaa
open Go.RowKit
def Nd.exL : Nd.Prs := [(⟨#[97]⟩, ⟨#[120]⟩)]
theorem Nd.num_one : Oct.numB 1 = ⟨#[2]⟩ := by unfold Oct.numB; rw [show Oct.codeN 1 = 2 from rfl, Oct.num_small _ (by omega)]; rfl
theorem Nd.ex_text : Nd.text ⟨true, Nd.exL⟩ = ⟨#[1, 2, 2, 97, 2, 120]⟩ := by
  have h : Nd.text ⟨true, Nd.exL⟩ = ⟨#[1]⟩ ++ Oct.numB 1 ++ (Oct.numB 1 ++ ⟨#[97]⟩ ++ (Oct.numB 1 ++ ⟨#[120]⟩) ++ ⟨#[]⟩) := rfl
  rw [h, Nd.num_one]; rfl
theorem Nd.ex_right : Nd.right ⟨true, Nd.exL⟩ := by
  refine ⟨by simp [Nd.exL], fun x hx => ?_, trivial⟩
  have : x = (⟨#[97]⟩, ⟨#[120]⟩) := by simpa [Nd.exL] using hx
  subst this
  exact ⟨by decide, by decide, fun _ => by decide, fun h => by cases h⟩
theorem Nd.ex_check : Nd.checkE ⟨true, Nd.exL⟩ = 0 := by
  unfold Nd.checkE
  rw [if_neg (fun x => x Nd.ex_right), if_neg (by rw [Nd.ex_text]; decide)]
theorem Nd.ex_put : (Nd.put ⟨true, Nd.exL⟩).size = 480 ∧ (Nd.put ⟨true, Nd.exL⟩).extract 0 7 = ⟨#[1, 2, 2, 97, 2, 120, 0]⟩ := by
  refine ⟨Nd.put_size Nd.ex_check, ?_⟩
  have hp : Nd.put ⟨true, Nd.exL⟩ = Nd.text ⟨true, Nd.exL⟩ ++ Nd.zer (480 - (Nd.text ⟨true, Nd.exL⟩).size) := by unfold Nd.put; rw [if_neg (fun x => x Nd.ex_check)]
  rw [hp, Nd.ex_text]
  apply Sl.ba_ext
  rw [Sl.ext_first, ByteArray.data_append, Array.toList_append]
  rfl
theorem Nd.ex_find : Nd.findI Nd.exL ⟨#[98]⟩ = 0 ∧ Nd.foundB Nd.exL ⟨#[98]⟩ = false := by
  have h : Nd.upto Nd.exL ⟨#[98]⟩ = 1 := by decide +kernel
  have h1 : Nd.findI Nd.exL ⟨#[98]⟩ = 0 := by unfold Nd.findI; rw [h]; rfl
  refine ⟨h1, ?_⟩
  unfold Nd.foundB
  rw [h1]
  exact decide_eq_false (by rintro ⟨_, h⟩; exact absurd (congrArg (fun b : ByteArray => b.data.toList) h) (by decide))
section
variable {w : World}
set_option maxRecDepth 100000 in
set_option maxHeartbeats 3200000 in
theorem lives9_any (w : World) : Calls Try.prog 9 #[] w fun e w' => e = .returned (.bool true) ∧ Below w.heap.size w w' := by
  have hb1 : Below w.heap.size w (w.alloc (.cells #[.string ⟨#[97]⟩, .string ⟨#[120]⟩] 33)) := (Below.refl w.heap.size w).alloc (Nat.le_refl _) _
  have hs1 : (w.alloc (.cells #[.string ⟨#[97]⟩, .string ⟨#[120]⟩] 33)).heap.size = w.heap.size + 1 := World.size_alloc _ _
  have hb2 : Below w.heap.size w ((w.alloc (.cells #[.string ⟨#[97]⟩, .string ⟨#[120]⟩] 33)).alloc (.cells #[.bool true, .slice (some ⟨w.heap.size, 0, none⟩) 1 1] 24)) := hb1.alloc (by omega) _
  have hrow := rowV_alloc (rowV_new w 33 [.string ⟨#[97]⟩, .string ⟨#[120]⟩]) (.cells #[.bool true, .slice (some ⟨w.heap.size, 0, none⟩) 1 1] 24)
  have hnod := rowV_new (w.alloc (.cells #[.string ⟨#[97]⟩, .string ⟨#[120]⟩] 33)) 24 (nodC true (some ⟨w.heap.size, 0, none⟩) 1 1)
  rw [hs1] at hnod
  have hrd : ReadsP ((w.alloc (.cells #[.string ⟨#[97]⟩, .string ⟨#[120]⟩] 33)).alloc (.cells #[.bool true, .slice (some ⟨w.heap.size, 0, none⟩) 1 1] 24)) (some ⟨w.heap.size, 0, none⟩) Nd.exL := by
    intro i hi
    have hi : i < 1 := hi
    obtain rfl : i = 0 := by omega
    exact ⟨w.heap.size, 0, rfl, rowV_cell hrow 0, rowV_cell hrow 1⟩
  have hl : Nd.exL.length = 1 := rfl
  have hS : ∀ x ∈ Nd.exL, x.1.size ≤ 1000 ∧ x.2.size ≤ 1000 := fun x hx => by
    have : x = (⟨#[97]⟩, ⟨#[120]⟩) := by simpa [Nd.exL] using hx
    subst this; exact ⟨by decide, by decide⟩
  have c1 := fun wx (h : ReadsP wx (some ⟨w.heap.size, 0, none⟩) Nd.exL) => put9_any true (some ⟨w.heap.size, 0, none⟩) Nd.exL 1 wx h (by rw [hl]; omega) hS
  have c2 := fun wx (h : ReadsP wx (some ⟨w.heap.size, 0, none⟩) Nd.exL) => find9_any true (some ⟨w.heap.size, 0, none⟩) Nd.exL 1 ⟨#[98]⟩ wx h (by rw [hl]; omega) (by rw [hl]; omega) Nd.ex_right.2.2
  have c3 := fun wx (h : ReadsP wx (some ⟨w.heap.size, 0, none⟩) Nd.exL) => parts9_any true (some ⟨w.heap.size, 0, none⟩) Nd.exL 1 wx h (by rw [hl]; omega) (by rw [hl]; omega)
  rw [Nd.ex_find.1, Nd.ex_find.2] at c2
  rw [Nd.ex_check] at c1
  rw [hl] at c1 c2 c3
  obtain ⟨p1, p2⟩ := Nd.ex_put
  generalize Nd.put ⟨true, Nd.exL⟩ = PP at *
  have hp1 : ((PP.size : Int) == 480) = true := by rw [p1]; rfl
  have H := Lib.hid (And.intro hb2 (And.intro hnod (And.intro hrd (And.intro c1 (And.intro c2 c3)))))
  clear hb1 hb2 hrow hnod hrd c1 c2 c3 hl hS
  go_enter Try.func9, Try.ntmps9
  go_wp2_with fail
  refine (H.out.2.2.2.1 _ H.out.2.2.1).mono ?_
  rintro e w1 ⟨rfl, hbw1⟩
  have hn1 := rowV_below H.out.2.1 hbw1 (rowV_lt H.out.2.1)
  have hr1 := readsP_below H.out.2.2.1 hbw1
  obtain ⟨x0, x1, _, _⟩ := nod_cells hn1
  have hbb1 := H.out.1.trans (hbw1.mono H.out.1.size)
  have H1 := Lib.hid (And.intro hn1 (And.intro hr1 hbb1))
  clear hbw1 hn1 hr1 hbb1
  go_wp2_with fail
  refine (H.out.2.2.2.2.1 _ H1.out.2.1).mono ?_
  rintro e w2 ⟨rfl, hbw2⟩
  have hn2 := rowV_below H1.out.1 hbw2 (rowV_lt H1.out.1)
  have hr2 := readsP_below H1.out.2.1 hbw2
  obtain ⟨y0, y1, _, _⟩ := nod_cells hn2
  have hbb2 := H1.out.2.2.trans (hbw2.mono H1.out.2.2.size)
  have H2 := Lib.hid (And.intro hn2 (And.intro hr2 hbb2))
  clear hbw2 hn2 hr2 hbb2 x0 x1
  have p3 := p2
  go_wp2_with fail
  refine (H.out.2.2.2.2.2 _ H2.out.2.1).mono ?_
  rintro e w3 ⟨v, X, rfl, hX, hP, hbw3⟩
  rw [if_pos Nd.ex_right] at hP
  have hX1 : X.length = 1 := by
    have := congrArg List.length (Nd.parts_one hP (by simp [Nd.exL]) (Nd.check_ok Nd.ex_check).2)
    rw [List.length_map] at this
    exact this
  obtain ⟨gg, cap, rfl, _, _⟩ := World.ownsRow.form hX.1 (by omega)
  rw [hX1]
  have H3 := Lib.hid (H2.out.2.2.trans (hbw3.mono H2.out.2.2.size))
  clear hbw3 hP hX hX1
  go_wp2_with fail
  go_ret
  exact ⟨rfl, H3.out⟩
end
/-- are the pairs few, and short? -/
def Nd.small (L : Nd.Prs) : Prop := L.length ≤ 60 ∧ ∀ x ∈ L, x.1.size ≤ 300 ∧ x.2.size ≤ 600
instance (L : Nd.Prs) : Decidable (Nd.small L) := by unfold Nd.small; infer_instance
end Go.Proofs.Ytjlglfhnnipjaaa
