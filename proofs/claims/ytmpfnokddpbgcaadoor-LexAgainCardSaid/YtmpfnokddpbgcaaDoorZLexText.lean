/-
  Layer 13: a token's text, the document's.
-/
import Derived.Test.YtmpfnokddpbgcaaDoorZLexMark
import Derived.Test.YtmpfnokddpbgcaaDoorPk2
namespace Go.Proofs.YtmpfnokddpbgcaaDoor
open Go.RowKit
def Lx.textT (t : Lx.T) : ByteArray × Int := if Lx.right t then (Lx.mk (Lx.textL t), 0) else (Vl.mt, 2)
set_option maxRecDepth 100000 in
set_option maxHeartbeats 6400000 in
theorem rText13_any (t : Lx.T) (w : World) (hs : t.s.size ≤ maxLen) (hn : t.n ≤ 9223372036854775807) :
    Calls Tryd.prog 16 #[tokV t] w fun e w' => e = .returned (.tuple #[.string (Lx.textT t).1, .int .i64 (Lx.textT t).2]) ∧ Below w.heap.size w w' := by
  obtain ⟨r0, b0, s0⟩ := tok_new t w
  have cR := fun w => rright13_any t w hs
  have hT : Lx.textT t = if Lx.right t then (Lx.mk (Lx.textL t), 0) else (Vl.mt, 2) := rfl
  have hw : ∀ w', Below (w.alloc (.cells (tokC t) 33)).heap.size (w.alloc (.cells (tokC t) 33)) w' → Below w.heap.size w w' := fun w' h => below_box _ h
  by_cases hr : Lx.right t
  · rw [if_pos hr] at hT
    rw [decide_eq_true hr] at cR
    have H := Lib.hid (And.intro cR (And.intro hT (And.intro r0 (And.intro b0 hw))))
    obtain ⟨k, s, n, a⟩ := t
    have hlt : w.heap.size < (w.alloc (.cells (tokC ⟨k, s, n, a⟩) 33)).heap.size := by rw [s0]; omega
    by_cases h2 : k = 2
    · subst h2
      have hn0 := (right13_2.1 hr).1
      have HD := Lib.hid (fun wx => digits_any n.natAbs n (Nat.le_refl _) (by omega) hn wx)
      have he : Lx.textL ⟨2, s, n, a⟩ = Lib.itoa n := rfl
      have HE := Lib.hid he
      clear cR hT r0 b0 hr hw hn hn0 hs he s0
      go_enter Tryd.func16, Tryd.ntmps16
      go_wp2_with (go_at_call 24; refine (H.out.1 _).mono ?_; rintro e w1 ⟨rfl, hb⟩; obtain ⟨c0, c1, c2, c3, _⟩ := tok_cells (rowV_below H.out.2.2.1 hb hlt); have HB := Lib.hid (H.out.2.2.2.2 _ hb); clear hb)
      refine (HD.out _).mono ?_
      rintro e w2 ⟨rfl, hb2⟩
      have HB2 := Lib.hid (HB.out.trans (hb2.mono HB.out.size))
      clear hb2
      go_wp2_with fail
      go_ret2
      exact ⟨by rw [H.out.2.1, HE.out]; rfl, HB2.out⟩
    · by_cases h3 : k = 3
      · subst h3
        have HD := Lib.hid (fun wx => rquote_any s (right13_3.1 hr).2 wx)
        have he : Lx.textL ⟨3, s, n, a⟩ = Vl.quoteL s.data.toList := rfl
        have HE := Lib.hid he
        clear cR hT r0 b0 hr hw hn hs he s0
        go_enter Tryd.func16, Tryd.ntmps16
        go_wp2_with (go_at_call 24; refine (H.out.1 _).mono ?_; rintro e w1 ⟨rfl, hb⟩; obtain ⟨c0, c1, c2, c3, _⟩ := tok_cells (rowV_below H.out.2.2.1 hb hlt); have HB := Lib.hid (H.out.2.2.2.2 _ hb); clear hb)
        refine (HD.out _).mono ?_
        rintro e w2 ⟨rfl, rfl⟩
        go_wp2_with fail
        go_ret2
        exact ⟨by rw [H.out.2.1, HE.out]; rfl, HB.out⟩
      · have he : Lx.mk (Lx.textL ⟨k, s, n, a⟩) = s := by unfold Lx.textL; rw [if_neg h2, if_neg h3]
        have HE := Lib.hid he
        clear cR hT r0 b0 hr hw hn hs he s0
        go_enter Tryd.func16, Tryd.ntmps16
        go_wp2_with (go_at_call 24; refine (H.out.1 _).mono ?_; rintro e w1 ⟨rfl, hb⟩; obtain ⟨c0, c1, c2, c3, _⟩ := tok_cells (rowV_below H.out.2.2.1 hb hlt); have HB := Lib.hid (H.out.2.2.2.2 _ hb); clear hb)
        go_ret2
        exact ⟨by rw [H.out.2.1, HE.out]; rfl, HB.out⟩
  · rw [if_neg hr] at hT
    rw [decide_eq_false hr] at cR
    have H := Lib.hid (And.intro cR (And.intro hT hw))
    obtain ⟨k, s, n, a⟩ := t
    clear cR hT r0 b0 hr hw
    go_enter Tryd.func16, Tryd.ntmps16
    go_wp2_with (go_at_call 24; refine (H.out.1 _).mono ?_; rintro e w1 ⟨rfl, hb⟩; have HB := Lib.hid (H.out.2.2 _ hb); clear hb)
    go_ret2
    exact ⟨by rw [H.out.2.1]; rfl, HB.out⟩
end Go.Proofs.YtmpfnokddpbgcaaDoor
