/-
  Layer 14, the program's: an expression's text.
-/
import Derived.Test.YtekahmlppaabjaaGreatDoorZSynPrM
import Derived.Test.YtekahmlppaabjaaGreatDoorZSynPrL
import Derived.Test.YtekahmlppaabjaaGreatDoorZSynPrH
import Derived.Test.YtekahmlppaabjaaGreatDoorPk5
namespace Go.Proofs.YtekahmlppaabjaaGreatDoor
open Go.RowKit
open Sx (X)
/-- what Text tells of an expression (whose rows may bear a mark, where mk) -/
def TextP (mk : Prop) (x : X) (w : World) (e : Ending) (w' : World) : Prop :=
  ∃ (s : ByteArray) (r : Int), e = .returned (.tuple #[.string s, .int .i64 r]) ∧ Below w.heap.size w w' ∧ ((s, r) = Sx.textE x ∨ (mk ∧ ((s = Vl.mt ∧ (r = 2 ∨ r = 5 ∨ r = 12)) ∨ (r = 0 ∧ Sx.right x = true ∧ s = Sx.wt x 0 ∧ s.size ≤ 200))))
theorem wt_flat (x : X) : (Sx.wt x 0).size = (Sx.flat (Sx.wr x 0)).length := by unfold Sx.wt; show (Sx.flat (Sx.wr x 0)).toArray.size = _; rw [List.size_toArray]
set_option maxRecDepth 100000 in
set_option maxHeartbeats 6400000 in
theorem text14_any {mk : Prop} (x : X) (a : Option Addr) (c : Nat) (w : World) (hX : XOk w w.heap.size mk x a) (hf : Sx.fine x) (hdp : Sx.deep x ≤ 1000) (hsz : mk → Sx.right x = true → Sx.size x ≤ 900000) (hE : ErrR w) (hT : Twos w) (hP : Pow10 w) :
    Calls Tryz.prog 8 #[xV x a c] w (TextP mk x w) := by
  have hB0 := Lib.hid (x_new x a c w).2.1
  have HL := Lib.hid fun (wr : World) (hb : Below (w.alloc (.cells (xC x a c) 29)).heap.size (w.alloc (.cells (xC x a c) 29)) wr) => x_look hb
  have up : ∀ (wr : World), Below w.heap.size w wr → XOk wr wr.heap.size mk x a := fun wr hb => xok_same hb.size (fun j hj => hb.block j hj) x a hX
  have HA := Lib.hid fun (wr : World) (hb : Below w.heap.size w wr) => check14_any x a c wr (up wr hb) hf hdp (errR_below hE hb)
  have HD := Lib.hid fun (wr : World) (hb : Below w.heap.size w wr) => deep14_any x a c wr (up wr hb) hf hdp
  have hok := (Sx.fine_is hf).1
  have HW := Lib.hid fun (hr : Sx.right x = true) (hs : Sx.size x ≤ 900000) (wr : World) (hb : Below w.heap.size w wr) => written14_any (fun j => j < w.heap.size) _ x (Nat.le_refl _) hr hok (Sx.fit_ok x hok) hs 0 (by omega) a c wr (xat_below (xok_at x a hX) hb) (twos_below hT hb) (pow10_below hP hb)
  have HS := Lib.hid hsz
  have HR := Lib.hid (Sx.right_parts x 1)
  obtain ⟨⟨c0, c1, c2, c3, c4, c5⟩, _⟩ := HL.out _ (Below.refl _ _)
  simp only [Nat.zero_add] at c0 c1 c2 c3 c4 c5
  clear hX hf hE hT hP up hok hsz
  go_enter Tryz.func8, Tryz.ntmps8
  go_wp2_with fail
  refine (HA.out _ hB0.out).mono ?_
  rintro e w1 ⟨r, rfl, hb1, hr⟩
  obtain ⟨⟨d0, d1, d2, d3, d4, d5⟩, hbb⟩ := HL.out _ hb1
  simp only [Nat.zero_add] at d0 d1 d2 d3 d4 d5
  have HB1 := Lib.hid hbb
  have H1 := Lib.hid hb1
  clear hb1 hbb
  rcases hr with ⟨rfl, hr⟩ | ⟨rfl, hr⟩
  · rw [← HR.out] at hr
    have HRT := Lib.hid hr
    clear hr
    go_wp2_with fail
    refine (HD.out _ HB1.out).mono ?_
    rintro e w2 ⟨dp, rfl, hb2, hd⟩
    have HB2 := Lib.hid (HB1.out.trans (hb2.mono HB1.out.size))
    obtain ⟨⟨g0, g1, g2, g3, g4, g5⟩, hbb⟩ := HL.out _ (H1.out.trans (hb2.mono H1.out.size))
    simp only [Nat.zero_add] at g0 g1 g2 g3 g4 g5
    clear hb2 hbb
    by_cases h12 : 12 < dp
    · have t12 : decide (12 < (dp : Int)) = true := decide_eq_true (by omega)
      have HF := Lib.hid (And.intro hd h12)
      clear hd h12
      go_wp2_with fail
      go_ret2
      refine ⟨_, _, rfl, HB2.out, ?_⟩
      rcases HF.out.1 with h | h
      · left; unfold Sx.textE; rw [if_pos HRT.out, if_pos (by rw [← h]; exact HF.out.2)]
      · exact .inr ⟨h, .inl ⟨rfl, .inr (.inr rfl)⟩⟩
    · have t12 : decide (12 < (dp : Int)) = false := decide_eq_false (by omega)
      have hs : Sx.size x ≤ 900000 := by
        rcases hd with h | h
        · have := Sx.size_12 (x := x) (by omega) HRT.out; omega
        · exact HS.out h HRT.out
      have HF := Lib.hid (And.intro hd h12)
      have HW2 := Lib.hid (HW.out HRT.out hs)
      have HZ := Lib.hid (wt_flat x)
      have HZ2 := Lib.hid (show Sx.wt x 0 = Lx.mk (Sx.flat (Sx.wr x 0)) from rfl)
      clear hd h12 hs
      obtain ⟨T, hT⟩ : ∃ T, Sx.wt x 0 = T := ⟨_, rfl⟩
      have HT := Lib.hid hT
      rw [hT] at HW2
      clear hT
      go_wp2_with fail
      refine (HW2.out _ HB2.out).mono ?_
      rintro e w3 ⟨rfl, hb3⟩
      have HB3 := Lib.hid (HB2.out.trans (hb3.mono HB2.out.size))
      clear hb3
      by_cases hZ : 200 < T.size
      · have t2 : decide (200 < (T.size : Int)) = true := decide_eq_true (by omega)
        have HZZ := Lib.hid hZ
        clear hZ
        go_wp2_with fail
        go_ret2
        refine ⟨_, _, rfl, HB3.out, ?_⟩
        rcases HF.out.1 with h | h
        · left; unfold Sx.textE; rw [if_pos HRT.out, if_neg (by rw [← h]; exact HF.out.2), if_pos (by rw [← HZ.out, HT.out]; exact HZZ.out)]
        · exact .inr ⟨h, .inl ⟨rfl, .inr (.inl rfl)⟩⟩
      · have t2 : decide (200 < (T.size : Int)) = false := decide_eq_false (by omega)
        have HZZ := Lib.hid hZ
        clear hZ
        go_wp2_with fail
        go_ret2
        refine ⟨_, _, rfl, HB3.out, ?_⟩
        rcases HF.out.1 with h | h
        · left; unfold Sx.textE; rw [if_pos HRT.out, if_neg (by rw [← h]; exact HF.out.2), if_neg (by rw [← HZ.out, HT.out]; exact HZZ.out), ← HZ2.out, HT.out]
        · exact .inr ⟨h, .inr ⟨rfl, HRT.out, HT.out.symm, by have := HZZ.out; omega⟩⟩
  · rw [← HR.out] at hr
    have HRT := Lib.hid hr
    clear hr
    go_wp2_with fail
    go_ret2
    refine ⟨_, _, rfl, HB1.out, ?_⟩
    rcases HRT.out with h | h
    · left; unfold Sx.textE; rw [if_neg (by rw [h]; exact Bool.false_ne_true)]
    · exact .inr ⟨h, .inl ⟨rfl, .inl rfl⟩⟩
end Go.Proofs.YtekahmlppaabjaaGreatDoor
