/-
  Layer 14: SyntaxParses walked.
-/
import Derived.Test.YtekahmlppaabjaaGreatDoorZSynLives
import Derived.Test.YtekahmlppaabjaaGreatDoorZSynRefP
import Derived.Test.YtekahmlppaabjaaGreatDoorPk4
namespace Go.Proofs.YtekahmlppaabjaaGreatDoor
open Go.RowKit
open Sx (X)
set_option maxRecDepth 100000 in
set_option maxHeartbeats 12800000 in
theorem SyntaxParses_walk (s : ByteArray) (_hs : s.size ≤ maxLen) (w : World) (hF : Facts14 w) : Calls Tryz.prog 3 #[.string s] w fun e w' => e = .returned (.bool true) ∧ Below w.heap.size w w' := by
  have HLv := Lib.hid fun (wx : World) (hb : Below w.heap.size w wx) => lives14_any wx (facts14_below hF hb)
  by_cases hbig : (s.size : Int) > 1000
  · have HL := Lib.hid (HLv.out w (Below.refl _ _))
    clear hF HLv
    go_enter Tryz.func3, Tryz.ntmps3
    go_wp2_with fail
    refine HL.out.mono ?_
    rintro e w1 ⟨rfl, hb1⟩
    have H1 := Lib.hid hb1
    clear hb1
    go_wp2_with fail
    go_ret
    exact ⟨rfl, H1.out⟩
  · have cP := parse14_any s w hF.2.2 hF.2.1
    have cR := Lib.hid fun (wx : World) => rparse14_any s wx
    have htk := lexS_toks s
    have hok := Sx.parse_ok (n := s.size) (t := lexS s) fun u hu => (htk.1 u hu).1
    have herr := Sx.parse_err (n := s.size) (t := lexS s) (fun h => htk.2.2 h) fun u hu => (htk.1 u hu).2.2
    obtain ⟨PT, hPT⟩ : ∃ PT, Sx.parseT s.size (lexS s) = PT := ⟨_, rfl⟩
    rw [hPT] at cP cR hok herr
    obtain ⟨x, at0, el⟩ := PT
    have hx : Sx.okX x := by
      by_cases he : el = 0
      · obtain ⟨h1, h2, _⟩ := hok he
        exact (Sx.fine_is (Sx.fine_right _ x (Nat.le_refl _) h1 h2)).1
      · have h1 : x = Sx.no := (herr he).1
        subst h1
        exact (Sx.fine_is Sx.fine_no).1
    have H := Lib.hid (And.intro cP (And.intro hF hx))
    clear cP hF hok herr htk hPT hx
    go_enter Tryz.func3, Tryz.ntmps3
    go_wp2_with fail
    refine H.out.1.mono ?_
    rintro e w1 ⟨a1, c1, rfl, hx, hb⟩
    dsimp only
    have hxn := x_new x a1 c1 w1
    have hB2 := hb.trans (hxn.2.1.mono hb.size)
    obtain ⟨e0, e1, e2, e3, e4, e5⟩ := x_cells hxn.1
    simp only [Nat.zero_add] at e0 e1 e2 e3 e4 e5
    have H1 := Lib.hid (And.intro hB2 (And.intro (xat_below hx hxn.2.1) (And.intro hxn (cR.out (w1.alloc (.cells (xC x a1 c1) 29))))))
    clear hx hb hxn hB2 cR
    go_wp2_with fail
    refine H1.out.2.2.2.mono ?_
    rintro e w2 ⟨a2, c2, rfl, hy, hb2⟩
    dsimp only
    have hyn := x_new x a2 c2 w2
    have hb3 := hb2.trans (hyn.2.1.mono hb2.size)
    have hB3 := H1.out.1.trans (hb3.mono H1.out.1.size)
    have hx3 := xat_below H1.out.2.1 hb3
    have hy3 := xat_below hy hyn.2.1
    obtain ⟨d0, d1, d2, d3, d4, d5⟩ := x_cells (rowV_below H1.out.2.2.1.1 hb3 (by have := H1.out.2.2.1.2.2; omega))
    obtain ⟨g0, g1, g2, g3, g4, g5⟩ := x_cells hyn.1
    simp only [Nat.zero_add] at d0 d1 d2 d3 d4 d5 g0 g1 g2 g3 g4 g5
    have cS := rsame14_any _ _ (Sx.deep x) x x (Nat.le_refl _) H.out.2.2 a1 a2 c1 c2 _ hx3 hy3
    rw [(Sx.sameB_iff x x).2 rfl] at cS
    have H3 := Lib.hid (And.intro hB3 cS)
    clear hy hb2 hyn hb3 hB3 hx3 hy3 cS
    go_wp2_with fail
    refine H3.out.2.mono ?_
    rintro e w4 ⟨rfl, hb4⟩
    have hB4 := H3.out.1.trans (hb4.mono H3.out.1.size)
    have H4 := Lib.hid (And.intro hB4 (HLv.out _ hB4))
    clear hb4 hB4
    go_wp2_with fail
    refine H4.out.2.mono ?_
    rintro e w5 ⟨rfl, hb5⟩
    have H5 := Lib.hid (H4.out.1.trans (hb5.mono H4.out.1.size))
    clear hb5
    go_wp2_with fail
    go_ret
    exact ⟨rfl, H5.out⟩
end Go.Proofs.YtekahmlppaabjaaGreatDoor
