/-
  Layer 14: SyntaxAgain walked.
-/
import Derived.Test.YtekahmlppaabjaaDoorZSynLives
namespace Go.Proofs.YtekahmlppaabjaaDoor
open Go.RowKit
open Sx (X)
namespace Sx
mutual
theorem po_len : ∀ (x : X) (d : Nat), (po x d).length = size x
  | .mk o v s l, d => by rw [po, List.length_cons, poL_len l (d + 1), size]; omega
theorem poL_len : ∀ (l : List X) (d : Nat), (poL l d).length = sizeL l
  | [], d => by rw [poL, sizeL]; rfl
  | x :: r, d => by rw [poL, List.length_append, po_len x d, poL_len r d, sizeL]
end
/-- what was written is parsed as it was -/
theorem parse_written {x : X} (hr : right x = true) (hf : fit x = true) (hd : deep x ≤ 12) (hs : ¬ 200 < (flat (wr x 0)).length) : parseT (Lx.mk (flat (wr x 0))).size (lexS (Lx.mk (flat (wr x 0)))) = (x, 0, 0) := by
  obtain ⟨m, h1, h2⟩ := lex_wr hr hf
  have hz : (Lx.mk (flat (wr x 0))).size = (flat (wr x 0)).length := List.size_toArray ..
  have e : lexS (Lx.mk (flat (wr x 0))) = (m, 0, 0) := by
    unfold lexS
    rw [hz, if_neg hs]
    exact h1
  rw [e]
  exact parse_back hr hd h2 _
end Sx
set_option maxRecDepth 100000 in
set_option maxHeartbeats 12800000 in
theorem SyntaxAgain_walk (s : ByteArray) (_hs : s.size ≤ maxLen) (w : World) (hF : Facts14 w) : Calls Tryd.prog 3 #[.string s] w fun e w' => e = .returned (.bool true) ∧ Below w.heap.size w w' := by
  have HLv := Lib.hid fun (wx : World) (hb : Below w.heap.size w wx) => lives14_any wx (facts14_below hF hb)
  by_cases hbig : (s.size : Int) > 1000
  · have HL := Lib.hid (HLv.out w (Below.refl _ _))
    clear hF HLv
    go_enter Tryd.func3, Tryd.ntmps3
    go_wp2_with fail
    refine HL.out.mono ?_
    rintro e w1 ⟨rfl, hb1⟩
    have H1 := Lib.hid hb1
    clear hb1
    go_wp2_with fail
    go_ret
    exact ⟨rfl, H1.out⟩
  · have cP := parse14_any s w hF.2.2 hF.2.1
    have htk := lexS_toks s
    have hok := Sx.parse_ok (n := s.size) (t := lexS s) fun u hu => (htk.1 u hu).1
    have herr := Sx.parse_err (n := s.size) (t := lexS s) (fun h => htk.2.2 h) fun u hu => (htk.1 u hu).2.2
    obtain ⟨PT, hPT⟩ : ∃ PT, Sx.parseT s.size (lexS s) = PT := ⟨_, rfl⟩
    rw [hPT] at cP hok herr
    obtain ⟨x, at0, el⟩ := PT
    have H := Lib.hid (And.intro cP (And.intro hF (And.intro hok herr)))
    clear cP hF hok herr htk hPT
    go_enter Tryd.func3, Tryd.ntmps3
    go_wp2_with fail
    refine H.out.1.mono ?_
    rintro e w1 ⟨a1, c1, rfl, hx, hb⟩
    dsimp only
    replace hx : XU w1 x a1 := xu_of hx
    have hxn := x_new x a1 c1 w1
    have hB2 := hb.trans (hxn.2.1.mono hb.size)
    obtain ⟨e0, e1, e2, e3, e4, e5⟩ := x_cells hxn.1
    simp only [Nat.zero_add] at e0 e1 e2 e3 e4 e5
    have H1 := Lib.hid (And.intro hB2 (And.intro (xu_below hx hxn.2.1) hxn))
    clear hx hb hxn hB2
    by_cases he : el = 0
    · subst he
      obtain ⟨h1, h2, h3, h4⟩ := H.out.2.2.1 rfl
      replace h1 : Sx.right x = true := h1
      replace h2 : Sx.fit x = true := h2
      replace h3 : Sx.deep x ≤ 12 := h3
      replace h4 : at0 = 0 := h4
      subst h4
      have hfine := Sx.fine_right _ x (Nat.le_refl _) h1 h2
      have hR := Sx.right_parts x 1
      rw [h1] at hR
      have hF2 := facts14_below H.out.2.1 H1.out.1
      have hsz : (Sx.po x 1).length ≤ 1000000 := by rw [Sx.po_len]; have := Sx.size_12 h3 h1; omega
      have hT : Sx.textE x = if 200 < (Sx.flat (Sx.wr x 0)).length then (Vl.mt, 5) else (Lx.mk (Sx.flat (Sx.wr x 0)), 0) := by
        unfold Sx.textE; rw [if_pos h1, if_neg (by omega)]
      have HX := Lib.hid (And.intro h1 (And.intro h2 (And.intro h3 (And.intro hfine (And.intro hsz hT)))))
      -- the calls on x, in whatever world behind
      have HA := Lib.hid fun (wx : World) (hb : Below (w1.alloc (.cells (xC x a1 c1) 29)).heap.size (w1.alloc (.cells (xC x a1 c1) 29)) wx) => (check14_any (mk := False) x a1 c1 wx (xu_ok (xu_below H1.out.2.1 hb)) hfine (by omega) (errR_below hF2.2.1 hb)).mono fun e w' h => (by
        obtain ⟨r, h1, h2, h3⟩ := h
        rcases h3 with h3 | h3
        · rw [h3.1] at h1; exact And.intro h1 h2
        · rcases h3.2 with h4 | h4
          · rw [← hR] at h4; cases h4
          · exact h4.elim : e = .returned (.int .i64 0) ∧ Below wx.heap.size wx w')
      have HD := Lib.hid fun (wx : World) (hb : Below (w1.alloc (.cells (xC x a1 c1) 29)).heap.size (w1.alloc (.cells (xC x a1 c1) 29)) wx) => (deep14_any (mk := False) x a1 c1 wx (xu_ok (xu_below H1.out.2.1 hb)) hfine (by omega)).mono fun e w' h => (by
        obtain ⟨r, h1, h2, h3⟩ := h
        rw [h3.resolve_right id] at h1
        exact And.intro h1 h2 : e = .returned (.int .i64 (Sx.deep x : Nat)) ∧ Below wx.heap.size wx w')
      have HTx := Lib.hid fun (wx : World) (y : X) (ay : Option Addr) (cy : Nat) (hb : Below (w1.alloc (.cells (xC x a1 c1) 29)).heap.size (w1.alloc (.cells (xC x a1 c1) 29)) wx) (hy : XU wx y ay) (e : y = x) => (text14_any (mk := False) y ay cy wx (xu_ok hy) (e ▸ hfine) (by subst e; omega) (fun h => h.elim) (errR_below hF2.2.1 hb) (twos_below hF2.2.2 hb) (pow10_below hF2.1 hb)).mono fun e' w' h => (by
        obtain ⟨s, r, h1, h2, h3⟩ := h
        rcases h3 with h3 | h3
        · rw [e] at h3
          have e1 : s = _ := congrArg Prod.fst h3
          have e2 : r = _ := congrArg Prod.snd h3
          rw [e1, e2] at h1; exact And.intro h1 h2
        · exact h3.1.elim : e' = .returned (.tuple #[.string (Sx.textE x).1, .int .i64 (Sx.textE x).2]) ∧ Below wx.heap.size wx w')
      have HC := Lib.hid fun (wx : World) (hb : Below (w1.alloc (.cells (xC x a1 c1) 29)).heap.size (w1.alloc (.cells (xC x a1 c1) 29)) wx) => x_cells (rowV_below H1.out.2.2.1 hb (by have := H1.out.2.2.2.2; omega))
      have hdx : Sx.deep x ≤ 12 := h3
      obtain ⟨DX, hDX⟩ : ∃ DX, Sx.deep x = DX := ⟨_, rfl⟩
      rw [hDX] at HD hdx
      have t12 : decide ((DX : Int) > 12) = false := decide_eq_false (by omega)
      have t12' : decide ((12 : Int) < (DX : Int)) = false := decide_eq_false (by omega)
      clear h1 h2 h3 hfine hR hF2 hsz hT hDX
      go_wp2_with fail
      refine (HA.out _ (Below.refl _ _)).mono ?_
      rintro e w2 ⟨rfl, hb2⟩
      obtain ⟨d0, d1, d2, d3, d4, d5⟩ := HC.out _ hb2
      simp only [Nat.zero_add] at d0 d1 d2 d3 d4 d5
      have HB2 := Lib.hid hb2
      clear hb2
      go_wp2_with fail
      refine (HD.out _ HB2.out).mono ?_
      rintro e w3 ⟨rfl, hb3⟩
      have HB3 := Lib.hid (HB2.out.trans (hb3.mono HB2.out.size))
      obtain ⟨k0, k1, k2, k3, k4, k5⟩ := HC.out _ HB3.out
      simp only [Nat.zero_add] at k0 k1 k2 k3 k4 k5
      clear hb3
      go_wp2_with fail
      refine (HTx.out _ x a1 c1 HB3.out (xu_below H1.out.2.1 HB3.out) rfl).mono ?_
      rintro e w4 ⟨rfl, hb4⟩
      have HB4 := Lib.hid (HB3.out.trans (hb4.mono HB3.out.size))
      clear hb4
      by_cases hl : 200 < (Sx.flat (Sx.wr x 0)).length
      · have e1 : Sx.textE x = (Vl.mt, 5) := HX.out.2.2.2.2.2.trans (if_pos hl)
        rw [e1]
        dsimp only
        have hLv := HLv.out w4 (H1.out.1.trans (HB4.out.mono H1.out.1.size))
        have HLv4 := Lib.hid hLv
        clear hLv hl e1
        go_wp2_with fail
        refine HLv4.out.mono ?_
        rintro e w5 ⟨rfl, hb5⟩
        have H5 := Lib.hid ((H1.out.1.trans (HB4.out.mono H1.out.1.size)).trans (hb5.mono (H1.out.1.trans (HB4.out.mono H1.out.1.size)).size))
        clear hb5
        go_wp2_with fail
        go_ret
        exact ⟨rfl, H5.out⟩
      · have e1 : Sx.textE x = (Lx.mk (Sx.flat (Sx.wr x 0)), 0) := HX.out.2.2.2.2.2.trans (if_neg hl)
        have hpw := Sx.parse_written HX.out.1 HX.out.2.1 HX.out.2.2.1 hl
        have hF4 := facts14_below H.out.2.1 (H1.out.1.trans (HB4.out.mono H1.out.1.size))
        rw [e1] at HTx ⊢
        dsimp only at HTx ⊢
        obtain ⟨TT, hTT⟩ : ∃ TT, Lx.mk (Sx.flat (Sx.wr x 0)) = TT := ⟨_, rfl⟩
        rw [hTT] at HTx hpw ⊢
        have cP := parse14_any TT w4 hF4.2.2 hF4.2.1
        rw [hpw] at cP
        have HP := Lib.hid cP
        clear hl e1 hpw hF4 hTT cP
        go_wp2_with fail
        refine HP.out.mono ?_
        rintro e w5 ⟨a5, c5', rfl, hx5, hb5⟩
        dsimp only
        replace hx5 : XU w5 x a5 := xu_of hx5
        have hyn := x_new x a5 c5' w5
        have hB5 := HB4.out.trans (hb5.mono HB4.out.size)
        have hB6 := hB5.trans (hyn.2.1.mono hB5.size)
        have hx6 := xu_below hx5 hyn.2.1
        obtain ⟨m0, m1, m2, m3, m4, m5⟩ := x_cells hyn.1
        simp only [Nat.zero_add] at m0 m1 m2 m3 m4 m5
        have H6 := Lib.hid (And.intro hB6 (And.intro hx6 hyn))
        clear hx5 hb5 hyn hB5 hB6 hx6
        go_wp2_with fail
        refine (HTx.out _ x a5 c5' H6.out.1 H6.out.2.1 rfl).mono ?_
        rintro e w7 ⟨rfl, hb7⟩
        have hB7 := H6.out.1.trans (hb7.mono H6.out.1.size)
        obtain ⟨n0, n1, n2, n3, n4, n5⟩ := HC.out _ hB7
        obtain ⟨o0, o1, o2, o3, o4, o5⟩ := x_cells (rowV_below H6.out.2.2.1 hb7 (by have := H6.out.2.2.2.2; omega))
        simp only [Nat.zero_add] at n0 n1 n2 n3 n4 n5 o0 o1 o2 o3 o4 o5
        have cS := same14_any (mk := False) x x a1 a5 c1 c5' w7 (xu_ok (xu_below H1.out.2.1 hB7)) (xu_ok (xu_below H6.out.2.1 hb7)) HX.out.2.2.2.1 HX.out.2.2.2.1 (by have := HX.out.2.2.1; omega) (by have := HX.out.2.2.1; omega) HX.out.2.2.2.2.1 HX.out.2.2.2.2.1
        have H7 := Lib.hid (And.intro hB7 cS)
        clear hb7 hB7 cS
        go_wp2_with fail
        refine H7.out.2.mono ?_
        rintro e w8 ⟨r8, rfl, hb8, hr8⟩
        obtain rfl : r8 = true := (hr8.resolve_right id).2 rfl
        have hB8 := H1.out.1.trans ((H7.out.1.trans (hb8.mono H7.out.1.size)).mono H1.out.1.size)
        have H8 := Lib.hid (And.intro hB8 (HLv.out _ hB8))
        clear hb8 hB8 hr8
        go_wp2_with fail
        refine H8.out.2.mono ?_
        rintro e w9 ⟨rfl, hb9⟩
        have H9 := Lib.hid (H8.out.1.trans (hb9.mono H8.out.1.size))
        clear hb9
        go_wp2_with fail
        go_ret
        exact ⟨rfl, H9.out⟩
    · have t0 : (el != 0) = true := by simp; exact he
      obtain ⟨h1, h2, h3⟩ := H.out.2.2.2 he
      replace h1 : x = Sx.no := h1
      replace h2 : 0 ≤ at0 := h2
      replace h3 : at0 ≤ (s.size : Int) := h3
      subst h1
      have g1 : decide (at0 ≥ 0) = true := decide_eq_true h2
      have g2 : decide (at0 ≤ (s.size : Int)) = true := decide_eq_true h3
      have g3 : decide ((0 : Int) ≤ at0) = true := decide_eq_true h2
      have cS := same14_any (mk := False) Sx.no Sx.no a1 none c1 0 _ (xu_ok H1.out.2.1) (xu_ok (xat_no _ _ _)) Sx.fine_no Sx.fine_no (by decide) (by decide) (by decide) (by decide)
      have HS := Lib.hid cS
      clear cS he
      go_wp2_with fail
      refine HS.out.mono ?_
      rintro e w8 ⟨r8, rfl, hb8, hr8⟩
      obtain rfl : r8 = true := (hr8.resolve_right id).2 rfl
      have hB8 := H1.out.1.trans (hb8.mono H1.out.1.size)
      have H8 := Lib.hid (And.intro hB8 (HLv.out _ hB8))
      clear hb8 hB8 hr8
      go_wp2_with fail
      refine H8.out.2.mono ?_
      rintro e w9 ⟨rfl, hb9⟩
      have H9 := Lib.hid (H8.out.1.trans (hb9.mono H8.out.1.size))
      clear hb9
      go_wp2_with fail
      go_ret
      exact ⟨rfl, H9.out⟩
end Go.Proofs.YtekahmlppaabjaaDoor
