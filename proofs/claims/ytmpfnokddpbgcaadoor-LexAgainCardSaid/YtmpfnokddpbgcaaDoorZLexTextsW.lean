/-
  Layer 13: LexTexts walked.
-/
import Derived.Test.YtmpfnokddpbgcaaDoorZLexLawsW
import Derived.Test.YtmpfnokddpbgcaaDoorZLexOpen
namespace Go.Proofs.YtmpfnokddpbgcaaDoor
open Go.RowKit
/-- the loop's token: the last one that was gone by -/
structure LastAt (w : World) (x : Lx.T) (wr : World) : Prop where
  row : RowV wr w.heap.size 33 (tokC x).toList
  fit : x.s.size ≤ 300 ∧ -9223372036854775808 ≤ x.n ∧ x.n ≤ 9223372036854775807
  bel : Below w.heap.size w wr
set_option maxRecDepth 100000 in
set_option maxHeartbeats 6400000 in
theorem LexTexts_walk (L : List Lx.T) (a : Option Addr) (c : Nat) (_hm : L.length ≤ maxLen) (w : World) (hrd : ReadsTF w a L) (hF : Facts13 w) :
    Calls Tryd.prog 4 #[.slice a L.length c] w fun e w' => e = .returned (.bool true) ∧ Below w.heap.size w w' := by
  have HF := Lib.hid hF
  clear hF
  by_cases hb : (L.length : Int) > 200
  · have H := Lib.hid (lives13_any w HF.out.2)
    go_enter Tryd.func4, Tryd.ntmps4
    go_wp2_with fail
    refine H.out.mono ?_
    rintro e w1 ⟨rfl, hb1⟩
    have H1 := Lib.hid hb1
    clear hb1
    go_wp2_with fail
    go_ret
    exact ⟨rfl, H1.out⟩
  · obtain ⟨r0, b0, s0⟩ := tok_new Lx.no w
    have H0 : Hid (LastAt w Lx.no (w.alloc (.cells (tokC Lx.no) 33))) := Lib.hid ⟨r0, ⟨by decide, by decide, by decide⟩, b0⟩
    clear r0 b0 s0
    have HR := Lib.hid hrd
    clear hrd
    go_enter Tryd.func4, Tryd.ntmps4
    go_wp2_with fail
    go_loopw [4] (fun i wr => ∃ (k : Nat) (x : Lx.T), k ≤ L.length ∧ i = .int .i64 (k : Int) ∧ Hid (∀ j (h : j < L.length), j < k → L[j].s.size ≤ 300) ∧ Hid (LastAt w x wr)) (fun i _ => L.length - (intOf i).toNat)
    case atStart => exact ⟨0, Lx.no, Nat.zero_le _, rfl, Lib.hid (by intro j _ h; omega), H0⟩
    case round =>
      obtain ⟨k, x, hk, rfl, HK, HX⟩ := hrel
      by_cases hlt : k < L.length
      · obtain ⟨b, off, rfl, c0, c1, c2, c3⟩ := readsT13_at (readsT13_below HR.out.1 HX.out.bel) k hlt
        have hf := HR.out.2 _ (List.getElem_mem hlt)
        by_cases hz : (L[k].s.size : Int) > 300
        · have H := Lib.hid (lives13_any wr (errR_below HF.out.2 HX.out.bel))
          generalize L[k] = y at *
          obtain ⟨yk, ys, yn, ya⟩ := y
          clear hf
          go_wp2_with fail
          refine H.out.mono ?_
          rintro e w1 ⟨rfl, hb1⟩
          have H1 := Lib.hid (HX.out.bel.trans (hb1.mono HX.out.bel.size))
          clear hb1
          go_wp2_with fail
          go_ret
          exact ⟨rfl, H1.out⟩
        · have HN : Hid (∀ j (h : j < L.length), j < k + 1 → L[j].s.size ≤ 300) := Lib.hid (by
            intro j h hj
            by_cases hjk : j < k
            · exact HK.out j h hjk
            · obtain rfl : j = k := by omega
              omega)
          generalize L[k] = y at *
          obtain ⟨yk, ys, yn, ya⟩ := y
          obtain ⟨a0, a1, a2, a3, g0, g1, g2, g3⟩ := tok_cells HX.out.row
          have hp := tok_put HX.out.row yk ys yn ya
          have HP : Hid (LastAt w ⟨yk, ys, yn, ya⟩ ((((wr.setCell ⟨w.heap.size, 0, none⟩ (.int .i64 yk)).setCell ⟨w.heap.size, 1, none⟩ (.string ys)).setCell ⟨w.heap.size, 2, none⟩ (.int .i64 yn)).setCell ⟨w.heap.size, 3, none⟩ (.int .i64 ya))) :=
            Lib.hid ⟨hp.1, ⟨by have h : ¬ ((ys.size : Int) > 300) := hz; show ys.size ≤ 300; omega, hf.1.1, hf.1.2⟩, HX.out.bel.trans (hp.2 _ (Nat.le_refl _))⟩
          clear hf hp
          go_wp2_with fail
          go_roundw
          case rel => exact ⟨k + 1, ⟨yk, ys, yn, ya⟩, by omega, by go_num, HN, HP⟩
          case measure => simp [intOf]; omega
      · obtain rfl : k = L.length := by omega
        have hS : ∀ t ∈ L, t.s.size ≤ 300 ∧ -9223372036854775808 ≤ t.n ∧ t.n ≤ 9223372036854775807 := fun t ht => by
          obtain ⟨j, hj, rfl⟩ := List.getElem_of_mem ht
          have := HR.out.2 _ ht
          exact ⟨HK.out j hj hj, this.1.1, this.1.2⟩
        have cP := join13_any a L c wr (readsT13_below HR.out.1 HX.out.bel) (by omega) (fun t ht => ⟨by have := (hS t ht).1; omega, (hS t ht).2⟩) (pow10_below HF.out.1 HX.out.bel) (errR_below HF.out.2 HX.out.bel)
        have cR := fun wx hr => rJoin13_any a L c wx hr (by omega) (fun t ht => ⟨by have := (hS t ht).1; unfold maxLen; omega, (hS t ht).2.2⟩)
        have hfx := HX.out.fit
        have cT := fun wx h1 h2 => text13t_any x (by omega) hfx.2.1 hfx.2.2 wx h1 h2
        have cU := fun wx => rText13_any x wx (by unfold maxLen; omega) hfx.2.2
        generalize Lx.joinS L = J at *
        generalize Lx.textT x = U at *
        obtain ⟨j1, j2⟩ := J
        obtain ⟨u1, u2⟩ := U
        obtain ⟨xk, xs, xn, xa⟩ := x
        have e1 : (j1.toList == j1.toList) = true := by simp
        have e2 : (u1.toList == u1.toList) = true := by simp
        have H := Lib.hid (And.intro cP (And.intro cR (And.intro cT cU)))
        have hlx := rowV_lt HX.out.row
        clear cP cR cT cU hS hfx
        go_wp2_with fail
        refine H.out.1.mono ?_
        rintro e w1 ⟨rfl, hb1⟩
        have H1 := Lib.hid (And.intro (rowV_below HX.out.row hb1 hlx) (HX.out.bel.trans (hb1.mono HX.out.bel.size)))
        clear hb1
        go_wp2_with fail
        refine (H.out.2.1 _ (readsT13_below HR.out.1 H1.out.2)).mono ?_
        rintro e w2 ⟨rfl, hb2⟩
        have hr2 := rowV_below H1.out.1 hb2 (rowV_lt H1.out.1)
        have H2 := Lib.hid (And.intro hr2 (H1.out.2.trans (hb2.mono H1.out.2.size)))
        obtain ⟨a0, a1, a2, a3, _⟩ := tok_cells (v := ⟨xk, xs, xn, xa⟩) hr2
        clear hb2 hr2
        go_wp2_with fail
        refine (H.out.2.2.1 _ (pow10_below HF.out.1 H2.out.2) (errR_below HF.out.2 H2.out.2)).mono ?_
        rintro e w3 ⟨rfl, hb3⟩
        have hr3 := rowV_below H2.out.1 hb3 (rowV_lt H2.out.1)
        have H3 := Lib.hid (And.intro hr3 (H2.out.2.trans (hb3.mono H2.out.2.size)))
        clear a0 a1 a2 a3
        obtain ⟨a0, a1, a2, a3, _⟩ := tok_cells (v := ⟨xk, xs, xn, xa⟩) hr3
        clear hb3 hr3
        go_wp2_with fail
        refine (H.out.2.2.2 _).mono ?_
        rintro e w4 ⟨rfl, hb4⟩
        have hB4 := H3.out.2.trans (hb4.mono H3.out.2.size)
        have H4 := Lib.hid (And.intro (lives13_any _ (errR_below HF.out.2 hB4)) hB4)
        clear a0 a1 a2 a3 hb4 hB4
        go_wp2_with fail
        refine H4.out.1.mono ?_
        rintro e w5 ⟨rfl, hb5⟩
        have H5 := Lib.hid (H4.out.2.trans (hb5.mono H4.out.2.size))
        clear hb5
        go_wp2_with fail
        go_ret
        exact ⟨rfl, H5.out⟩
end Go.Proofs.YtmpfnokddpbgcaaDoor
