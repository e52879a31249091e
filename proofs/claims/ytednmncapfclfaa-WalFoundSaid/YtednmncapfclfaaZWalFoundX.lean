/-
  Layer 7's laws: WalFound, walked.
-/
import Derived.Test.YtednmncapfclfaaZWalFoundW
namespace Go.Proofs.Ytednmncapfclfaa
open Go.RowKit
abbrev LS := List ByteArray × Option Addr × Nat
def noLS : LS := ([], none, 0)
/-- the slice at a reads as the lists L of texts -/
def ReadsSS (w : World) (a : Option Addr) (L : List LS) : Prop := ∀ i (h : i < L.length), ∃ b off, a = some ⟨b, off, none⟩ ∧ w.cell? ⟨b, off + i, none⟩ = some (.slice L[i].2.1 L[i].1.length L[i].2.2) ∧ ReadsS w L[i].2.1 L[i].1
theorem readsSS_none (w : World) (a : Option Addr) : ReadsSS w a [] := by intro i hi; simp at hi
theorem readsS_lt {w : World} {a : Option Addr} {l : List ByteArray} (h : ReadsS w a l) : ∀ x, a = some x → l ≠ [] → x.block < w.heap.size := fun x hx hne => by
  obtain ⟨b, off, e, hc⟩ := h 0 (List.length_pos_iff.2 hne)
  rw [hx] at e; cases e
  exact World.block_lt_of_cell? w _ hc
set_option maxRecDepth 100000 in
set_option maxHeartbeats 8000000 in
theorem WalFound_in (L : List LS) (la : Option Addr) (lc : Nat) (more : List ByteArray) (ma : Option Addr) (mc : Nat) (F : List Int) (fa : Option Addr) (fc : Nat) (hL : L.length ≤ 10) (hm : more.length ≤ 10) (w : World) (hrL : ReadsSS w la L) (hrm : ReadsS w ma more) (hrF : ReadsI w fa F) :
    Calls Try.prog 4 #[.slice la L.length lc, .slice ma more.length mc, .slice fa F.length fc] w fun e w' => e = .returned (.bool true) ∧ Below w.heap.size w w' := by
  obtain ⟨l0, l1, l2⟩ := Wl.live_new (m := 12) (fr := 2) (n := 10) (by omega) (by omega)
  have H := Lib.hid (And.intro hrL (And.intro hrm hrF))
  have HM := Lib.hid (And.intro l0 (And.intro l1 l2))
  have u1 : decide ((10 : Int) < (L.length : Int)) = false := decide_eq_false (by omega)
  have u2 : decide ((10 : Int) < (more.length : Int)) = false := decide_eq_false (by omega)
  clear hrL hrm hrF l0 l1 l2
  go_enter Try.func4, Try.ntmps4
  go_wp2_with fail
  refine (new_one 12 w (by omega) (by omega)).mono ?_
  rintro e w1 ⟨p, rfl, hd, hb⟩
  have H1 := Lib.hid (And.intro hd hb); clear hd hb
  go_wp2_with fail
  refine (wopen_any (dskP_one p) H1.out.1 2 10 0 0 (by omega)).mono ?_
  rintro e w2 hP
  obtain ⟨hE, _⟩ | ⟨_, l, rfl, hlg, hb⟩ := hP
  · exact absurd HM.out.2.1 hE
  have e2 := HM.out.2.2
  rw [show Wl.openG (Dk.new 12) 2 10 0 0 = _ from e2] at hlg
  have hS : FoundSt w l p 0 0 w2 := ⟨Dk.new 12, _, pair_open (dskP_one p).apart H1.out.1 hlg hb, HM.out.1, rfl, rfl, List.length_replicate, Nat.le_refl _, Nat.le_refl _, below_two H1.out.2 hb⟩
  have H2 := Lib.hid hS
  clear hlg hb e2 hS H1
  go_wp2_with fail
  go_loopw [11] (fun i wr => ∃ k : Nat, k ≤ L.length ∧ i = .int .i64 (k : Int) ∧ Hid (FoundSt w l p (40 * k) (40 * k) wr)) (fun i _ => L.length - (intOf i).toNat)
  case atStart => exact ⟨0, Nat.zero_le _, rfl, H2⟩
  case round =>
    obtain ⟨k, hk, rfl, HB⟩ := hrel
    by_cases hlt : k < L.length
    · obtain ⟨b, off, hla, hcell, hin⟩ := H.out.1 k hlt
      have hblk := readsS_lt hin
      generalize L[k] = x at hcell hin hblk
      obtain ⟨lst, xa, xc⟩ := x
      dsimp only at hcell hin hblk
      have hc : ∀ wx, FoundSt w l p (40 * k) (40 * k) wx ∨ FoundSt w l p (40 * k + 20) (40 * k + 20) wx → True := fun _ _ => trivial
      have cc : ∀ wx, Below w.heap.size w wx → wx.cell? ⟨b, off + k, none⟩ = some (.slice xa lst.length xc) := fun wx hb => (hb.cell (p := ⟨b, off + k, none⟩) (World.block_lt_of_cell? w _ hcell)).trans hcell
      have c0 := cc wr (found_base HB.out)
      have HC := Lib.hid (And.intro cc (And.intro hin hblk))
      clear cc hin hblk hcell hc
      subst hla
      by_cases hbig : 20 < lst.length
      · have t1 : (20 : Int) < (lst.length : Int) := by omega
        go_wp2_with fail
        refine (lives7_any _).mono ?_
        rintro e w7 ⟨rfl, hb7⟩
        have H7 := Lib.hid (below_two (found_base HB.out) hb7)
        clear hb7
        go_wp2_with fail
        go_ret
        exact ⟨rfl, H7.out⟩
      · have t1 : ¬ (20 : Int) < (lst.length : Int) := by omega
        have HS := Lib.hid hbig
        clear hbig
        have cA := found_append HB.out (by omega) (by omega) xa lst xc (by have := HS.out; omega) (readsS_below HC.out.2.1 (found_base HB.out)) HC.out.2.2
        go_wp2_with fail
        refine cA.mono ?_
        rintro e w3 ⟨E, rfl, h3⟩
        have c3 := HC.out.1 w3 (found_base h3)
        have H3 := Lib.hid h3
        clear h3 cA c0
        by_cases hE : E = 8
        · have q : (E == 8) = true := by rw [hE]; rfl
          clear hE
          go_wp2_with fail
          refine (found_head H3.out).mono ?_
          rintro e w4 ⟨hd, rfl, hw4⟩
          obtain rfl := hw4.symm; clear hw4
          go_wp2_with fail
          refine (found_trim H3.out (by omega) hd).mono ?_
          rintro e w5 ⟨E2, rfl, h5⟩
          have c5 := HC.out.1 w5 (found_base h5)
          have H5 := Lib.hid h5
          clear h5 c3
          have cA := found_append H5.out (by omega) (by omega) xa lst xc (by have := HS.out; omega) (readsS_below HC.out.2.1 (found_base H5.out)) HC.out.2.2
          go_wp2_with fail
          refine cA.mono ?_
          rintro e w6 ⟨E3, rfl, h6⟩
          have H6 := Lib.hid h6
          clear h6 cA
          go_wp2_with fail
          exact ⟨⟨k + 1, by omega, by go_num, Lib.hid (show FoundSt w l p (40 * (k + 1)) (40 * (k + 1)) w6 from H6.out)⟩, by simp [intOf]; omega⟩
        · have q : (E == 8) = false := by rw [beq_eq_false_iff_ne]; exact hE
          clear hE
          go_wp2_with fail
          exact ⟨⟨k + 1, by omega, by go_num, Lib.hid (found_more H3.out (by omega) (by omega))⟩, by simp [intOf]; omega⟩
    · obtain rfl : k = L.length := by omega
      have cF := found_flush HB.out (by omega)
      go_wp2_with fail
      refine cF.mono ?_
      rintro e w3 ⟨E, rfl, d, g, h3⟩
      have H3 := Lib.hid h3
      clear h3 cF
      have HG := Lib.hid (And.intro H3.out.fr (And.intro H3.out.n H3.out.head))
      have HGL := Lib.hid (show g.L.length ≤ 10 by have h1 := H3.out.live.good.room; have h2 := H3.out.n; omega)
      go_wp2_with fail
      refine (pair_tail H3.out.pair).mono ?_
      rintro e w4 ⟨rfl, hw4⟩
      obtain rfl := hw4.symm; clear hw4
      go_wp2_with fail
      refine (pair_head H3.out.pair).mono ?_
      rintro e w4 ⟨rfl, hw4⟩
      obtain rfl := hw4.symm; clear hw4
      go_wp2_with fail
      refine (fl_records H3.out).mono ?_
      rintro e w4 ⟨ra, rc, rfl, hr4, Y, h4, hY4⟩
      have H4 := Lib.hid (And.intro hr4 (And.intro h4 hY4))
      clear hr4 h4 hY4
      go_wp2_with fail
      refine (fl_room H4.out.2.1).mono ?_
      rintro e w5 ⟨rfl, h5, hb5⟩
      have H5 := Lib.hid (And.intro (readsS_below H4.out.1 hb5) (And.intro h5 H4.out.2.2))
      clear h5 hb5
      generalize g.n - g.L.length = rm at *
      by_cases hrm : more.length ≤ rm
      · go_wp2_with fail
        refine (fl_append H5.out.2.1 ma more mc (by omega) (readsS_below H.out.2.1 H5.out.2.1.below) (readsS_lt H.out.2.1)).mono ?_
        rintro e w6 ⟨E6, rfl, hld, ho6⟩
        have HLD := Lib.hid (And.intro hld (And.intro (readsS_stay H5.out.1 ho6 H5.out.2.2) (And.intro H5.out.2.2 (by obtain ⟨_, _, _, _, _, h⟩ := hld; exact h))))
        clear hld ho6
        go_wp2_with fail
        refine (ld_crash HLD.out.1 fa F fc (readsI_below H.out.2.2 HLD.out.2.2.2) (readsI_lt H.out.2.2)).mono ?_
        rintro e w7 ⟨rfl, ⟨hcr, hb7⟩, ho7⟩
        have H7 := Lib.hid (And.intro hcr (And.intro hb7 (readsS_stay HLD.out.2.1 ho7 HLD.out.2.2.1)))
        clear hcr hb7 ho7
        go_wp2_with fail
        refine (cr_open H7.out.1 HG.out.1 HG.out.2.1 HG.out.2.2).mono ?_
        rintro e w8 ⟨v, rfl, hv, hb8⟩
        have H8 := Lib.hid (And.intro hv (And.intro (below_two H7.out.2.1 hb8) (readsS_below H7.out.2.2 hb8)))
        clear hv hb8
        go_wp2_with fail
        refine (wrecords_any H8.out.1 (by have := HGL.out; omega)).mono ?_
        rintro e w9 ⟨rb, rbc, rfl, hr9, hb9⟩
        have H9 := Lib.hid (And.intro (logAt_below H8.out.1 hb9) (And.intro (below_two H8.out.2.1 hb9) (And.intro (readsS_below H8.out.2.2 hb9) hr9)))
        clear hr9 hb9
        go_wp2_with fail
        refine (sameS_any g.L rb ra rbc rc w9 (by have := HGL.out; omega) H9.out.2.2.2 H9.out.2.2.1).mono ?_
        rintro e w10 ⟨rfl, hb10⟩
        have H10 := Lib.hid (And.intro (logAt_below H9.out.1 hb10) (below_two H9.out.2.1 hb10))
        clear hb10
        go_wp2_with fail
        refine (wtail_any H10.out.1).mono ?_
        rintro e w11 ⟨rfl, hw11⟩
        obtain rfl := hw11.symm; clear hw11
        go_wp2_with fail
        refine (whead_any H10.out.1).mono ?_
        rintro e w11 ⟨rfl, hw11⟩
        obtain rfl := hw11.symm; clear hw11
        go_wp2_with fail
        refine (lives7_any _).mono ?_
        rintro e w12 ⟨rfl, hb12⟩
        have H12 := Lib.hid (below_two H10.out.2 hb12)
        clear hb12
        go_wp2_with fail
        go_ret
        exact ⟨rfl, H12.out⟩
      · have hrm2 : rm < more.length := by omega
        clear hrm
        have HLD := Lib.hid (And.intro (fl_calm H5.out.2.1) (And.intro H5.out.1 (And.intro H5.out.2.2 H5.out.2.1.below)))
        go_wp2_with fail
        refine (ld_crash HLD.out.1 fa F fc (readsI_below H.out.2.2 HLD.out.2.2.2) (readsI_lt H.out.2.2)).mono ?_
        rintro e w7 ⟨rfl, ⟨hcr, hb7⟩, ho7⟩
        have H7 := Lib.hid (And.intro hcr (And.intro hb7 (readsS_stay HLD.out.2.1 ho7 HLD.out.2.2.1)))
        clear hcr hb7 ho7
        go_wp2_with fail
        refine (cr_open H7.out.1 HG.out.1 HG.out.2.1 HG.out.2.2).mono ?_
        rintro e w8 ⟨v, rfl, hv, hb8⟩
        have H8 := Lib.hid (And.intro hv (And.intro (below_two H7.out.2.1 hb8) (readsS_below H7.out.2.2 hb8)))
        clear hv hb8
        go_wp2_with fail
        refine (wrecords_any H8.out.1 (by have := HGL.out; omega)).mono ?_
        rintro e w9 ⟨rb, rbc, rfl, hr9, hb9⟩
        have H9 := Lib.hid (And.intro (logAt_below H8.out.1 hb9) (And.intro (below_two H8.out.2.1 hb9) (And.intro (readsS_below H8.out.2.2 hb9) hr9)))
        clear hr9 hb9
        go_wp2_with fail
        refine (sameS_any g.L rb ra rbc rc w9 (by have := HGL.out; omega) H9.out.2.2.2 H9.out.2.2.1).mono ?_
        rintro e w10 ⟨rfl, hb10⟩
        have H10 := Lib.hid (And.intro (logAt_below H9.out.1 hb10) (below_two H9.out.2.1 hb10))
        clear hb10
        go_wp2_with fail
        refine (wtail_any H10.out.1).mono ?_
        rintro e w11 ⟨rfl, hw11⟩
        obtain rfl := hw11.symm; clear hw11
        go_wp2_with fail
        refine (whead_any H10.out.1).mono ?_
        rintro e w11 ⟨rfl, hw11⟩
        obtain rfl := hw11.symm; clear hw11
        go_wp2_with fail
        refine (lives7_any _).mono ?_
        rintro e w12 ⟨rfl, hb12⟩
        have H12 := Lib.hid (below_two H10.out.2 hb12)
        clear hb12
        go_wp2_with fail
        go_ret
        exact ⟨rfl, H12.out⟩
set_option maxRecDepth 100000 in
set_option maxHeartbeats 1600000 in
theorem WalFound_walk (L : List LS) (la : Option Addr) (lc : Nat) (more : List ByteArray) (ma : Option Addr) (mc : Nat) (F : List Int) (fa : Option Addr) (fc : Nat) (hL : L.length ≤ maxLen) (hm : more.length ≤ maxLen) (_hz : ∀ x ∈ more, x.size ≤ maxLen) (_hF : F.length ≤ maxLen) (w : World) (hrL : ReadsSS w la L) (hrm : ReadsS w ma more) (hrF : ReadsI w fa F) :
    Calls Try.prog 4 #[.slice la L.length lc, .slice ma more.length mc, .slice fa F.length fc] w fun e w' => e = .returned (.bool true) ∧ Below w.heap.size w w' := by
  unfold maxLen at hL hm
  by_cases h1 : L.length ≤ 10
  · by_cases h2 : more.length ≤ 10
    · exact WalFound_in L la lc more ma mc F fa fc h1 h2 w hrL hrm hrF
    · clear hrL hrm hrF _hz _hF
      have h3 : (10 : Int) < (more.length : Int) := by omega
      have h4 : ¬ (10 : Int) < (L.length : Int) := by omega
      clear h1 h2
      go_enter Try.func4, Try.ntmps4
      go_wp2_with fail
      refine (lives7_any _).mono ?_
      rintro e w7 ⟨rfl, hb7⟩
      have H7 := Lib.hid hb7
      clear hb7
      go_wp2_with fail
      go_ret
      exact ⟨rfl, H7.out⟩
  · clear hrL hrm hrF _hz _hF
    have h3 : (10 : Int) < (L.length : Int) := by omega
    clear h1
    go_enter Try.func4, Try.ntmps4
    go_wp2_with fail
    refine (lives7_any _).mono ?_
    rintro e w7 ⟨rfl, hb7⟩
    have H7 := Lib.hid hb7
    clear hb7
    go_wp2_with fail
    go_ret
    exact ⟨rfl, H7.out⟩
end Go.Proofs.Ytednmncapfclfaa
