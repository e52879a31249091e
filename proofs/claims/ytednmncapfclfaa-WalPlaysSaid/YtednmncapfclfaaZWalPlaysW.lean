/-
  Layer 7's laws: WalPlays, walked.
-/
import Derived.Test.YtednmncapfclfaaZWalActs
namespace Go.Proofs.Ytednmncapfclfaa
open Go.RowKit
theorem two_new7 {w w1 w2 : World} {p q n : Nat} (hd : DiskAtL w1 (fun k => w.heap.size ≤ k) (fun k => w.heap.size ≤ k) p (Dk.new n)) (hb : Below w.heap.size w w1) (hr : RefAt w2 (fun k => w1.heap.size ≤ k) q (Dk.new n)) (hb2 : Below w1.heap.size w1 w2) : Two w2 (fun k => k < w.heap.size) p q (Dk.new n) (Dk.new n) := by
  have ho : Only (fun _ => False) w1 w2 := Only.of_none hb2
  have hz := hb.size
  have hz2 := hb2.size
  have hd1 : DiskAtL w1 (fun k => w.heap.size ≤ k ∧ k < w1.heap.size) (fun k => w.heap.size ≤ k ∧ k < w1.heap.size) p (Dk.new n) := diskAtL_mono hd (fun k hk h => ⟨h, hk⟩) (fun k hk h => ⟨h, hk⟩)
  exact ⟨fun k => w.heap.size ≤ k ∧ k < w1.heap.size, fun k => w1.heap.size ≤ k ∧ k < w2.heap.size, diskAtL_only hd1 ho (fun _ _ h => h) (fun _ _ h => h), refAt_mono hr (fun k hk h => ⟨h, hk⟩), fun k h1 h2 => by omega, fun k h => ⟨by omega, by omega⟩, fun k h => ⟨by omega, by omega⟩, fun k h => by omega⟩
/-- the state between two steps -/
def Play (w : World) (wp p q m k : Nat) (fr n : Int) (o : Option Wl.Lg) (wr : World) : Prop := ∃ d, Wopt wr (fun j => j < w.heap.size ∨ j = wp) wp p q fr n d o ∧ Bnd m k d o ∧ Below w.heap.size w wr
section
variable {w wr : World} {wp p q m k : Nat} {fr n : Int} {g : Wl.Lg} {o : Option Wl.Lg}
theorem play_base (h : Play w wp p q m k fr n o wr) : Below w.heap.size w wr := by
  obtain ⟨d, _, _, h⟩ := h
  exact h
theorem play_more (h : Play w wp p q m k fr n o wr) : Play w wp p q m (k + 1) fr n o wr := by
  obtain ⟨d, h1, h2, h3⟩ := h
  exact ⟨d, h1, bnd_more h2, h3⟩
theorem play_below {w' : World} (h : Play w wp p q m k fr n o wr) (hb : Below wr.heap.size wr w') : Play w wp p q m k fr n o w' := by
  obtain ⟨d, h1, h2, h3⟩ := h
  exact ⟨d, wopt_below h1 hb, h2, below_two h3 hb⟩
/-- what both tell, one beside the other -/
structure Tells (wr : World) (wp l x : Nat) (g : Wl.Lg) (la : Option Addr) (cap : Nat) : Prop where
  cells : ∀ wx, Below wr.heap.size wr wx → wx.cell? ⟨wp, 2, none⟩ = some (.pointer (some ⟨l, 0, none⟩)) ∧ wx.cell? ⟨wp, 3, none⟩ = some (.pointer (some ⟨x, 0, none⟩)) ∧ wx.cell? ⟨x, 3, none⟩ = some (.int .i64 (g.tail : Int)) ∧ wx.cell? ⟨x, 4, none⟩ = some (.int .i64 (g.head : Int)) ∧ wx.cell? ⟨x, 5, none⟩ = some (.slice la g.L.length cap) ∧ Hid (Below wr.heap.size wr wx)
  tail : ∀ wx, Hid (Below wr.heap.size wr wx) → Calls Try.prog 13 #[.pointer (some ⟨l, 0, none⟩)] wx fun e w' => e = .returned (.int .i64 (g.tail : Int)) ∧ Below wr.heap.size wr w'
  head : ∀ wx, Hid (Below wr.heap.size wr wx) → Calls Try.prog 14 #[.pointer (some ⟨l, 0, none⟩)] wx fun e w' => e = .returned (.int .i64 (g.head : Int)) ∧ Below wr.heap.size wr w'
  room : ∀ wx, Hid (Below wr.heap.size wr wx) → Calls Try.prog 15 #[.pointer (some ⟨l, 0, none⟩)] wx fun e w' => e = .returned (.int .i64 ((g.n - g.L.length : Nat) : Int)) ∧ Below wr.heap.size wr w'
  rroom : ∀ wx, Hid (Below wr.heap.size wr wx) → Calls Try.prog 16 #[.pointer (some ⟨x, 0, none⟩)] wx fun e w' => e = .returned (.int .i64 ((g.n - g.L.length : Nat) : Int)) ∧ Below wr.heap.size wr w'
  records : ∀ wx, Hid (Below wr.heap.size wr wx) → Calls Try.prog 18 #[.pointer (some ⟨l, 0, none⟩)] wx fun e w' => ∃ ra rc, e = .returned (.slice ra g.L.length rc) ∧ ReadsS w' ra g.L ∧ Below wr.heap.size wr w'
  reads : ReadsS wr la g.L
  few : g.L.length ≤ 1000000
theorem play_tells (h : Play w wp p q m k fr n (some g) wr) (hk : k ≤ 26) (hm : m ≤ 20) : ∃ l x la cap, Tells wr wp l x g la cap := by
  obtain ⟨d, ⟨l, x, hrow, hq⟩, hbd, _⟩ := h
  obtain ⟨hg, hh⟩ := hbd.log g rfl
  obtain ⟨S, hlog⟩ := pair_log hq
  obtain ⟨X, hx, _⟩ := pair_base hq
  have hl20 : g.L.length ≤ 20 := by have h1 := hg.room; have h2 := hg.fits; omega
  have hlog2 := hlog
  obtain ⟨la, cap, hx0, hrec, _⟩ := hlog2
  have hP : ∀ wx, Below wr.heap.size wr wx → Both l p q d g wx X d := fun wx hb => pair_below (dskP_two p q d).apart hx hb
  refine ⟨l, x, la, cap, ⟨fun wx hb => ?_, fun wx hb => (pair_tail (hP wx hb.out)).mono fun _ _ h => ⟨h.1, h.2 ▸ hb.out⟩, fun wx hb => (pair_head (hP wx hb.out)).mono fun _ _ h => ⟨h.1, h.2 ▸ hb.out⟩,
    fun wx hb => (pair_room (hP wx hb.out) hg (by omega) (by omega)).mono fun _ _ h => ⟨h.1, below_two hb.out h.2⟩, fun wx hb => (rroom7_any (logAt_below hlog hb.out) hg (by omega) (by omega)).mono fun _ w' h => ⟨h.1, ?_⟩,
    fun wx hb => (pair_records (hP wx hb.out) (by omega)).mono fun _ _ h => ?_, recAt_reads hrec, by omega⟩⟩
  · have hr := rowV_below hrow hb (rowV_lt hrow)
    have hx1 := rowV_below hx0 hb (rowV_lt hx0)
    exact ⟨rowV_cell hr 2, rowV_cell hr 3, lg_3 hx1, lg_4 hx1, lg_5 hx1, Lib.hid hb⟩
  · obtain ⟨nn, hn⟩ := h.2
    rw [hn]; exact below_drewN hb.out nn
  · obtain ⟨ra, rc, h1, h2, h3⟩ := h
    exact ⟨ra, rc, h1, h2, below_two hb.out h3⟩
end
set_option maxRecDepth 100000 in
set_option maxHeartbeats 8000000 in
theorem plays7_in (m : Nat) (fr ring : Int) (L : List Acts7) (la : Option Addr) (lc : Nat) (w : World) (hL : ReadsW w la L) (hm1 : 1 ≤ m) (hm20 : m ≤ 20) (hring : ring ≤ 9223372036854775807) (hlm : L.length ≤ maxLen) :
    Calls Try.prog 3 #[.int .i64 (m : Int), .int .i64 fr, .int .i64 ring, .slice la L.length lc] w fun e w' => e = .returned (.bool true) ∧ Below w.heap.size w w' := by
  have cF := few7_any L la lc w hL hlm
  unfold maxLen at hlm
  have v1 : decide ((m : Int) < 1) = false := decide_eq_false (by omega)
  have v2 : decide ((20 : Int) < (m : Int)) = false := decide_eq_false (by omega)
  have H := Lib.hid (And.intro cF (And.intro hL (And.intro hm1 (And.intro hm20 hring))))
  clear cF hL hring hm1 hm20
  go_enter Try.func3, Try.ntmps3
  go_wp2_with fail
  refine H.out.1.mono ?_
  rintro e w1 ⟨b, rfl, hf, hw1⟩
  obtain rfl := hw1.symm; clear hw1
  cases b with
  | false =>
    clear hf
    go_wp2_with fail
    refine (lives7_any w).mono ?_
    rintro e w7 ⟨rfl, hb7⟩
    have H7 := Lib.hid hb7; clear hb7
    go_wp2_with fail
    go_ret
    exact ⟨rfl, H7.out⟩
  | true =>
    have HF := Lib.hid (hf rfl)
    clear hf
    go_wp2_with fail
    refine (newL_any (m : Int) w).mono ?_
    rintro e w1 (⟨h0, _⟩ | ⟨_, _, p, rfl, hd, hb⟩)
    · exact absurd ⟨by have := H.out; omega, by have := H.out; omega⟩ h0
    rw [Int.toNat_natCast] at hd
    have H1 := Lib.hid (And.intro hd hb); clear hd hb
    go_wp2_with fail
    refine (rnew_any (m : Int) w1).mono ?_
    rintro e w2 (⟨h0, _⟩ | ⟨_, _, q, rfl, hr, hb2⟩)
    · exact absurd ⟨by have := H.out; omega, by have := H.out; omega⟩ h0
    rw [Int.toNat_natCast] at hr
    have ha : Below w2.heap.size w2 (w2.alloc (.cells #[.pointer (some ⟨p, 0, none⟩), .pointer (some ⟨q, 0, none⟩), .pointer none, .pointer none, .int .i64 fr, .int .i64 ring] 36)) := (Below.refl _ _).alloc (Nat.le_refl _) _
    have ht := two_grow (two_new7 H1.out.1 H1.out.2 hr hb2) (Only.of_none ha)
    have hP0 : Play w w2.heap.size p q m 0 fr ring none (w2.alloc (.cells #[.pointer (some ⟨p, 0, none⟩), .pointer (some ⟨q, 0, none⟩), .pointer none, .pointer none, .int .i64 fr, .int .i64 ring] 36)) := by
      refine ⟨Dk.new m, ⟨rowV_new w2 _ [_, _, _, _, _, _], two_less ht fun j hj => hj.elim .inl fun e => .inr ?_⟩, ⟨List.length_replicate, Nat.zero_le _, fun g hg => by cases hg⟩, below_two (below_two H1.out.2 hb2) ha⟩
      subst e
      exact ⟨Nat.le_refl _, by simp⟩
    have hwp : w.heap.size ≤ w2.heap.size := Nat.le_trans H1.out.2.size hb2.size
    have H2 := Lib.hid (And.intro hP0 hwp)
    clear hr hb2 ha ht hP0 hwp
    go_wp2_with fail
    generalize hw3 : World.alloc w2 _ = w3 at *
    generalize hwp : w2.heap.size = wp at *
    obtain ⟨d0, ho0, hbd0, hb0⟩ := H2.out.1
    have cO := wworld_open ho0 (.inr rfl) H.out.2.2.2.2 0 0
    have HO := Lib.hid (And.intro hbd0 hb0)
    clear ho0 hbd0 hb0 hw3 hwp
    refine cO.mono ?_
    rintro e w4 ⟨rfl, h4, ho4⟩
    have hP1 : ∃ o, Play w wp p q m 1 fr ring o w4 := ⟨_, d0, h4, bnd_open HO.out.1, HO.out.2.trans (ho4.below (fun j _ e => e ▸ H2.out.2) HO.out.2.size)⟩
    have H4 := Lib.hid hP1
    clear h4 ho4 hP1 cO
    go_wp2_with fail
    go_loopw [14] (fun i wr => ∃ k : Nat, k ≤ L.length ∧ i = .int .i64 (k : Int) ∧ ∃ o, Hid (Play w wp p q m (k + 1) fr ring o wr)) (fun i _ => L.length - (intOf i).toNat)
    case atStart =>
      obtain ⟨o, ho⟩ := H4.out
      exact ⟨0, Nat.zero_le _, rfl, o, Lib.hid ho⟩
    case round =>
      obtain ⟨k, hk, rfl, o, HP⟩ := hrel
      cases o with
      | none =>
        have c3 : wr.cell? ⟨wp, 3, none⟩ = some (.pointer none) := by
          obtain ⟨d, h1, _⟩ := HP.out
          exact rowV_cell h1.1 3
        by_cases hlt : k < L.length
        · go_wp2_with fail
          refine (lives7_any _).mono ?_
          rintro e w7 ⟨rfl, hb7⟩
          have H7 := Lib.hid (below_two (play_base HP.out) hb7)
          clear hb7
          go_wp2_with fail
          go_ret
          exact ⟨rfl, H7.out⟩
        · obtain rfl : k = L.length := by omega
          go_wp2_with fail
          refine (lives7_any _).mono ?_
          rintro e w7 ⟨rfl, hb7⟩
          have H7 := Lib.hid (below_two (play_base HP.out) hb7)
          clear hb7
          go_wp2_with fail
          go_ret
          exact ⟨rfl, H7.out⟩
      | some g =>
        obtain ⟨x0, c3⟩ : ∃ x0, wr.cell? ⟨wp, 3, none⟩ = some (.pointer (some ⟨x0, 0, none⟩)) := by
          obtain ⟨d, ⟨l, x, h1, _⟩, _⟩ := HP.out
          exact ⟨x, rowV_cell h1 3⟩
        by_cases hlt : k < L.length
        · obtain ⟨b, off, kind, an, am, lst, raw, F, xa, xc, fa, fc, hx, rfl, a0, a1, a2, a3, a4, a5, hi, hS, hSl, hI, hIl⟩ := act7_at H.out.2.1 (play_base HP.out) k hlt
          have hl20 : lst.length ≤ 20 := by have := HF.out.2 k hlt; rw [hx] at this; exact this
          have cS : Calls Try.prog 12 #[.pointer (some ⟨wp, 0, none⟩), .agg (act7C ⟨kind, an, am, lst, raw, F⟩ xa xc fa fc)] wr fun e w' => e = .returned (.bool true) ∧ ∃ o', Play w wp p q m (k + 2) fr ring o' w' := by
            obtain ⟨d, h1, h2, h3⟩ := HP.out
            refine (wstep_any h1 (.inr rfl) h2 (by have := HF.out.1; omega) H.out.2.2.2.2 kind an am lst raw F xa fa xc fc hi hl20 hS (fun a ha hne => .inl (hSl a ha hne)) hI (fun a ha hne => ⟨.inl (hIl a ha hne), fun e => ?_⟩)).mono fun e w' ⟨e1, ⟨d', o', e2, e3⟩, e4⟩ => ⟨e1, o', d', e2, e3, ?_⟩
            · have h1 := hIl a ha hne
              have h2 := H2.out.2
              omega
            · exact h3.trans (e4.below (fun j _ hj => hj.elim (fun e => e ▸ H2.out.2) fun hn => Nat.le_of_not_lt fun hl => hn (.inl hl)) h3.size)
          have HS := Lib.hid cS
          clear cS hi hS hSl hI hIl hl20 hx
          go_wp2_with fail
          refine HS.out.mono ?_
          rintro e w5 ⟨rfl, o', h5⟩
          have H5 := Lib.hid h5
          clear h5 c3 a0 a1 a2 a3 a4 a5 HS
          cases o' with
          | none =>
            have c3 : w5.cell? ⟨wp, 3, none⟩ = some (.pointer none) := by
              obtain ⟨d, h1, _⟩ := H5.out
              exact rowV_cell h1.1 3
            go_wp2_with fail
            refine (lives7_any _).mono ?_
            rintro e w7 ⟨rfl, hb7⟩
            have H7 := Lib.hid (below_two (play_base H5.out) hb7)
            clear hb7
            go_wp2_with fail
            go_ret
            exact ⟨rfl, H7.out⟩
          | some g' =>
            obtain ⟨l, x, ra0, rc0, ht⟩ := play_tells H5.out (by have := HF.out.1; omega) (by have := H.out; omega)
            have HT := Lib.hid ht
            clear ht
            obtain ⟨c2, c3, x3, x4, x5, dB0⟩ := HT.out.cells w5 (Below.refl _ _)
            obtain ⟨d2, d3, y3, y4, y5, dB⟩ := HT.out.cells w5.drew (Below.refl _ _).drew
            go_wp2_with fail
            go_region_held3 (fun wx => wx.cell? ⟨wp, 2, none⟩ = some (.pointer (some ⟨l, 0, none⟩)) ∧ wx.cell? ⟨wp, 3, none⟩ = some (.pointer (some ⟨x, 0, none⟩)) ∧ wx.cell? ⟨x, 3, none⟩ = some (.int .i64 (g'.tail : Int)) ∧ wx.cell? ⟨x, 4, none⟩ = some (.int .i64 (g'.head : Int)) ∧ wx.cell? ⟨x, 5, none⟩ = some (.slice ra0 g'.L.length rc0) ∧ Hid (Below w5.heap.size w5 wx))
              (first
                | exact ⟨d2, d3, y3, y4, y5, dB⟩
                | exact HT.out.cells _ hb6
                | exact HT.out.cells _ hb7
                | exact HT.out.cells _ hb8
                | exact HT.out.cells _ hb9
                | exact HT.out.cells _ hb10
                | exact HT.out.cells _ hb11)
              (first
                | (go_at_call 13; refine (HT.out.tail _ dB).mono ?_; rintro e w6 ⟨rfl, hb6⟩)
                | (go_at_call 14; refine (HT.out.head _ (Lib.hid hb6)).mono ?_; rintro e w7 ⟨rfl, hb7⟩)
                | (go_at_call 15; refine (HT.out.room _ (Lib.hid hb7)).mono ?_; rintro e w8 ⟨rfl, hb8⟩)
                | (go_at_call 16; refine (HT.out.rroom _ (Lib.hid hb8)).mono ?_; rintro e w9 ⟨rfl, hb9⟩)
                | (go_at_call 18; refine (HT.out.records _ (Lib.hid hb9)).mono ?_; rintro e w10 ⟨ra, rc, rfl, hr10, hb10⟩)
                | (go_at_call 17; refine (sameS_any g'.L ra ra0 rc rc0 w10 HT.out.few hr10 (readsS_below HT.out.reads hb10)).mono ?_; rintro e w11 ⟨rfl, hb11⟩; have hb11 := below_two hb10 hb11))
            have H11 := Lib.hid (play_below H5.out hb11)
            clear hb6 hb7 hb8 hb9 hb10 hb11 hr10 c2 c3 x3 x4 x5 dB0 d2 d3 y3 y4 y5 dB
            go_wp2_with fail
            exact ⟨⟨k + 1, by omega, by go_num, some g', Lib.hid H11.out⟩, by simp [intOf]; omega⟩
        · obtain rfl : k = L.length := by omega
          go_wp2_with fail
          refine (lives7_any _).mono ?_
          rintro e w7 ⟨rfl, hb7⟩
          have H7 := Lib.hid (below_two (play_base HP.out) hb7)
          clear hb7
          go_wp2_with fail
          go_ret
          exact ⟨rfl, H7.out⟩
end Go.Proofs.Ytednmncapfclfaa
