/-
  Layer 9: the document's node: is it right?
-/
import Derived.Test.YtjlglfhnnipjaaaNodRef
import Derived.Test.YtjlglfhnnipjaaaNodeFind
import Derived.BigQuiet
import Derived.IntWalk
namespace Go.Proofs.Ytjlglfhnnipjaaa
open Go.RowKit
/-- the place j is right -/
def Nd.okAt (leaf : Bool) (L : List (ByteArray × ByteArray)) (j : Nat) : Prop := Nd.fits leaf (L.getD j (⟨#[]⟩, ⟨#[]⟩)) ∧ (0 < j → Nd.lt (L.getD (j - 1) (⟨#[]⟩, ⟨#[]⟩)).1 (L.getD j (⟨#[]⟩, ⟨#[]⟩)).1)
theorem Nd.getD_in (L : List (ByteArray × ByteArray)) (j : Nat) (h : j < L.length) : L.getD j (⟨#[]⟩, ⟨#[]⟩) = L[j] := by rw [List.getD_eq_getElem?_getD, List.getElem?_eq_getElem h]; rfl
theorem Nd.right_iff (leaf : Bool) (L : List (ByteArray × ByteArray)) : Nd.right ⟨leaf, L⟩ ↔ 0 < L.length ∧ ∀ j, j < L.length → Nd.okAt leaf L j := by
  constructor
  · rintro ⟨h1, h2, h3⟩
    refine ⟨List.length_pos_iff.2 h1, fun j hj => ⟨?_, fun h0 => ?_⟩⟩
    · rw [Nd.getD_in L j hj]; exact h2 _ (List.getElem_mem hj)
    · rw [Nd.getD_in L j hj, Nd.getD_in L (j - 1) (by omega)]
      exact Nd.rising_at h3 (j - 1) j (by omega) hj
  · rintro ⟨h1, h2⟩
    refine ⟨List.length_pos_iff.1 h1, fun x hx => ?_, Nd.rising_of fun i hi => ?_⟩
    · obtain ⟨j, hj, rfl⟩ := List.getElem_of_mem hx
      have := (h2 j hj).1
      rwa [Nd.getD_in L j hj] at this
    · have hi : i + 1 < L.length := hi
      have := (h2 (i + 1) hi).2 (by omega)
      rw [Nd.getD_in L (i + 1) hi, show i + 1 - 1 = i by omega, Nd.getD_in L i (by omega)] at this
      exact this
set_option maxRecDepth 100000 in
set_option maxHeartbeats 3200000 in
theorem rright9_any (leaf : Bool) (a : Option Addr) (L : List (ByteArray × ByteArray)) (c : Nat) (w : World) (hr : ReadsP w a L) (hL : L.length ≤ 1000) :
    Calls Try.prog 16 #[nodV leaf a L.length c] w fun e w' => e = .returned (.bool (decide (Nd.right ⟨leaf, L⟩))) ∧ Below w.heap.size w w' := by
  have hb : Below w.heap.size w (w.alloc (.cells #[.bool leaf, .slice a L.length c] 24)) := (Below.refl w.heap.size w).alloc (Nat.le_refl _) _
  have hrow := rowV_new w 24 (nodC leaf a L.length c)
  have hri := Nd.right_iff leaf L
  have H := Lib.hid (And.intro hr (And.intro hb (And.intro hrow hri)))
  clear hr hb hrow hri
  generalize hRR : decide (Nd.right ⟨leaf, L⟩) = RR
  have HR := Lib.hid hRR
  clear hRR
  go_enter Try.func16, Try.ntmps16
  go_wp2_with fail
  generalize hN : w.heap.size = N at *
  generalize hw1 : World.alloc w _ = w1 at *
  have HB := Lib.hid H.out.2.1
  have hNsz : N ≤ w1.heap.size := by rw [← hN]; exact HB.out.size
  go_loopw [3] (fun i wr => ∃ k : Nat, k ≤ L.length ∧ i = .int .i64 (k : Int) ∧ Hid (Below w1.heap.size w1 wr ∧ ∀ j, j < k → Nd.okAt leaf L j)) (fun i _ => L.length - (RowKit.intOf i).toNat)
  case atStart => exact ⟨0, Nat.zero_le _, rfl, Lib.hid ⟨Below.refl _ _, fun j hj => by omega⟩⟩
  case round =>
    obtain ⟨k, hk, rfl, HI⟩ := hrel
    have hrN := rowV_below H.out.2.2.1 HI.out.1 (rowV_lt H.out.2.2.1)
    have cN0 := rowV_cell hrN 0
    have cN1 := rowV_cell hrN 1
    simp only [List.getElem?_cons_zero, List.getElem?_cons_succ] at cN0 cN1
    by_cases hlt : k < L.length
    · obtain ⟨ab, off, rfl, c0, c1⟩ := (readsP_below (readsP_below H.out.1 (by rw [hN]; exact HB.out)) HI.out.1) k hlt
      have hgk := Nd.getD_in L k hlt
      have hnext : Nd.okAt leaf L k → ∀ j, j < k + 1 → Nd.okAt leaf L j := fun h j hj => by
        by_cases e : j = k
        · rw [e]; exact h
        · exact HI.out.2 j (by omega)
      have hbad : ¬ Nd.okAt leaf L k → RR = false := fun h => by
        rw [← HR.out]
        exact decide_eq_false fun x => h ((H.out.2.2.2.1 x).2 k hlt)
      have hok : Nd.okAt leaf L k ↔ Nd.fits leaf L[k] ∧ (0 < k → Nd.lt (L.getD (k - 1) (⟨#[]⟩, ⟨#[]⟩)).1 L[k].1) := by unfold Nd.okAt; rw [hgk]
      have hb2 : Below wr.heap.size wr (wr.alloc (.cells #[.string L[k].1, .string L[k].2] 33)) := (Below.refl wr.heap.size wr).alloc (Nat.le_refl _) _
      have hbox := rowV_new wr 33 [.string L[k].1, .string L[k].2]
      have x0 := rowV_cell hbox 0
      have x1 := rowV_cell hbox 1
      have y0 := rowV_cell (rowV_below hrN hb2 (rowV_lt hrN)) 0
      have y1 := rowV_cell (rowV_below hrN hb2 (rowV_lt hrN)) 1
      simp only [List.getElem?_cons_zero, List.getElem?_cons_succ] at x0 x1 y0 y1
      have hfit : Nd.fits leaf L[k] ↔ 1 ≤ L[k].1.size ∧ L[k].1.size ≤ 48 ∧ (leaf = true → L[k].2.size ≤ 160) ∧ (leaf = false → L[k].2.size = 4) := Iff.rfl
      rw [hfit] at hok
      generalize L[k].1 = key at *
      generalize L[k].2 = val at *
      have HC := Lib.hid (And.intro hnext (And.intro hbad (And.intro hok hb2)))
      clear hnext hbad hok hfit hb2 hbox hgk
      by_cases q1 : key.size < 1
      · have d1 : decide ((key.size : Int) < 1) = true := decide_eq_true (by omega)
        go_wp2_with fail
        go_quiet (fail)
        go_wp2
        go_ret
        have hno : ¬ Nd.okAt leaf L k := fun h => by have hh := HC.out.2.2.1.1 h; omega
        rw [HC.out.2.1 hno]
        exact ⟨rfl, by rw [hN]; exact below_drewN ((HB.out.trans (HI.out.1.mono hNsz)).trans (HC.out.2.2.2.mono (Nat.le_trans hNsz HI.out.1.size))) _⟩
      have d1 : decide ((key.size : Int) < 1) = false := decide_eq_false (by omega)
      by_cases q2 : 48 < key.size
      · have d2 : decide (48 < (key.size : Int)) = true := decide_eq_true (by omega)
        go_wp2_with fail
        go_quiet (fail)
        go_wp2
        go_ret
        have hno : ¬ Nd.okAt leaf L k := fun h => by have hh := HC.out.2.2.1.1 h; omega
        rw [HC.out.2.1 hno]
        exact ⟨rfl, by rw [hN]; exact below_drewN ((HB.out.trans (HI.out.1.mono hNsz)).trans (HC.out.2.2.2.mono (Nat.le_trans hNsz HI.out.1.size))) _⟩
      have d2 : decide (48 < (key.size : Int)) = false := decide_eq_false (by omega)
      by_cases q3 : k = 0
      · have d3 : decide (0 < (k : Int)) = false := decide_eq_false (by omega)
        have d3' : decide (0 < k) = false := decide_eq_false (by omega)
        have Q3 := Lib.hid q3
        clear q3
        cases leaf with
        | true =>
          by_cases q4 : 160 < val.size
          · have d4 : decide (160 < (val.size : Int)) = true := decide_eq_true (by omega)
            go_wp2_with fail
            go_quiet (fail)
            go_wp2
            go_ret
            have hno : ¬ Nd.okAt true L k := fun h => by have hh := HC.out.2.2.1.1 h; have h5 := hh.1.2.2.1; simp at h5; omega
            rw [HC.out.2.1 hno]
            exact ⟨rfl, by rw [hN]; exact below_drewN ((HB.out.trans (HI.out.1.mono hNsz)).trans (HC.out.2.2.2.mono (Nat.le_trans hNsz HI.out.1.size))) _⟩
          · have d4 : decide (160 < (val.size : Int)) = false := decide_eq_false (by omega)
            go_wp2_with fail
            go_quiet (fail)
            go_wp2
            go_roundw
            case rel => exact ⟨k + 1, by omega, by go_num, Lib.hid ⟨below_drewN (HI.out.1.trans (HC.out.2.2.2.mono HI.out.1.size)) _, HC.out.1 (HC.out.2.2.1.2 ⟨⟨by omega, by omega, fun _ => by omega, (fun h => by simp at h)⟩, fun h => by have := Q3.out; omega⟩)⟩⟩
            case measure => simp [RowKit.intOf]; omega
        | false =>
          by_cases q4 : val.size = 4
          · have d4 : ((val.size : Int) != 4) = false := by rw [q4]; rfl
            go_wp2_with fail
            go_quiet (fail)
            go_wp2
            go_roundw
            case rel => exact ⟨k + 1, by omega, by go_num, Lib.hid ⟨below_drewN (HI.out.1.trans (HC.out.2.2.2.mono HI.out.1.size)) _, HC.out.1 (HC.out.2.2.1.2 ⟨⟨by omega, by omega, (fun h => by simp at h), fun _ => q4⟩, fun h => by have := Q3.out; omega⟩)⟩⟩
            case measure => simp [RowKit.intOf]; omega
          · have d4 : ((val.size : Int) != 4) = true := by simp; omega
            go_wp2_with fail
            go_quiet (fail)
            go_wp2
            go_ret
            have hno : ¬ Nd.okAt false L k := fun h => by have hh := HC.out.2.2.1.1 h; have h5 := hh.1.2.2.2; simp at h5; exact absurd h5 q4
            rw [HC.out.2.1 hno]
            exact ⟨rfl, by rw [hN]; exact below_drewN ((HB.out.trans (HI.out.1.mono hNsz)).trans (HC.out.2.2.2.mono (Nat.le_trans hNsz HI.out.1.size))) _⟩
      · have d3 : decide (0 < (k : Int)) = true := decide_eq_true (by omega)
        have d3' : decide (0 < k) = true := decide_eq_true (by omega)
        obtain ⟨ab', off', e, p0, _⟩ := (readsP_below (readsP_below H.out.1 (by rw [hN]; exact HB.out)) HI.out.1) (k - 1) (by omega)
        cases e
        have hpv : (L.getD (k - 1) (⟨#[]⟩, ⟨#[]⟩)).1 = L[k - 1].1 := by rw [Nd.getD_in L (k - 1) (by omega)]
        have p2 := (HC.out.2.2.2.cell (p := ⟨ab, off + (k - 1) * 2, none⟩) (World.block_lt_of_cell? _ _ p0)).trans p0
        have hm2 : (k : Int) - 1 = ((k - 1 : Nat) : Int) := by omega
        have hm3 : IntKind.i64.wrap ((k - 1 : Nat) : Int) = ((k - 1 : Nat) : Int) := IntWalk.i64_in _ (by omega)
        have hm4 : k - 1 < L.length := by omega
        generalize L[k - 1].1 = prev at *
        by_cases q5 : Nd.lt prev key
        · have b1 : Op.bytesLess prev.toList key.toList = true := q5
          have Q3 := Lib.hid q3
          clear q3
          cases leaf with
          | true =>
            by_cases q4 : 160 < val.size
            · have d4 : decide (160 < (val.size : Int)) = true := decide_eq_true (by omega)
              go_wp2_with fail
              go_quiet (fail)
              go_wp2
              go_ret
              have hno : ¬ Nd.okAt true L k := fun h => by have hh := HC.out.2.2.1.1 h; have h5 := hh.1.2.2.1; simp at h5; omega
              rw [HC.out.2.1 hno]
              exact ⟨rfl, by rw [hN]; exact below_drewN ((HB.out.trans (HI.out.1.mono hNsz)).trans (HC.out.2.2.2.mono (Nat.le_trans hNsz HI.out.1.size))) _⟩
            · have d4 : decide (160 < (val.size : Int)) = false := decide_eq_false (by omega)
              go_wp2_with fail
              go_quiet (fail)
              go_wp2
              go_roundw
              case rel => exact ⟨k + 1, by omega, by go_num, Lib.hid ⟨below_drewN (HI.out.1.trans (HC.out.2.2.2.mono HI.out.1.size)) _, HC.out.1 (HC.out.2.2.1.2 ⟨⟨by omega, by omega, fun _ => by omega, (fun h => by simp at h)⟩, fun _ => by rw [hpv]; exact q5⟩)⟩⟩
              case measure => simp [RowKit.intOf]; omega
          | false =>
            by_cases q4 : val.size = 4
            · have d4 : ((val.size : Int) != 4) = false := by rw [q4]; rfl
              go_wp2_with fail
              go_quiet (fail)
              go_wp2
              go_roundw
              case rel => exact ⟨k + 1, by omega, by go_num, Lib.hid ⟨below_drewN (HI.out.1.trans (HC.out.2.2.2.mono HI.out.1.size)) _, HC.out.1 (HC.out.2.2.1.2 ⟨⟨by omega, by omega, (fun h => by simp at h), fun _ => q4⟩, fun _ => by rw [hpv]; exact q5⟩)⟩⟩
              case measure => simp [RowKit.intOf]; omega
            · have d4 : ((val.size : Int) != 4) = true := by simp; omega
              go_wp2_with fail
              go_quiet (fail)
              go_wp2
              go_ret
              have hno : ¬ Nd.okAt false L k := fun h => by have hh := HC.out.2.2.1.1 h; have h5 := hh.1.2.2.2; simp at h5; exact absurd h5 q4
              rw [HC.out.2.1 hno]
              exact ⟨rfl, by rw [hN]; exact below_drewN ((HB.out.trans (HI.out.1.mono hNsz)).trans (HC.out.2.2.2.mono (Nat.le_trans hNsz HI.out.1.size))) _⟩
        · have b1 : Op.bytesLess prev.toList key.toList = false := by unfold Nd.lt at q5; simpa using q5
          go_wp2_with fail
          go_quiet (fail)
          go_wp2
          go_ret
          have hno : ¬ Nd.okAt leaf L k := fun h => by have hh := HC.out.2.2.1.1 h; exact q5 (by rw [← hpv]; exact hh.2 (by omega))
          rw [HC.out.2.1 hno]
          exact ⟨rfl, by rw [hN]; exact below_drewN ((HB.out.trans (HI.out.1.mono hNsz)).trans (HC.out.2.2.2.mono (Nat.le_trans hNsz HI.out.1.size))) _⟩
    · obtain rfl : k = L.length := by omega
      have hfin : RR = decide (0 < L.length) := by
        rw [← HR.out]
        rw [Bool.eq_iff_iff, decide_eq_true_iff, decide_eq_true_iff, H.out.2.2.2]
        exact ⟨fun h => h.1, fun h => ⟨h, HI.out.2⟩⟩
      go_wp2_with fail
      go_ret
      rw [hfin]
      exact ⟨rfl, by rw [hN]; exact HB.out.trans (HI.out.1.mono hNsz)⟩
end Go.Proofs.Ytjlglfhnnipjaaa
