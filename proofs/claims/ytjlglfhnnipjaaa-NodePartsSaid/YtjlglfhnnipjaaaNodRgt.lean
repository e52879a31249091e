/-
  Layer 9: the program's node: is it right?
-/
import Derived.Test.YtjlglfhnnipjaaaNodProg
import Derived.Test.YtjlglfhnnipjaaaNodRight
namespace Go.Proofs.Ytjlglfhnnipjaaa
open Go.RowKit
set_option maxRecDepth 100000 in
set_option maxHeartbeats 6400000 in
theorem right9_any (leaf : Bool) (a : Option Addr) (L : List (ByteArray × ByteArray)) (c : Nat) (w : World) (hr : ReadsP w a L) (hL : L.length ≤ 1000) :
    Calls Try.prog 33 #[nodV leaf a L.length c] w fun e w' => e = .returned (.bool (decide (Nd.right ⟨leaf, L⟩))) ∧ Below w.heap.size w w' := by
  have hb : Below w.heap.size w (w.alloc (.cells #[.bool leaf, .slice a L.length c] 24)) := (Below.refl w.heap.size w).alloc (Nat.le_refl _) _
  have hrow := rowV_new w 24 (nodC leaf a L.length c)
  have hri := Nd.right_iff leaf L
  have H := Lib.hid (And.intro hr (And.intro hb (And.intro hrow hri)))
  clear hr hb hrow hri
  generalize hRR : decide (Nd.right ⟨leaf, L⟩) = RR
  have HR := Lib.hid hRR
  clear hRR
  go_enter Try.func33, Try.ntmps33
  go_wp2_with fail
  generalize hN : w.heap.size = N at *
  generalize hw1 : World.alloc w _ = w1 at *
  have HB := Lib.hid H.out.2.1
  have hNsz : N ≤ w1.heap.size := by rw [← hN]; exact HB.out.size
  have q0 := rowV_cell H.out.2.2.1 1
  simp only [List.getElem?_cons_zero, List.getElem?_cons_succ] at q0
  go_wp2_with fail
  go_loopw [8] (fun i wr => ∃ k : Nat, k ≤ L.length ∧ i = .int .i64 (k : Int) ∧ Hid (Below w1.heap.size w1 wr ∧ ∀ j, j < k → Nd.okAt leaf L j)) (fun i _ => L.length - (RowKit.intOf i).toNat)
  case atStart => exact ⟨0, Nat.zero_le _, rfl, Lib.hid ⟨Below.refl _ _, fun j hj => by omega⟩⟩
  case round =>
    obtain ⟨k, hk, rfl, HI⟩ := hrel
    have hrN := rowV_below H.out.2.2.1 HI.out.1 (rowV_lt H.out.2.2.1)
    have cN0 := rowV_cell hrN 0
    have cN1 := rowV_cell hrN 1
    simp only [List.getElem?_cons_zero, List.getElem?_cons_succ] at cN0 cN1
    by_cases hlt : k < L.length
    · obtain ⟨ab, off, rfl, c0, c1⟩ := (readsP_below (readsP_below H.out.1 (by rw [hN]; exact HB.out)) HI.out.1) k hlt
      have hgk := Nd.getD_in L k hlt
      have hnext : Nd.okAt leaf L k → ∀ j, j < k + 1 → Nd.okAt leaf L j := fun h j hj => by
        by_cases e : j = k
        · rw [e]; exact h
        · exact HI.out.2 j (by omega)
      have hbad : ¬ Nd.okAt leaf L k → RR = false := fun h => by
        rw [← HR.out]
        exact decide_eq_false fun x => h ((H.out.2.2.2.1 x).2 k hlt)
      have hok : Nd.okAt leaf L k ↔ decide (Nd.fits leaf L[k]) = true ∧ (0 < k → Nd.lt (L.getD (k - 1) (⟨#[]⟩, ⟨#[]⟩)).1 L[k].1) := by unfold Nd.okAt; rw [hgk, decide_eq_true_iff]
      have hb2 : Below wr.heap.size wr (wr.alloc (.cells #[.string L[k].1, .string L[k].2] 33)) := (Below.refl wr.heap.size wr).alloc (Nat.le_refl _) _
      have hbox := rowV_new wr 33 [.string L[k].1, .string L[k].2]
      have x0 := rowV_cell hbox 0
      have x1 := rowV_cell hbox 1
      have y0 := rowV_cell (rowV_below hrN hb2 (rowV_lt hrN)) 0
      have y1 := rowV_cell (rowV_below hrN hb2 (rowV_lt hrN)) 1
      simp only [List.getElem?_cons_zero, List.getElem?_cons_succ] at x0 x1 y0 y1
      have cF := fun wx => rpair9_any leaf L[k].1 L[k].2 wx
      have hpair : (L[k].1, L[k].2) = L[k] := rfl
      rw [hpair] at cF
      have hz2 : (wr.alloc (.cells #[.string L[k].1, .string L[k].2] 33)).heap.size = wr.heap.size + 1 := World.size_alloc _ _
      generalize decide (Nd.fits leaf L[k]) = F at *
      generalize L[k].1 = key at *
      generalize L[k].2 = val at *
      clear hpair
      have HC := Lib.hid (And.intro hnext (And.intro hbad (And.intro hok hb2)))
      clear hnext hbad hok hb2 hbox hgk
      cases F with
      | false =>
        have CF := Lib.hid cF
        clear cF
        go_wp2_with fail
        generalize hw2 : World.alloc wr _ = w2 at *
        refine wp_region_quiet_tail (C := fun wx => (wx.cell? ⟨N, 0, none⟩ = some (.bool leaf) ∧ wx.cell? ⟨N, 1, none⟩ = some (.slice (some ⟨ab, off, none⟩) L.length c) ∧ wx.cell? ⟨wr.heap.size, 0, none⟩ = some (.string key) ∧ wx.cell? ⟨wr.heap.size, 1, none⟩ = some (.string val)) ∧ Hid (Below w2.heap.size w2 wx)) 20 (by kernel_rfl) (by kernel_rfl) ⟨⟨y0, y1, x0, x1⟩, Lib.hid (Below.refl w2.heap.size w2).drew⟩ ?_
        simp only [List.take_succ_cons, List.take_zero, List.drop_succ_cons, List.drop_zero]
        refine wpQuiet_read ⟨.pointer (some ⟨N, 0, none⟩), ⟨by rfl, fun wx hSx => ?_⟩, ?_⟩
        · obtain ⟨⟨k0, k1, k2, k3⟩, -⟩ := hSx
          go_simp
          try first
            | with_reducible rfl
            | rw [if_neg (by omega)]
        simp only [Act.put, List.setIfInBounds_toArray, List.set_cons_zero, List.set_cons_succ]
        refine wpQuiet_read ⟨.bool leaf, ⟨by rfl, fun wx hSx => ?_⟩, ?_⟩
        · obtain ⟨⟨k0, k1, k2, k3⟩, -⟩ := hSx
          go_simp
          try first
            | with_reducible rfl
            | rw [if_neg (by omega)]
        simp only [Act.put, List.setIfInBounds_toArray, List.set_cons_zero, List.set_cons_succ]
        refine wpQuiet_read ⟨pairV key val, ⟨by rfl, fun wx hSx => ?_⟩, ?_⟩
        · obtain ⟨⟨k0, k1, k2, k3⟩, -⟩ := hSx
          go_simp
          try first
            | with_reducible rfl
            | rw [if_neg (by omega)]
        simp only [Act.put, List.setIfInBounds_toArray, List.set_cons_zero, List.set_cons_succ]
        refine wpQuiet_call rfl 52 #[.bool leaf, pairV key val] (.bool false) (fun wx hSx => by go_simp) (fun wx hSx => (CF.out wx).mono fun e w' hh => ⟨hh.1, ⟨(hh.2.cell (p := ⟨N, 0, none⟩) (World.block_lt_of_cell? _ _ hSx.1.1)).trans hSx.1.1, (hh.2.cell (p := ⟨N, 1, none⟩) (World.block_lt_of_cell? _ _ hSx.1.2.1)).trans hSx.1.2.1, (hh.2.cell (p := ⟨wr.heap.size, 0, none⟩) (World.block_lt_of_cell? _ _ hSx.1.2.2.1)).trans hSx.1.2.2.1, (hh.2.cell (p := ⟨wr.heap.size, 1, none⟩) (World.block_lt_of_cell? _ _ hSx.1.2.2.2)).trans hSx.1.2.2.2⟩, Lib.hid (hSx.2.out.trans (hh.2.mono hSx.2.out.size))⟩) ?_
        simp only [Act.put, List.setIfInBounds_toArray, List.set_cons_zero, List.set_cons_succ]
        go_big_quiet_want
        refine ⟨.bool true, fun wx hSx => ?_, ?_⟩
        · obtain ⟨⟨k0, k1, k2, k3⟩, -⟩ := hSx
          go_simp
          try first
            | with_reducible rfl
            | rw [if_neg (by omega)]
        simp only [Act.put, List.setIfInBounds_toArray, List.set_cons_zero, List.set_cons_succ]
        go_big_quiet_on
        go_big_quiet_want
        go_big_quiet_op
        go_big_quiet_on
        go_big_quiet_skip
        go_big_quiet_skip
        go_big_quiet_skip
        go_big_quiet_skip
        go_big_quiet_skip
        go_big_quiet_skip
        go_big_quiet_skip
        go_big_quiet_skip
        go_big_quiet_skip
        go_big_quiet_skip
        go_big_quiet_skip
        go_big_quiet_skip
        go_big_quiet_skip
        go_big_quiet_skip
        refine wpQuiet_nil ?_
        rintro w5 ⟨-, hb5⟩
        go_wp2_with fail
        go_ret
        have hno : ¬ Nd.okAt leaf L k := fun h => by have := (HC.out.2.2.1.1 h).1; cases this
        rw [HC.out.2.1 hno]
        exact ⟨rfl, by rw [hN]; exact (HB.out.trans (HI.out.1.mono hNsz)).trans ((HC.out.2.2.2.trans (hb5.out.mono (by omega))).mono (Nat.le_trans hNsz HI.out.1.size))⟩
      | true =>
        have CF := Lib.hid cF
        clear cF
        by_cases q3 : k = 0
        · have d3 : decide (0 < (k : Int)) = false := decide_eq_false (by omega)
          have d3' : decide (0 < k) = false := decide_eq_false (by omega)
          have Q3 := Lib.hid q3
          clear q3
          go_wp2_with fail
          generalize hw2 : World.alloc wr _ = w2 at *
          refine wp_region_quiet_tail (C := fun wx => (wx.cell? ⟨N, 0, none⟩ = some (.bool leaf) ∧ wx.cell? ⟨N, 1, none⟩ = some (.slice (some ⟨ab, off, none⟩) L.length c) ∧ wx.cell? ⟨wr.heap.size, 0, none⟩ = some (.string key) ∧ wx.cell? ⟨wr.heap.size, 1, none⟩ = some (.string val)) ∧ Hid (Below w2.heap.size w2 wx)) 20 (by kernel_rfl) (by kernel_rfl) ⟨⟨y0, y1, x0, x1⟩, Lib.hid (Below.refl w2.heap.size w2).drew⟩ ?_
          simp only [List.take_succ_cons, List.take_zero, List.drop_succ_cons, List.drop_zero]
          refine wpQuiet_read ⟨.pointer (some ⟨N, 0, none⟩), ⟨by rfl, fun wx hSx => ?_⟩, ?_⟩
          · obtain ⟨⟨k0, k1, k2, k3⟩, -⟩ := hSx
            go_simp
            try first
              | with_reducible rfl
              | rw [if_neg (by omega)]
          simp only [Act.put, List.setIfInBounds_toArray, List.set_cons_zero, List.set_cons_succ]
          refine wpQuiet_read ⟨.bool leaf, ⟨by rfl, fun wx hSx => ?_⟩, ?_⟩
          · obtain ⟨⟨k0, k1, k2, k3⟩, -⟩ := hSx
            go_simp
            try first
              | with_reducible rfl
              | rw [if_neg (by omega)]
          simp only [Act.put, List.setIfInBounds_toArray, List.set_cons_zero, List.set_cons_succ]
          refine wpQuiet_read ⟨pairV key val, ⟨by rfl, fun wx hSx => ?_⟩, ?_⟩
          · obtain ⟨⟨k0, k1, k2, k3⟩, -⟩ := hSx
            go_simp
            try first
              | with_reducible rfl
              | rw [if_neg (by omega)]
          simp only [Act.put, List.setIfInBounds_toArray, List.set_cons_zero, List.set_cons_succ]
          refine wpQuiet_call rfl 52 #[.bool leaf, pairV key val] (.bool true) (fun wx hSx => by go_simp) (fun wx hSx => (CF.out wx).mono fun e w' hh => ⟨hh.1, ⟨(hh.2.cell (p := ⟨N, 0, none⟩) (World.block_lt_of_cell? _ _ hSx.1.1)).trans hSx.1.1, (hh.2.cell (p := ⟨N, 1, none⟩) (World.block_lt_of_cell? _ _ hSx.1.2.1)).trans hSx.1.2.1, (hh.2.cell (p := ⟨wr.heap.size, 0, none⟩) (World.block_lt_of_cell? _ _ hSx.1.2.2.1)).trans hSx.1.2.2.1, (hh.2.cell (p := ⟨wr.heap.size, 1, none⟩) (World.block_lt_of_cell? _ _ hSx.1.2.2.2)).trans hSx.1.2.2.2⟩, Lib.hid (hSx.2.out.trans (hh.2.mono hSx.2.out.size))⟩) ?_
          simp only [Act.put, List.setIfInBounds_toArray, List.set_cons_zero, List.set_cons_succ]
          go_big_quiet_want
          refine ⟨.bool false, fun wx hSx => ?_, ?_⟩
          · obtain ⟨⟨k0, k1, k2, k3⟩, -⟩ := hSx
            go_simp
            try first
              | with_reducible rfl
              | rw [if_neg (by omega)]
          simp only [Act.put, List.setIfInBounds_toArray, List.set_cons_zero, List.set_cons_succ]
          go_big_quiet_on
          go_big_quiet_want
          go_big_quiet_op
          go_big_quiet_on
          go_big_quiet_want
          go_big_quiet_op
          go_big_quiet_on
          go_big_quiet_want
          refine ⟨.bool false, fun wx hSx => ?_, ?_⟩
          · obtain ⟨⟨k0, k1, k2, k3⟩, -⟩ := hSx
            go_simp
            try first
              | with_reducible rfl
              | rw [if_neg (by omega)]
          simp only [Act.put, List.setIfInBounds_toArray, List.set_cons_zero, List.set_cons_succ]
          go_big_quiet_on
          go_big_quiet_want
          go_big_quiet_op
          go_big_quiet_on
          go_big_quiet_skip
          go_big_quiet_skip
          go_big_quiet_skip
          go_big_quiet_skip
          go_big_quiet_skip
          go_big_quiet_skip
          go_big_quiet_skip
          go_big_quiet_skip
          go_big_quiet_skip
          go_big_quiet_skip
          go_big_quiet_want
          refine ⟨.bool false, fun wx hSx => ?_, ?_⟩
          · obtain ⟨⟨k0, k1, k2, k3⟩, -⟩ := hSx
            go_simp
            try first
              | with_reducible rfl
              | rw [if_neg (by omega)]
          simp only [Act.put, List.setIfInBounds_toArray, List.set_cons_zero, List.set_cons_succ]
          go_big_quiet_on
          refine wpQuiet_nil ?_
          rintro w5 ⟨-, hb5⟩
          go_wp2_with fail
          go_roundw
          case rel => exact ⟨k + 1, by omega, by go_num, Lib.hid ⟨HI.out.1.trans ((HC.out.2.2.2.trans (hb5.out.mono (by omega))).mono HI.out.1.size), HC.out.1 (HC.out.2.2.1.2 ⟨by first | rfl | trivial, fun h => by have := Q3.out; omega⟩)⟩⟩
          case measure => simp [RowKit.intOf]; omega
        · have d3 : decide (0 < (k : Int)) = true := decide_eq_true (by omega)
          have d3' : decide (0 < k) = true := decide_eq_true (by omega)
          obtain ⟨ab', off', e, p0, _⟩ := (readsP_below (readsP_below H.out.1 (by rw [hN]; exact HB.out)) HI.out.1) (k - 1) (by omega)
          cases e
          have hpv : (L.getD (k - 1) (⟨#[]⟩, ⟨#[]⟩)).1 = L[k - 1].1 := by rw [Nd.getD_in L (k - 1) (by omega)]
          have p2 := (HC.out.2.2.2.cell (p := ⟨ab, off + (k - 1) * 2, none⟩) (World.block_lt_of_cell? _ _ p0)).trans p0
          have hm2 : (k : Int) - 1 = ((k - 1 : Nat) : Int) := by omega
          have hm3 : IntKind.i64.wrap ((k - 1 : Nat) : Int) = ((k - 1 : Nat) : Int) := IntWalk.i64_in _ (by omega)
          have hm4 : k - 1 < L.length := by omega
          generalize L[k - 1].1 = prev at *
          have Q3 := Lib.hid q3
          clear q3
          by_cases q5 : Nd.lt prev key
          · have b0 : Nd.le key prev = false := by
              cases hh : Nd.le key prev with
              | false => rfl
              | true => exact absurd q5 (Nd.le_iff.1 hh)
            have b1 : (Op.bytesLess key.toList prev.toList || key.toList == prev.toList) = false := b0
            go_wp2_with fail
            generalize hw2 : World.alloc wr _ = w2 at *
            refine wp_region_quiet_tail (C := fun wx => (wx.cell? ⟨N, 0, none⟩ = some (.bool leaf) ∧ wx.cell? ⟨N, 1, none⟩ = some (.slice (some ⟨ab, off, none⟩) L.length c) ∧ wx.cell? ⟨wr.heap.size, 0, none⟩ = some (.string key) ∧ wx.cell? ⟨wr.heap.size, 1, none⟩ = some (.string val) ∧ wx.cell? ⟨ab, off + (k - 1) * 2, none⟩ = some (.string prev)) ∧ Hid (Below w2.heap.size w2 wx)) 20 (by kernel_rfl) (by kernel_rfl) ⟨⟨y0, y1, x0, x1, p2⟩, Lib.hid (Below.refl w2.heap.size w2).drew⟩ ?_
            simp only [List.take_succ_cons, List.take_zero, List.drop_succ_cons, List.drop_zero]
            refine wpQuiet_read ⟨.pointer (some ⟨N, 0, none⟩), ⟨by rfl, fun wx hSx => ?_⟩, ?_⟩
            · obtain ⟨⟨k0, k1, k2, k3, k4⟩, -⟩ := hSx
              go_simp
              try first
                | with_reducible rfl
                | rw [if_neg (by omega)]
            simp only [Act.put, List.setIfInBounds_toArray, List.set_cons_zero, List.set_cons_succ]
            refine wpQuiet_read ⟨.bool leaf, ⟨by rfl, fun wx hSx => ?_⟩, ?_⟩
            · obtain ⟨⟨k0, k1, k2, k3, k4⟩, -⟩ := hSx
              go_simp
              try first
                | with_reducible rfl
                | rw [if_neg (by omega)]
            simp only [Act.put, List.setIfInBounds_toArray, List.set_cons_zero, List.set_cons_succ]
            refine wpQuiet_read ⟨pairV key val, ⟨by rfl, fun wx hSx => ?_⟩, ?_⟩
            · obtain ⟨⟨k0, k1, k2, k3, k4⟩, -⟩ := hSx
              go_simp
              try first
                | with_reducible rfl
                | rw [if_neg (by omega)]
            simp only [Act.put, List.setIfInBounds_toArray, List.set_cons_zero, List.set_cons_succ]
            refine wpQuiet_call rfl 52 #[.bool leaf, pairV key val] (.bool true) (fun wx hSx => by go_simp) (fun wx hSx => (CF.out wx).mono fun e w' hh => ⟨hh.1, ⟨(hh.2.cell (p := ⟨N, 0, none⟩) (World.block_lt_of_cell? _ _ hSx.1.1)).trans hSx.1.1, (hh.2.cell (p := ⟨N, 1, none⟩) (World.block_lt_of_cell? _ _ hSx.1.2.1)).trans hSx.1.2.1, (hh.2.cell (p := ⟨wr.heap.size, 0, none⟩) (World.block_lt_of_cell? _ _ hSx.1.2.2.1)).trans hSx.1.2.2.1, (hh.2.cell (p := ⟨wr.heap.size, 1, none⟩) (World.block_lt_of_cell? _ _ hSx.1.2.2.2.1)).trans hSx.1.2.2.2.1, (hh.2.cell (p := ⟨ab, off + (k - 1) * 2, none⟩) (World.block_lt_of_cell? _ _ hSx.1.2.2.2.2)).trans hSx.1.2.2.2.2⟩, Lib.hid (hSx.2.out.trans (hh.2.mono hSx.2.out.size))⟩) ?_
            simp only [Act.put, List.setIfInBounds_toArray, List.set_cons_zero, List.set_cons_succ]
            go_big_quiet_want
            refine ⟨.bool false, fun wx hSx => ?_, ?_⟩
            · obtain ⟨⟨k0, k1, k2, k3, k4⟩, -⟩ := hSx
              go_simp
              try first
                | with_reducible rfl
                | rw [if_neg (by omega)]
            simp only [Act.put, List.setIfInBounds_toArray, List.set_cons_zero, List.set_cons_succ]
            go_big_quiet_on
            go_big_quiet_want
            go_big_quiet_op
            go_big_quiet_on
            go_big_quiet_want
            go_big_quiet_op
            go_big_quiet_on
            go_big_quiet_want
            refine ⟨.bool true, fun wx hSx => ?_, ?_⟩
            · obtain ⟨⟨k0, k1, k2, k3, k4⟩, -⟩ := hSx
              go_simp
              try first
                | with_reducible rfl
                | rw [if_neg (by omega)]
            simp only [Act.put, List.setIfInBounds_toArray, List.set_cons_zero, List.set_cons_succ]
            go_big_quiet_on
            go_big_quiet_want
            go_big_quiet_op
            go_big_quiet_on
            go_big_quiet_want
            refine ⟨.pointer (some ⟨wr.heap.size, 0, none⟩), fun wx hSx => ?_, ?_⟩
            · obtain ⟨⟨k0, k1, k2, k3, k4⟩, -⟩ := hSx
              go_simp
              try first
                | with_reducible rfl
                | rw [if_neg (by omega)]
            simp only [Act.put, List.setIfInBounds_toArray, List.set_cons_zero, List.set_cons_succ]
            go_big_quiet_on
            go_big_quiet_want
            refine ⟨.string key, fun wx hSx => ?_, ?_⟩
            · obtain ⟨⟨k0, k1, k2, k3, k4⟩, -⟩ := hSx
              go_simp
              try first
                | with_reducible rfl
                | rw [if_neg (by omega)]
            simp only [Act.put, List.setIfInBounds_toArray, List.set_cons_zero, List.set_cons_succ]
            go_big_quiet_on
            go_big_quiet_want
            refine ⟨.pointer (some ⟨N, 1, none⟩), fun wx hSx => ?_, ?_⟩
            · obtain ⟨⟨k0, k1, k2, k3, k4⟩, -⟩ := hSx
              go_simp
              try first
                | with_reducible rfl
                | rw [if_neg (by omega)]
            simp only [Act.put, List.setIfInBounds_toArray, List.set_cons_zero, List.set_cons_succ]
            go_big_quiet_on
            go_big_quiet_want
            refine ⟨.slice (some ⟨ab, off, none⟩) L.length c, fun wx hSx => ?_, ?_⟩
            · obtain ⟨⟨k0, k1, k2, k3, k4⟩, -⟩ := hSx
              go_simp
              try first
                | with_reducible rfl
                | rw [if_neg (by omega)]
            simp only [Act.put, List.setIfInBounds_toArray, List.set_cons_zero, List.set_cons_succ]
            go_big_quiet_on
            go_big_quiet_want
            go_big_quiet_op
            go_big_quiet_on
            go_big_quiet_want
            refine ⟨.int .i64 ((k - 1 : Nat) : Int), fun wx hSx => ?_, ?_⟩
            · obtain ⟨⟨k0, k1, k2, k3, k4⟩, -⟩ := hSx
              go_simp
              try first
                | with_reducible rfl
                | rw [if_neg (by omega)]
            simp only [Act.put, List.setIfInBounds_toArray, List.set_cons_zero, List.set_cons_succ]
            go_big_quiet_on
            go_big_quiet_want
            refine ⟨.pointer (some ⟨ab, off + (k - 1) * 2, none⟩), fun wx hSx => ?_, ?_⟩
            · obtain ⟨⟨k0, k1, k2, k3, k4⟩, -⟩ := hSx
              go_simp
              try first
                | with_reducible rfl
                | rw [if_neg (by omega)]
            simp only [Act.put, List.setIfInBounds_toArray, List.set_cons_zero, List.set_cons_succ]
            go_big_quiet_on
            go_big_quiet_want
            refine ⟨.pointer (some ⟨ab, off + (k - 1) * 2, none⟩), fun wx hSx => ?_, ?_⟩
            · obtain ⟨⟨k0, k1, k2, k3, k4⟩, -⟩ := hSx
              go_simp
              try first
                | with_reducible rfl
                | rw [if_neg (by omega)]
            simp only [Act.put, List.setIfInBounds_toArray, List.set_cons_zero, List.set_cons_succ]
            go_big_quiet_on
            go_big_quiet_want
            refine ⟨.string prev, fun wx hSx => ?_, ?_⟩
            · obtain ⟨⟨k0, k1, k2, k3, k4⟩, -⟩ := hSx
              go_simp
              try first
                | with_reducible rfl
                | rw [if_neg (by omega)]
            simp only [Act.put, List.setIfInBounds_toArray, List.set_cons_zero, List.set_cons_succ]
            go_big_quiet_on
            go_big_quiet_want
            refine ⟨.bool false, fun wx hSx => ?_, ?_⟩
            · obtain ⟨⟨k0, k1, k2, k3, k4⟩, -⟩ := hSx
              go_simp
              try first
                | with_reducible rfl
                | rw [if_neg (by omega)]
            simp only [Act.put, List.setIfInBounds_toArray, List.set_cons_zero, List.set_cons_succ]
            go_big_quiet_on
            go_big_quiet_want
            refine ⟨.bool false, fun wx hSx => ?_, ?_⟩
            · obtain ⟨⟨k0, k1, k2, k3, k4⟩, -⟩ := hSx
              go_simp
              try first
                | with_reducible rfl
                | rw [if_neg (by omega)]
            simp only [Act.put, List.setIfInBounds_toArray, List.set_cons_zero, List.set_cons_succ]
            go_big_quiet_on
            refine wpQuiet_nil ?_
            rintro w5 ⟨-, hb5⟩
            go_wp2_with fail
            go_roundw
            case rel => exact ⟨k + 1, by omega, by go_num, Lib.hid ⟨HI.out.1.trans ((HC.out.2.2.2.trans (hb5.out.mono (by omega))).mono HI.out.1.size), HC.out.1 (HC.out.2.2.1.2 ⟨by first | rfl | trivial, fun _ => by rw [hpv]; exact q5⟩)⟩⟩
            case measure => simp [RowKit.intOf]; omega
          · have b0 : Nd.le key prev = true := Nd.le_iff.2 q5
            have b1 : (Op.bytesLess key.toList prev.toList || key.toList == prev.toList) = true := b0
            go_wp2_with fail
            generalize hw2 : World.alloc wr _ = w2 at *
            refine wp_region_quiet_tail (C := fun wx => (wx.cell? ⟨N, 0, none⟩ = some (.bool leaf) ∧ wx.cell? ⟨N, 1, none⟩ = some (.slice (some ⟨ab, off, none⟩) L.length c) ∧ wx.cell? ⟨wr.heap.size, 0, none⟩ = some (.string key) ∧ wx.cell? ⟨wr.heap.size, 1, none⟩ = some (.string val) ∧ wx.cell? ⟨ab, off + (k - 1) * 2, none⟩ = some (.string prev)) ∧ Hid (Below w2.heap.size w2 wx)) 20 (by kernel_rfl) (by kernel_rfl) ⟨⟨y0, y1, x0, x1, p2⟩, Lib.hid (Below.refl w2.heap.size w2).drew⟩ ?_
            simp only [List.take_succ_cons, List.take_zero, List.drop_succ_cons, List.drop_zero]
            refine wpQuiet_read ⟨.pointer (some ⟨N, 0, none⟩), ⟨by rfl, fun wx hSx => ?_⟩, ?_⟩
            · obtain ⟨⟨k0, k1, k2, k3, k4⟩, -⟩ := hSx
              go_simp
              try first
                | with_reducible rfl
                | rw [if_neg (by omega)]
            simp only [Act.put, List.setIfInBounds_toArray, List.set_cons_zero, List.set_cons_succ]
            refine wpQuiet_read ⟨.bool leaf, ⟨by rfl, fun wx hSx => ?_⟩, ?_⟩
            · obtain ⟨⟨k0, k1, k2, k3, k4⟩, -⟩ := hSx
              go_simp
              try first
                | with_reducible rfl
                | rw [if_neg (by omega)]
            simp only [Act.put, List.setIfInBounds_toArray, List.set_cons_zero, List.set_cons_succ]
            refine wpQuiet_read ⟨pairV key val, ⟨by rfl, fun wx hSx => ?_⟩, ?_⟩
            · obtain ⟨⟨k0, k1, k2, k3, k4⟩, -⟩ := hSx
              go_simp
              try first
                | with_reducible rfl
                | rw [if_neg (by omega)]
            simp only [Act.put, List.setIfInBounds_toArray, List.set_cons_zero, List.set_cons_succ]
            refine wpQuiet_call rfl 52 #[.bool leaf, pairV key val] (.bool true) (fun wx hSx => by go_simp) (fun wx hSx => (CF.out wx).mono fun e w' hh => ⟨hh.1, ⟨(hh.2.cell (p := ⟨N, 0, none⟩) (World.block_lt_of_cell? _ _ hSx.1.1)).trans hSx.1.1, (hh.2.cell (p := ⟨N, 1, none⟩) (World.block_lt_of_cell? _ _ hSx.1.2.1)).trans hSx.1.2.1, (hh.2.cell (p := ⟨wr.heap.size, 0, none⟩) (World.block_lt_of_cell? _ _ hSx.1.2.2.1)).trans hSx.1.2.2.1, (hh.2.cell (p := ⟨wr.heap.size, 1, none⟩) (World.block_lt_of_cell? _ _ hSx.1.2.2.2.1)).trans hSx.1.2.2.2.1, (hh.2.cell (p := ⟨ab, off + (k - 1) * 2, none⟩) (World.block_lt_of_cell? _ _ hSx.1.2.2.2.2)).trans hSx.1.2.2.2.2⟩, Lib.hid (hSx.2.out.trans (hh.2.mono hSx.2.out.size))⟩) ?_
            simp only [Act.put, List.setIfInBounds_toArray, List.set_cons_zero, List.set_cons_succ]
            go_big_quiet_want
            refine ⟨.bool false, fun wx hSx => ?_, ?_⟩
            · obtain ⟨⟨k0, k1, k2, k3, k4⟩, -⟩ := hSx
              go_simp
              try first
                | with_reducible rfl
                | rw [if_neg (by omega)]
            simp only [Act.put, List.setIfInBounds_toArray, List.set_cons_zero, List.set_cons_succ]
            go_big_quiet_on
            go_big_quiet_want
            go_big_quiet_op
            go_big_quiet_on
            go_big_quiet_want
            go_big_quiet_op
            go_big_quiet_on
            go_big_quiet_want
            refine ⟨.bool true, fun wx hSx => ?_, ?_⟩
            · obtain ⟨⟨k0, k1, k2, k3, k4⟩, -⟩ := hSx
              go_simp
              try first
                | with_reducible rfl
                | rw [if_neg (by omega)]
            simp only [Act.put, List.setIfInBounds_toArray, List.set_cons_zero, List.set_cons_succ]
            go_big_quiet_on
            go_big_quiet_want
            go_big_quiet_op
            go_big_quiet_on
            go_big_quiet_want
            refine ⟨.pointer (some ⟨wr.heap.size, 0, none⟩), fun wx hSx => ?_, ?_⟩
            · obtain ⟨⟨k0, k1, k2, k3, k4⟩, -⟩ := hSx
              go_simp
              try first
                | with_reducible rfl
                | rw [if_neg (by omega)]
            simp only [Act.put, List.setIfInBounds_toArray, List.set_cons_zero, List.set_cons_succ]
            go_big_quiet_on
            go_big_quiet_want
            refine ⟨.string key, fun wx hSx => ?_, ?_⟩
            · obtain ⟨⟨k0, k1, k2, k3, k4⟩, -⟩ := hSx
              go_simp
              try first
                | with_reducible rfl
                | rw [if_neg (by omega)]
            simp only [Act.put, List.setIfInBounds_toArray, List.set_cons_zero, List.set_cons_succ]
            go_big_quiet_on
            go_big_quiet_want
            refine ⟨.pointer (some ⟨N, 1, none⟩), fun wx hSx => ?_, ?_⟩
            · obtain ⟨⟨k0, k1, k2, k3, k4⟩, -⟩ := hSx
              go_simp
              try first
                | with_reducible rfl
                | rw [if_neg (by omega)]
            simp only [Act.put, List.setIfInBounds_toArray, List.set_cons_zero, List.set_cons_succ]
            go_big_quiet_on
            go_big_quiet_want
            refine ⟨.slice (some ⟨ab, off, none⟩) L.length c, fun wx hSx => ?_, ?_⟩
            · obtain ⟨⟨k0, k1, k2, k3, k4⟩, -⟩ := hSx
              go_simp
              try first
                | with_reducible rfl
                | rw [if_neg (by omega)]
            simp only [Act.put, List.setIfInBounds_toArray, List.set_cons_zero, List.set_cons_succ]
            go_big_quiet_on
            go_big_quiet_want
            go_big_quiet_op
            go_big_quiet_on
            go_big_quiet_want
            refine ⟨.int .i64 ((k - 1 : Nat) : Int), fun wx hSx => ?_, ?_⟩
            · obtain ⟨⟨k0, k1, k2, k3, k4⟩, -⟩ := hSx
              go_simp
              try first
                | with_reducible rfl
                | rw [if_neg (by omega)]
            simp only [Act.put, List.setIfInBounds_toArray, List.set_cons_zero, List.set_cons_succ]
            go_big_quiet_on
            go_big_quiet_want
            refine ⟨.pointer (some ⟨ab, off + (k - 1) * 2, none⟩), fun wx hSx => ?_, ?_⟩
            · obtain ⟨⟨k0, k1, k2, k3, k4⟩, -⟩ := hSx
              go_simp
              try first
                | with_reducible rfl
                | rw [if_neg (by omega)]
            simp only [Act.put, List.setIfInBounds_toArray, List.set_cons_zero, List.set_cons_succ]
            go_big_quiet_on
            go_big_quiet_want
            refine ⟨.pointer (some ⟨ab, off + (k - 1) * 2, none⟩), fun wx hSx => ?_, ?_⟩
            · obtain ⟨⟨k0, k1, k2, k3, k4⟩, -⟩ := hSx
              go_simp
              try first
                | with_reducible rfl
                | rw [if_neg (by omega)]
            simp only [Act.put, List.setIfInBounds_toArray, List.set_cons_zero, List.set_cons_succ]
            go_big_quiet_on
            go_big_quiet_want
            refine ⟨.string prev, fun wx hSx => ?_, ?_⟩
            · obtain ⟨⟨k0, k1, k2, k3, k4⟩, -⟩ := hSx
              go_simp
              try first
                | with_reducible rfl
                | rw [if_neg (by omega)]
            simp only [Act.put, List.setIfInBounds_toArray, List.set_cons_zero, List.set_cons_succ]
            go_big_quiet_on
            go_big_quiet_want
            refine ⟨.bool true, fun wx hSx => ?_, ?_⟩
            · obtain ⟨⟨k0, k1, k2, k3, k4⟩, -⟩ := hSx
              go_simp
              try first
                | with_reducible rfl
                | rw [if_neg (by omega)]
            simp only [Act.put, List.setIfInBounds_toArray, List.set_cons_zero, List.set_cons_succ]
            go_big_quiet_on
            go_big_quiet_want
            refine ⟨.bool true, fun wx hSx => ?_, ?_⟩
            · obtain ⟨⟨k0, k1, k2, k3, k4⟩, -⟩ := hSx
              go_simp
              try first
                | with_reducible rfl
                | rw [if_neg (by omega)]
            simp only [Act.put, List.setIfInBounds_toArray, List.set_cons_zero, List.set_cons_succ]
            go_big_quiet_on
            refine wpQuiet_nil ?_
            rintro w5 ⟨-, hb5⟩
            go_wp2_with fail
            go_ret
            have hno : ¬ Nd.okAt leaf L k := fun h => q5 (by rw [← hpv]; exact (HC.out.2.2.1.1 h).2 (by have := Q3.out; omega))
            rw [HC.out.2.1 hno]
            exact ⟨rfl, by rw [hN]; exact (HB.out.trans (HI.out.1.mono hNsz)).trans ((HC.out.2.2.2.trans (hb5.out.mono (by omega))).mono (Nat.le_trans hNsz HI.out.1.size))⟩
    · obtain rfl : k = L.length := by omega
      have hfin : RR = decide (0 < L.length) := by
        rw [← HR.out]
        rw [Bool.eq_iff_iff, decide_eq_true_iff, decide_eq_true_iff, H.out.2.2.2]
        exact ⟨fun h => h.1, fun h => ⟨h, HI.out.2⟩⟩
      go_wp2_with fail
      go_ret
      rw [hfin]
      exact ⟨rfl, by rw [hN]; exact HB.out.trans (HI.out.1.mono hNsz)⟩
end Go.Proofs.Ytjlglfhnnipjaaa
