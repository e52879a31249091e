/-
  Layer 13, the program's: a token's text.
-/
import Derived.Test.YtmpfnokddpbgcaaDoorZLexProg7
import Derived.Deep.Cut
namespace Go.Proofs.YtmpfnokddpbgcaaDoor
open Go.RowKit
theorem Lx.wr_strip (t : Lx.T) : Lx.wr (Lx.strip t) = Lx.wr t := rfl
set_option maxRecDepth 100000 in
set_option maxHeartbeats 6400000 in
theorem text13t_any (t : Lx.T) (hs : t.s.size ≤ 900000) (h0 : -9223372036854775808 ≤ t.n) (h1 : t.n ≤ 9223372036854775807) (w : World) (hP : Pow10 w) (hE : ErrR w) :
    Calls Tryd.prog 15 #[tokV t] w fun e w' => e = .returned (.tuple #[.string (Lx.textT t).1, .int .i64 (Lx.textT t).2]) ∧ Below w.heap.size w w' := by
  have hz := Lx.wr_size t h0 h1
  have hY := Lx.textT_yes (t := t)
  have hN := Lx.textT_no (t := t) h1
  obtain ⟨r0, b0, s0⟩ := tok_new (Lx.strip t) w
  have cW := written13_any (Lx.strip t) h0 h1 _ (pow10_below hP b0)
  rw [Lx.wr_strip] at cW
  have cF := fun wx hx => first13_any (Lx.wr t) wx (by omega) hx
  have hlt : w.heap.size < (w.alloc (.cells (tokC (Lx.strip t)) 33)).heap.size := by rw [s0]; omega
  obtain ⟨k, s, n, a⟩ := t
  generalize (Lx.one (Lx.wr ⟨k, s, n, a⟩).data.toList).2.1 = N at *
  generalize (Lx.one (Lx.wr ⟨k, s, n, a⟩).data.toList).2.2 = E at *
  generalize (Lx.one (Lx.wr ⟨k, s, n, a⟩).data.toList).1 = V at *
  generalize Lx.wr ⟨k, s, n, a⟩ = W at *
  generalize Lx.textT ⟨k, s, n, a⟩ = R at *
  obtain ⟨vk, vs, vn, va⟩ := V
  have H := Lib.hid (And.intro cW (And.intro cF (And.intro hY (And.intro r0 (And.intro hlt (And.intro b0 hE))))))
  have HN := Lib.hid hN
  clear cW cF hY hN r0 hlt b0 hE s0 hP
  by_cases he : E = 0
  · have t1 : (E != 0) = false := by simpa using he
    by_cases hn : N = W.size
    · have t2 : ((N : Int) != (W.size : Int)) = false := by simp; omega
      by_cases hv : (⟨vk, vs, vn, va⟩ : Lx.T) = Lx.strip ⟨k, s, n, a⟩
      · have HR := Lib.hid (H.out.2.2.1 he hv)
        have t3 : ∀ wx, (binOp BinOp.neq 33 (.agg #[.int .i64 vk, .string vs, .int .i64 vn, .int .i64 va]) (.agg #[.int .i64 k, .string s, .int .i64 n, .int .i64 0])).run Tryd.prog wx = .ok (.bool false) wx := fun wx => by
          have e : vk = k ∧ vs = s ∧ vn = n ∧ va = 0 := by
            unfold Lx.strip at hv
            injection hv with e1 e2 e3 e4
            exact ⟨e1, e2, e3, e4⟩
          rw [e.1, e.2.1, e.2.2.1, e.2.2.2]
          exact neq_tok_same ⟨k, s, n, 0⟩ wx
        have HT := Lib.hid t3
        clear hv he hn t3
        go_enter Tryd.func15, Tryd.ntmps15
        go_wp2_with fail
        refine H.out.1.mono ?_
        rintro e w1 ⟨rfl, hb1⟩
        have hr1 := rowV_below H.out.2.2.2.1 hb1 H.out.2.2.2.2.1
        have hB1 := H.out.2.2.2.2.2.1.trans (hb1.mono H.out.2.2.2.2.2.1.size)
        have hE1 := errR_below H.out.2.2.2.2.2.2 hB1
        have L1 := Lib.hid (And.intro hr1 (And.intro hB1 hE1))
        have hl1 := rowV_lt hr1
        clear hb1 hr1 hB1 hE1
        go_wp2_with fail
        refine (H.out.2.1 _ L1.out.2.2).mono ?_
        rintro e w2 ⟨rfl, hb2⟩
        obtain ⟨q0, q1, q2⟩ := tok_new ⟨vk, vs, vn, va⟩ w2
        have hr2 := rowV_below L1.out.1 hb2 hl1
        have ra := rowV_alloc hr2 (.cells (tokC ⟨vk, vs, vn, va⟩) 33)
        have hB2 := (L1.out.2.1.trans (hb2.mono L1.out.2.1.size))
        have hB3 := hB2.alloc hB2.size (.cells (tokC ⟨vk, vs, vn, va⟩) 33)
        have L2 := Lib.hid (And.intro ra (And.intro q0 hB3))
        clear hb2 hr2 ra hB2 hB3 q0 q1 q2 hl1
        go_upto_region 4 with (fail)
        generalize hws : World.alloc w2 _ = ws at *
        obtain ⟨a0, a1, a2, a3, g0, g1, g2, g3⟩ := tok_cells (v := ⟨k, s, n, 0⟩) L2.out.1
        obtain ⟨c0, c1, c2, c3, d0, d1, d2, d3⟩ := tok_cells (v := ⟨vk, vs, vn, va⟩) L2.out.2.1
        have t3 := HT.out
        go_wp2_with fail
        go_ret2
        exact ⟨by rw [HR.out]; rfl, L2.out.2.2⟩
      · have HR := Lib.hid (HN.out (fun x => hv x.2.2))
        have t3 : ∀ wx, (binOp BinOp.neq 33 (.agg #[.int .i64 vk, .string vs, .int .i64 vn, .int .i64 va]) (.agg #[.int .i64 k, .string s, .int .i64 n, .int .i64 0])).run Tryd.prog wx = .ok (.bool true) wx := fun wx => neq_tok_other hv wx
        have HT := Lib.hid t3
        clear hv he hn t3
        go_enter Tryd.func15, Tryd.ntmps15
        go_wp2_with fail
        refine H.out.1.mono ?_
        rintro e w1 ⟨rfl, hb1⟩
        have hr1 := rowV_below H.out.2.2.2.1 hb1 H.out.2.2.2.2.1
        have hB1 := H.out.2.2.2.2.2.1.trans (hb1.mono H.out.2.2.2.2.2.1.size)
        have hE1 := errR_below H.out.2.2.2.2.2.2 hB1
        have L1 := Lib.hid (And.intro hr1 (And.intro hB1 hE1))
        have hl1 := rowV_lt hr1
        clear hb1 hr1 hB1 hE1
        go_wp2_with fail
        refine (H.out.2.1 _ L1.out.2.2).mono ?_
        rintro e w2 ⟨rfl, hb2⟩
        obtain ⟨q0, q1, q2⟩ := tok_new ⟨vk, vs, vn, va⟩ w2
        have hr2 := rowV_below L1.out.1 hb2 hl1
        have ra := rowV_alloc hr2 (.cells (tokC ⟨vk, vs, vn, va⟩) 33)
        have hB2 := (L1.out.2.1.trans (hb2.mono L1.out.2.1.size))
        have hB3 := hB2.alloc hB2.size (.cells (tokC ⟨vk, vs, vn, va⟩) 33)
        have L2 := Lib.hid (And.intro ra (And.intro q0 hB3))
        clear hb2 hr2 ra hB2 hB3 q0 q1 q2 hl1
        go_upto_region 4 with (fail)
        generalize hws : World.alloc w2 _ = ws at *
        obtain ⟨a0, a1, a2, a3, g0, g1, g2, g3⟩ := tok_cells (v := ⟨k, s, n, 0⟩) L2.out.1
        obtain ⟨c0, c1, c2, c3, d0, d1, d2, d3⟩ := tok_cells (v := ⟨vk, vs, vn, va⟩) L2.out.2.1
        have t3 := HT.out
        go_wp2_with fail
        go_ret2
        exact ⟨by rw [HR.out]; rfl, L2.out.2.2⟩
    · have t2 : ((N : Int) != (W.size : Int)) = true := by simp; omega
      have HR := Lib.hid (HN.out (fun x => hn x.2.1))
      clear he hn
      go_enter Tryd.func15, Tryd.ntmps15
      go_wp2_with fail
      refine H.out.1.mono ?_
      rintro e w1 ⟨rfl, hb1⟩
      have hr1 := rowV_below H.out.2.2.2.1 hb1 H.out.2.2.2.2.1
      have hB1 := H.out.2.2.2.2.2.1.trans (hb1.mono H.out.2.2.2.2.2.1.size)
      have hE1 := errR_below H.out.2.2.2.2.2.2 hB1
      have L1 := Lib.hid (And.intro hr1 (And.intro hB1 hE1))
      have hl1 := rowV_lt hr1
      clear hb1 hr1 hB1 hE1
      go_wp2_with fail
      refine (H.out.2.1 _ L1.out.2.2).mono ?_
      rintro e w2 ⟨rfl, hb2⟩
      obtain ⟨q0, q1, q2⟩ := tok_new ⟨vk, vs, vn, va⟩ w2
      have hr2 := rowV_below L1.out.1 hb2 hl1
      have ra := rowV_alloc hr2 (.cells (tokC ⟨vk, vs, vn, va⟩) 33)
      have hB2 := (L1.out.2.1.trans (hb2.mono L1.out.2.1.size))
      have hB3 := hB2.alloc hB2.size (.cells (tokC ⟨vk, vs, vn, va⟩) 33)
      have L2 := Lib.hid (And.intro ra (And.intro q0 hB3))
      clear hb2 hr2 ra hB2 hB3 q0 q1 q2 hl1
      go_upto_region 4 with (fail)
      generalize hws : World.alloc w2 _ = ws at *
      obtain ⟨a0, a1, a2, a3, g0, g1, g2, g3⟩ := tok_cells (v := ⟨k, s, n, 0⟩) L2.out.1
      obtain ⟨c0, c1, c2, c3, d0, d1, d2, d3⟩ := tok_cells (v := ⟨vk, vs, vn, va⟩) L2.out.2.1
      skip
      go_wp2_with fail
      go_ret2
      exact ⟨by rw [HR.out]; rfl, L2.out.2.2⟩
  · have t1 : (E != 0) = true := by simpa using he
    have HR := Lib.hid (HN.out (fun x => he x.1))
    clear he
    go_enter Tryd.func15, Tryd.ntmps15
    go_wp2_with fail
    refine H.out.1.mono ?_
    rintro e w1 ⟨rfl, hb1⟩
    have hr1 := rowV_below H.out.2.2.2.1 hb1 H.out.2.2.2.2.1
    have hB1 := H.out.2.2.2.2.2.1.trans (hb1.mono H.out.2.2.2.2.2.1.size)
    have hE1 := errR_below H.out.2.2.2.2.2.2 hB1
    have L1 := Lib.hid (And.intro hr1 (And.intro hB1 hE1))
    have hl1 := rowV_lt hr1
    clear hb1 hr1 hB1 hE1
    go_wp2_with fail
    refine (H.out.2.1 _ L1.out.2.2).mono ?_
    rintro e w2 ⟨rfl, hb2⟩
    obtain ⟨q0, q1, q2⟩ := tok_new ⟨vk, vs, vn, va⟩ w2
    have hr2 := rowV_below L1.out.1 hb2 hl1
    have ra := rowV_alloc hr2 (.cells (tokC ⟨vk, vs, vn, va⟩) 33)
    have hB2 := (L1.out.2.1.trans (hb2.mono L1.out.2.1.size))
    have hB3 := hB2.alloc hB2.size (.cells (tokC ⟨vk, vs, vn, va⟩) 33)
    have L2 := Lib.hid (And.intro ra (And.intro q0 hB3))
    clear hb2 hr2 ra hB2 hB3 q0 q1 q2 hl1
    go_upto_region 4 with (fail)
    generalize hws : World.alloc w2 _ = ws at *
    obtain ⟨a0, a1, a2, a3, g0, g1, g2, g3⟩ := tok_cells (v := ⟨k, s, n, 0⟩) L2.out.1
    obtain ⟨c0, c1, c2, c3, d0, d1, d2, d3⟩ := tok_cells (v := ⟨vk, vs, vn, va⟩) L2.out.2.1
    skip
    go_wp2_with fail
    go_ret2
    exact ⟨by rw [HR.out]; rfl, L2.out.2.2⟩
end Go.Proofs.YtmpfnokddpbgcaaDoor
