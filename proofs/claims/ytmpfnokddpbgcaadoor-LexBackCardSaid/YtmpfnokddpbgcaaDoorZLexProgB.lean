/-
  Layer 13, the program's: names.
-/
import Derived.Test.YtmpfnokddpbgcaaDoorZLexProgA
namespace Go.Proofs.YtmpfnokddpbgcaaDoor
open Go.RowKit
namespace Lx
theorem numT_kind (l : List UInt8) (h : (numT l).2.2 = 0) : (numT l).1.kind = 2 := by
  revert h; unfold numT; split
  · intro h; exact absurd h (by decide)
  · split
    · intro h; exact absurd h (by decide)
    · intro _; rfl
theorem txtT_kind (l : List UInt8) (h : (txtT l).2.2 = 0) : (txtT l).1.kind = 3 := by
  revert h; unfold txtT; split
  · intro h; exact absurd h (by decide)
  · split
    · intro h; exact absurd h (by decide)
    · intro _; rfl
theorem markT_kind (l : List UInt8) (h : (markT l).2.2 = 0) : (markT l).1.kind = 4 := by
  revert h; unfold markT; split
  · intro _; rfl
  · intro h; exact absurd h (by decide)
theorem nameB_yes {s : ByteArray} (he : (one s.data.toList).2.2 = 0) (hk : (one s.data.toList).1.kind = 1) (hn : (one s.data.toList).2.1 = s.size) : nameB s = !reserved s.data.toList := by
  have hl : s.data.toList.length = s.size := Array.length_toList ..
  unfold nameB
  cases hd : s.data.toList with
  | nil => rw [hd] at he; exact absurd he (by decide)
  | cons c r =>
    rw [hd] at he hk hn
    rw [one_cons] at he hk hn
    by_cases hL : letter c = true
    · rw [if_pos hL] at he hk hn
      revert he hn
      unfold nameT
      split
      · intro _ he; exact absurd he (by decide)
      · rename_i h16
        intro hn _
        have hn : word false (c :: r) = s.size := hn
        have hm : ¬ s = Vl.mt := fun e => by rw [e] at hd; cases hd
        rw [hn, decide_eq_false hm, decide_eq_true rfl, decide_eq_true (show s.size ≤ 16 by omega)]; rfl
    · rw [if_neg hL] at he hk
      by_cases hD : digit c = true
      · rw [if_pos hD] at he hk
        rw [numT_kind _ he] at hk; exact absurd hk (by decide)
      · rw [if_neg hD] at he hk
        by_cases hq : c = 34
        · rw [if_pos hq] at he hk
          rw [txtT_kind _ he] at hk; exact absurd hk (by decide)
        · rw [if_neg hq] at he hk
          rw [markT_kind _ he] at hk; exact absurd hk (by decide)
theorem nameB_no {s : ByteArray} (h : ¬ ((one s.data.toList).2.2 = 0 ∧ (one s.data.toList).1.kind = 1 ∧ (one s.data.toList).2.1 = s.size)) : nameB s = false := by
  cases hB : nameB s with
  | false => rfl
  | true =>
    exfalso
    apply h
    unfold nameB at hB
    simp only [Bool.and_eq_true, Bool.not_eq_true', decide_eq_false_iff_not, decide_eq_true_eq] at hB
    obtain ⟨⟨⟨hm, hw⟩, h16⟩, _⟩ := hB
    cases hd : s.data.toList with
    | nil => exact absurd (Sl.ba_ext (by rw [hd])) hm
    | cons c r =>
      rw [hd] at hw
      have hL : letter c = true := by
        cases hL : letter c with
        | true => rfl
        | false =>
          rw [word, hL] at hw
          have : s.size = 0 := by simpa using hw.symm
          have hl : s.data.toList.length = s.size := Array.length_toList ..
          rw [hd, List.length_cons] at hl
          omega
      rw [one_cons, if_pos hL]
      unfold nameT
      rw [if_neg (by omega)]
      exact ⟨rfl, rfl, hw⟩
end Lx
set_option maxRecDepth 100000 in
set_option maxHeartbeats 6400000 in
theorem Name13_any (s : ByteArray) (w : World) (hs : s.size ≤ 1000000) (hE : ErrR w) :
    Calls Tryd.prog 11 #[.string s] w fun e w' => e = .returned (.bool (Lx.nameB s)) ∧ Below w.heap.size w w' := by
  have hY := Lx.nameB_yes (s := s)
  have hN := Lx.nameB_no (s := s)
  have cF := first13_any s w hs hE
  have cR := fun w => reserved13_any s w
  generalize (Lx.one s.data.toList).2.1 = N at *
  generalize (Lx.one s.data.toList).2.2 = E at *
  generalize (Lx.one s.data.toList).1 = V at *
  obtain ⟨vk, vs, vn, va⟩ := V
  generalize Lx.nameB s = B at *
  generalize Lx.reserved s.data.toList = R at *
  have H := Lib.hid (And.intro cF cR)
  clear cF cR hE
  by_cases he : E = 0
  · have t1 : (E == 0) = true := by simpa using he
    by_cases hk : vk = 1
    · have t2 : (vk == 1) = true := by simpa using hk
      by_cases hn : N = s.size
      · have t3 : ((N : Int) == (s.size : Int)) = true := by simp; omega
        have HR := Lib.hid (hY he hk hn)
        clear hY hN he hk hn
        go_enter Tryd.func11, Tryd.ntmps11
        go_wp2_with fail
        refine H.out.1.mono ?_
        rintro e w1 ⟨rfl, hb1⟩
        obtain ⟨q0, q1, q2⟩ := tok_new ⟨vk, vs, vn, va⟩ w1
        obtain ⟨a0, a1, a2, a3, g0, g1, g2, g3⟩ := tok_cells (v := ⟨vk, vs, vn, va⟩) q0
        have L := Lib.hid (hb1.alloc hb1.size (.cells (tokC ⟨vk, vs, vn, va⟩) 33))
        clear hb1 q0 q1 q2
        go_upto_region 2 with (fail)
        generalize hws : World.alloc w1 _ = ws at *
        go_wp2_with (go_at_call 19; refine (H.out.2 _).mono ?_; rintro e w2 ⟨rfl, rfl⟩)
        go_ret
        exact ⟨ret_bool HR.out.symm, L.out⟩
      · have t3 : ((N : Int) == (s.size : Int)) = false := by simp; omega
        have HR := Lib.hid (hN fun x => hn x.2.2)
        clear hY hN he hk hn
        go_enter Tryd.func11, Tryd.ntmps11
        go_wp2_with fail
        refine H.out.1.mono ?_
        rintro e w1 ⟨rfl, hb1⟩
        obtain ⟨q0, q1, q2⟩ := tok_new ⟨vk, vs, vn, va⟩ w1
        obtain ⟨a0, a1, a2, a3, g0, g1, g2, g3⟩ := tok_cells (v := ⟨vk, vs, vn, va⟩) q0
        have L := Lib.hid (hb1.alloc hb1.size (.cells (tokC ⟨vk, vs, vn, va⟩) 33))
        clear hb1 q0 q1 q2
        go_upto_region 2 with (fail)
        generalize hws : World.alloc w1 _ = ws at *
        go_wp2_with fail
        go_ret
        exact ⟨ret_bool HR.out.symm, L.out⟩
    · have t2 : (vk == 1) = false := by simpa using hk
      have HR := Lib.hid (hN fun x => hk x.2.1)
      clear hY hN he hk
      go_enter Tryd.func11, Tryd.ntmps11
      go_wp2_with fail
      refine H.out.1.mono ?_
      rintro e w1 ⟨rfl, hb1⟩
      obtain ⟨q0, q1, q2⟩ := tok_new ⟨vk, vs, vn, va⟩ w1
      obtain ⟨a0, a1, a2, a3, g0, g1, g2, g3⟩ := tok_cells (v := ⟨vk, vs, vn, va⟩) q0
      have L := Lib.hid (hb1.alloc hb1.size (.cells (tokC ⟨vk, vs, vn, va⟩) 33))
      clear hb1 q0 q1 q2
      go_upto_region 2 with (fail)
      generalize hws : World.alloc w1 _ = ws at *
      go_wp2_with fail
      go_ret
      exact ⟨ret_bool HR.out.symm, L.out⟩
  · have t1 : (E == 0) = false := by simpa using he
    have HR := Lib.hid (hN fun x => he x.1)
    clear hY hN he
    go_enter Tryd.func11, Tryd.ntmps11
    go_wp2_with fail
    refine H.out.1.mono ?_
    rintro e w1 ⟨rfl, hb1⟩
    have L := Lib.hid (hb1.alloc hb1.size (.cells (tokC ⟨vk, vs, vn, va⟩) 33))
    clear hb1
    go_upto_region 2 with (fail)
    generalize hws : World.alloc w1 _ = ws at *
    go_wp2_with fail
    go_ret
    exact ⟨ret_bool HR.out.symm, L.out⟩
end Go.Proofs.YtmpfnokddpbgcaaDoor
