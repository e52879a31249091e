/-
  Layer 13: two lists of tokens compared, the document's: walked.
-/
import Derived.Test.YtmpfnokddpbgcaaDoorZLexSame
import Derived.Test.YtmpfnokddpbgcaaDoorPk2
import Derived.BigQuiet
namespace Go.Proofs.YtmpfnokddpbgcaaDoor
open Go.RowKit
open Classical in
set_option maxRecDepth 100000 in
set_option maxHeartbeats 64000000 in
theorem rSame13_any (p : Bool) (a a' : Option Addr) (L M : List Lx.T) (c c' : Nat) (w : World) (hr : ReadsT13 w a L) (hr' : ReadsT13 w a' M) (hL : L.length ≤ maxLen) :
    Calls Tryd.prog 10 #[.slice a L.length c, .slice a' M.length c', .bool p] w fun e w' => e = .returned (.bool (decide (L.map (Lx.key p) = M.map (Lx.key p)))) ∧ Below w.heap.size w w' := by
  unfold maxLen at hL
  by_cases hl : L.length = M.length
  · go_enter Tryd.func10, Tryd.ntmps10
    have t : (((L.length : Nat) : Int) != ((M.length : Nat) : Int)) = false := by simp [hl]
    have HL := Lib.hid hl
    clear hl
    go_wp2_with fail
    go_loopw [7] (fun i wr => ∃ k : Nat, k ≤ L.length ∧ i = .int .i64 (k : Int) ∧ Hid (Lx.SameK p L M k) ∧ Hid (Below w.heap.size w wr)) (fun i _ => L.length - (intOf i).toNat)
    case atStart => exact ⟨0, Nat.zero_le _, rfl, Lib.hid rfl, Lib.hid (Below.refl _ _)⟩
    case round =>
      obtain ⟨k, hk, rfl, HE, HI⟩ := hrel
      by_cases hlt : k < L.length
      · have hlt2 : k < M.length := by have := HL.out; omega
        obtain ⟨b, off, rfl, c0, c1, c2, c3⟩ := readsT13_at (readsT13_below hr HI.out) k hlt
        obtain ⟨b', off', rfl, d0, d1, d2, d3⟩ := readsT13_at (readsT13_below hr' HI.out) k hlt2
        have hX := Lx.sameK_next HE.out hlt hlt2
        have hY := Lx.sameK_not (p := p) hlt hlt2
        generalize hx : L[k] = x at *
        generalize hy : M[k] = y at *
        obtain ⟨vk, vs, vn, va⟩ := x
        obtain ⟨uk, us, un, ua⟩ := y
        by_cases e0 : vk = uk
        · subst e0
          by_cases e1 : vs = us
          · subst e1
            by_cases e2 : vn = un
            · subst e2
              cases p with
              | false =>
                have HS := Lib.hid (hX rfl)
                clear hX hY hx hy
                go_wp2_with fail
                refine wp_region_quiet_tail (C := fun wx => (wx.cell? ⟨b, off + k * 4, none⟩ = some (.int .i64 vk) ∧ wx.cell? ⟨b', off' + k * 4, none⟩ = some (.int .i64 vk) ∧ wx.cell? ⟨b, off + k * 4 + 1, none⟩ = some (.string vs) ∧ wx.cell? ⟨b', off' + k * 4 + 1, none⟩ = some (.string vs) ∧ wx.cell? ⟨b, off + k * 4 + 2, none⟩ = some (.int .i64 vn) ∧ wx.cell? ⟨b', off' + k * 4 + 2, none⟩ = some (.int .i64 vn)) ∧ Hid (Below wr.heap.size wr wx)) 52 (by kernel_rfl) (by kernel_rfl) ⟨⟨c0, d0, c1, d1, c2, d2⟩, Lib.hid (Below.refl wr.heap.size wr).drew⟩ ?_
                simp only [List.take_succ_cons, List.take_zero, List.drop_succ_cons, List.drop_zero]
                go_big_quiet_want
                go_big_quiet_op
                go_big_quiet_on
                go_big_quiet_want
                go_big_quiet_op
                go_big_quiet_on
                go_big_quiet_want
                refine ⟨(.pointer (some ⟨b, off + k * 4, none⟩)), fun wx hSx => ?_, ?_⟩
                · obtain ⟨⟨k0, k1, k2, k3, k4, k5⟩, -⟩ := hSx
                  go_simp
                  try exact fun hx => absurd hx (by omega)
                simp only [Act.put, List.setIfInBounds_toArray, List.set_cons_zero, List.set_cons_succ]
                go_big_quiet_on
                go_big_quiet_want
                refine ⟨(.pointer (some ⟨b, off + k * 4, none⟩)), fun wx hSx => ?_, ?_⟩
                · obtain ⟨⟨k0, k1, k2, k3, k4, k5⟩, -⟩ := hSx
                  go_simp
                  try rfl
                simp only [Act.put, List.setIfInBounds_toArray, List.set_cons_zero, List.set_cons_succ]
                go_big_quiet_on
                go_big_quiet_want
                refine ⟨(.int .i64 vk), fun wx hSx => ?_, ?_⟩
                · obtain ⟨⟨k0, k1, k2, k3, k4, k5⟩, -⟩ := hSx
                  go_simp
                  try rfl
                simp only [Act.put, List.setIfInBounds_toArray, List.set_cons_zero, List.set_cons_succ]
                go_big_quiet_on
                go_big_quiet_want
                go_big_quiet_op
                go_big_quiet_on
                go_big_quiet_want
                go_big_quiet_op
                go_big_quiet_on
                go_big_quiet_want
                refine ⟨(.pointer (some ⟨b', off' + k * 4, none⟩)), fun wx hSx => ?_, ?_⟩
                · obtain ⟨⟨k0, k1, k2, k3, k4, k5⟩, -⟩ := hSx
                  go_simp
                  try exact fun hx => absurd hx (by omega)
                simp only [Act.put, List.setIfInBounds_toArray, List.set_cons_zero, List.set_cons_succ]
                go_big_quiet_on
                go_big_quiet_want
                refine ⟨(.pointer (some ⟨b', off' + k * 4, none⟩)), fun wx hSx => ?_, ?_⟩
                · obtain ⟨⟨k0, k1, k2, k3, k4, k5⟩, -⟩ := hSx
                  go_simp
                  try rfl
                simp only [Act.put, List.setIfInBounds_toArray, List.set_cons_zero, List.set_cons_succ]
                go_big_quiet_on
                go_big_quiet_want
                refine ⟨(.int .i64 vk), fun wx hSx => ?_, ?_⟩
                · obtain ⟨⟨k0, k1, k2, k3, k4, k5⟩, -⟩ := hSx
                  go_simp
                  try rfl
                simp only [Act.put, List.setIfInBounds_toArray, List.set_cons_zero, List.set_cons_succ]
                go_big_quiet_on
                go_big_quiet_want
                refine ⟨(.bool false), fun wx hSx => ?_, ?_⟩
                · obtain ⟨⟨k0, k1, k2, k3, k4, k5⟩, -⟩ := hSx
                  go_simp
                  try first | done | assumption | rfl
                simp only [Act.put, List.setIfInBounds_toArray, List.set_cons_zero, List.set_cons_succ]
                go_big_quiet_on
                go_big_quiet_want
                go_big_quiet_op
                go_big_quiet_on
                go_big_quiet_want
                go_big_quiet_op
                go_big_quiet_on
                go_big_quiet_want
                go_big_quiet_op
                go_big_quiet_on
                go_big_quiet_want
                refine ⟨(.pointer (some ⟨b, off + k * 4, none⟩)), fun wx hSx => ?_, ?_⟩
                · obtain ⟨⟨k0, k1, k2, k3, k4, k5⟩, -⟩ := hSx
                  go_simp
                  try exact fun hx => absurd hx (by omega)
                simp only [Act.put, List.setIfInBounds_toArray, List.set_cons_zero, List.set_cons_succ]
                go_big_quiet_on
                go_big_quiet_want
                refine ⟨(.pointer (some ⟨b, off + k * 4 + 1, none⟩)), fun wx hSx => ?_, ?_⟩
                · obtain ⟨⟨k0, k1, k2, k3, k4, k5⟩, -⟩ := hSx
                  go_simp
                  try rfl
                simp only [Act.put, List.setIfInBounds_toArray, List.set_cons_zero, List.set_cons_succ]
                go_big_quiet_on
                go_big_quiet_want
                refine ⟨(.string vs), fun wx hSx => ?_, ?_⟩
                · obtain ⟨⟨k0, k1, k2, k3, k4, k5⟩, -⟩ := hSx
                  go_simp
                  try rfl
                simp only [Act.put, List.setIfInBounds_toArray, List.set_cons_zero, List.set_cons_succ]
                go_big_quiet_on
                go_big_quiet_want
                go_big_quiet_op
                go_big_quiet_on
                go_big_quiet_want
                go_big_quiet_op
                go_big_quiet_on
                go_big_quiet_want
                refine ⟨(.pointer (some ⟨b', off' + k * 4, none⟩)), fun wx hSx => ?_, ?_⟩
                · obtain ⟨⟨k0, k1, k2, k3, k4, k5⟩, -⟩ := hSx
                  go_simp
                  try exact fun hx => absurd hx (by omega)
                simp only [Act.put, List.setIfInBounds_toArray, List.set_cons_zero, List.set_cons_succ]
                go_big_quiet_on
                go_big_quiet_want
                refine ⟨(.pointer (some ⟨b', off' + k * 4 + 1, none⟩)), fun wx hSx => ?_, ?_⟩
                · obtain ⟨⟨k0, k1, k2, k3, k4, k5⟩, -⟩ := hSx
                  go_simp
                  try rfl
                simp only [Act.put, List.setIfInBounds_toArray, List.set_cons_zero, List.set_cons_succ]
                go_big_quiet_on
                go_big_quiet_want
                refine ⟨(.string vs), fun wx hSx => ?_, ?_⟩
                · obtain ⟨⟨k0, k1, k2, k3, k4, k5⟩, -⟩ := hSx
                  go_simp
                  try rfl
                simp only [Act.put, List.setIfInBounds_toArray, List.set_cons_zero, List.set_cons_succ]
                go_big_quiet_on
                go_big_quiet_want
                refine ⟨(.bool false), fun wx hSx => ?_, ?_⟩
                · obtain ⟨⟨k0, k1, k2, k3, k4, k5⟩, -⟩ := hSx
                  go_simp
                  try first | done | assumption | rfl
                simp only [Act.put, List.setIfInBounds_toArray, List.set_cons_zero, List.set_cons_succ]
                go_big_quiet_on
                go_big_quiet_want
                refine ⟨(.bool false), fun wx hSx => ?_, ?_⟩
                · obtain ⟨⟨k0, k1, k2, k3, k4, k5⟩, -⟩ := hSx
                  go_simp
                  try first
                    | with_reducible rfl
                    | rw [if_neg (by omega)]
                simp only [Act.put, List.setIfInBounds_toArray, List.set_cons_zero, List.set_cons_succ]
                go_big_quiet_on
                go_big_quiet_want
                go_big_quiet_op
                go_big_quiet_on
                go_big_quiet_want
                go_big_quiet_op
                go_big_quiet_on
                go_big_quiet_want
                go_big_quiet_op
                go_big_quiet_on
                go_big_quiet_want
                refine ⟨(.pointer (some ⟨b, off + k * 4, none⟩)), fun wx hSx => ?_, ?_⟩
                · obtain ⟨⟨k0, k1, k2, k3, k4, k5⟩, -⟩ := hSx
                  go_simp
                  try exact fun hx => absurd hx (by omega)
                simp only [Act.put, List.setIfInBounds_toArray, List.set_cons_zero, List.set_cons_succ]
                go_big_quiet_on
                go_big_quiet_want
                refine ⟨(.pointer (some ⟨b, off + k * 4 + 2, none⟩)), fun wx hSx => ?_, ?_⟩
                · obtain ⟨⟨k0, k1, k2, k3, k4, k5⟩, -⟩ := hSx
                  go_simp
                  try rfl
                simp only [Act.put, List.setIfInBounds_toArray, List.set_cons_zero, List.set_cons_succ]
                go_big_quiet_on
                go_big_quiet_want
                refine ⟨(.int .i64 vn), fun wx hSx => ?_, ?_⟩
                · obtain ⟨⟨k0, k1, k2, k3, k4, k5⟩, -⟩ := hSx
                  go_simp
                  try rfl
                simp only [Act.put, List.setIfInBounds_toArray, List.set_cons_zero, List.set_cons_succ]
                go_big_quiet_on
                go_big_quiet_want
                go_big_quiet_op
                go_big_quiet_on
                go_big_quiet_want
                go_big_quiet_op
                go_big_quiet_on
                go_big_quiet_want
                refine ⟨(.pointer (some ⟨b', off' + k * 4, none⟩)), fun wx hSx => ?_, ?_⟩
                · obtain ⟨⟨k0, k1, k2, k3, k4, k5⟩, -⟩ := hSx
                  go_simp
                  try exact fun hx => absurd hx (by omega)
                simp only [Act.put, List.setIfInBounds_toArray, List.set_cons_zero, List.set_cons_succ]
                go_big_quiet_on
                go_big_quiet_want
                refine ⟨(.pointer (some ⟨b', off' + k * 4 + 2, none⟩)), fun wx hSx => ?_, ?_⟩
                · obtain ⟨⟨k0, k1, k2, k3, k4, k5⟩, -⟩ := hSx
                  go_simp
                  try rfl
                simp only [Act.put, List.setIfInBounds_toArray, List.set_cons_zero, List.set_cons_succ]
                go_big_quiet_on
                go_big_quiet_want
                refine ⟨(.int .i64 vn), fun wx hSx => ?_, ?_⟩
                · obtain ⟨⟨k0, k1, k2, k3, k4, k5⟩, -⟩ := hSx
                  go_simp
                  try rfl
                simp only [Act.put, List.setIfInBounds_toArray, List.set_cons_zero, List.set_cons_succ]
                go_big_quiet_on
                go_big_quiet_want
                refine ⟨(.bool false), fun wx hSx => ?_, ?_⟩
                · obtain ⟨⟨k0, k1, k2, k3, k4, k5⟩, -⟩ := hSx
                  go_simp
                  try first | done | assumption | rfl
                simp only [Act.put, List.setIfInBounds_toArray, List.set_cons_zero, List.set_cons_succ]
                go_big_quiet_on
                go_big_quiet_want
                refine ⟨(.bool false), fun wx hSx => ?_, ?_⟩
                · obtain ⟨⟨k0, k1, k2, k3, k4, k5⟩, -⟩ := hSx
                  go_simp
                  try first
                    | with_reducible rfl
                    | rw [if_neg (by omega)]
                simp only [Act.put, List.setIfInBounds_toArray, List.set_cons_zero, List.set_cons_succ]
                go_big_quiet_on
                go_big_quiet_want
                go_big_quiet_op
                go_big_quiet_on
                go_big_quiet_want
                go_big_quiet_op
                go_big_quiet_on
                go_big_quiet_want
                go_big_quiet_op
                go_big_quiet_on
                go_big_quiet_skip
                go_big_quiet_skip
                go_big_quiet_skip
                go_big_quiet_skip
                go_big_quiet_skip
                go_big_quiet_skip
                go_big_quiet_skip
                go_big_quiet_skip
                go_big_quiet_skip
                go_big_quiet_skip
                go_big_quiet_skip
                go_big_quiet_want
                refine ⟨(.bool false), fun wx hSx => ?_, ?_⟩
                · obtain ⟨⟨k0, k1, k2, k3, k4, k5⟩, -⟩ := hSx
                  go_simp
                  try first
                    | with_reducible rfl
                    | rw [if_neg (by omega)]
                simp only [Act.put, List.setIfInBounds_toArray, List.set_cons_zero, List.set_cons_succ]
                go_big_quiet_on
                refine wpQuiet_nil ?_
                rintro w4 ⟨-, hb4⟩
                have H4 := Lib.hid (HI.out.trans (hb4.out.mono HI.out.size))
                clear hb4
                go_wp2_with fail
                go_roundw
                case rel => exact ⟨k + 1, by omega, by go_num, HS, H4⟩
                case measure => simp [intOf]; omega
              | true =>
                by_cases e3 : va = ua
                · subst e3
                  have HS := Lib.hid (hX rfl)
                  clear hX hY hx hy
                  go_wp2_with fail
                  refine wp_region_quiet_tail (C := fun wx => (wx.cell? ⟨b, off + k * 4, none⟩ = some (.int .i64 vk) ∧ wx.cell? ⟨b', off' + k * 4, none⟩ = some (.int .i64 vk) ∧ wx.cell? ⟨b, off + k * 4 + 1, none⟩ = some (.string vs) ∧ wx.cell? ⟨b', off' + k * 4 + 1, none⟩ = some (.string vs) ∧ wx.cell? ⟨b, off + k * 4 + 2, none⟩ = some (.int .i64 vn) ∧ wx.cell? ⟨b', off' + k * 4 + 2, none⟩ = some (.int .i64 vn) ∧ wx.cell? ⟨b, off + k * 4 + 3, none⟩ = some (.int .i64 va) ∧ wx.cell? ⟨b', off' + k * 4 + 3, none⟩ = some (.int .i64 va)) ∧ Hid (Below wr.heap.size wr wx)) 52 (by kernel_rfl) (by kernel_rfl) ⟨⟨c0, d0, c1, d1, c2, d2, c3, d3⟩, Lib.hid (Below.refl wr.heap.size wr).drew⟩ ?_
                  simp only [List.take_succ_cons, List.take_zero, List.drop_succ_cons, List.drop_zero]
                  go_big_quiet_want
                  go_big_quiet_op
                  go_big_quiet_on
                  go_big_quiet_want
                  go_big_quiet_op
                  go_big_quiet_on
                  go_big_quiet_want
                  refine ⟨(.pointer (some ⟨b, off + k * 4, none⟩)), fun wx hSx => ?_, ?_⟩
                  · obtain ⟨⟨k0, k1, k2, k3, k4, k5, k6, k7⟩, -⟩ := hSx
                    go_simp
                    try exact fun hx => absurd hx (by omega)
                  simp only [Act.put, List.setIfInBounds_toArray, List.set_cons_zero, List.set_cons_succ]
                  go_big_quiet_on
                  go_big_quiet_want
                  refine ⟨(.pointer (some ⟨b, off + k * 4, none⟩)), fun wx hSx => ?_, ?_⟩
                  · obtain ⟨⟨k0, k1, k2, k3, k4, k5, k6, k7⟩, -⟩ := hSx
                    go_simp
                    try rfl
                  simp only [Act.put, List.setIfInBounds_toArray, List.set_cons_zero, List.set_cons_succ]
                  go_big_quiet_on
                  go_big_quiet_want
                  refine ⟨(.int .i64 vk), fun wx hSx => ?_, ?_⟩
                  · obtain ⟨⟨k0, k1, k2, k3, k4, k5, k6, k7⟩, -⟩ := hSx
                    go_simp
                    try rfl
                  simp only [Act.put, List.setIfInBounds_toArray, List.set_cons_zero, List.set_cons_succ]
                  go_big_quiet_on
                  go_big_quiet_want
                  go_big_quiet_op
                  go_big_quiet_on
                  go_big_quiet_want
                  go_big_quiet_op
                  go_big_quiet_on
                  go_big_quiet_want
                  refine ⟨(.pointer (some ⟨b', off' + k * 4, none⟩)), fun wx hSx => ?_, ?_⟩
                  · obtain ⟨⟨k0, k1, k2, k3, k4, k5, k6, k7⟩, -⟩ := hSx
                    go_simp
                    try exact fun hx => absurd hx (by omega)
                  simp only [Act.put, List.setIfInBounds_toArray, List.set_cons_zero, List.set_cons_succ]
                  go_big_quiet_on
                  go_big_quiet_want
                  refine ⟨(.pointer (some ⟨b', off' + k * 4, none⟩)), fun wx hSx => ?_, ?_⟩
                  · obtain ⟨⟨k0, k1, k2, k3, k4, k5, k6, k7⟩, -⟩ := hSx
                    go_simp
                    try rfl
                  simp only [Act.put, List.setIfInBounds_toArray, List.set_cons_zero, List.set_cons_succ]
                  go_big_quiet_on
                  go_big_quiet_want
                  refine ⟨(.int .i64 vk), fun wx hSx => ?_, ?_⟩
                  · obtain ⟨⟨k0, k1, k2, k3, k4, k5, k6, k7⟩, -⟩ := hSx
                    go_simp
                    try rfl
                  simp only [Act.put, List.setIfInBounds_toArray, List.set_cons_zero, List.set_cons_succ]
                  go_big_quiet_on
                  go_big_quiet_want
                  refine ⟨(.bool false), fun wx hSx => ?_, ?_⟩
                  · obtain ⟨⟨k0, k1, k2, k3, k4, k5, k6, k7⟩, -⟩ := hSx
                    go_simp
                    try first | done | assumption | rfl
                  simp only [Act.put, List.setIfInBounds_toArray, List.set_cons_zero, List.set_cons_succ]
                  go_big_quiet_on
                  go_big_quiet_want
                  go_big_quiet_op
                  go_big_quiet_on
                  go_big_quiet_want
                  go_big_quiet_op
                  go_big_quiet_on
                  go_big_quiet_want
                  go_big_quiet_op
                  go_big_quiet_on
                  go_big_quiet_want
                  refine ⟨(.pointer (some ⟨b, off + k * 4, none⟩)), fun wx hSx => ?_, ?_⟩
                  · obtain ⟨⟨k0, k1, k2, k3, k4, k5, k6, k7⟩, -⟩ := hSx
                    go_simp
                    try exact fun hx => absurd hx (by omega)
                  simp only [Act.put, List.setIfInBounds_toArray, List.set_cons_zero, List.set_cons_succ]
                  go_big_quiet_on
                  go_big_quiet_want
                  refine ⟨(.pointer (some ⟨b, off + k * 4 + 1, none⟩)), fun wx hSx => ?_, ?_⟩
                  · obtain ⟨⟨k0, k1, k2, k3, k4, k5, k6, k7⟩, -⟩ := hSx
                    go_simp
                    try rfl
                  simp only [Act.put, List.setIfInBounds_toArray, List.set_cons_zero, List.set_cons_succ]
                  go_big_quiet_on
                  go_big_quiet_want
                  refine ⟨(.string vs), fun wx hSx => ?_, ?_⟩
                  · obtain ⟨⟨k0, k1, k2, k3, k4, k5, k6, k7⟩, -⟩ := hSx
                    go_simp
                    try rfl
                  simp only [Act.put, List.setIfInBounds_toArray, List.set_cons_zero, List.set_cons_succ]
                  go_big_quiet_on
                  go_big_quiet_want
                  go_big_quiet_op
                  go_big_quiet_on
                  go_big_quiet_want
                  go_big_quiet_op
                  go_big_quiet_on
                  go_big_quiet_want
                  refine ⟨(.pointer (some ⟨b', off' + k * 4, none⟩)), fun wx hSx => ?_, ?_⟩
                  · obtain ⟨⟨k0, k1, k2, k3, k4, k5, k6, k7⟩, -⟩ := hSx
                    go_simp
                    try exact fun hx => absurd hx (by omega)
                  simp only [Act.put, List.setIfInBounds_toArray, List.set_cons_zero, List.set_cons_succ]
                  go_big_quiet_on
                  go_big_quiet_want
                  refine ⟨(.pointer (some ⟨b', off' + k * 4 + 1, none⟩)), fun wx hSx => ?_, ?_⟩
                  · obtain ⟨⟨k0, k1, k2, k3, k4, k5, k6, k7⟩, -⟩ := hSx
                    go_simp
                    try rfl
                  simp only [Act.put, List.setIfInBounds_toArray, List.set_cons_zero, List.set_cons_succ]
                  go_big_quiet_on
                  go_big_quiet_want
                  refine ⟨(.string vs), fun wx hSx => ?_, ?_⟩
                  · obtain ⟨⟨k0, k1, k2, k3, k4, k5, k6, k7⟩, -⟩ := hSx
                    go_simp
                    try rfl
                  simp only [Act.put, List.setIfInBounds_toArray, List.set_cons_zero, List.set_cons_succ]
                  go_big_quiet_on
                  go_big_quiet_want
                  refine ⟨(.bool false), fun wx hSx => ?_, ?_⟩
                  · obtain ⟨⟨k0, k1, k2, k3, k4, k5, k6, k7⟩, -⟩ := hSx
                    go_simp
                    try first | done | assumption | rfl
                  simp only [Act.put, List.setIfInBounds_toArray, List.set_cons_zero, List.set_cons_succ]
                  go_big_quiet_on
                  go_big_quiet_want
                  refine ⟨(.bool false), fun wx hSx => ?_, ?_⟩
                  · obtain ⟨⟨k0, k1, k2, k3, k4, k5, k6, k7⟩, -⟩ := hSx
                    go_simp
                    try first
                      | with_reducible rfl
                      | rw [if_neg (by omega)]
                  simp only [Act.put, List.setIfInBounds_toArray, List.set_cons_zero, List.set_cons_succ]
                  go_big_quiet_on
                  go_big_quiet_want
                  go_big_quiet_op
                  go_big_quiet_on
                  go_big_quiet_want
                  go_big_quiet_op
                  go_big_quiet_on
                  go_big_quiet_want
                  go_big_quiet_op
                  go_big_quiet_on
                  go_big_quiet_want
                  refine ⟨(.pointer (some ⟨b, off + k * 4, none⟩)), fun wx hSx => ?_, ?_⟩
                  · obtain ⟨⟨k0, k1, k2, k3, k4, k5, k6, k7⟩, -⟩ := hSx
                    go_simp
                    try exact fun hx => absurd hx (by omega)
                  simp only [Act.put, List.setIfInBounds_toArray, List.set_cons_zero, List.set_cons_succ]
                  go_big_quiet_on
                  go_big_quiet_want
                  refine ⟨(.pointer (some ⟨b, off + k * 4 + 2, none⟩)), fun wx hSx => ?_, ?_⟩
                  · obtain ⟨⟨k0, k1, k2, k3, k4, k5, k6, k7⟩, -⟩ := hSx
                    go_simp
                    try rfl
                  simp only [Act.put, List.setIfInBounds_toArray, List.set_cons_zero, List.set_cons_succ]
                  go_big_quiet_on
                  go_big_quiet_want
                  refine ⟨(.int .i64 vn), fun wx hSx => ?_, ?_⟩
                  · obtain ⟨⟨k0, k1, k2, k3, k4, k5, k6, k7⟩, -⟩ := hSx
                    go_simp
                    try rfl
                  simp only [Act.put, List.setIfInBounds_toArray, List.set_cons_zero, List.set_cons_succ]
                  go_big_quiet_on
                  go_big_quiet_want
                  go_big_quiet_op
                  go_big_quiet_on
                  go_big_quiet_want
                  go_big_quiet_op
                  go_big_quiet_on
                  go_big_quiet_want
                  refine ⟨(.pointer (some ⟨b', off' + k * 4, none⟩)), fun wx hSx => ?_, ?_⟩
                  · obtain ⟨⟨k0, k1, k2, k3, k4, k5, k6, k7⟩, -⟩ := hSx
                    go_simp
                    try exact fun hx => absurd hx (by omega)
                  simp only [Act.put, List.setIfInBounds_toArray, List.set_cons_zero, List.set_cons_succ]
                  go_big_quiet_on
                  go_big_quiet_want
                  refine ⟨(.pointer (some ⟨b', off' + k * 4 + 2, none⟩)), fun wx hSx => ?_, ?_⟩
                  · obtain ⟨⟨k0, k1, k2, k3, k4, k5, k6, k7⟩, -⟩ := hSx
                    go_simp
                    try rfl
                  simp only [Act.put, List.setIfInBounds_toArray, List.set_cons_zero, List.set_cons_succ]
                  go_big_quiet_on
                  go_big_quiet_want
                  refine ⟨(.int .i64 vn), fun wx hSx => ?_, ?_⟩
                  · obtain ⟨⟨k0, k1, k2, k3, k4, k5, k6, k7⟩, -⟩ := hSx
                    go_simp
                    try rfl
                  simp only [Act.put, List.setIfInBounds_toArray, List.set_cons_zero, List.set_cons_succ]
                  go_big_quiet_on
                  go_big_quiet_want
                  refine ⟨(.bool false), fun wx hSx => ?_, ?_⟩
                  · obtain ⟨⟨k0, k1, k2, k3, k4, k5, k6, k7⟩, -⟩ := hSx
                    go_simp
                    try first | done | assumption | rfl
                  simp only [Act.put, List.setIfInBounds_toArray, List.set_cons_zero, List.set_cons_succ]
                  go_big_quiet_on
                  go_big_quiet_want
                  refine ⟨(.bool false), fun wx hSx => ?_, ?_⟩
                  · obtain ⟨⟨k0, k1, k2, k3, k4, k5, k6, k7⟩, -⟩ := hSx
                    go_simp
                    try first
                      | with_reducible rfl
                      | rw [if_neg (by omega)]
                  simp only [Act.put, List.setIfInBounds_toArray, List.set_cons_zero, List.set_cons_succ]
                  go_big_quiet_on
                  go_big_quiet_want
                  go_big_quiet_op
                  go_big_quiet_on
                  go_big_quiet_want
                  go_big_quiet_op
                  go_big_quiet_on
                  go_big_quiet_want
                  go_big_quiet_op
                  go_big_quiet_on
                  go_big_quiet_want
                  go_big_quiet_op
                  go_big_quiet_on
                  go_big_quiet_want
                  go_big_quiet_op
                  go_big_quiet_on
                  go_big_quiet_want
                  refine ⟨(.pointer (some ⟨b, off + k * 4, none⟩)), fun wx hSx => ?_, ?_⟩
                  · obtain ⟨⟨k0, k1, k2, k3, k4, k5, k6, k7⟩, -⟩ := hSx
                    go_simp
                    try exact fun hx => absurd hx (by omega)
                  simp only [Act.put, List.setIfInBounds_toArray, List.set_cons_zero, List.set_cons_succ]
                  go_big_quiet_on
                  go_big_quiet_want
                  refine ⟨(.pointer (some ⟨b, off + k * 4 + 3, none⟩)), fun wx hSx => ?_, ?_⟩
                  · obtain ⟨⟨k0, k1, k2, k3, k4, k5, k6, k7⟩, -⟩ := hSx
                    go_simp
                    try rfl
                  simp only [Act.put, List.setIfInBounds_toArray, List.set_cons_zero, List.set_cons_succ]
                  go_big_quiet_on
                  go_big_quiet_want
                  refine ⟨(.int .i64 va), fun wx hSx => ?_, ?_⟩
                  · obtain ⟨⟨k0, k1, k2, k3, k4, k5, k6, k7⟩, -⟩ := hSx
                    go_simp
                    try rfl
                  simp only [Act.put, List.setIfInBounds_toArray, List.set_cons_zero, List.set_cons_succ]
                  go_big_quiet_on
                  go_big_quiet_want
                  go_big_quiet_op
                  go_big_quiet_on
                  go_big_quiet_want
                  go_big_quiet_op
                  go_big_quiet_on
                  go_big_quiet_want
                  refine ⟨(.pointer (some ⟨b', off' + k * 4, none⟩)), fun wx hSx => ?_, ?_⟩
                  · obtain ⟨⟨k0, k1, k2, k3, k4, k5, k6, k7⟩, -⟩ := hSx
                    go_simp
                    try exact fun hx => absurd hx (by omega)
                  simp only [Act.put, List.setIfInBounds_toArray, List.set_cons_zero, List.set_cons_succ]
                  go_big_quiet_on
                  go_big_quiet_want
                  refine ⟨(.pointer (some ⟨b', off' + k * 4 + 3, none⟩)), fun wx hSx => ?_, ?_⟩
                  · obtain ⟨⟨k0, k1, k2, k3, k4, k5, k6, k7⟩, -⟩ := hSx
                    go_simp
                    try rfl
                  simp only [Act.put, List.setIfInBounds_toArray, List.set_cons_zero, List.set_cons_succ]
                  go_big_quiet_on
                  go_big_quiet_want
                  refine ⟨(.int .i64 va), fun wx hSx => ?_, ?_⟩
                  · obtain ⟨⟨k0, k1, k2, k3, k4, k5, k6, k7⟩, -⟩ := hSx
                    go_simp
                    try rfl
                  simp only [Act.put, List.setIfInBounds_toArray, List.set_cons_zero, List.set_cons_succ]
                  go_big_quiet_on
                  go_big_quiet_want
                  refine ⟨(.bool false), fun wx hSx => ?_, ?_⟩
                  · obtain ⟨⟨k0, k1, k2, k3, k4, k5, k6, k7⟩, -⟩ := hSx
                    go_simp
                    try first | done | assumption | rfl
                  simp only [Act.put, List.setIfInBounds_toArray, List.set_cons_zero, List.set_cons_succ]
                  go_big_quiet_on
                  go_big_quiet_want
                  refine ⟨(.bool false), fun wx hSx => ?_, ?_⟩
                  · obtain ⟨⟨k0, k1, k2, k3, k4, k5, k6, k7⟩, -⟩ := hSx
                    go_simp
                    try first
                      | with_reducible rfl
                      | rw [if_neg (by omega)]
                  simp only [Act.put, List.setIfInBounds_toArray, List.set_cons_zero, List.set_cons_succ]
                  go_big_quiet_on
                  refine wpQuiet_nil ?_
                  rintro w4 ⟨-, hb4⟩
                  have H4 := Lib.hid (HI.out.trans (hb4.out.mono HI.out.size))
                  clear hb4
                  go_wp2_with fail
                  go_roundw
                  case rel => exact ⟨k + 1, by omega, by go_num, HS, H4⟩
                  case measure => simp [intOf]; omega
                · have HN := Lib.hid (hY fun e => e3 (congrArg Lx.T.spot e))
                  have s2 : (va == ua) = false := by simpa using e3
                  clear hX hY hx hy
                  go_wp2_with fail
                  refine wp_region_quiet_tail (C := fun wx => (wx.cell? ⟨b, off + k * 4, none⟩ = some (.int .i64 vk) ∧ wx.cell? ⟨b', off' + k * 4, none⟩ = some (.int .i64 vk) ∧ wx.cell? ⟨b, off + k * 4 + 1, none⟩ = some (.string vs) ∧ wx.cell? ⟨b', off' + k * 4 + 1, none⟩ = some (.string vs) ∧ wx.cell? ⟨b, off + k * 4 + 2, none⟩ = some (.int .i64 vn) ∧ wx.cell? ⟨b', off' + k * 4 + 2, none⟩ = some (.int .i64 vn) ∧ wx.cell? ⟨b, off + k * 4 + 3, none⟩ = some (.int .i64 va) ∧ wx.cell? ⟨b', off' + k * 4 + 3, none⟩ = some (.int .i64 ua)) ∧ Hid (Below wr.heap.size wr wx)) 52 (by kernel_rfl) (by kernel_rfl) ⟨⟨c0, d0, c1, d1, c2, d2, c3, d3⟩, Lib.hid (Below.refl wr.heap.size wr).drew⟩ ?_
                  simp only [List.take_succ_cons, List.take_zero, List.drop_succ_cons, List.drop_zero]
                  go_big_quiet_want
                  go_big_quiet_op
                  go_big_quiet_on
                  go_big_quiet_want
                  go_big_quiet_op
                  go_big_quiet_on
                  go_big_quiet_want
                  refine ⟨(.pointer (some ⟨b, off + k * 4, none⟩)), fun wx hSx => ?_, ?_⟩
                  · obtain ⟨⟨k0, k1, k2, k3, k4, k5, k6, k7⟩, -⟩ := hSx
                    go_simp
                    try exact fun hx => absurd hx (by omega)
                  simp only [Act.put, List.setIfInBounds_toArray, List.set_cons_zero, List.set_cons_succ]
                  go_big_quiet_on
                  go_big_quiet_want
                  refine ⟨(.pointer (some ⟨b, off + k * 4, none⟩)), fun wx hSx => ?_, ?_⟩
                  · obtain ⟨⟨k0, k1, k2, k3, k4, k5, k6, k7⟩, -⟩ := hSx
                    go_simp
                    try rfl
                  simp only [Act.put, List.setIfInBounds_toArray, List.set_cons_zero, List.set_cons_succ]
                  go_big_quiet_on
                  go_big_quiet_want
                  refine ⟨(.int .i64 vk), fun wx hSx => ?_, ?_⟩
                  · obtain ⟨⟨k0, k1, k2, k3, k4, k5, k6, k7⟩, -⟩ := hSx
                    go_simp
                    try rfl
                  simp only [Act.put, List.setIfInBounds_toArray, List.set_cons_zero, List.set_cons_succ]
                  go_big_quiet_on
                  go_big_quiet_want
                  go_big_quiet_op
                  go_big_quiet_on
                  go_big_quiet_want
                  go_big_quiet_op
                  go_big_quiet_on
                  go_big_quiet_want
                  refine ⟨(.pointer (some ⟨b', off' + k * 4, none⟩)), fun wx hSx => ?_, ?_⟩
                  · obtain ⟨⟨k0, k1, k2, k3, k4, k5, k6, k7⟩, -⟩ := hSx
                    go_simp
                    try exact fun hx => absurd hx (by omega)
                  simp only [Act.put, List.setIfInBounds_toArray, List.set_cons_zero, List.set_cons_succ]
                  go_big_quiet_on
                  go_big_quiet_want
                  refine ⟨(.pointer (some ⟨b', off' + k * 4, none⟩)), fun wx hSx => ?_, ?_⟩
                  · obtain ⟨⟨k0, k1, k2, k3, k4, k5, k6, k7⟩, -⟩ := hSx
                    go_simp
                    try rfl
                  simp only [Act.put, List.setIfInBounds_toArray, List.set_cons_zero, List.set_cons_succ]
                  go_big_quiet_on
                  go_big_quiet_want
                  refine ⟨(.int .i64 vk), fun wx hSx => ?_, ?_⟩
                  · obtain ⟨⟨k0, k1, k2, k3, k4, k5, k6, k7⟩, -⟩ := hSx
                    go_simp
                    try rfl
                  simp only [Act.put, List.setIfInBounds_toArray, List.set_cons_zero, List.set_cons_succ]
                  go_big_quiet_on
                  go_big_quiet_want
                  refine ⟨(.bool false), fun wx hSx => ?_, ?_⟩
                  · obtain ⟨⟨k0, k1, k2, k3, k4, k5, k6, k7⟩, -⟩ := hSx
                    go_simp
                    try first | done | assumption | rfl
                  simp only [Act.put, List.setIfInBounds_toArray, List.set_cons_zero, List.set_cons_succ]
                  go_big_quiet_on
                  go_big_quiet_want
                  go_big_quiet_op
                  go_big_quiet_on
                  go_big_quiet_want
                  go_big_quiet_op
                  go_big_quiet_on
                  go_big_quiet_want
                  go_big_quiet_op
                  go_big_quiet_on
                  go_big_quiet_want
                  refine ⟨(.pointer (some ⟨b, off + k * 4, none⟩)), fun wx hSx => ?_, ?_⟩
                  · obtain ⟨⟨k0, k1, k2, k3, k4, k5, k6, k7⟩, -⟩ := hSx
                    go_simp
                    try exact fun hx => absurd hx (by omega)
                  simp only [Act.put, List.setIfInBounds_toArray, List.set_cons_zero, List.set_cons_succ]
                  go_big_quiet_on
                  go_big_quiet_want
                  refine ⟨(.pointer (some ⟨b, off + k * 4 + 1, none⟩)), fun wx hSx => ?_, ?_⟩
                  · obtain ⟨⟨k0, k1, k2, k3, k4, k5, k6, k7⟩, -⟩ := hSx
                    go_simp
                    try rfl
                  simp only [Act.put, List.setIfInBounds_toArray, List.set_cons_zero, List.set_cons_succ]
                  go_big_quiet_on
                  go_big_quiet_want
                  refine ⟨(.string vs), fun wx hSx => ?_, ?_⟩
                  · obtain ⟨⟨k0, k1, k2, k3, k4, k5, k6, k7⟩, -⟩ := hSx
                    go_simp
                    try rfl
                  simp only [Act.put, List.setIfInBounds_toArray, List.set_cons_zero, List.set_cons_succ]
                  go_big_quiet_on
                  go_big_quiet_want
                  go_big_quiet_op
                  go_big_quiet_on
                  go_big_quiet_want
                  go_big_quiet_op
                  go_big_quiet_on
                  go_big_quiet_want
                  refine ⟨(.pointer (some ⟨b', off' + k * 4, none⟩)), fun wx hSx => ?_, ?_⟩
                  · obtain ⟨⟨k0, k1, k2, k3, k4, k5, k6, k7⟩, -⟩ := hSx
                    go_simp
                    try exact fun hx => absurd hx (by omega)
                  simp only [Act.put, List.setIfInBounds_toArray, List.set_cons_zero, List.set_cons_succ]
                  go_big_quiet_on
                  go_big_quiet_want
                  refine ⟨(.pointer (some ⟨b', off' + k * 4 + 1, none⟩)), fun wx hSx => ?_, ?_⟩
                  · obtain ⟨⟨k0, k1, k2, k3, k4, k5, k6, k7⟩, -⟩ := hSx
                    go_simp
                    try rfl
                  simp only [Act.put, List.setIfInBounds_toArray, List.set_cons_zero, List.set_cons_succ]
                  go_big_quiet_on
                  go_big_quiet_want
                  refine ⟨(.string vs), fun wx hSx => ?_, ?_⟩
                  · obtain ⟨⟨k0, k1, k2, k3, k4, k5, k6, k7⟩, -⟩ := hSx
                    go_simp
                    try rfl
                  simp only [Act.put, List.setIfInBounds_toArray, List.set_cons_zero, List.set_cons_succ]
                  go_big_quiet_on
                  go_big_quiet_want
                  refine ⟨(.bool false), fun wx hSx => ?_, ?_⟩
                  · obtain ⟨⟨k0, k1, k2, k3, k4, k5, k6, k7⟩, -⟩ := hSx
                    go_simp
                    try first | done | assumption | rfl
                  simp only [Act.put, List.setIfInBounds_toArray, List.set_cons_zero, List.set_cons_succ]
                  go_big_quiet_on
                  go_big_quiet_want
                  refine ⟨(.bool false), fun wx hSx => ?_, ?_⟩
                  · obtain ⟨⟨k0, k1, k2, k3, k4, k5, k6, k7⟩, -⟩ := hSx
                    go_simp
                    try first
                      | with_reducible rfl
                      | rw [if_neg (by omega)]
                  simp only [Act.put, List.setIfInBounds_toArray, List.set_cons_zero, List.set_cons_succ]
                  go_big_quiet_on
                  go_big_quiet_want
                  go_big_quiet_op
                  go_big_quiet_on
                  go_big_quiet_want
                  go_big_quiet_op
                  go_big_quiet_on
                  go_big_quiet_want
                  go_big_quiet_op
                  go_big_quiet_on
                  go_big_quiet_want
                  refine ⟨(.pointer (some ⟨b, off + k * 4, none⟩)), fun wx hSx => ?_, ?_⟩
                  · obtain ⟨⟨k0, k1, k2, k3, k4, k5, k6, k7⟩, -⟩ := hSx
                    go_simp
                    try exact fun hx => absurd hx (by omega)
                  simp only [Act.put, List.setIfInBounds_toArray, List.set_cons_zero, List.set_cons_succ]
                  go_big_quiet_on
                  go_big_quiet_want
                  refine ⟨(.pointer (some ⟨b, off + k * 4 + 2, none⟩)), fun wx hSx => ?_, ?_⟩
                  · obtain ⟨⟨k0, k1, k2, k3, k4, k5, k6, k7⟩, -⟩ := hSx
                    go_simp
                    try rfl
                  simp only [Act.put, List.setIfInBounds_toArray, List.set_cons_zero, List.set_cons_succ]
                  go_big_quiet_on
                  go_big_quiet_want
                  refine ⟨(.int .i64 vn), fun wx hSx => ?_, ?_⟩
                  · obtain ⟨⟨k0, k1, k2, k3, k4, k5, k6, k7⟩, -⟩ := hSx
                    go_simp
                    try rfl
                  simp only [Act.put, List.setIfInBounds_toArray, List.set_cons_zero, List.set_cons_succ]
                  go_big_quiet_on
                  go_big_quiet_want
                  go_big_quiet_op
                  go_big_quiet_on
                  go_big_quiet_want
                  go_big_quiet_op
                  go_big_quiet_on
                  go_big_quiet_want
                  refine ⟨(.pointer (some ⟨b', off' + k * 4, none⟩)), fun wx hSx => ?_, ?_⟩
                  · obtain ⟨⟨k0, k1, k2, k3, k4, k5, k6, k7⟩, -⟩ := hSx
                    go_simp
                    try exact fun hx => absurd hx (by omega)
                  simp only [Act.put, List.setIfInBounds_toArray, List.set_cons_zero, List.set_cons_succ]
                  go_big_quiet_on
                  go_big_quiet_want
                  refine ⟨(.pointer (some ⟨b', off' + k * 4 + 2, none⟩)), fun wx hSx => ?_, ?_⟩
                  · obtain ⟨⟨k0, k1, k2, k3, k4, k5, k6, k7⟩, -⟩ := hSx
                    go_simp
                    try rfl
                  simp only [Act.put, List.setIfInBounds_toArray, List.set_cons_zero, List.set_cons_succ]
                  go_big_quiet_on
                  go_big_quiet_want
                  refine ⟨(.int .i64 vn), fun wx hSx => ?_, ?_⟩
                  · obtain ⟨⟨k0, k1, k2, k3, k4, k5, k6, k7⟩, -⟩ := hSx
                    go_simp
                    try rfl
                  simp only [Act.put, List.setIfInBounds_toArray, List.set_cons_zero, List.set_cons_succ]
                  go_big_quiet_on
                  go_big_quiet_want
                  refine ⟨(.bool false), fun wx hSx => ?_, ?_⟩
                  · obtain ⟨⟨k0, k1, k2, k3, k4, k5, k6, k7⟩, -⟩ := hSx
                    go_simp
                    try first | done | assumption | rfl
                  simp only [Act.put, List.setIfInBounds_toArray, List.set_cons_zero, List.set_cons_succ]
                  go_big_quiet_on
                  go_big_quiet_want
                  refine ⟨(.bool false), fun wx hSx => ?_, ?_⟩
                  · obtain ⟨⟨k0, k1, k2, k3, k4, k5, k6, k7⟩, -⟩ := hSx
                    go_simp
                    try first
                      | with_reducible rfl
                      | rw [if_neg (by omega)]
                  simp only [Act.put, List.setIfInBounds_toArray, List.set_cons_zero, List.set_cons_succ]
                  go_big_quiet_on
                  go_big_quiet_want
                  go_big_quiet_op
                  go_big_quiet_on
                  go_big_quiet_want
                  go_big_quiet_op
                  go_big_quiet_on
                  go_big_quiet_want
                  go_big_quiet_op
                  go_big_quiet_on
                  go_big_quiet_want
                  go_big_quiet_op
                  go_big_quiet_on
                  go_big_quiet_want
                  go_big_quiet_op
                  go_big_quiet_on
                  go_big_quiet_want
                  refine ⟨(.pointer (some ⟨b, off + k * 4, none⟩)), fun wx hSx => ?_, ?_⟩
                  · obtain ⟨⟨k0, k1, k2, k3, k4, k5, k6, k7⟩, -⟩ := hSx
                    go_simp
                    try exact fun hx => absurd hx (by omega)
                  simp only [Act.put, List.setIfInBounds_toArray, List.set_cons_zero, List.set_cons_succ]
                  go_big_quiet_on
                  go_big_quiet_want
                  refine ⟨(.pointer (some ⟨b, off + k * 4 + 3, none⟩)), fun wx hSx => ?_, ?_⟩
                  · obtain ⟨⟨k0, k1, k2, k3, k4, k5, k6, k7⟩, -⟩ := hSx
                    go_simp
                    try rfl
                  simp only [Act.put, List.setIfInBounds_toArray, List.set_cons_zero, List.set_cons_succ]
                  go_big_quiet_on
                  go_big_quiet_want
                  refine ⟨(.int .i64 va), fun wx hSx => ?_, ?_⟩
                  · obtain ⟨⟨k0, k1, k2, k3, k4, k5, k6, k7⟩, -⟩ := hSx
                    go_simp
                    try rfl
                  simp only [Act.put, List.setIfInBounds_toArray, List.set_cons_zero, List.set_cons_succ]
                  go_big_quiet_on
                  go_big_quiet_want
                  go_big_quiet_op
                  go_big_quiet_on
                  go_big_quiet_want
                  go_big_quiet_op
                  go_big_quiet_on
                  go_big_quiet_want
                  refine ⟨(.pointer (some ⟨b', off' + k * 4, none⟩)), fun wx hSx => ?_, ?_⟩
                  · obtain ⟨⟨k0, k1, k2, k3, k4, k5, k6, k7⟩, -⟩ := hSx
                    go_simp
                    try exact fun hx => absurd hx (by omega)
                  simp only [Act.put, List.setIfInBounds_toArray, List.set_cons_zero, List.set_cons_succ]
                  go_big_quiet_on
                  go_big_quiet_want
                  refine ⟨(.pointer (some ⟨b', off' + k * 4 + 3, none⟩)), fun wx hSx => ?_, ?_⟩
                  · obtain ⟨⟨k0, k1, k2, k3, k4, k5, k6, k7⟩, -⟩ := hSx
                    go_simp
                    try rfl
                  simp only [Act.put, List.setIfInBounds_toArray, List.set_cons_zero, List.set_cons_succ]
                  go_big_quiet_on
                  go_big_quiet_want
                  refine ⟨(.int .i64 ua), fun wx hSx => ?_, ?_⟩
                  · obtain ⟨⟨k0, k1, k2, k3, k4, k5, k6, k7⟩, -⟩ := hSx
                    go_simp
                    try rfl
                  simp only [Act.put, List.setIfInBounds_toArray, List.set_cons_zero, List.set_cons_succ]
                  go_big_quiet_on
                  go_big_quiet_want
                  refine ⟨(.bool true), fun wx hSx => ?_, ?_⟩
                  · obtain ⟨⟨k0, k1, k2, k3, k4, k5, k6, k7⟩, -⟩ := hSx
                    go_simp
                    try first | done | assumption | rfl
                  simp only [Act.put, List.setIfInBounds_toArray, List.set_cons_zero, List.set_cons_succ]
                  go_big_quiet_on
                  go_big_quiet_want
                  refine ⟨(.bool true), fun wx hSx => ?_, ?_⟩
                  · obtain ⟨⟨k0, k1, k2, k3, k4, k5, k6, k7⟩, -⟩ := hSx
                    go_simp
                    try first
                      | with_reducible rfl
                      | rw [if_neg (by omega)]
                  simp only [Act.put, List.setIfInBounds_toArray, List.set_cons_zero, List.set_cons_succ]
                  go_big_quiet_on
                  refine wpQuiet_nil ?_
                  rintro w4 ⟨-, hb4⟩
                  have H4 := Lib.hid (HI.out.trans (hb4.out.mono HI.out.size))
                  clear hb4
                  go_wp2_with fail
                  go_ret
                  exact ⟨ret_bool (decide_eq_false HN.out).symm, H4.out⟩
            · have HN := Lib.hid (hY fun e => e2 (Lx.key_n e))
              have s2 : (vn == un) = false := by simpa using e2
              clear hX hY hx hy
              go_wp2_with fail
              refine wp_region_quiet_tail (C := fun wx => (wx.cell? ⟨b, off + k * 4, none⟩ = some (.int .i64 vk) ∧ wx.cell? ⟨b', off' + k * 4, none⟩ = some (.int .i64 vk) ∧ wx.cell? ⟨b, off + k * 4 + 1, none⟩ = some (.string vs) ∧ wx.cell? ⟨b', off' + k * 4 + 1, none⟩ = some (.string vs) ∧ wx.cell? ⟨b, off + k * 4 + 2, none⟩ = some (.int .i64 vn) ∧ wx.cell? ⟨b', off' + k * 4 + 2, none⟩ = some (.int .i64 un)) ∧ Hid (Below wr.heap.size wr wx)) 52 (by kernel_rfl) (by kernel_rfl) ⟨⟨c0, d0, c1, d1, c2, d2⟩, Lib.hid (Below.refl wr.heap.size wr).drew⟩ ?_
              simp only [List.take_succ_cons, List.take_zero, List.drop_succ_cons, List.drop_zero]
              go_big_quiet_want
              go_big_quiet_op
              go_big_quiet_on
              go_big_quiet_want
              go_big_quiet_op
              go_big_quiet_on
              go_big_quiet_want
              refine ⟨(.pointer (some ⟨b, off + k * 4, none⟩)), fun wx hSx => ?_, ?_⟩
              · obtain ⟨⟨k0, k1, k2, k3, k4, k5⟩, -⟩ := hSx
                go_simp
                try exact fun hx => absurd hx (by omega)
              simp only [Act.put, List.setIfInBounds_toArray, List.set_cons_zero, List.set_cons_succ]
              go_big_quiet_on
              go_big_quiet_want
              refine ⟨(.pointer (some ⟨b, off + k * 4, none⟩)), fun wx hSx => ?_, ?_⟩
              · obtain ⟨⟨k0, k1, k2, k3, k4, k5⟩, -⟩ := hSx
                go_simp
                try rfl
              simp only [Act.put, List.setIfInBounds_toArray, List.set_cons_zero, List.set_cons_succ]
              go_big_quiet_on
              go_big_quiet_want
              refine ⟨(.int .i64 vk), fun wx hSx => ?_, ?_⟩
              · obtain ⟨⟨k0, k1, k2, k3, k4, k5⟩, -⟩ := hSx
                go_simp
                try rfl
              simp only [Act.put, List.setIfInBounds_toArray, List.set_cons_zero, List.set_cons_succ]
              go_big_quiet_on
              go_big_quiet_want
              go_big_quiet_op
              go_big_quiet_on
              go_big_quiet_want
              go_big_quiet_op
              go_big_quiet_on
              go_big_quiet_want
              refine ⟨(.pointer (some ⟨b', off' + k * 4, none⟩)), fun wx hSx => ?_, ?_⟩
              · obtain ⟨⟨k0, k1, k2, k3, k4, k5⟩, -⟩ := hSx
                go_simp
                try exact fun hx => absurd hx (by omega)
              simp only [Act.put, List.setIfInBounds_toArray, List.set_cons_zero, List.set_cons_succ]
              go_big_quiet_on
              go_big_quiet_want
              refine ⟨(.pointer (some ⟨b', off' + k * 4, none⟩)), fun wx hSx => ?_, ?_⟩
              · obtain ⟨⟨k0, k1, k2, k3, k4, k5⟩, -⟩ := hSx
                go_simp
                try rfl
              simp only [Act.put, List.setIfInBounds_toArray, List.set_cons_zero, List.set_cons_succ]
              go_big_quiet_on
              go_big_quiet_want
              refine ⟨(.int .i64 vk), fun wx hSx => ?_, ?_⟩
              · obtain ⟨⟨k0, k1, k2, k3, k4, k5⟩, -⟩ := hSx
                go_simp
                try rfl
              simp only [Act.put, List.setIfInBounds_toArray, List.set_cons_zero, List.set_cons_succ]
              go_big_quiet_on
              go_big_quiet_want
              refine ⟨(.bool false), fun wx hSx => ?_, ?_⟩
              · obtain ⟨⟨k0, k1, k2, k3, k4, k5⟩, -⟩ := hSx
                go_simp
                try first | done | assumption | rfl
              simp only [Act.put, List.setIfInBounds_toArray, List.set_cons_zero, List.set_cons_succ]
              go_big_quiet_on
              go_big_quiet_want
              go_big_quiet_op
              go_big_quiet_on
              go_big_quiet_want
              go_big_quiet_op
              go_big_quiet_on
              go_big_quiet_want
              go_big_quiet_op
              go_big_quiet_on
              go_big_quiet_want
              refine ⟨(.pointer (some ⟨b, off + k * 4, none⟩)), fun wx hSx => ?_, ?_⟩
              · obtain ⟨⟨k0, k1, k2, k3, k4, k5⟩, -⟩ := hSx
                go_simp
                try exact fun hx => absurd hx (by omega)
              simp only [Act.put, List.setIfInBounds_toArray, List.set_cons_zero, List.set_cons_succ]
              go_big_quiet_on
              go_big_quiet_want
              refine ⟨(.pointer (some ⟨b, off + k * 4 + 1, none⟩)), fun wx hSx => ?_, ?_⟩
              · obtain ⟨⟨k0, k1, k2, k3, k4, k5⟩, -⟩ := hSx
                go_simp
                try rfl
              simp only [Act.put, List.setIfInBounds_toArray, List.set_cons_zero, List.set_cons_succ]
              go_big_quiet_on
              go_big_quiet_want
              refine ⟨(.string vs), fun wx hSx => ?_, ?_⟩
              · obtain ⟨⟨k0, k1, k2, k3, k4, k5⟩, -⟩ := hSx
                go_simp
                try rfl
              simp only [Act.put, List.setIfInBounds_toArray, List.set_cons_zero, List.set_cons_succ]
              go_big_quiet_on
              go_big_quiet_want
              go_big_quiet_op
              go_big_quiet_on
              go_big_quiet_want
              go_big_quiet_op
              go_big_quiet_on
              go_big_quiet_want
              refine ⟨(.pointer (some ⟨b', off' + k * 4, none⟩)), fun wx hSx => ?_, ?_⟩
              · obtain ⟨⟨k0, k1, k2, k3, k4, k5⟩, -⟩ := hSx
                go_simp
                try exact fun hx => absurd hx (by omega)
              simp only [Act.put, List.setIfInBounds_toArray, List.set_cons_zero, List.set_cons_succ]
              go_big_quiet_on
              go_big_quiet_want
              refine ⟨(.pointer (some ⟨b', off' + k * 4 + 1, none⟩)), fun wx hSx => ?_, ?_⟩
              · obtain ⟨⟨k0, k1, k2, k3, k4, k5⟩, -⟩ := hSx
                go_simp
                try rfl
              simp only [Act.put, List.setIfInBounds_toArray, List.set_cons_zero, List.set_cons_succ]
              go_big_quiet_on
              go_big_quiet_want
              refine ⟨(.string vs), fun wx hSx => ?_, ?_⟩
              · obtain ⟨⟨k0, k1, k2, k3, k4, k5⟩, -⟩ := hSx
                go_simp
                try rfl
              simp only [Act.put, List.setIfInBounds_toArray, List.set_cons_zero, List.set_cons_succ]
              go_big_quiet_on
              go_big_quiet_want
              refine ⟨(.bool false), fun wx hSx => ?_, ?_⟩
              · obtain ⟨⟨k0, k1, k2, k3, k4, k5⟩, -⟩ := hSx
                go_simp
                try first | done | assumption | rfl
              simp only [Act.put, List.setIfInBounds_toArray, List.set_cons_zero, List.set_cons_succ]
              go_big_quiet_on
              go_big_quiet_want
              refine ⟨(.bool false), fun wx hSx => ?_, ?_⟩
              · obtain ⟨⟨k0, k1, k2, k3, k4, k5⟩, -⟩ := hSx
                go_simp
                try first
                  | with_reducible rfl
                  | rw [if_neg (by omega)]
              simp only [Act.put, List.setIfInBounds_toArray, List.set_cons_zero, List.set_cons_succ]
              go_big_quiet_on
              go_big_quiet_want
              go_big_quiet_op
              go_big_quiet_on
              go_big_quiet_want
              go_big_quiet_op
              go_big_quiet_on
              go_big_quiet_want
              go_big_quiet_op
              go_big_quiet_on
              go_big_quiet_want
              refine ⟨(.pointer (some ⟨b, off + k * 4, none⟩)), fun wx hSx => ?_, ?_⟩
              · obtain ⟨⟨k0, k1, k2, k3, k4, k5⟩, -⟩ := hSx
                go_simp
                try exact fun hx => absurd hx (by omega)
              simp only [Act.put, List.setIfInBounds_toArray, List.set_cons_zero, List.set_cons_succ]
              go_big_quiet_on
              go_big_quiet_want
              refine ⟨(.pointer (some ⟨b, off + k * 4 + 2, none⟩)), fun wx hSx => ?_, ?_⟩
              · obtain ⟨⟨k0, k1, k2, k3, k4, k5⟩, -⟩ := hSx
                go_simp
                try rfl
              simp only [Act.put, List.setIfInBounds_toArray, List.set_cons_zero, List.set_cons_succ]
              go_big_quiet_on
              go_big_quiet_want
              refine ⟨(.int .i64 vn), fun wx hSx => ?_, ?_⟩
              · obtain ⟨⟨k0, k1, k2, k3, k4, k5⟩, -⟩ := hSx
                go_simp
                try rfl
              simp only [Act.put, List.setIfInBounds_toArray, List.set_cons_zero, List.set_cons_succ]
              go_big_quiet_on
              go_big_quiet_want
              go_big_quiet_op
              go_big_quiet_on
              go_big_quiet_want
              go_big_quiet_op
              go_big_quiet_on
              go_big_quiet_want
              refine ⟨(.pointer (some ⟨b', off' + k * 4, none⟩)), fun wx hSx => ?_, ?_⟩
              · obtain ⟨⟨k0, k1, k2, k3, k4, k5⟩, -⟩ := hSx
                go_simp
                try exact fun hx => absurd hx (by omega)
              simp only [Act.put, List.setIfInBounds_toArray, List.set_cons_zero, List.set_cons_succ]
              go_big_quiet_on
              go_big_quiet_want
              refine ⟨(.pointer (some ⟨b', off' + k * 4 + 2, none⟩)), fun wx hSx => ?_, ?_⟩
              · obtain ⟨⟨k0, k1, k2, k3, k4, k5⟩, -⟩ := hSx
                go_simp
                try rfl
              simp only [Act.put, List.setIfInBounds_toArray, List.set_cons_zero, List.set_cons_succ]
              go_big_quiet_on
              go_big_quiet_want
              refine ⟨(.int .i64 un), fun wx hSx => ?_, ?_⟩
              · obtain ⟨⟨k0, k1, k2, k3, k4, k5⟩, -⟩ := hSx
                go_simp
                try rfl
              simp only [Act.put, List.setIfInBounds_toArray, List.set_cons_zero, List.set_cons_succ]
              go_big_quiet_on
              go_big_quiet_want
              refine ⟨(.bool true), fun wx hSx => ?_, ?_⟩
              · obtain ⟨⟨k0, k1, k2, k3, k4, k5⟩, -⟩ := hSx
                go_simp
                try first | done | assumption | rfl
              simp only [Act.put, List.setIfInBounds_toArray, List.set_cons_zero, List.set_cons_succ]
              go_big_quiet_on
              go_big_quiet_want
              refine ⟨(.bool true), fun wx hSx => ?_, ?_⟩
              · obtain ⟨⟨k0, k1, k2, k3, k4, k5⟩, -⟩ := hSx
                go_simp
                try first
                  | with_reducible rfl
                  | rw [if_neg (by omega)]
              simp only [Act.put, List.setIfInBounds_toArray, List.set_cons_zero, List.set_cons_succ]
              go_big_quiet_on
              go_big_quiet_want
              go_big_quiet_op
              go_big_quiet_on
              go_big_quiet_skip
              go_big_quiet_skip
              go_big_quiet_skip
              go_big_quiet_skip
              go_big_quiet_skip
              go_big_quiet_skip
              go_big_quiet_skip
              go_big_quiet_skip
              go_big_quiet_skip
              go_big_quiet_skip
              go_big_quiet_skip
              go_big_quiet_skip
              go_big_quiet_skip
              go_big_quiet_skip
              refine wpQuiet_nil ?_
              rintro w4 ⟨-, hb4⟩
              have H4 := Lib.hid (HI.out.trans (hb4.out.mono HI.out.size))
              clear hb4
              go_wp2_with fail
              go_ret
              exact ⟨ret_bool (decide_eq_false HN.out).symm, H4.out⟩
          · have HN := Lib.hid (hY fun e => e1 (Lx.key_s e))
            have s1 : ¬ vs.toList = us.toList := fun e => e1 (Sl.ba_ext (by rw [← ByteArray.toList_eq, ← ByteArray.toList_eq]; exact e))
            have s2 : (vs.toList == us.toList) = false := by simpa using s1
            have s3 : (vs.toList != us.toList) = true := by simpa using s1
            clear hX hY hx hy e1
            go_wp2_with fail
            refine wp_region_quiet_tail (C := fun wx => (wx.cell? ⟨b, off + k * 4, none⟩ = some (.int .i64 vk) ∧ wx.cell? ⟨b', off' + k * 4, none⟩ = some (.int .i64 vk) ∧ wx.cell? ⟨b, off + k * 4 + 1, none⟩ = some (.string vs) ∧ wx.cell? ⟨b', off' + k * 4 + 1, none⟩ = some (.string us)) ∧ Hid (Below wr.heap.size wr wx)) 52 (by kernel_rfl) (by kernel_rfl) ⟨⟨c0, d0, c1, d1⟩, Lib.hid (Below.refl wr.heap.size wr).drew⟩ ?_
            simp only [List.take_succ_cons, List.take_zero, List.drop_succ_cons, List.drop_zero]
            go_big_quiet_want
            go_big_quiet_op
            go_big_quiet_on
            go_big_quiet_want
            go_big_quiet_op
            go_big_quiet_on
            go_big_quiet_want
            refine ⟨(.pointer (some ⟨b, off + k * 4, none⟩)), fun wx hSx => ?_, ?_⟩
            · obtain ⟨⟨k0, k1, k2, k3⟩, -⟩ := hSx
              go_simp
              try exact fun hx => absurd hx (by omega)
            simp only [Act.put, List.setIfInBounds_toArray, List.set_cons_zero, List.set_cons_succ]
            go_big_quiet_on
            go_big_quiet_want
            refine ⟨(.pointer (some ⟨b, off + k * 4, none⟩)), fun wx hSx => ?_, ?_⟩
            · obtain ⟨⟨k0, k1, k2, k3⟩, -⟩ := hSx
              go_simp
              try rfl
            simp only [Act.put, List.setIfInBounds_toArray, List.set_cons_zero, List.set_cons_succ]
            go_big_quiet_on
            go_big_quiet_want
            refine ⟨(.int .i64 vk), fun wx hSx => ?_, ?_⟩
            · obtain ⟨⟨k0, k1, k2, k3⟩, -⟩ := hSx
              go_simp
              try rfl
            simp only [Act.put, List.setIfInBounds_toArray, List.set_cons_zero, List.set_cons_succ]
            go_big_quiet_on
            go_big_quiet_want
            go_big_quiet_op
            go_big_quiet_on
            go_big_quiet_want
            go_big_quiet_op
            go_big_quiet_on
            go_big_quiet_want
            refine ⟨(.pointer (some ⟨b', off' + k * 4, none⟩)), fun wx hSx => ?_, ?_⟩
            · obtain ⟨⟨k0, k1, k2, k3⟩, -⟩ := hSx
              go_simp
              try exact fun hx => absurd hx (by omega)
            simp only [Act.put, List.setIfInBounds_toArray, List.set_cons_zero, List.set_cons_succ]
            go_big_quiet_on
            go_big_quiet_want
            refine ⟨(.pointer (some ⟨b', off' + k * 4, none⟩)), fun wx hSx => ?_, ?_⟩
            · obtain ⟨⟨k0, k1, k2, k3⟩, -⟩ := hSx
              go_simp
              try rfl
            simp only [Act.put, List.setIfInBounds_toArray, List.set_cons_zero, List.set_cons_succ]
            go_big_quiet_on
            go_big_quiet_want
            refine ⟨(.int .i64 vk), fun wx hSx => ?_, ?_⟩
            · obtain ⟨⟨k0, k1, k2, k3⟩, -⟩ := hSx
              go_simp
              try rfl
            simp only [Act.put, List.setIfInBounds_toArray, List.set_cons_zero, List.set_cons_succ]
            go_big_quiet_on
            go_big_quiet_want
            refine ⟨(.bool false), fun wx hSx => ?_, ?_⟩
            · obtain ⟨⟨k0, k1, k2, k3⟩, -⟩ := hSx
              go_simp
              try first | done | assumption | rfl
            simp only [Act.put, List.setIfInBounds_toArray, List.set_cons_zero, List.set_cons_succ]
            go_big_quiet_on
            go_big_quiet_want
            go_big_quiet_op
            go_big_quiet_on
            go_big_quiet_want
            go_big_quiet_op
            go_big_quiet_on
            go_big_quiet_want
            go_big_quiet_op
            go_big_quiet_on
            go_big_quiet_want
            refine ⟨(.pointer (some ⟨b, off + k * 4, none⟩)), fun wx hSx => ?_, ?_⟩
            · obtain ⟨⟨k0, k1, k2, k3⟩, -⟩ := hSx
              go_simp
              try exact fun hx => absurd hx (by omega)
            simp only [Act.put, List.setIfInBounds_toArray, List.set_cons_zero, List.set_cons_succ]
            go_big_quiet_on
            go_big_quiet_want
            refine ⟨(.pointer (some ⟨b, off + k * 4 + 1, none⟩)), fun wx hSx => ?_, ?_⟩
            · obtain ⟨⟨k0, k1, k2, k3⟩, -⟩ := hSx
              go_simp
              try rfl
            simp only [Act.put, List.setIfInBounds_toArray, List.set_cons_zero, List.set_cons_succ]
            go_big_quiet_on
            go_big_quiet_want
            refine ⟨(.string vs), fun wx hSx => ?_, ?_⟩
            · obtain ⟨⟨k0, k1, k2, k3⟩, -⟩ := hSx
              go_simp
              try rfl
            simp only [Act.put, List.setIfInBounds_toArray, List.set_cons_zero, List.set_cons_succ]
            go_big_quiet_on
            go_big_quiet_want
            go_big_quiet_op
            go_big_quiet_on
            go_big_quiet_want
            go_big_quiet_op
            go_big_quiet_on
            go_big_quiet_want
            refine ⟨(.pointer (some ⟨b', off' + k * 4, none⟩)), fun wx hSx => ?_, ?_⟩
            · obtain ⟨⟨k0, k1, k2, k3⟩, -⟩ := hSx
              go_simp
              try exact fun hx => absurd hx (by omega)
            simp only [Act.put, List.setIfInBounds_toArray, List.set_cons_zero, List.set_cons_succ]
            go_big_quiet_on
            go_big_quiet_want
            refine ⟨(.pointer (some ⟨b', off' + k * 4 + 1, none⟩)), fun wx hSx => ?_, ?_⟩
            · obtain ⟨⟨k0, k1, k2, k3⟩, -⟩ := hSx
              go_simp
              try rfl
            simp only [Act.put, List.setIfInBounds_toArray, List.set_cons_zero, List.set_cons_succ]
            go_big_quiet_on
            go_big_quiet_want
            refine ⟨(.string us), fun wx hSx => ?_, ?_⟩
            · obtain ⟨⟨k0, k1, k2, k3⟩, -⟩ := hSx
              go_simp
              try rfl
            simp only [Act.put, List.setIfInBounds_toArray, List.set_cons_zero, List.set_cons_succ]
            go_big_quiet_on
            go_big_quiet_want
            refine ⟨(.bool true), fun wx hSx => ?_, ?_⟩
            · obtain ⟨⟨k0, k1, k2, k3⟩, -⟩ := hSx
              go_simp
              try first | done | assumption | rfl
            simp only [Act.put, List.setIfInBounds_toArray, List.set_cons_zero, List.set_cons_succ]
            go_big_quiet_on
            go_big_quiet_want
            refine ⟨(.bool true), fun wx hSx => ?_, ?_⟩
            · obtain ⟨⟨k0, k1, k2, k3⟩, -⟩ := hSx
              go_simp
              try first
                | with_reducible rfl
                | rw [if_neg (by omega)]
            simp only [Act.put, List.setIfInBounds_toArray, List.set_cons_zero, List.set_cons_succ]
            go_big_quiet_on
            go_big_quiet_want
            go_big_quiet_op
            go_big_quiet_on
            go_big_quiet_skip
            go_big_quiet_skip
            go_big_quiet_skip
            go_big_quiet_skip
            go_big_quiet_skip
            go_big_quiet_skip
            go_big_quiet_skip
            go_big_quiet_skip
            go_big_quiet_skip
            go_big_quiet_skip
            go_big_quiet_skip
            go_big_quiet_want
            refine ⟨(.bool true), fun wx hSx => ?_, ?_⟩
            · obtain ⟨⟨k0, k1, k2, k3⟩, -⟩ := hSx
              go_simp
              try first
                | with_reducible rfl
                | rw [if_neg (by omega)]
            simp only [Act.put, List.setIfInBounds_toArray, List.set_cons_zero, List.set_cons_succ]
            go_big_quiet_on
            go_big_quiet_want
            go_big_quiet_op
            go_big_quiet_on
            go_big_quiet_skip
            go_big_quiet_skip
            go_big_quiet_skip
            go_big_quiet_skip
            go_big_quiet_skip
            go_big_quiet_skip
            go_big_quiet_skip
            go_big_quiet_skip
            go_big_quiet_skip
            go_big_quiet_skip
            go_big_quiet_skip
            go_big_quiet_skip
            go_big_quiet_skip
            go_big_quiet_skip
            refine wpQuiet_nil ?_
            rintro w4 ⟨-, hb4⟩
            have H4 := Lib.hid (HI.out.trans (hb4.out.mono HI.out.size))
            clear hb4
            go_wp2_with fail
            go_ret
            exact ⟨ret_bool (decide_eq_false HN.out).symm, H4.out⟩
        · have HN := Lib.hid (hY fun e => e0 (Lx.key_kind e))
          have s2 : (vk == uk) = false := by simpa using e0
          clear hX hY hx hy
          go_wp2_with fail
          refine wp_region_quiet_tail (C := fun wx => (wx.cell? ⟨b, off + k * 4, none⟩ = some (.int .i64 vk) ∧ wx.cell? ⟨b', off' + k * 4, none⟩ = some (.int .i64 uk)) ∧ Hid (Below wr.heap.size wr wx)) 52 (by kernel_rfl) (by kernel_rfl) ⟨⟨c0, d0⟩, Lib.hid (Below.refl wr.heap.size wr).drew⟩ ?_
          simp only [List.take_succ_cons, List.take_zero, List.drop_succ_cons, List.drop_zero]
          go_big_quiet_want
          go_big_quiet_op
          go_big_quiet_on
          go_big_quiet_want
          go_big_quiet_op
          go_big_quiet_on
          go_big_quiet_want
          refine ⟨(.pointer (some ⟨b, off + k * 4, none⟩)), fun wx hSx => ?_, ?_⟩
          · obtain ⟨⟨k0, k1⟩, -⟩ := hSx
            go_simp
            try exact fun hx => absurd hx (by omega)
          simp only [Act.put, List.setIfInBounds_toArray, List.set_cons_zero, List.set_cons_succ]
          go_big_quiet_on
          go_big_quiet_want
          refine ⟨(.pointer (some ⟨b, off + k * 4, none⟩)), fun wx hSx => ?_, ?_⟩
          · obtain ⟨⟨k0, k1⟩, -⟩ := hSx
            go_simp
            try rfl
          simp only [Act.put, List.setIfInBounds_toArray, List.set_cons_zero, List.set_cons_succ]
          go_big_quiet_on
          go_big_quiet_want
          refine ⟨(.int .i64 vk), fun wx hSx => ?_, ?_⟩
          · obtain ⟨⟨k0, k1⟩, -⟩ := hSx
            go_simp
            try rfl
          simp only [Act.put, List.setIfInBounds_toArray, List.set_cons_zero, List.set_cons_succ]
          go_big_quiet_on
          go_big_quiet_want
          go_big_quiet_op
          go_big_quiet_on
          go_big_quiet_want
          go_big_quiet_op
          go_big_quiet_on
          go_big_quiet_want
          refine ⟨(.pointer (some ⟨b', off' + k * 4, none⟩)), fun wx hSx => ?_, ?_⟩
          · obtain ⟨⟨k0, k1⟩, -⟩ := hSx
            go_simp
            try exact fun hx => absurd hx (by omega)
          simp only [Act.put, List.setIfInBounds_toArray, List.set_cons_zero, List.set_cons_succ]
          go_big_quiet_on
          go_big_quiet_want
          refine ⟨(.pointer (some ⟨b', off' + k * 4, none⟩)), fun wx hSx => ?_, ?_⟩
          · obtain ⟨⟨k0, k1⟩, -⟩ := hSx
            go_simp
            try rfl
          simp only [Act.put, List.setIfInBounds_toArray, List.set_cons_zero, List.set_cons_succ]
          go_big_quiet_on
          go_big_quiet_want
          refine ⟨(.int .i64 uk), fun wx hSx => ?_, ?_⟩
          · obtain ⟨⟨k0, k1⟩, -⟩ := hSx
            go_simp
            try rfl
          simp only [Act.put, List.setIfInBounds_toArray, List.set_cons_zero, List.set_cons_succ]
          go_big_quiet_on
          go_big_quiet_want
          refine ⟨(.bool true), fun wx hSx => ?_, ?_⟩
          · obtain ⟨⟨k0, k1⟩, -⟩ := hSx
            go_simp
            try first | done | assumption | rfl
          simp only [Act.put, List.setIfInBounds_toArray, List.set_cons_zero, List.set_cons_succ]
          go_big_quiet_on
          go_big_quiet_want
          go_big_quiet_op
          go_big_quiet_on
          go_big_quiet_skip
          go_big_quiet_skip
          go_big_quiet_skip
          go_big_quiet_skip
          go_big_quiet_skip
          go_big_quiet_skip
          go_big_quiet_skip
          go_big_quiet_skip
          go_big_quiet_skip
          go_big_quiet_skip
          go_big_quiet_skip
          go_big_quiet_want
          refine ⟨(.bool true), fun wx hSx => ?_, ?_⟩
          · obtain ⟨⟨k0, k1⟩, -⟩ := hSx
            go_simp
            try first
              | with_reducible rfl
              | rw [if_neg (by omega)]
          simp only [Act.put, List.setIfInBounds_toArray, List.set_cons_zero, List.set_cons_succ]
          go_big_quiet_on
          go_big_quiet_want
          go_big_quiet_op
          go_big_quiet_on
          go_big_quiet_skip
          go_big_quiet_skip
          go_big_quiet_skip
          go_big_quiet_skip
          go_big_quiet_skip
          go_big_quiet_skip
          go_big_quiet_skip
          go_big_quiet_skip
          go_big_quiet_skip
          go_big_quiet_skip
          go_big_quiet_skip
          go_big_quiet_want
          refine ⟨(.bool true), fun wx hSx => ?_, ?_⟩
          · obtain ⟨⟨k0, k1⟩, -⟩ := hSx
            go_simp
            try first
              | with_reducible rfl
              | rw [if_neg (by omega)]
          simp only [Act.put, List.setIfInBounds_toArray, List.set_cons_zero, List.set_cons_succ]
          go_big_quiet_on
          go_big_quiet_want
          go_big_quiet_op
          go_big_quiet_on
          go_big_quiet_skip
          go_big_quiet_skip
          go_big_quiet_skip
          go_big_quiet_skip
          go_big_quiet_skip
          go_big_quiet_skip
          go_big_quiet_skip
          go_big_quiet_skip
          go_big_quiet_skip
          go_big_quiet_skip
          go_big_quiet_skip
          go_big_quiet_skip
          go_big_quiet_skip
          go_big_quiet_skip
          refine wpQuiet_nil ?_
          rintro w4 ⟨-, hb4⟩
          have H4 := Lib.hid (HI.out.trans (hb4.out.mono HI.out.size))
          clear hb4
          go_wp2_with fail
          go_ret
          exact ⟨ret_bool (decide_eq_false HN.out).symm, H4.out⟩
      · have HF := Lib.hid (Lx.sameK_full HE.out HL.out hlt)
        go_wp2_with fail
        go_ret
        exact ⟨ret_bool (decide_eq_true HF.out).symm, HI.out⟩
  · have t : ((L.length : Int) == (M.length : Int)) = false := by simp; omega
    have HN := Lib.hid (show ¬ L.map (Lx.key p) = M.map (Lx.key p) from fun e => hl (by have := congrArg List.length e; rwa [List.length_map, List.length_map] at this))
    go_enter Tryd.func10, Tryd.ntmps10
    go_wp2_with fail
    go_ret
    exact ⟨ret_bool (decide_eq_false HN.out).symm, Below.refl _ _⟩
end Go.Proofs.YtmpfnokddpbgcaaDoor
