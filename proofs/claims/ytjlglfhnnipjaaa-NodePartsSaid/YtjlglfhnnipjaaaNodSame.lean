/-
  Layer 9: the document's node: are two lists the same, two nodes?
-/
import Derived.Test.YtjlglfhnnipjaaaNodRef
import Derived.BigQuiet
namespace Go.Proofs.Ytjlglfhnnipjaaa
open Go.RowKit
set_option maxRecDepth 100000 in
set_option maxHeartbeats 3200000 in
theorem rpairs9_any (a b : Option Addr) (L M : List (ByteArray × ByteArray)) (c d : Nat) (w : World) (hr : ReadsP w a L) (hs : ReadsP w b M) (hL : L.length ≤ 1000000) (hM : M.length ≤ 1000000) :
    Calls Try.prog 24 #[.slice a L.length c, .slice b M.length d] w fun e w' => e = .returned (.bool (decide (L = M))) ∧ Below w.heap.size w w' := by
  generalize hRR : decide (L = M) = RR
  have HR := Lib.hid hRR
  clear hRR
  by_cases hlen : L.length = M.length
  · have hq : (((L.length : Nat) : Int) != ((M.length : Nat) : Int)) = false := by rw [hlen]; simp
    have H := Lib.hid (And.intro hr (And.intro hs hlen))
    clear hr hs hlen
    go_enter Try.func24, Try.ntmps24
    go_wp2_with fail
    go_loopw [5] (fun i wr => ∃ k : Nat, k ≤ L.length ∧ i = .int .i64 (k : Int) ∧ Hid (Below w.heap.size w wr ∧ L.take k = M.take k)) (fun i _ => L.length - (RowKit.intOf i).toNat)
    case atStart => exact ⟨0, Nat.zero_le _, rfl, Lib.hid ⟨Below.refl _ _, rfl⟩⟩
    case round =>
      obtain ⟨k, hk, rfl, HI⟩ := hrel
      by_cases hlt : k < L.length
      · have hlt2 : k < M.length := by rw [← H.out.2.2]; exact hlt
        obtain ⟨ab, off, rfl, c0, c1⟩ := (readsP_below H.out.1 HI.out.1) k hlt
        obtain ⟨bb, of2, rfl, e0, e1⟩ := (readsP_below H.out.2.1 HI.out.1) k hlt2
        have hnext : L[k] = M[k] → L.take (k + 1) = M.take (k + 1) := fun h => by rw [List.take_succ_eq_append_getElem hlt, List.take_succ_eq_append_getElem hlt2, HI.out.2, h]
        have hno : L[k] ≠ M[k] → RR = false := fun h => by rw [← HR.out]; exact decide_eq_false fun e => h (by subst e; rfl)
        generalize L[k] = x at *
        generalize M[k] = y at *
        obtain ⟨x1, x2⟩ := x
        obtain ⟨y1, y2⟩ := y
        dsimp only at c0 c1 e0 e1
        have HC := Lib.hid (And.intro hnext hno)
        clear hnext hno
        by_cases g1 : x1 = y1
        · subst g1
          by_cases g2 : x2 = y2
          · subst g2
            go_wp2_with fail
            go_quiet (fail)
            go_wp2
            go_roundw
            case rel => exact ⟨k + 1, by omega, by go_num, Lib.hid ⟨below_drewN HI.out.1 _, HC.out.1 (by first | rfl | trivial)⟩⟩
            case measure => simp [RowKit.intOf]; omega
          · have g3 := str_neq g2
            go_wp2_with fail
            go_quiet (fail)
            go_wp2
            go_ret
            rw [HC.out.2 (fun e => g2 (Prod.mk.inj e).2)]
            exact ⟨rfl, below_drewN HI.out.1 _⟩
        · have g3 := str_neq g1
          go_wp2_with fail
          go_quiet (fail)
          go_wp2
          go_ret
          rw [HC.out.2 (fun e => g1 (Prod.mk.inj e).1)]
          exact ⟨rfl, below_drewN HI.out.1 _⟩
      · obtain rfl : k = L.length := by omega
        have hfin : RR = true := by
          rw [← HR.out]
          have h2 := HI.out.2
          rw [List.take_length] at h2
          refine decide_eq_true (h2.trans ?_)
          rw [H.out.2.2, List.take_length]
        go_wp2_with fail
        go_ret
        rw [hfin]
        exact ⟨rfl, HI.out.1⟩
  · have hq : (((L.length : Nat) : Int) != ((M.length : Nat) : Int)) = true := by simp; omega
    have hfin : RR = false := by rw [← HR.out]; exact decide_eq_false fun e => hlen (by rw [e])
    clear hr hs
    go_enter Try.func24, Try.ntmps24
    go_wp2_with fail
    go_ret
    rw [hfin]
    exact ⟨rfl, Below.refl _ _⟩
set_option maxRecDepth 100000 in
set_option maxHeartbeats 1600000 in
theorem rsame9_any (u v : Bool) (a b : Option Addr) (L M : List (ByteArray × ByteArray)) (c d : Nat) (w : World) (hr : ReadsP w a L) (hs : ReadsP w b M) (hL : L.length ≤ 1000000) (hM : M.length ≤ 1000000) :
    Calls Try.prog 21 #[nodV u a L.length c, nodV v b M.length d] w fun e w' => e = .returned (.bool (decide (u = v ∧ L = M))) ∧ Below w.heap.size w w' := by
  have hb := (Below.refl w.heap.size w).alloc (Nat.le_refl _) (.cells #[.bool u, .slice a L.length c] 24)
  have hz : (w.alloc (.cells #[.bool u, .slice a L.length c] 24)).heap.size = w.heap.size + 1 := World.size_alloc _ _
  have hb2 := hb.alloc (show w.heap.size ≤ (w.alloc (.cells #[.bool u, .slice a L.length c] 24)).heap.size by omega) (.cells #[.bool v, .slice b M.length d] 24)
  have r1 := rowV_alloc (rowV_new w 24 (nodC u a L.length c)) (.cells #[.bool v, .slice b M.length d] 24)
  have r2 := rowV_new (w.alloc (.cells #[.bool u, .slice a L.length c] 24)) 24 (nodC v b M.length d)
  rw [hz] at r2
  have x0 := rowV_cell r1 0
  have x1 := rowV_cell r1 1
  have y0 := rowV_cell r2 0
  have y1 := rowV_cell r2 1
  simp only [List.getElem?_cons_zero, List.getElem?_cons_succ] at x0 x1 y0 y1
  have cP := rpairs9_any a b L M c d ((w.alloc (.cells #[.bool u, .slice a L.length c] 24)).alloc (.cells #[.bool v, .slice b M.length d] 24)) (readsP_below hr hb2) (readsP_below hs hb2) hL hM
  by_cases hu : u = v
  · subst hu
    have e : decide (u = u ∧ L = M) = decide (L = M) := by simp
    rw [e]
    generalize decide (L = M) = R at *
    have H := Lib.hid (And.intro cP hb2)
    clear cP hb2 hb r1 r2 e hr hs
    cases u with
    | true =>
      go_enter Try.func21, Try.ntmps21
      go_wp2_with (go_at_call 24; refine H.out.1.mono ?_; rintro e w1 ⟨rfl, hb1⟩; have H1 := Lib.hid (H.out.2.trans (hb1.mono H.out.2.size)); clear hb1)
      go_ret
      exact ⟨rfl, H1.out⟩
    | false =>
      go_enter Try.func21, Try.ntmps21
      go_wp2_with (go_at_call 24; refine H.out.1.mono ?_; rintro e w1 ⟨rfl, hb1⟩; have H1 := Lib.hid (H.out.2.trans (hb1.mono H.out.2.size)); clear hb1)
      go_ret
      exact ⟨rfl, H1.out⟩
  · have e : decide (u = v ∧ L = M) = false := decide_eq_false fun h => hu h.1
    rw [e]
    have H := Lib.hid hb2
    clear cP hb2 hb r1 r2 e hr hs
    cases u with
    | true =>
      cases v with
      | true => exact absurd rfl hu
      | false =>
        go_enter Try.func21, Try.ntmps21
        go_wp2_with fail
        go_ret
        exact ⟨rfl, H.out⟩
    | false =>
      cases v with
      | false => exact absurd rfl hu
      | true =>
        go_enter Try.func21, Try.ntmps21
        go_wp2_with fail
        go_ret
        exact ⟨rfl, H.out⟩
end Go.Proofs.Ytjlglfhnnipjaaa
