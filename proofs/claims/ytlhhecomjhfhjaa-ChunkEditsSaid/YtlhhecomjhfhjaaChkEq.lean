/-
  Layer 11: slices.Equal of pairs; are pairs few and short?
-/
import Derived.Test.YtlhhecomjhfhjaaChkMath
import Derived.Test.YtlhhecomjhfhjaaPairOwn
import Derived.BigQuiet
namespace Go.Proofs.Ytlhhecomjhfhjaa
open Go.RowKit
set_option maxRecDepth 100000 in
set_option maxHeartbeats 3200000 in
theorem eqP11_any (a b : Option Addr) (L M : List (ByteArray × ByteArray)) (c d : Nat) (w : World) (hr : ReadsP w a L) (hs : ReadsP w b M) (hL : L.length ≤ 1000000) (hM : M.length ≤ 1000000) :
    Calls Try.prog 23 #[.slice a L.length c, .slice b M.length d] w fun e w' => e = .returned (.bool (decide (L = M))) ∧ Below w.heap.size w w' := by
  generalize hRR : decide (L = M) = RR
  have HR := Lib.hid hRR
  clear hRR
  by_cases hlen : L.length = M.length
  · have hq : (((L.length : Nat) : Int) != ((M.length : Nat) : Int)) = false := by rw [hlen]; simp
    have H := Lib.hid (And.intro hr (And.intro hs hlen))
    clear hr hs hlen
    go_enter Try.func23, Try.ntmps23
    go_wp2_with fail
    go_loopw [13] (fun i wr => ∃ k : Nat, k ≤ L.length ∧ i = .int .i64 (k : Int) ∧ Hid (Below w.heap.size w wr ∧ L.take k = M.take k)) (fun i _ => L.length - (RowKit.intOf i).toNat)
    case atStart => exact ⟨0, Nat.zero_le _, rfl, Lib.hid ⟨Below.refl _ _, rfl⟩⟩
    case round =>
      obtain ⟨k, hk, rfl, HI⟩ := hrel
      by_cases hlt : k < L.length
      · have hlt2 : k < M.length := by rw [← H.out.2.2]; exact hlt
        obtain ⟨ab, off, rfl, c0, c1⟩ := (readsP_below H.out.1 HI.out.1) k hlt
        obtain ⟨bb, of2, rfl, e0, e1⟩ := (readsP_below H.out.2.1 HI.out.1) k hlt2
        have hnext : L[k] = M[k] → L.take (k + 1) = M.take (k + 1) := fun h => by rw [List.take_succ_eq_append_getElem hlt, List.take_succ_eq_append_getElem hlt2, HI.out.2, h]
        have hno : L[k] ≠ M[k] → RR = false := fun h => by rw [← HR.out]; exact decide_eq_false fun e => h (by subst e; rfl)
        generalize L[k] = x at *
        generalize M[k] = y at *
        obtain ⟨x1, x2⟩ := x
        obtain ⟨y1, y2⟩ := y
        dsimp only at c0 c1 e0 e1
        have HC := Lib.hid (And.intro hnext hno)
        clear hnext hno
        by_cases g1 : x1 = y1
        · subst g1
          by_cases g2 : x2 = y2
          · subst g2
            go_wp2_with fail
            go_quiet (fail)
            go_wp2
            go_roundw
            case rel => exact ⟨k + 1, by omega, by go_num, Lib.hid ⟨below_drewN HI.out.1 _, HC.out.1 (by first | rfl | trivial)⟩⟩
            case measure => simp [RowKit.intOf]; omega
          · have g3 := str_neq g2
            go_wp2_with fail
            go_quiet (fail)
            go_wp2
            go_ret
            rw [HC.out.2 (fun e => g2 (Prod.mk.inj e).2)]
            exact ⟨rfl, below_drewN HI.out.1 _⟩
        · have g3 := str_neq g1
          go_wp2_with fail
          go_quiet (fail)
          go_wp2
          go_ret
          rw [HC.out.2 (fun e => g1 (Prod.mk.inj e).1)]
          exact ⟨rfl, below_drewN HI.out.1 _⟩
      · obtain rfl : k = L.length := by omega
        have hfin : RR = true := by
          rw [← HR.out]
          have h2 := HI.out.2
          rw [List.take_length] at h2
          refine decide_eq_true (h2.trans ?_)
          rw [H.out.2.2, List.take_length]
        go_wp2_with fail
        go_ret
        rw [hfin]
        exact ⟨rfl, HI.out.1⟩
  · have hq : (((L.length : Nat) : Int) != ((M.length : Nat) : Int)) = true := by simp; omega
    have hfin : RR = false := by rw [← HR.out]; exact decide_eq_false fun e => hlen (by rw [e])
    clear hr hs
    go_enter Try.func23, Try.ntmps23
    go_wp2_with fail
    go_ret
    rw [hfin]
    exact ⟨rfl, Below.refl _ _⟩
theorem all_take {α : Type} (l : List α) (p : α → Bool) (k : Nat) (h : k < l.length) (hp : (l.take k).all p = true) (hk : p l[k] = true) : (l.take (k + 1)).all p = true := by
  rw [List.take_succ_eq_append_getElem h, List.all_append, hp]; simp [hk]
def shortB (x : ByteArray × ByteArray) : Bool := !(decide (300 < x.1.size) || decide (1000 < x.2.size))
def Short11 (l : List (ByteArray × ByteArray)) : Bool := decide (l.length ≤ 30) && l.all shortB
set_option maxRecDepth 100000 in
set_option maxHeartbeats 1600000 in
theorem short11_any (a : Option Addr) (L : List (ByteArray × ByteArray)) (c : Nat) (w : World) (hr : ReadsP w a L) (hL : L.length ≤ maxLen) :
    Calls Try.prog 14 #[.slice a L.length c] w fun e w' => e = .returned (.bool (Short11 L)) ∧ Below w.heap.size w w' := by
  unfold maxLen at hL
  generalize hRR : Short11 L = RR
  unfold Short11 at hRR
  by_cases h30 : L.length ≤ 30
  · have d0 : decide (30 < (L.length : Int)) = false := decide_eq_false (by omega)
    rw [decide_eq_true h30, Bool.true_and] at hRR
    have H := Lib.hid (And.intro hr hRR)
    clear hr hRR
    go_enter Try.func14, Try.ntmps14
    go_wp2_with fail
    go_loopw [3] (fun i wr => ∃ k : Nat, k ≤ L.length ∧ i = .int .i64 (k : Int) ∧ Hid (Below w.heap.size w wr ∧ (L.take k).all shortB = true)) (fun i _ => L.length - (RowKit.intOf i).toNat)
    case atStart => exact ⟨0, Nat.zero_le _, rfl, Lib.hid ⟨Below.refl _ _, rfl⟩⟩
    case round =>
      obtain ⟨k, hk, rfl, HI⟩ := hrel
      by_cases hlt : k < L.length
      · obtain ⟨ab, off, rfl, c0, c1⟩ := (readsP_below H.out.1 HI.out.1) k hlt
        have hnext : shortB L[k] = true → (L.take (k + 1)).all shortB = true := fun h => all_take L shortB k hlt HI.out.2 h
        have hno : shortB L[k] = false → RR = false := fun h => by
          rw [← H.out.2]
          exact List.all_eq_false.2 ⟨L[k], List.getElem_mem hlt, by rw [h]; decide⟩
        generalize L[k] = x at *
        obtain ⟨x1, x2⟩ := x
        dsimp only at c0 c1
        have HC := Lib.hid (And.intro hnext hno)
        clear hnext hno
        by_cases g1 : 300 < x1.size
        · have d1 : decide (300 < (x1.size : Int)) = true := decide_eq_true (by omega)
          go_wp2_with fail
          go_ret
          rw [HC.out.2 (by unfold shortB; rw [decide_eq_true g1]; rfl)]
          exact ⟨rfl, HI.out.1⟩
        · have d1 : decide (300 < (x1.size : Int)) = false := decide_eq_false (by omega)
          by_cases g2 : 1000 < x2.size
          · have d2 : decide (1000 < (x2.size : Int)) = true := decide_eq_true (by omega)
            go_wp2_with fail
            go_ret
            rw [HC.out.2 (by unfold shortB; rw [decide_eq_false g1, decide_eq_true g2]; rfl)]
            exact ⟨rfl, HI.out.1⟩
          · have d2 : decide (1000 < (x2.size : Int)) = false := decide_eq_false (by omega)
            go_wp2_with fail
            go_roundw
            case rel => exact ⟨k + 1, by omega, by go_num, Lib.hid ⟨HI.out.1, HC.out.1 (by unfold shortB; rw [decide_eq_false g1, decide_eq_false g2]; rfl)⟩⟩
            case measure => simp [RowKit.intOf]; omega
      · obtain rfl : k = L.length := by omega
        have hfin : RR = true := by
          rw [← H.out.2]
          have h2 := HI.out.2
          rw [List.take_length] at h2
          exact h2
        go_wp2_with fail
        go_ret
        rw [hfin]
        exact ⟨rfl, HI.out.1⟩
  · have d0 : decide (30 < (L.length : Int)) = true := decide_eq_true (by omega)
    obtain rfl : RR = false := by rw [← hRR, decide_eq_false h30]; rfl
    clear hr hRR
    go_enter Try.func14, Try.ntmps14
    go_wp2_with fail
    go_ret
    exact ⟨rfl, Below.refl _ _⟩
end Go.Proofs.Ytlhhecomjhfhjaa
