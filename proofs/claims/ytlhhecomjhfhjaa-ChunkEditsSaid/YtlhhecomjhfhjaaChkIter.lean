/-
  Layer 11: the function that hands out a text's chunks.
-/
import Derived.RangeFuncNested
import Derived.RangeFuncBound
import Derived.RangeFuncCalls
import Derived.RangeFuncLeaves
import Derived.Shelf.Abstract
import Derived.Shelf.RegionOpen
import Derived.OwnWalkIn
import Derived.TacticsInMore
import Derived.LoopNIn
import Derived.LoopIn
import Derived.Test.YtlhhecomjhfhjaaChkLeaf
namespace Go.Proofs.Ytlhhecomjhfhjaa
open Go.RowKit Go.Shelf
attribute [local go_sem] Oper.semAt_some
abbrev prV11 (x : ByteArray × ByteArray) : Value := .agg #[.string x.1, .string x.2]
abbrev prC11 (x : ByteArray × ByteArray) : Array Value := #[prV11 x]
/-- what a round keeps: two blocks -/
def Keeps2 (a b : Nat) (A B : World) : Prop := B.heap[a]? = A.heap[a]? ∧ B.heap[b]? = A.heap[b]?
theorem keeps2_t {a b : Nat} {A B C : World} (h : Keeps2 a b A B) (k : Keeps2 a b B C) : Keeps2 a b A C := ⟨k.1.trans h.1, k.2.trans h.2⟩
theorem keeps2_b {a b : Nat} {w : World} (ha : a < w.heap.size) (hb : b < w.heap.size) (W : World) (l : Nat) (o o' : Obj) (hl : w.heap.size ≤ l) (_ : W.heap[l]? = some o) (_ : o.isCells = false) (_ : o.isWalk = false) : Keeps2 a b W (W.putObj l o') :=
  ⟨World.putObj_heap_other (by omega), World.putObj_heap_other (by omega)⟩
theorem abides_below11 {β : Type} {B : Nat} {J : β → World → Prop} (hJ : AbidesFrom B J) {s : β} {w w' : World} (h : J s w) (hb : Below w.heap.size w w') : J s w' :=
  hJ s w w' none h ⟨hb.os, hb.tape, hb.output, hb.size, fun k hk _ => hb.block k hk⟩ fun _ e => by cases e
theorem range_snoc (p s : ByteArray) (k : Nat) : (List.range (k + 1)).map (Ck.pr p s) = (List.range k).map (Ck.pr p s) ++ [(Ck.key p k, Ck.one s k)] := by
  rw [List.range_succ, List.map_append]; rfl
set_option maxRecDepth 100000 in
theorem chunks11_any (p s : ByteArray) (w : World) : Calls Try.prog 17 #[.string p, .string s] w fun e w' =>
    e = .returned (.func (.func 25) #[] #[.pointer (some ⟨w.heap.size + 1, 0, none⟩), .pointer (some ⟨w.heap.size, 0, none⟩)]) ∧ w' = (w.alloc (.cells #[.string p] 9)).alloc (.cells #[.string s] 9) := by
  go_enter Try.func17, Try.ntmps17
  go_wp2_with fail
  go_ret
  exact ⟨rfl, rfl⟩
set_option maxRecDepth 100000 in
set_option maxHeartbeats 4000000 in
theorem iter11_in (n : Nat) (hn : 1 ≤ n) (l a b : Nat) (p s : ByteArray) (hp : p.size ≤ 1000000000) (hs : s.size ≤ 900000) (J Jx : List (ByteArray × ByteArray) → World → Prop)
    (hY : ∀ pre x W, J pre W → pre.length < Ck.cnt s.size → YieldAt Fence.wide (n - 1) Try.prog l (prC11 x) W fun e W' =>
      (e = .returned (.bool true) ∧ J (pre ++ [x]) W' ∧ Keeps2 a b W W') ∨ (e = .returned (.bool false) ∧ Jx (pre ++ [x]) W'))
    (W : World) (hJ : AbidesFrom W.heap.size J) (ha : RowV W a 9 [.string s]) (hb : RowV W b 9 [.string p]) (h0 : J [] W) :
    CallsIn Fence.wide n Try.prog 25 #[.func (.yield l) #[] #[], .pointer (some ⟨a, 0, none⟩), .pointer (some ⟨b, 0, none⟩)] W fun e W' => (∃ v, e = .returned v) ∧
      ((∃ ys, ys = Ck.chunks p s ∧ J ys W') ∨ (∃ pre, True ∧ Jx pre W')) := by
  have cC := fun w => count11_any (s.size : Int) (by omega) (by omega) w
  rw [Ck.cntZ_nat] at cC
  have hcs := Ck.cnt_size s.size
  have hcov := fun i => Ck.cnt_before (n := s.size) (i := i)
  have hch : Ck.chunks p s = (List.range (Ck.cnt s.size)).map (Ck.pr p s) := rfl
  have hJ' : ∀ {s w1 w2}, J s w1 → Below w1.heap.size w1 w2 → J s w2 := fun h hb => abides_below11 hJ h hb
  have ca := rowV_cell ha 0
  simp only [List.getElem?_cons_zero] at ca
  generalize hC : Ck.cnt s.size = C at *
  have H0 := Lib.hid (And.intro ha (And.intro hb h0))
  have cK := fun i w => key11_any p hp i w
  have H := Lib.hid (And.intro cC (And.intro cK hch))
  clear cC cK hch ha hb h0
  refine callsIn_of_wp Try.func25 rfl trivial ?_
  simp only [Try.ntmps25, List.size_toArray, List.length_cons, List.length_nil, Nat.reduceAdd, Nat.reduceSub, Array.replicate_succ, Array.replicate_zero, List.push_toArray, List.append_toArray, List.nil_append, List.cons_append]
  gi_wp2_with (refine ⟨trivial, ?_⟩; gi_at_call 12; refine (callsIn_wide.2 (H.out.1 _)).mono ?_; rintro e w1 ⟨rfl, hb1⟩; have B1 := Lib.hid hb1; clear hb1)
  have hJ1 := hJ' H0.out.2.2 B1.out
  have ha1 := rowV_below H0.out.1 B1.out (rowV_lt H0.out.1)
  have hb1 := rowV_below H0.out.2.1 B1.out (rowV_lt H0.out.2.1)
  have H1 := Lib.hid (And.intro ha1 (And.intro hb1 hJ1))
  clear ha1 hb1 hJ1 ca
  gi_loopw [9] (fun i wr => ∃ k : Nat, k ≤ C ∧ i = .int .i64 (k : Int) ∧ Hid (RowV wr a 9 [.string s] ∧ RowV wr b 9 [.string p] ∧ J ((List.range k).map (Ck.pr p s)) wr)) (fun i _ => C - (intOf i).toNat)
  case atStart => exact ⟨0, Nat.zero_le _, rfl, H1⟩
  case round =>
    obtain ⟨k, hk, rfl, HI⟩ := hrel
    by_cases hlt : k < C
    · have hb4 := hcov k hlt
      have ca := rowV_cell HI.out.1 0
      have cb := rowV_cell HI.out.2.1 0
      simp only [List.getElem?_cons_zero] at ca cb
      by_cases hf : ((k : Int) + 1) * 150 ≤ (s.size : Int)
      · have hone : Ck.one s k = s.extract (k * 150) ((k + 1) * 150) := by unfold Ck.one; rw [show min (150 * (k + 1)) s.size = (k + 1) * 150 by omega, Nat.mul_comm 150 k]
        gi_wp2_with (refine ⟨trivial, ?_⟩; gi_at_call 20; refine (callsIn_wide.2 (H.out.2.1 k _)).mono ?_; rintro e w2 ⟨rfl, hb2⟩; have B2 := Lib.hid hb2; clear hb2; obtain ⟨fn, tmps, assign, body, hy, hR⟩ := hY ((List.range k).map (Ck.pr p s)) (Ck.key p k, Ck.one s k) w2 (hJ' HI.out.2.2 B2.out) (by rw [List.length_map, List.length_range]; exact hlt); dsimp only [prC11, prV11] at hy; rw [hone] at hy hR)

        refine hR.mono ?_
        rintro e w4 (⟨rfl, hJ4, hk4⟩ | ⟨rfl, hJ4⟩)
        · have ha4 := hk4.1.trans (rowV_below HI.out.1 B2.out (rowV_lt HI.out.1))
          have hb4 := hk4.2.trans (rowV_below HI.out.2.1 B2.out (rowV_lt HI.out.2.1))
          rw [← hone, ← range_snoc p s k] at hJ4
          have H4 := Lib.hid (And.intro ha4 (And.intro hb4 hJ4))
          clear ha4 hb4 hJ4 hk4
          gi_wp2
          exact ⟨⟨k + 1, by omega, by go_num, H4⟩, by simp [intOf]; omega⟩
        · gi_wp2
          refine bodyPost_ret (results_none rfl _ _ _) rfl ?_
          exact ⟨⟨_, rfl⟩, .inr ⟨_, trivial, hJ4⟩⟩
      · have hone : Ck.one s k = s.extract (k * 150) s.size := by unfold Ck.one; rw [show min (150 * (k + 1)) s.size = s.size by omega, Nat.mul_comm 150 k]
        gi_wp2_with (refine ⟨trivial, ?_⟩; gi_at_call 20; refine (callsIn_wide.2 (H.out.2.1 k _)).mono ?_; rintro e w2 ⟨rfl, hb2⟩; have B2 := Lib.hid hb2; clear hb2; obtain ⟨fn, tmps, assign, body, hy, hR⟩ := hY ((List.range k).map (Ck.pr p s)) (Ck.key p k, Ck.one s k) w2 (hJ' HI.out.2.2 B2.out) (by rw [List.length_map, List.length_range]; exact hlt); dsimp only [prC11, prV11] at hy; rw [hone] at hy hR)
        refine hR.mono ?_
        rintro e w4 (⟨rfl, hJ4, hk4⟩ | ⟨rfl, hJ4⟩)
        · have ha4 := hk4.1.trans (rowV_below HI.out.1 B2.out (rowV_lt HI.out.1))
          have hb4 := hk4.2.trans (rowV_below HI.out.2.1 B2.out (rowV_lt HI.out.2.1))
          rw [← hone, ← range_snoc p s k] at hJ4
          have H4 := Lib.hid (And.intro ha4 (And.intro hb4 hJ4))
          clear ha4 hb4 hJ4 hk4
          gi_wp2
          exact ⟨⟨k + 1, by omega, by go_num, H4⟩, by simp [intOf]; omega⟩
        · gi_wp2
          refine bodyPost_ret (results_none rfl _ _ _) rfl ?_
          exact ⟨⟨_, rfl⟩, .inr ⟨_, trivial, hJ4⟩⟩
    · obtain rfl : k = C := by omega
      gi_wp2
      go_end0
      exact ⟨⟨_, rfl⟩, .inl ⟨_, rfl, by rw [H.out.2.2]; exact HI.out.2.2⟩⟩
end Go.Proofs.Ytlhhecomjhfhjaa
