/-
  Layer 3: what Hex answers, and the document's.
-/
import Derived.Test.YtjdjajjogpmdaaaDoorShaMath
import Derived.Test.YtjdjajjogpmdaaaDoorDump
import Derived.Test.YtjdjajjogpmdaaaDoorOctOwn
import Derived.Deep.RegionHeld3
import Derived.Deep.AppendLies
import Derived.IntWalk
import Derived.OwnWalk
namespace Go.Proofs.YtjdjajjogpmdaaaDoor
open Go.RowKit

def digitsB : ByteArray := ⟨#[48, 49, 50, 51, 52, 53, 54, 55, 56, 57, 97, 98, 99, 100, 101, 102]⟩
theorem digits_at (x : Nat) (h : x < 16) : digitsB[x]? = some (Sha.digit x) := by
  have h2 : ∀ x : Fin 16, digitsB[x.1]? = some (Sha.digit x.1) := by decide
  exact h2 ⟨x, h⟩
theorem digits_get (x : Nat) (h : x < 16) : digitsB[x]'h = Sha.digit x := by
  have := digits_at x h
  rw [getElem?_pos digitsB x h] at this
  exact Option.some.inj this
/-- the digits of the first k bytes -/
def hexK (s : ByteArray) (k : Nat) : List UInt8 := Sha.hex (s.data.toList.take k)
theorem hex_len (l : List UInt8) : (Sha.hex l).length = 2 * l.length := by
  induction l with
  | nil => rfl
  | cons b l ih =>
    have e : Sha.hex (b :: l) = [Sha.digit (b.toNat / 16), Sha.digit (b.toNat % 16)] ++ Sha.hex l := rfl
    rw [e, List.length_append, ih]; simp; omega
theorem hexK_len (s : ByteArray) (k : Nat) (h : k ≤ s.size) : (hexK s k).length = 2 * k := by
  unfold hexK
  rw [hex_len, List.length_take]
  have : s.data.toList.length = s.size := by simp
  omega
theorem hexK_succ (s : ByteArray) (k : Nat) (h : k < s.size) : hexK s (k + 1) = hexK s k ++ [Sha.digit (s[k].toNat / 16), Sha.digit (s[k].toNat % 16)] := by
  unfold hexK Sha.hex
  rw [List.take_succ_eq_append_getElem (by simpa using h), List.flatMap_append]
  rfl
theorem hexK_all (s : ByteArray) : hexK s s.size = Sha.hex s.data.toList := by unfold hexK; rw [List.take_of_length_le (by simp)]
theorem ownsB_two {w : World} {B E : Nat} {v : Value} {l : List UInt8} (x y : UInt8)
    (h : w.ownsRow B E 1 v (l.length + 2) ((l.map fun b => Value.int .u8 (b.toNat : Int)) ++ [.int .u8 (x.toNat : Int), .int .u8 (y.toNat : Int)])) : OwnsB w B E v (l ++ [x, y]) := by
  unfold OwnsB; simpa using h
theorem two_cells {k : IntKind} {m n : Int} : ∀ u ∈ [Value.int k m, Value.int k n], u.oneCell' = true := by intro u hu; simp at hu; rcases hu with rfl | rfl <;> rfl
theorem and15_8 (x : UInt8) : bits .and .u8 (x.toNat : Int) 15 = (x.toNat : Int) % 16 := by
  have hx : x.toNat < 256 := x.toNat_lt
  have h := u8_and_nat x.toNat 15 hx (by decide)
  have e : x.toNat &&& 15 = x.toNat % 16 := Nat.and_two_pow_sub_one_eq_mod x.toNat 4
  rw [e] at h
  exact h

set_option maxRecDepth 100000 in
set_option maxHeartbeats 800000 in
theorem hex_any (s : ByteArray) (w : World) (hs : s.size ≤ 1048576) :
    Calls Tryd.prog 10 #[.string s] w fun e w' => e = .returned (.string ⟨(Sha.hex s.data.toList).toArray⟩) ∧ Below w.heap.size w w' := by
  obtain ⟨i0, hi, hz0, hz1, hz2⟩ := info_parts Tryd.info5
  go_enter Tryd.func10, Tryd.ntmps10
  go_wp2_with (at_make; go_loud (refine wpList_make_own _ rfl _ _ 45 rfl w.heap.size 5 i0 (.int .u8 0) 1 Tryd.underlying45 hi hz0 hz1 .i64 .i64 _ (2 * s.size) rfl rfl (by omega) (by rw [hz2]; omega) (by unfold maxLen; omega) (Nat.le_refl _) ?_))
  intro w1 hown0 hgrow0
  have ho : OwnsB w1 w.heap.size 5 (.slice (some ⟨w.heap.size, 0, none⟩) 0 (2 * s.size)) (hexK s 0) := hown0
  have hb0 : Below w.heap.size w w1 := (Below.refl _ w).grown hgrow0 (Nat.le_refl _) (by simp)
  have H0 := Lib.hid (And.intro ho hb0)
  clear hown0 hgrow0 ho hb0
  go_wp2_with fail
  go_loopw [3, 11] (fun v i wr => ∃ k : Nat, k ≤ s.size ∧ i = .int .i64 k ∧ OwnsB wr w.heap.size 5 v (hexK s k) ∧ Below w.heap.size w wr)
    (fun _ i _ => s.size - (intOf i).toNat)
  case atStart => exact ⟨0, by omega, rfl, H0.out.1, H0.out.2⟩
  case round =>
    obtain ⟨k, hk, rfl, hown, hb⟩ := hrel
    have hsz := hb.size
    by_cases hlt : k < s.size
    · have i1 : (k : Int) < (s.size : Int) := by omega
      have i0' : (0 : Int) ≤ (k : Int) := by omega
      have hx := (s[k]).toNat_lt
      have g1 := digits_get (s[k].toNat / 16) (by omega)
      have g2 := digits_get (s[k].toNat % 16) (by omega)
      have t1 : (s[k].toNat : Int) / 16 < 16 := by omega
      have t2 : (s[k].toNat : Int) % 16 < 16 := by omega
      have a2 := and15_8 (s[k])
      have HS := Lib.hid (hexK_succ s k hlt)
      have hlen := hexK_len s k hk
      have HL := Lib.hid hlen; clear hlen
      have e1 : ((s[k].toNat : Int) / 16).toNat = s[k].toNat / 16 := by omega
      have e2 : ((s[k].toNat : Int) % 16).toNat = s[k].toNat % 16 := by omega
      unfold digitsB at g1 g2
      go_wp2_with fail
      go_region_held3 (fun w' => wr.heap.size ≤ w'.heap.size)
        (first
          | (simp; done)
          | (have := hgrow.size; simp at this; omega))
        (first
          | (refine step_append_lies _ (by rfl) _ _ _ (by rfl) w.heap.size 5 i0 (.int .u8 0) 1 1 Tryd.underlying45 hi hz0 hz1 hz2 rfl (by omega) u3 _ _ (by rfl) ((ownsB_row0 hown _).drew)
              ⟨wr.heap.size, 0, none⟩ 2 2 [_, _] (by rfl) (by rfl) (World.news_of_block (cs := #[_, _]) (t := 5) (fr := (0, 0)) (heap_alloc_new wr _)) two_cells
              (by omega) (by rw [HL.out]; unfold maxLen; omega) (by rw [HL.out]; omega) (by simp; omega) (wr.heap.size + 1) (by simp) ?_; intro gg cap w1 hown1 hgrow hat hlt1))
      all_goals
        have ho := ownsB_two _ _ hown1
        rw [← HS.out] at ho
        have hb1 : Below w.heap.size w w1 := below_grown (wr := wr.drew) (hb.trans (below_drewN (Below.refl _ _) 1)) hsz hown hgrow
        have HF := Lib.hid (And.intro ho hb1)
        clear ho hb1 hown1 hgrow hat hlt1 hown hb
        go_wp2_with fail
        go_roundw
        case rel => exact ⟨k + 1, by omega, by go_num, HF.out.1, HF.out.2⟩
        case measure => simp [intOf]; omega
    · obtain rfl : k = s.size := by omega
      rw [hexK_all] at hown
      have hconv := ownsB_conv (P := Tryd.prog) (src := 45) (dst := 9) hown Tryd.underlying45 Tryd.underlying5 Tryd.underlying9
      have HF := Lib.hid hb
      clear hown hb
      go_wp2_with fail
      go_ret
      exact ⟨rfl, HF.out⟩
end Go.Proofs.YtjdjajjogpmdaaaDoor
