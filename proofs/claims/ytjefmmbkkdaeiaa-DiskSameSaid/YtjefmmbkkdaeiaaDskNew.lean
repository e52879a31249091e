/-
  Layer 4: what New does.
-/
import Derived.Test.YtjefmmbkkdaeiaaDskBuild
import Derived.BigRegion
namespace Go.Proofs.Ytjefmmbkkdaeiaa
open Go.RowKit

theorem bv_zeros : bv Dk.zeros = List.replicate 512 (.int .u8 0) := by
  unfold bv valB Dk.zeros
  rw [List.map_replicate]; rfl
theorem zeros_flat (n : Nat) : (List.replicate n Dk.zeros).flatMap bv = List.replicate (n * 512) (.int .u8 0) := by
  induction n with
  | zero => simp
  | succ n ih => rw [List.replicate_succ, List.flatMap_cons, ih, bv_zeros, List.replicate_append_replicate, Nat.add_mul, Nat.one_mul, Nat.add_comm]
theorem rep_at (n : Nat) (v : Value) (q : Nat) (h : q < (List.replicate n v).toArray.size) : (List.replicate n v).toArray[q]! = v := by
  rw [getElem!_pos (List.replicate n v).toArray q h]; simp
theorem zeros_at (q : Nat) (h : q < (bv Dk.zeros).toArray.size) : (bv Dk.zeros).toArray[q]! = .int .u8 0 := by
  rw [bv_zeros] at h ⊢
  exact rep_at 512 _ q h
theorem diskAt_drew {w : World} {S : Nat → Prop} {p : Nat} {d : Dk.D} (h : DiskAt w S p d) : DiskAt w.drew S p d := by
  obtain ⟨_, _, _, _, _, _, h⟩ := h
  exact ⟨_, _, _, _, _, _, diskIn_only h ((Only.refl (fun _ => False) w).drew) (fun h => h) (fun h => h) (fun h => h) (fun _ _ h => h)⟩
theorem made_zeros (n : Nat) : madeCells (bv Dk.zeros).toArray (n * 512) = ((List.replicate n Dk.zeros).flatMap bv).toArray := by
  rw [zeros_flat]
  have hs : (bv Dk.zeros).toArray.size = 512 := by rw [List.size_toArray, bv_len, Dk.zeros_size]
  unfold madeCells
  apply Array.ext_getElem?
  intro i
  have e2 : (List.replicate (n * 512) (Value.int .u8 0)).toArray[i]? = (List.replicate (n * 512) (Value.int .u8 0))[i]? := List.getElem?_toArray ..
  rw [Array.getElem?_map, e2, List.getElem?_replicate]
  by_cases h : i < n * 512
  · have hi : i % 512 < (bv Dk.zeros).toArray.size := by rw [hs]; omega
    rw [Array.getElem?_range, if_pos h, if_pos h, Option.map_some, hs, zeros_at _ hi]
  · rw [if_neg h, Array.getElem?_eq_none (by simp; omega), Option.map_none]
theorem run_make_blocks (w : World) (n : Nat) (h1 : 1 ≤ n) (h2 : n ≤ 4096) : (Instr.makeSlice 52 (.int .i64 (n : Int)) (.int .i64 (n : Int))).run Try.prog w = .ok (.slice (some ⟨w.heap.size, 0, none⟩) n n) (w.alloc (.cells ((List.replicate n Dk.zeros).flatMap bv).toArray 67)) := by
  obtain ⟨i, hi, hi2⟩ := Option.map_eq_some_iff.1 info_block
  obtain ⟨i', hi', hi2'⟩ := Option.map_eq_some_iff.1 block_zero
  obtain rfl : i = i' := Option.some.inj (hi.symm.trans hi')
  simp only [Prod.mk.injEq] at hi2 hi2'
  have hr := run_make (P := Try.prog) w 52 67 i _ Try.underlying52 hi hi2'.1 .i64 .i64 (n : Int) (n : Int) (by omega) (Int.le_refl _) (by rw [hi2.2.2]; omega) (by omega)
  rw [hr]
  have e : ((n : Int)).toNat = n := by omega
  rw [e, hi2.2.1]
  show Result.ok _ (w.alloc (.cells (madeCells (bv Dk.zeros).toArray (n * 512)) _)) = _
  rw [made_zeros]

theorem new_disk (w : World) (m a b : Nat) (Z : List ByteArray) (hok : Dk.Ok (Dk.new m)) (hlen : Z.length = m) (hdn : Dk.new m = ⟨Z, [], -1, false⟩) (hab : (a = w.heap.size ∧ b = w.heap.size + 1) ∨ (a = w.heap.size + 1 ∧ b = w.heap.size)) :
    DiskAtL (((w.alloc (.cells (Z.flatMap bv).toArray 67)).alloc (.cells (Z.flatMap bv).toArray 67)).alloc (.cells #[.slice (some ⟨a, 0, none⟩) m m, .slice (some ⟨b, 0, none⟩) m m, .slice none 0 0, .int .i64 (-1), .bool false] 55)) (fun k => w.heap.size ≤ k) (fun k => w.heap.size ≤ k) (w.heap.size + 2) (Dk.new m) := by
  have hm : m ≤ 4096 := by have := hok.most; rw [hdn] at this; rw [← hlen]; exact this
  have r1 := rowV_alloc (rowV_alloc (rowV_new w 67 (Z.flatMap bv)) (.cells (Z.flatMap bv).toArray 67)) (.cells #[.slice (some ⟨a, 0, none⟩) m m, .slice (some ⟨b, 0, none⟩) m m, .slice none 0 0, .int .i64 (-1), .bool false] 55)
  have r2 := rowV_alloc (rowV_new (w.alloc (.cells (Z.flatMap bv).toArray 67)) 67 (Z.flatMap bv)) (.cells #[.slice (some ⟨a, 0, none⟩) m m, .slice (some ⟨b, 0, none⟩) m m, .slice none 0 0, .int .i64 (-1), .bool false] 55)
  have r3 := rowV_new ((w.alloc (.cells (Z.flatMap bv).toArray 67)).alloc (.cells (Z.flatMap bv).toArray 67)) 55 [.slice (some ⟨a, 0, none⟩) m m, .slice (some ⟨b, 0, none⟩) m m, .slice none 0 0, .int .i64 (-1), .bool false]
  have e1 : (w.alloc (.cells (Z.flatMap bv).toArray 67)).heap.size = w.heap.size + 1 := by simp
  have e2 : ((w.alloc (.cells (Z.flatMap bv).toArray 67)).alloc (.cells (Z.flatMap bv).toArray 67)).heap.size = w.heap.size + 2 := by simp
  rw [e1] at r2
  rw [e2] at r3
  have hB : ∀ g, (g = w.heap.size ∨ g = w.heap.size + 1) → BlocksAt (((w.alloc (.cells (Z.flatMap bv).toArray 67)).alloc (.cells (Z.flatMap bv).toArray 67)).alloc (.cells #[.slice (some ⟨a, 0, none⟩) m m, .slice (some ⟨b, 0, none⟩) m m, .slice none 0 0, .int .i64 (-1), .bool false] 55)) g m Z := by
    rintro g (rfl | rfl)
    · exact ⟨[], by rw [List.append_nil]; exact r1, by omega, by unfold maxLen; omega⟩
    · exact ⟨[], by rw [List.append_nil]; exact r2, by omega, by unfold maxLen; omega⟩
  refine ⟨a, b, m, m, none, 0, ⟨hok, ?_, ?_, ?_, .inl ⟨rfl, rfl, by rw [hdn]⟩, by omega, by omega, by omega, by omega, by omega, by omega⟩, fun _ h => by cases h⟩
  · rw [hdn]
    unfold HeadAt
    simp only [hlen]
    exact r3
  · rw [hdn]; exact hB a (by omega)
  · rw [hdn]; exact hB b (by omega)
theorem diskAtL_drew {w : World} {S L : Nat → Prop} {p : Nat} {d : Dk.D} (h : DiskAtL w S L p d) : DiskAtL w.drew S L p d := by
  obtain ⟨_, _, _, _, _, _, h, hl⟩ := h
  have ho : Only (fun _ => False) w w.drew := (Only.refl _ w).drew
  exact ⟨_, _, _, _, _, _, diskIn_only h ho (fun h => h) (fun h => h) (fun h => h) (fun _ _ h => h), hl⟩
/-- what New answers -/
def NewPostL (n : Int) (w : World) (e : Ending) (w' : World) : Prop :=
  (¬ (1 ≤ n ∧ n ≤ 4096) ∧ e = .returned (.tuple #[.pointer none, .int .i64 2]) ∧ w' = w) ∨
  (1 ≤ n ∧ n ≤ 4096 ∧ ∃ p, e = .returned (.tuple #[.pointer (some ⟨p, 0, none⟩), .int .i64 0]) ∧ DiskAtL w' (fun k => w.heap.size ≤ k) (fun k => w.heap.size ≤ k) p (Dk.new n.toNat) ∧ Below w.heap.size w w')
set_option maxRecDepth 100000 in
set_option maxHeartbeats 800000 in
theorem newL_any (n : Int) (w : World) : Calls Try.prog 8 #[.int .i64 n] w fun e w' => NewPostL n w e w' := by
  by_cases h1 : n < 1
  · go_enter Try.func8, Try.ntmps8
    go_wp2_with fail
    go_ret2
    exact .inl ⟨by omega, rfl, rfl⟩
  · by_cases h2 : 4096 < n
    · go_enter Try.func8, Try.ntmps8
      go_wp2_with fail
      go_ret2
      exact .inl ⟨by omega, rfl, rfl⟩
    · obtain ⟨m, rfl⟩ : ∃ m : Nat, n = (m : Int) := ⟨n.toNat, by omega⟩
      have hmk := fun w0 => run_make_blocks w0 m (by omega) (by omega)
      have hok := Dk.new_ok m (by omega) (by omega)
      have hlen : (List.replicate m Dk.zeros).length = m := List.length_replicate
      have hdn : Dk.new m = ⟨List.replicate m Dk.zeros, [], -1, false⟩ := rfl
      generalize List.replicate m Dk.zeros = Z at *
      have HZ := Lib.hid (And.intro hok (And.intro hlen hdn))
      clear hok hlen hdn
      generalize hX : (Z.flatMap bv).toArray = X at *
      have HX := Lib.hid hX
      clear hX
      go_enter Try.func8, Try.ntmps8
      go_wp2_with fail
      go_region
      all_goals go_wp2_with fail
      all_goals go_ret2
      · refine .inr ⟨by omega, by omega, w.heap.size + 2, rfl, ?_, ?_⟩
        · have h := new_disk w m w.heap.size (w.heap.size + 1) Z HZ.out.1 HZ.out.2.1 HZ.out.2.2 (.inl ⟨rfl, rfl⟩)
          rw [HX.out] at h
          rw [show ((m : Int)).toNat = m from by omega]
          exact diskAtL_drew h
        · exact (((Below.refl _ w).alloc (Nat.le_refl _) _).alloc (by simp) _).alloc (by simp; omega) _ |>.drew
      · refine .inr ⟨by omega, by omega, w.heap.size + 2, rfl, ?_, ?_⟩
        · have h := new_disk w m (w.heap.size + 1) w.heap.size Z HZ.out.1 HZ.out.2.1 HZ.out.2.2 (.inr ⟨rfl, rfl⟩)
          rw [HX.out] at h
          rw [show ((m : Int)).toNat = m from by omega]
          exact diskAtL_drew h
        · exact (((Below.refl _ w).alloc (Nat.le_refl _) _).alloc (by simp) _).alloc (by simp; omega) _ |>.drew
def NewPost (n : Int) (w : World) (e : Ending) (w' : World) : Prop :=
  (¬ (1 ≤ n ∧ n ≤ 4096) ∧ e = .returned (.tuple #[.pointer none, .int .i64 2]) ∧ w' = w) ∨
  (1 ≤ n ∧ n ≤ 4096 ∧ ∃ p, e = .returned (.tuple #[.pointer (some ⟨p, 0, none⟩), .int .i64 0]) ∧ DiskAt w' (fun k => w.heap.size ≤ k) p (Dk.new n.toNat) ∧ Below w.heap.size w w')
theorem new_any (n : Int) (w : World) : Calls Try.prog 8 #[.int .i64 n] w fun e w' => NewPost n w e w' := by
  refine (newL_any n w).mono fun e w' h => ?_
  rcases h with h | ⟨h1, h2, p, h3, ⟨_, _, _, _, _, _, h4, _⟩, h5⟩
  · exact .inl h
  · exact .inr ⟨h1, h2, p, h3, ⟨_, _, _, _, _, _, h4⟩, h5⟩
end Go.Proofs.Ytjefmmbkkdaeiaa
