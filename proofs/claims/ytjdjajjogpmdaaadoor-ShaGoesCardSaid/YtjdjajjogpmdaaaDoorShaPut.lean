/-
  Layer 3: what put does.
-/
import Derived.Test.YtjdjajjogpmdaaaDoorShaStir
import Derived.Deep.RegionHeld3
namespace Go.Proofs.YtjdjajjogpmdaaaDoor
open Go.RowKit

/-- a block's words while the bytes m stand behind one another -/
def DigB (B : List Nat) (m : List UInt8) : Prop := B.length = 64 ∧ Sha.Ws B ∧ (∀ i, i < m.length % 64 / 4 → B.getD i 0 = Sha.part m (64 * (m.length / 64) + 4 * i) 4) ∧
  B.getD (m.length % 64 / 4) 0 % 256 ^ (m.length % 4) = Sha.part m (64 * (m.length / 64) + 4 * (m.length % 64 / 4)) (m.length % 4)
/-- a word's byte more -/
def shl8 (old : Nat) (b : UInt8) : Nat := old % 16777216 * 256 + b.toNat
theorem shl8_lt (old : Nat) (b : UInt8) : shl8 old b < 4294967296 := by have := b.toNat_lt; unfold shl8; omega
theorem shl8_int (old : Nat) (b : UInt8) : bits .or .u32 ((old : Int) * 256 % 4294967296) (b.toNat : Int) = (shl8 old b : Int) := by
  have hb := b.toNat_lt
  have e : (old : Int) * 256 % 4294967296 = ((2 ^ 8 * (old % 16777216) : Nat) : Int) := by omega
  rw [e, or_32 _ _ (by omega) (by omega), ← Nat.two_pow_add_eq_or_of_lt (by omega)]
  unfold shl8; omega
theorem getD_set (B : List Nat) (a x i : Nat) (ha : a < B.length) : (B.set a x).getD i 0 = if i = a then x else B.getD i 0 := by
  rw [List.getD_eq_getElem?_getD, List.getD_eq_getElem?_getD, List.getElem?_set]
  by_cases h : i = a
  · subst h; simp [ha]
  · have h2 : ¬ a = i := fun e => h e.symm
    simp [h, h2]
theorem part_new (m : List UInt8) (b : UInt8) (s r old : Nat) (hs : s + r = m.length) (hr : r ≤ 3) (h : old % 256 ^ r = Sha.part m s r) : shl8 old b % 256 ^ (r + 1) = Sha.part (m ++ [b]) s (r + 1) := by
  have hb := b.toNat_lt
  rw [Sha.part, Sha.part_app m [b] s r (by omega), ← h]
  have e : (m ++ [b]).getD (s + r) 0 = b := by rw [hs, List.getD_eq_getElem?_getD]; simp
  rw [e]
  unfold shl8
  have h4 : r = 0 ∨ r = 1 ∨ r = 2 ∨ r = 3 := by omega
  rcases h4 with rfl | rfl | rfl | rfl <;> simp only [Nat.reducePow, Nat.reduceAdd, Nat.pow_zero, Nat.pow_one] <;> omega
theorem digB_set (B : List Nat) (m : List UInt8) (b : UInt8) (h : DigB B m) : (B.set (m.length % 64 / 4) (shl8 (B.getD (m.length % 64 / 4) 0) b)).length = 64 ∧ Sha.Ws (B.set (m.length % 64 / 4) (shl8 (B.getD (m.length % 64 / 4) 0) b)) ∧
    (∀ i, i < m.length % 64 / 4 → (B.set (m.length % 64 / 4) (shl8 (B.getD (m.length % 64 / 4) 0) b)).getD i 0 = Sha.part (m ++ [b]) (64 * (m.length / 64) + 4 * i) 4) ∧
    (B.set (m.length % 64 / 4) (shl8 (B.getD (m.length % 64 / 4) 0) b)).getD (m.length % 64 / 4) 0 % 256 ^ (m.length % 4 + 1) = Sha.part (m ++ [b]) (64 * (m.length / 64) + 4 * (m.length % 64 / 4)) (m.length % 4 + 1) := by
  obtain ⟨h1, h2, h3, h4⟩ := h
  refine ⟨by rw [List.length_set]; exact h1, ws_set h2 _ _ (shl8_lt _ _), fun i hi => ?_, ?_⟩
  · rw [getD_set _ _ _ _ (by omega), if_neg (by omega), h3 i hi, Sha.part_app _ _ _ _ (by omega)]
  · rw [getD_set _ _ _ _ (by omega), if_pos rfl]
    exact part_new m b _ _ _ (by omega) (by omega) h4
theorem digB_next (B : List Nat) (m : List UInt8) (b : UInt8) (h : DigB B m) (hn : (m.length + 1) % 64 ≠ 0) : DigB (B.set (m.length % 64 / 4) (shl8 (B.getD (m.length % 64 / 4) 0) b)) (m ++ [b]) := by
  obtain ⟨h1, h2, h3, h4⟩ := digB_set B m b h
  refine ⟨h1, h2, ?_, ?_⟩
  · rw [List.length_append, List.length_singleton]
    intro i hi
    have eq : (m.length + 1) / 64 = m.length / 64 := by omega
    rw [eq]
    by_cases hi2 : i < m.length % 64 / 4
    · exact h3 i hi2
    · have e1 : i = m.length % 64 / 4 := by omega
      have e2 : m.length % 4 = 3 := by omega
      rw [e2] at h4
      rw [e1]
      have hb : (B.set (m.length % 64 / 4) (shl8 (B.getD (m.length % 64 / 4) 0) b)).getD (m.length % 64 / 4) 0 < 256 ^ (3 + 1) := getD_lt h2 _
      rw [Nat.mod_eq_of_lt hb] at h4
      exact h4
  · rw [List.length_append, List.length_singleton]
    have eq : (m.length + 1) / 64 = m.length / 64 := by omega
    rw [eq]
    by_cases h5 : m.length % 4 = 3
    · have e : (m.length + 1) % 4 = 0 := by omega
      rw [e]
      simp only [Nat.pow_zero, Nat.mod_one, Sha.part]
    · have e1 : (m.length + 1) % 4 = m.length % 4 + 1 := by omega
      have e2 : (m.length + 1) % 64 / 4 = m.length % 64 / 4 := by omega
      rw [e1, e2]; exact h4
theorem digB_full (B : List Nat) (m : List UInt8) (b : UInt8) (h : DigB B m) (hn : (m.length + 1) % 64 = 0) : (B.set (m.length % 64 / 4) (shl8 (B.getD (m.length % 64 / 4) 0) b)).take 16 = Sha.blk (m ++ [b]) (m.length / 64) := by
  obtain ⟨h1, h2, h3, h4⟩ := digB_set B m b h
  have e1 : m.length % 64 / 4 = 15 := by omega
  have e2 : m.length % 4 = 3 := by omega
  have hb : (B.set (m.length % 64 / 4) (shl8 (B.getD (m.length % 64 / 4) 0) b)).getD (m.length % 64 / 4) 0 < 256 ^ (3 + 1) := getD_lt h2 _
  rw [e2, Nat.mod_eq_of_lt hb] at h4
  generalize B.set (m.length % 64 / 4) (shl8 (B.getD (m.length % 64 / 4) 0) b) = B' at *
  apply List.ext_getElem?
  intro i
  by_cases hi : i < 16
  · rw [List.getElem?_take, if_pos hi]
    unfold Sha.blk
    rw [List.getElem?_map, List.getElem?_range hi, Option.map_some]
    have h5 : B'.getD i 0 = Sha.part (m ++ [b]) (64 * (m.length / 64) + 4 * i) 4 := by
      by_cases h6 : i < 15
      · exact h3 i (by omega)
      · have h7 : i = m.length % 64 / 4 := by omega
        rw [h7]; exact h4
    rw [← h5, List.getD_eq_getElem?_getD, List.getElem?_eq_getElem (by omega)]
    rfl
  · rw [List.getElem?_eq_none (by rw [List.length_take]; omega), List.getElem?_eq_none (by rw [Sha.blk_len]; omega)]
theorem digB_zero (B : List Nat) (m : List UInt8) (h1 : B.length = 64) (h2 : Sha.Ws B) (h : m.length % 64 = 0) : DigB B m := by
  refine ⟨h1, h2, fun i hi => by omega, ?_⟩
  have e : m.length % 4 = 0 := by omega
  rw [e]
  simp only [Nat.pow_zero, Nat.mod_one, Sha.part]

/-- a digest to which the bytes m were put -/
def Dig (w : World) (g : Nat) (m : List UInt8) : Prop := ∃ B, DigB B m ∧ RowV w g 41 (digL (Sha.hs m (m.length / 64)) B m.length)
theorem dig_below {w w' : World} {g : Nat} {m : List UInt8} {b : Nat} (h : Dig w g m) (hb : Below b w w') (hg : g < b) : Dig w' g m := by
  obtain ⟨B, h1, h2⟩ := h
  exact ⟨B, h1, rowV_below h2 hb hg⟩

set_option maxRecDepth 100000 in
set_option maxHeartbeats 1600000 in
theorem put_raw (H B : List Nat) (n g : Nat) (b : UInt8) (w : World) (hH : H.length = 8) (hB : B.length = 64) (hW : Sha.Ws B) (hV : Sha.Ws H) (hn : n < 1152921504606846976) (hr : RowV w g 41 (digL H B n)) (ht : Tab w) (hg : 0 < g) :
    Calls Tryd.prog 18 #[.pointer (some ⟨g, 0, none⟩), .int .u8 (b.toNat : Int)] w fun e w' => e = .returned (.tuple #[]) ∧ Below g w w' ∧
      (((n + 1) % 64 ≠ 0 ∧ RowV w' g 41 (digL H (B.set (n % 64 / 4) (shl8 (B.getD (n % 64 / 4) 0) b)) (n + 1))) ∨
        ((n + 1) % 64 = 0 ∧ RowV w' g 41 (digL (Sha.comp H ((B.set (n % 64 / 4) (shl8 (B.getD (n % 64 / 4) 0) b)).take 16)) (Sha.sched ((B.set (n % 64 / 4) (shl8 (B.getD (n % 64 / 4) 0) b)).take 16)) (n + 1)))) := by
  have HH := Lib.hid (And.intro hH (And.intro hB (And.intro hW (And.intro hV (And.intro hr (And.intro ht hg))))))
  have ct : w.cell? ⟨g, 72, none⟩ = some (.int .u64 (n : Int)) := by rw [rowV_cell hr, digL_taken H B n hH hB]
  obtain ⟨a, ha⟩ : ∃ a, n % 64 / 4 = a := ⟨_, rfl⟩
  have ca : w.cell? ⟨g, 8 + a, none⟩ = some (.int .u32 (B.getD a 0 : Int)) := by rw [rowV_cell hr, digL_block H B n a hH hB (by omega)]
  have fa := rowV_frozen hr (8 + a)
  have ft := rowV_frozen hr 72
  have ba := getD_lt hW a
  have hs := rowV_stored (rowV_stored hr (8 + a) (.int .u32 (shl8 (B.getD a 0) b : Int))) 72 (.int .u64 ((n + 1 : Nat) : Int))
  rw [digL_setBlock H B n a _ hH hB (by omega), digL_setTaken H _ n (n + 1) hH (by rw [List.length_set]; exact hB)] at hs
  have hx := shl8_int (B.getD a 0) b
  rw [show ((n + 1 : Nat) : Int) = (n : Int) + 1 from by omega] at hs
  have hbl : Below g w ((w.setCell ⟨g, 8 + a, none⟩ (.int .u32 (shl8 (B.getD a 0) b : Int))).setCell ⟨g, 72, none⟩ (.int .u64 ((n : Int) + 1))) :=
    ((Below.refl g w).setCell (p := ⟨g, 8 + a, none⟩) (Nat.le_refl _) _).setCell (p := ⟨g, 72, none⟩) (Nat.le_refl _) _
  have hw2 : Sha.Ws (B.set a (shl8 (B.getD a 0) b)) := ws_set hW _ _ (shl8_lt _ _)
  rw [ha]
  have hb := b.toNat_lt
  have hB2 : (B.set a (shl8 (B.getD a 0) b)).length = 64 := by rw [List.length_set]; exact hB
  generalize B.set a (shl8 (B.getD a 0) b) = B' at *
  generalize shl8 (B.getD a 0) b = new at *
  generalize B.getD a 0 = old at *
  have HS := Lib.hid (And.intro hs (And.intro hbl (And.intro hw2 hB2)))
  have ea : ((n : Int) % 64 / 4) = (a : Int) := by omega
  have a16 : a < 16 := by omega
  have HA := Lib.hid ha
  clear ha hr hH hB hW hV ht hg hs hbl hw2 hB2
  by_cases hd : (n + 1) % 64 = 0
  · have td : (((n : Int) + 1) % 64 == 0) = true := by rw [beq_iff_eq]; omega
    have HD := Lib.hid hd; clear hd
    go_enter Tryd.func18, Tryd.ntmps18
    go_wp2_with fail
    go_region
    go_wp2_with fail
    generalize hw2 : (World.setCell _ _ _).drew = w2
    have hr2 : RowV w2 g 41 (digL H B' (n + 1)) := by rw [← hw2]; exact HS.out.1
    have hb2 : Below g w w2 := by rw [← hw2]; exact HS.out.2.1.drew
    have HX := Lib.hid (And.intro hr2 hb2)
    clear hw2 hr2 hb2 hx ca fa ft ct
    refine (spread_any H B' (n + 1) g w2 HH.out.1 HS.out.2.2.2 HS.out.2.2.1 HX.out.1).mono ?_
    rintro e w3 ⟨rfl, hr3, hb3⟩
    have hb4 := HX.out.2.trans hb3
    have HX3 := Lib.hid (And.intro hr3 hb4)
    clear hr3 hb3 hb4
    go_wp2_with fail
    have hl := Sha.sched_len (B'.take 16) (by rw [List.length_take, HS.out.2.2.2]; omega)
    have hws : Sha.Ws (Sha.sched (B'.take 16)) := Sha.more_ws _ _ (ws_take HS.out.2.2.1 _)
    have HL := Lib.hid (And.intro hl hws)
    clear hl hws
    have hst := stir_any H (Sha.sched (B'.take 16)) (n + 1) g w3.drew HH.out.1 HL.out.1 HL.out.2 HH.out.2.2.2.1 HX3.out.1 (tab_below HH.out.2.2.2.2.2.1 HX3.out.2.drew HH.out.2.2.2.2.2.2) HH.out.2.2.2.2.2.2
    have HST := Lib.hid hst
    clear hst
    go_region_held3 (fun w' => w3.heap.size ≤ w'.heap.size) (first | (simp; done) | (have := hb4.size; simp at this; omega)) (first | (go_at_call 24; refine HST.out.mono ?_; rintro e w4 ⟨rfl, hr4, hb4⟩))
    go_wp2_with fail
    go_end0
    exact ⟨rfl, HX3.out.2.drew.trans hb4, Or.inr ⟨HD.out, hr4⟩⟩
  · have td : (((n : Int) + 1) % 64 == 0) = false := by rw [beq_eq_false_iff_ne]; omega
    have HD := Lib.hid hd; clear hd
    go_enter Tryd.func18, Tryd.ntmps18
    go_wp2_with fail
    go_region
    go_wp2_with fail
    go_end0
    exact ⟨rfl, HS.out.2.1.drew, Or.inl ⟨HD.out, HS.out.1⟩⟩

/-- what put does to a digest -/
theorem put_any (m : List UInt8) (b : UInt8) (g : Nat) (w : World) (hn : m.length < 1152921504606846976) (hd : Dig w g m) (ht : Tab w) (hg : 0 < g) :
    Calls Tryd.prog 18 #[.pointer (some ⟨g, 0, none⟩), .int .u8 (b.toNat : Int)] w fun e w' => e = .returned (.tuple #[]) ∧ Dig w' g (m ++ [b]) ∧ Below g w w' := by
  obtain ⟨B, hB, hr⟩ := hd
  refine (put_raw _ B m.length g b w (Sha.hs_len _ _) hB.1 hB.2.1 (Sha.hs_ws _ _) hn hr ht hg).mono ?_
  rintro e w' ⟨rfl, hb, ⟨h1, h2⟩ | ⟨h1, h2⟩⟩
  · refine ⟨rfl, ⟨_, digB_next B m b hB h1, ?_⟩, hb⟩
    rw [List.length_append, List.length_singleton, show (m.length + 1) / 64 = m.length / 64 by omega, Sha.hs_app m [b] _ (by omega)]
    exact h2
  · rw [digB_full B m b hB h1] at h2
    have hl := Sha.sched_len (Sha.blk (m ++ [b]) (m.length / 64)) (Sha.blk_len _ _)
    refine ⟨rfl, ⟨_, digB_zero (Sha.sched (Sha.blk (m ++ [b]) (m.length / 64))) (m ++ [b]) hl (Sha.more_ws _ _ ?_) (by rw [List.length_append, List.length_singleton]; exact h1), ?_⟩, hb⟩
    · rw [← digB_full B m b hB h1]; exact ws_take (digB_set B m b hB).2.1 _
    · rw [List.length_append, List.length_singleton, show (m.length + 1) / 64 = m.length / 64 + 1 by omega, Sha.hs, Sha.hs_app m [b] _ (by omega)]
      exact h2
end Go.Proofs.YtjdjajjogpmdaaaDoor
