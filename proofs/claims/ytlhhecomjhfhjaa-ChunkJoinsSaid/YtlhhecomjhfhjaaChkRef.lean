/-
  Layer 11: the document's chunks of a text, and its edits.
-/
import Derived.Test.YtlhhecomjhfhjaaChkLeaf
import Derived.Test.YtlhhecomjhfhjaaAppOne
import Derived.BigQuiet
import Derived.Test.YtlhhecomjhfhjaaPlan
import Derived.Test.YtlhhecomjhfhjaaSlice1
namespace Go.Proofs.Ytlhhecomjhfhjaa
open Go.RowKit
theorem pair_elem12 : ElemOk Try.prog 46 2 32 := elemOk_of pair_parts rfl (by decide) (by decide)
theorem range_snoc11 (p s : ByteArray) (k : Nat) : (List.range (k + 1)).map (Ck.pr p s) = (List.range k).map (Ck.pr p s) ++ [(Ck.key p k, Ck.one s k)] := by
  rw [List.range_succ, List.map_append]; rfl
theorem app_below11 {α : Type} {f : α → List Value} {E k B g n cap : Nat} {w wr w5 : World} {v : Value} {l l' : List α} (h5 : OwL f E k w5 B (.slice (some ⟨g, 0, none⟩) n cap) l') (ho : Only (fun j => v.ownBlock = some j) wr w5) (h : OwL f E k wr B v l) (hb : Below B w wr) (_hB : B ≤ wr.heap.size) :
    OwL f E k w5 B (.slice (some ⟨g, 0, none⟩) n cap) l' ∧ Below B w w5 :=
  ⟨h5, hb.trans (ho.below (fun j _ e => (owL_lt h j e).1) _hB)⟩
theorem box_app11 {α : Type} {f : α → List Value} {E k : Nat} {w wr : World} {B : Nat} {v : Value} {l : List α} (T : Nat) (cs : List Value) (h : OwL f E k wr B v l) (hb : Below B w wr) (hB : B ≤ w.heap.size) :
    OwL f E k (wr.alloc (.cells cs.toArray T)) B v l ∧ Below B w (wr.alloc (.cells cs.toArray T)) ∧ B ≤ (wr.alloc (.cells cs.toArray T)).heap.size ∧ RowV (wr.alloc (.cells cs.toArray T)) wr.heap.size T cs := by
  have hs := hb.size
  have hz : (wr.alloc (.cells cs.toArray T)).heap.size = wr.heap.size + 1 := World.size_alloc _ _
  exact ⟨owL_below h ((Below.refl _ _).alloc (Nat.le_refl _) _), hb.alloc (by omega) _, by omega, rowV_new _ _ _⟩
set_option maxRecDepth 100000 in
set_option maxHeartbeats 4000000 in
theorem rpairs11_any (p s : ByteArray) (hp : p.size ≤ 1000000000) (hs : s.size ≤ 900000) (w : World) :
    Calls Try.prog 18 #[.string p, .string s] w fun e w' => ∃ v, e = .returned v ∧ OwL pC 46 2 w' w.heap.size v (Ck.chunks p s) ∧ Below w.heap.size w w' := by
  have cC := fun w => rcount11_any (s.size : Int) (by omega) (by omega) w
  rw [Ck.cntZ_nat] at cC
  have hcs := Ck.cnt_size s.size
  have hcov := fun i => Ck.cnt_before (n := s.size) (i := i)
  have hch : Ck.chunks p s = (List.range (Ck.cnt s.size)).map (Ck.pr p s) := rfl
  rw [hch]
  generalize hC : Ck.cnt s.size = C at *
  have H := Lib.hid (And.intro cC trivial)
  clear cC hch
  go_enter Try.func18, Try.ntmps18
  go_wp2_with fail
  go_loopw [5, 6] (fun o i wr => ∃ (k : Nat) (ao : Option Addr) (cp : Nat), k ≤ C ∧ i = .int .i64 (k : Int) ∧ o = .slice ao k cp ∧ Hid (OwL pC 46 2 wr w.heap.size (.slice ao k cp) ((List.range k).map (Ck.pr p s)) ∧ Below w.heap.size w wr)) (fun _ i _ => C - (RowKit.intOf i).toNat)
  case atStart => exact ⟨0, none, 0, Nat.zero_le _, rfl, rfl, Lib.hid ⟨owL_nil _, Below.refl _ _⟩⟩
  case round =>
    obtain ⟨k, ao, cp, hk, rfl, rfl, HI⟩ := hrel
    by_cases hlt : k < C
    · have hb4 := hcov k hlt
      have hks : (⟨(Oct.fix (k : Int) 2).toArray⟩ : ByteArray).size = 2 := by show (Oct.fix (k : Int) 2).toArray.size = 2; rw [List.size_toArray, Oct.fix_len]
      have c1 := fun w => rfixed_any (k : Int) 2 w
      rw [show Oct.cnt 2 = 2 from rfl] at c1
      have hkey : Ck.key p k = p ++ ⟨(Oct.fix (k : Int) 2).toArray⟩ := rfl
      generalize (⟨(Oct.fix (k : Int) 2).toArray⟩ : ByteArray) = F at *
      have HC := Lib.hid (And.intro c1 trivial)
      clear c1
      obtain ⟨O, hOO⟩ : ∃ O, O = Ck.one s k := ⟨_, rfl⟩
      have HOO := Lib.hid hOO
      clear hOO
      by_cases hf : 150 * ((k : Int) + 1) ≤ (s.size : Int)
      · have HO := Lib.hid (show O = s.extract (150 * k) (150 * (k + 1)) by rw [HOO.out]; unfold Ck.one; rw [show min (150 * (k + 1)) s.size = 150 * (k + 1) by omega])
        have d1 : decide ((s.size : Int) < 150 * ((k : Int) + 1)) = false := decide_eq_false (by omega)
        go_wp2_with (go_at_call 13; refine (H.out.1 _).mono ?_; rintro e w3 ⟨rfl, hb3⟩; have H3 := Lib.hid hb3; clear hb3)
        refine wp_region_plan (S := fun wx => True) 13 [(true, 0), (true, 1), (true, 2), (true, 5), (true, 6), (true, 7), (true, 8), (true, 9), (false, 3), (true, 4), (true, 10), (false, 11), (false, 12)] (by kernel_rfl) (fun _ d _ _ _ h => by cases d <;> exact h) (by kernel_rfl) trivial ?_
        refine wpPlan_step (i := 0) rfl ?_
        apply Exists.intro
        refine ⟨⟨by rfl, fun wx hSx => ?_⟩, ?_⟩
        · obtain _u := hSx
          go_simp
          with_reducible rfl
        simp only [Act.put, List.setIfInBounds_toArray, List.set_cons_zero, List.set_cons_succ]
        refine wpPlan_step (i := 1) rfl ?_
        apply Exists.intro
        refine ⟨⟨by rfl, fun wx hSx => ?_⟩, ?_⟩
        · obtain _u := hSx
          go_simp
          with_reducible rfl
        simp only [Act.put, List.setIfInBounds_toArray, List.set_cons_zero, List.set_cons_succ]
        refine wpPlan_step (i := 2) rfl ?_
        apply Exists.intro
        refine ⟨⟨by rfl, fun wx hSx => ?_⟩, ?_⟩
        · obtain _u := hSx
          go_simp
          with_reducible rfl
        simp only [Act.put, List.setIfInBounds_toArray, List.set_cons_zero, List.set_cons_succ]
        refine wpPlan_step (i := 5) rfl ?_
        apply Exists.intro
        refine ⟨⟨by rfl, fun wx hSx => ?_⟩, ?_⟩
        · obtain _u := hSx
          go_simp
          with_reducible rfl
        simp only [Act.put, List.setIfInBounds_toArray, List.set_cons_zero, List.set_cons_succ]
        refine wpPlan_step (i := 6) rfl ?_
        apply Exists.intro
        refine ⟨⟨by rfl, fun wx hSx => ?_⟩, ?_⟩
        · obtain _u := hSx
          go_simp
          with_reducible rfl
        simp only [Act.put, List.setIfInBounds_toArray, List.set_cons_zero, List.set_cons_succ]
        refine wpPlan_step (i := 7) rfl ⟨(.int .i64 (150 * (k : Int))), ⟨by rfl, fun wx hSx => ?_⟩, ?_⟩
        · obtain _u := hSx
          go_simp; first | with_reducible rfl | (rw [IntWalk.i64_in _ (by omega)])
        simp only [Act.put, List.setIfInBounds_toArray, List.set_cons_zero, List.set_cons_succ]
        refine wpPlan_step (i := 8) rfl ?_
        apply Exists.intro
        refine ⟨⟨by rfl, fun wx hSx => ?_⟩, ?_⟩
        · obtain _u := hSx
          go_simp
          with_reducible rfl
        simp only [Act.put, List.setIfInBounds_toArray, List.set_cons_zero, List.set_cons_succ]
        refine wpPlan_step (i := 9) rfl ⟨(.string O), ⟨by rfl, fun wx hSx => ?_⟩, ?_⟩
        · obtain _u := hSx
          go_simp; (first | rw [if_pos (by omega), if_pos (by omega)] | rw [if_pos (by omega)] | skip); rw [HO.out, show (150 * (k : Int)).toNat = 150 * k by omega, show (150 * ((k : Int) + 1)).toNat = 150 * (k + 1) by omega]
        simp only [Act.put, List.setIfInBounds_toArray, List.set_cons_zero, List.set_cons_succ]
        refine wpPlan_call (i := 3) rfl (by rfl) 26 #[.int .i64 (k : Int), .int .i64 2] (by go_simp) (HC.out.1 _) ?_
        rintro e w5 ⟨rfl, hb5⟩
        refine .inl ⟨_, rfl, trivial, ?_⟩
        have K5 := Lib.hid ((Below.refl w3.heap.size w3).drew.trans hb5)
        clear hb5
        simp only [Act.put, List.setIfInBounds_toArray, List.set_cons_zero, List.set_cons_succ]
        refine wpPlan_step (i := 4) rfl ⟨(.string (p ++ F)), ⟨by rfl, fun wx hSx => ?_⟩, ?_⟩
        · obtain _u := hSx
          go_simp; first | with_reducible rfl | omega | (rw [if_neg (by omega)])
        simp only [Act.put, List.setIfInBounds_toArray, List.set_cons_zero, List.set_cons_succ]
        refine wpPlan_step (i := 10) rfl ?_
        apply Exists.intro
        refine ⟨⟨by rfl, fun wx hSx => ?_⟩, ?_⟩
        · obtain _u := hSx
          go_simp
          with_reducible rfl
        simp only [Act.put, List.setIfInBounds_toArray, List.set_cons_zero, List.set_cons_succ]
        obtain ⟨oV5, bW5, hs5, rB5⟩ := box_app11 (f := pC) (E := 46) (k := 2) 46 [.string (p ++ F), .string O] (owL_below (owL_below HI.out.1 H3.out) (K5.out)) ((HI.out.2.trans (H3.out.mono HI.out.2.size)).trans (K5.out.mono (by have := HI.out.2.size; have := H3.out.size; omega))) (Nat.le_refl w.heap.size)
        obtain ⟨w7, hw7⟩ : ∃ w7, w7 = w5.alloc (.cells #[.string (p ++ F), .string O] 46) := ⟨_, rfl⟩
        have hw8 : w7 = w5.alloc (.cells [Value.string (p ++ F), Value.string O].toArray 46) := hw7
        rw [← hw8] at oV5 bW5 hs5 rB5
        have HB := Lib.hid (And.intro oV5 (And.intro bW5 (And.intro hs5 rB5)))
        clear oV5 bW5 hs5 rB5 hw8
        refine wpPlan_keep (i := 11) rfl (by rfl) fun K hK => wp_slice_one pair_elem12 (by omega) Try.underlying38 (.tmp 34) rfl (.agg #[.string (p ++ F), .string O]) #[.string (p ++ F), .string O] rfl rfl rfl (hK _ _ trivial ?_)
        rw [← hw7]
        clear hw7
        simp only [Act.put, List.setIfInBounds_toArray, List.set_cons_zero, List.set_cons_succ]
        refine wpPlan_keep (i := 12) rfl (by rfl) fun K hK => wp_append_one (f := pC) (B := w.heap.size) pair_elem12 (.tmp 24) (.tmp 35) 38 rfl Try.underlying38 (.slice ao k cp) ((List.range k).map (Ck.pr p s)) (p ++ F, O) rfl HB.out.1 w5.heap.size 1 rfl HB.out.2.2.2 rfl (fun u hu => by simp [pC] at hu; rcases hu with rfl | rfl <;> rfl) (by rw [List.length_map, List.length_range]; omega) HB.out.2.2.1 (fun gg cap w6 hown6 hon6 hwh6 hlt6 => hK _ _ trivial ?_)
        rw [List.length_map, List.length_range] at hown6
        rw [List.length_map, List.length_range]
        have H6 := Lib.hid (app_below11 hown6 hon6 HB.out.1 HB.out.2.1 HB.out.2.2.1)
        clear hown6 hon6 hwh6 hlt6
        simp only [Act.put, List.setIfInBounds_toArray, List.set_cons_zero, List.set_cons_succ]
        show wpList _ _ _ _ _ w6
        simp only [List.drop_succ_cons, List.drop_zero]
        go_wp2_with fail
        go_roundw
        case rel => exact ⟨k + 1, some ⟨gg, 0, none⟩, cap, by omega, by go_num, rfl, Lib.hid ⟨by rw [range_snoc11 p s k, hkey, ← HOO.out]; exact H6.out.1, H6.out.2⟩⟩
        case measure => simp [RowKit.intOf]; omega
      · have HO := Lib.hid (show O = s.extract (150 * k) s.size by rw [HOO.out]; unfold Ck.one; rw [show min (150 * (k + 1)) s.size = s.size by omega])
        have d1 : decide ((s.size : Int) < 150 * ((k : Int) + 1)) = true := decide_eq_true (by omega)
        go_wp2_with (go_at_call 13; refine (H.out.1 _).mono ?_; rintro e w3 ⟨rfl, hb3⟩; have H3 := Lib.hid hb3; clear hb3)
        refine wp_region_plan (S := fun wx => True) 13 [(true, 0), (true, 1), (true, 2), (true, 5), (true, 6), (true, 7), (true, 8), (true, 9), (false, 3), (true, 4), (true, 10), (false, 11), (false, 12)] (by kernel_rfl) (fun _ d _ _ _ h => by cases d <;> exact h) (by kernel_rfl) trivial ?_
        refine wpPlan_step (i := 0) rfl ?_
        apply Exists.intro
        refine ⟨⟨by rfl, fun wx hSx => ?_⟩, ?_⟩
        · obtain _u := hSx
          go_simp
          with_reducible rfl
        simp only [Act.put, List.setIfInBounds_toArray, List.set_cons_zero, List.set_cons_succ]
        refine wpPlan_step (i := 1) rfl ?_
        apply Exists.intro
        refine ⟨⟨by rfl, fun wx hSx => ?_⟩, ?_⟩
        · obtain _u := hSx
          go_simp
          with_reducible rfl
        simp only [Act.put, List.setIfInBounds_toArray, List.set_cons_zero, List.set_cons_succ]
        refine wpPlan_step (i := 2) rfl ?_
        apply Exists.intro
        refine ⟨⟨by rfl, fun wx hSx => ?_⟩, ?_⟩
        · obtain _u := hSx
          go_simp
          with_reducible rfl
        simp only [Act.put, List.setIfInBounds_toArray, List.set_cons_zero, List.set_cons_succ]
        refine wpPlan_step (i := 5) rfl ?_
        apply Exists.intro
        refine ⟨⟨by rfl, fun wx hSx => ?_⟩, ?_⟩
        · obtain _u := hSx
          go_simp
          with_reducible rfl
        simp only [Act.put, List.setIfInBounds_toArray, List.set_cons_zero, List.set_cons_succ]
        refine wpPlan_step (i := 6) rfl ?_
        apply Exists.intro
        refine ⟨⟨by rfl, fun wx hSx => ?_⟩, ?_⟩
        · obtain _u := hSx
          go_simp
          with_reducible rfl
        simp only [Act.put, List.setIfInBounds_toArray, List.set_cons_zero, List.set_cons_succ]
        refine wpPlan_step (i := 7) rfl ⟨(.int .i64 (150 * (k : Int))), ⟨by rfl, fun wx hSx => ?_⟩, ?_⟩
        · obtain _u := hSx
          go_simp; first | with_reducible rfl | (rw [IntWalk.i64_in _ (by omega)])
        simp only [Act.put, List.setIfInBounds_toArray, List.set_cons_zero, List.set_cons_succ]
        refine wpPlan_step (i := 8) rfl ?_
        apply Exists.intro
        refine ⟨⟨by rfl, fun wx hSx => ?_⟩, ?_⟩
        · obtain _u := hSx
          go_simp
          with_reducible rfl
        simp only [Act.put, List.setIfInBounds_toArray, List.set_cons_zero, List.set_cons_succ]
        refine wpPlan_step (i := 9) rfl ⟨(.string O), ⟨by rfl, fun wx hSx => ?_⟩, ?_⟩
        · obtain _u := hSx
          go_simp; (first | rw [if_pos (by omega), if_pos (by omega)] | rw [if_pos (by omega)] | skip); rw [HO.out, show (150 * (k : Int)).toNat = 150 * k by omega]; try rw [Int.toNat_natCast]
        simp only [Act.put, List.setIfInBounds_toArray, List.set_cons_zero, List.set_cons_succ]
        refine wpPlan_call (i := 3) rfl (by rfl) 26 #[.int .i64 (k : Int), .int .i64 2] (by go_simp) (HC.out.1 _) ?_
        rintro e w5 ⟨rfl, hb5⟩
        refine .inl ⟨_, rfl, trivial, ?_⟩
        have K5 := Lib.hid ((Below.refl w3.heap.size w3).drew.trans hb5)
        clear hb5
        simp only [Act.put, List.setIfInBounds_toArray, List.set_cons_zero, List.set_cons_succ]
        refine wpPlan_step (i := 4) rfl ⟨(.string (p ++ F)), ⟨by rfl, fun wx hSx => ?_⟩, ?_⟩
        · obtain _u := hSx
          go_simp; first | with_reducible rfl | omega | (rw [if_neg (by omega)])
        simp only [Act.put, List.setIfInBounds_toArray, List.set_cons_zero, List.set_cons_succ]
        refine wpPlan_step (i := 10) rfl ?_
        apply Exists.intro
        refine ⟨⟨by rfl, fun wx hSx => ?_⟩, ?_⟩
        · obtain _u := hSx
          go_simp
          with_reducible rfl
        simp only [Act.put, List.setIfInBounds_toArray, List.set_cons_zero, List.set_cons_succ]
        obtain ⟨oV5, bW5, hs5, rB5⟩ := box_app11 (f := pC) (E := 46) (k := 2) 46 [.string (p ++ F), .string O] (owL_below (owL_below HI.out.1 H3.out) (K5.out)) ((HI.out.2.trans (H3.out.mono HI.out.2.size)).trans (K5.out.mono (by have := HI.out.2.size; have := H3.out.size; omega))) (Nat.le_refl w.heap.size)
        obtain ⟨w7, hw7⟩ : ∃ w7, w7 = w5.alloc (.cells #[.string (p ++ F), .string O] 46) := ⟨_, rfl⟩
        have hw8 : w7 = w5.alloc (.cells [Value.string (p ++ F), Value.string O].toArray 46) := hw7
        rw [← hw8] at oV5 bW5 hs5 rB5
        have HB := Lib.hid (And.intro oV5 (And.intro bW5 (And.intro hs5 rB5)))
        clear oV5 bW5 hs5 rB5 hw8
        refine wpPlan_keep (i := 11) rfl (by rfl) fun K hK => wp_slice_one pair_elem12 (by omega) Try.underlying38 (.tmp 34) rfl (.agg #[.string (p ++ F), .string O]) #[.string (p ++ F), .string O] rfl rfl rfl (hK _ _ trivial ?_)
        rw [← hw7]
        clear hw7
        simp only [Act.put, List.setIfInBounds_toArray, List.set_cons_zero, List.set_cons_succ]
        refine wpPlan_keep (i := 12) rfl (by rfl) fun K hK => wp_append_one (f := pC) (B := w.heap.size) pair_elem12 (.tmp 24) (.tmp 35) 38 rfl Try.underlying38 (.slice ao k cp) ((List.range k).map (Ck.pr p s)) (p ++ F, O) rfl HB.out.1 w5.heap.size 1 rfl HB.out.2.2.2 rfl (fun u hu => by simp [pC] at hu; rcases hu with rfl | rfl <;> rfl) (by rw [List.length_map, List.length_range]; omega) HB.out.2.2.1 (fun gg cap w6 hown6 hon6 hwh6 hlt6 => hK _ _ trivial ?_)
        rw [List.length_map, List.length_range] at hown6
        rw [List.length_map, List.length_range]
        have H6 := Lib.hid (app_below11 hown6 hon6 HB.out.1 HB.out.2.1 HB.out.2.2.1)
        clear hown6 hon6 hwh6 hlt6
        simp only [Act.put, List.setIfInBounds_toArray, List.set_cons_zero, List.set_cons_succ]
        show wpList _ _ _ _ _ w6
        simp only [List.drop_succ_cons, List.drop_zero]
        go_wp2_with fail
        go_roundw
        case rel => exact ⟨k + 1, some ⟨gg, 0, none⟩, cap, by omega, by go_num, rfl, Lib.hid ⟨by rw [range_snoc11 p s k, hkey, ← HOO.out]; exact H6.out.1, H6.out.2⟩⟩
        case measure => simp [RowKit.intOf]; omega
    · obtain rfl : k = C := by omega
      go_wp2_with (go_at_call 13; refine (H.out.1 _).mono ?_; rintro e w3 ⟨rfl, hb3⟩; have H3 := Lib.hid hb3; clear hb3)
      go_ret
      exact ⟨_, rfl, owL_below HI.out.1 H3.out, HI.out.2.trans (H3.out.mono HI.out.2.size)⟩
end Go.Proofs.Ytlhhecomjhfhjaa
