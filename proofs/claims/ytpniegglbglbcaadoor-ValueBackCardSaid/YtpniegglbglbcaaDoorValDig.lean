/-
  Layer 12: a number's digits, as the document says them.
-/
import Derived.Test.YtpniegglbglbcaaDoorValRight
import Derived.Test.YtpniegglbglbcaaDoorRelyC
import Derived.Deep.RegionHeld3
import Derived.IntWalk
import Derived.Lib.ItoaLen
namespace Go.Proofs.YtpniegglbglbcaaDoor
open Go.RowKit
theorem Vl.itoa_step (n : Int) (h : ¬ (-9 ≤ n ∧ n ≤ 9)) : Lib.itoa n = Lib.itoa (n.tdiv 10) ++ [UInt8.ofNat (48 + (n.natAbs % 10))] ∧ (n.tdiv 10).natAbs < n.natAbs := by
  have key : ∀ u : Nat, 10 ≤ u → Lib.decDigits u = Lib.decDigits (u / 10) ++ [UInt8.ofNat (48 + u % 10)] := fun u hu => by
    rw [Lib.decDigits, dif_neg (by omega)]
  have hd : (n.tdiv 10).natAbs = n.natAbs / 10 := by rw [Int.natAbs_tdiv]; rfl
  refine ⟨?_, by omega⟩
  unfold Lib.itoa
  by_cases h0 : n < 0
  · have h1 : n.tdiv 10 < 0 := by
      have : n.tdiv 10 = -((-n).tdiv 10) := by rw [Int.neg_tdiv, Int.neg_neg]
      rw [this, Int.tdiv_eq_ediv_of_nonneg (by omega)]; omega
    rw [if_pos h0, if_pos h1, hd, key _ (by omega)]; rfl
  · have h1 : ¬ n.tdiv 10 < 0 := by rw [Int.tdiv_eq_ediv_of_nonneg (by omega)]; omega
    have e1 : (n.tdiv 10).toNat = n.toNat / 10 := by rw [Int.tdiv_eq_ediv_of_nonneg (by omega)]; omega
    have e2 : n.natAbs = n.toNat := by omega
    rw [if_neg h0, if_neg h1, e1, e2, key _ (by omega)]
theorem Vl.itoa_neg1 (n : Int) (h : -9 ≤ n ∧ n < 0) : Lib.itoa n = [45, UInt8.ofNat (48 - n).toNat] := by
  unfold Lib.itoa
  rw [if_pos h.2, Lib.decDigits, dif_pos (by omega), show 48 + n.natAbs = (48 - n).toNat by omega]
theorem Vl.itoa_pos1 (n : Int) (h : 0 ≤ n ∧ n ≤ 9) : Lib.itoa n = [UInt8.ofNat (48 + n).toNat] := by
  unfold Lib.itoa
  rw [if_neg (by omega), Lib.decDigits, dif_pos (by omega), show 48 + n.toNat = (48 + n).toNat by omega]
/-- one byte, as a string -/
theorem one_conv (c : Int) (W : World) (g : Nat) (h : W.cell? ⟨g, 0, none⟩ = some (.int .u8 c)) :
    (convert 60 9 (.slice (some ⟨g, 0, none⟩) 1 1)).run Tryd.prog W = .ok (.string ⟨#[UInt8.ofNat c.toNat]⟩) W := by
  have hc := run_convert_bytes_arg (P := Tryd.prog) W 60 5 Tryd.underlying60 Tryd.underlying5 g 0 1 1 [c] rfl (fun i hi => by
    obtain rfl : i = 0 := by omega
    exact h) 9 Tryd.underlying9
  rw [hc]; rfl
set_option maxRecDepth 100000 in
set_option maxHeartbeats 3200000 in
theorem digits_small (n : Int) (w : World) (h : -9 ≤ n ∧ n ≤ 9) :
    Calls Tryd.prog 31 #[.int .i64 n] w fun e w' => e = .returned (.string ⟨(Lib.itoa n).toArray⟩) ∧ Below w.heap.size w w' := by
  obtain ⟨h1, h2⟩ := h
  by_cases h0 : n < 0
  · have E := Lib.hid (Vl.itoa_neg1 n ⟨h1, h0⟩)
    have hcv := one_conv (48 - n) (w.alloc (.cells #[.int .u8 (48 - n)] 5)) w.heap.size (by rw [World.cell?_alloc_at _ _ _ _ rfl]; rfl)
    have hXs : (⟨#[UInt8.ofNat (48 - n).toNat]⟩ : ByteArray).size = 1 := rfl
    generalize hX : (⟨#[UInt8.ofNat (48 - n).toNat]⟩ : ByteArray) = X at *
    have HX := Lib.hid hX
    clear hX
    go_enter Tryd.func31, Tryd.ntmps31
    go_wp2_with fail
    go_ret
    exact ⟨ret_str (by rw [E.out, ← HX.out]; rfl), (Below.refl w.heap.size w).alloc (Nat.le_refl _) _⟩
  · have E := Lib.hid (Vl.itoa_pos1 n ⟨by omega, h2⟩)
    have hcv := one_conv (48 + n) (w.alloc (.cells #[.int .u8 (48 + n)] 5)) w.heap.size (by rw [World.cell?_alloc_at _ _ _ _ rfl]; rfl)
    generalize hX : (⟨#[UInt8.ofNat (48 + n).toNat]⟩ : ByteArray) = X at *
    have HX := Lib.hid hX
    clear hX
    go_enter Tryd.func31, Tryd.ntmps31
    go_wp2_with fail
    go_ret
    exact ⟨ret_str (by rw [E.out, ← HX.out]), (Below.refl w.heap.size w).alloc (Nat.le_refl _) _⟩
/-- the values of the last region -/
def digF (n : Int) (A B : ByteArray) (d : Nat) : Nat → Value → World → Prop
  | 0, v, _ => v = .int .i64 n
  | 1, v, _ => v = .int .i64 (n.tdiv 10)
  | 2, v, _ => v = .string A
  | 3, v, _ => v = .int .i64 (d : Int)
  | 4, v, _ => v = .int .i64 (48 + (d : Int))
  | 5, v, _ => v = .int .u8 (48 + (d : Int))
  | 6, v, w => ∃ g, v = .slice (some ⟨g, 0, none⟩) 1 1 ∧ w.cell? ⟨g, 0, none⟩ = some (.int .u8 (48 + (d : Int)))
  | 7, v, _ => v = .string B
  | 8, v, _ => v = .string (A ++ B)
  | 9, v, _ => v = .string (A ++ B)
  | _, _, _ => True
theorem digF_up (n : Int) (A B : ByteArray) (d : Nat) : ∀ j u wx wy, Below wx.heap.size wx wy → digF n A B d j u wx → digF n A B d j u wy := by
  intro j u wx wy hb h
  match j, h with
  | 6, ⟨g, h1, h2⟩ => exact ⟨g, h1, (hb.cell (World.block_lt_of_cell? _ _ h2)).trans h2⟩
  | 0, h | 1, h | 2, h | 3, h | 4, h | 5, h | 7, h | 8, h | 9, h => exact h
  | _ + 10, _ => trivial
set_option maxRecDepth 100000 in
set_option maxHeartbeats 3200000 in
theorem digits_great (n : Int) (hmin : -9223372036854775808 ≤ n) (hmax : n ≤ 9223372036854775807) (h : ¬ (-9 ≤ n ∧ n ≤ 9))
    (ih : ∀ w, Calls Tryd.prog 31 #[.int .i64 (n.tdiv 10)] w fun e w' => e = .returned (.string ⟨(Lib.itoa (n.tdiv 10)).toArray⟩) ∧ Below w.heap.size w w')
    (hlen : (Lib.itoa (n.tdiv 10)).length ≤ 1000) (w : World) :
    Calls Tryd.prog 31 #[.int .i64 n] w fun e w' => e = .returned (.string ⟨(Lib.itoa n).toArray⟩) ∧ Below w.heap.size w w' := by
  have E := Lib.hid (Vl.itoa_step n h).1
  obtain ⟨A, hA⟩ : ∃ A : ByteArray, A = ⟨(Lib.itoa (n.tdiv 10)).toArray⟩ := ⟨_, rfl⟩
  rw [← hA] at ih
  have hAs : A.size ≤ 1000 := by rw [hA]; show (Lib.itoa (n.tdiv 10)).toArray.size ≤ 1000; rw [List.size_toArray]; exact hlen
  obtain ⟨d, hd⟩ : ∃ d, d = n.natAbs % 10 := ⟨_, rfl⟩
  have hd10 : d < 10 := by omega
  have hcv := fun W g hg => one_conv (48 + (d : Int)) W g hg
  obtain ⟨B, hB⟩ : ∃ B : ByteArray, B = ⟨#[UInt8.ofNat (48 + (d : Int)).toNat]⟩ := ⟨_, rfl⟩
  rw [← hB] at hcv
  have hBs : B.size = 1 := by rw [hB]; rfl
  have HV := Lib.hid hcv
  have HC := Lib.hid ih
  have HE : Hid ((A ++ B) = ⟨(Lib.itoa n).toArray⟩) := Lib.hid (by
    rw [E.out, hA, hB, ← hd, show (48 + (d : Int)).toNat = 48 + d by omega]
    apply Sl.ba_ext; rw [ByteArray.data_append, Array.toList_append])
  have hr : n.tmod 10 = if n < 0 then -(d : Int) else (d : Int) := by
    by_cases hn : n < 0
    · rw [if_pos hn]
      have : n.tmod 10 = -((-n).tmod 10) := by rw [Int.neg_tmod, Int.neg_neg]
      rw [this, Int.tmod_eq_emod_of_nonneg (by omega)]; omega
    · rw [if_neg hn, Int.tmod_eq_emod_of_nonneg (by omega)]; omega
  have HR := Lib.hid hr
  have HQ : Hid (IntKind.i64.wrap (n.tdiv 10) = n.tdiv 10) := Lib.hid (by
    have hd : (n.tdiv 10).natAbs = n.natAbs / 10 := by rw [Int.natAbs_tdiv]; rfl
    exact IntWalk.i64_in _ (by omega))
  clear hr hd hA hB hcv ih E
  by_cases hg : -9 ≤ n
  · have hg2 : ¬ n ≤ 9 := by omega
    clear h
    by_cases hp : n < 0 ∧ 0 < d
    · have hr2 : n.tmod 10 = -(d : Int) := by rw [HR.out, if_pos hp.1]
      have hd0 : -(d : Int) < 0 := by omega
      have hw : IntKind.i64.wrap (-(-(d : Int))) = d := by rw [Int.neg_neg]; exact IntWalk.i64_in _ (by omega)
      clear hp HR
      go_enter Tryd.func31, Tryd.ntmps31
      go_wp2_with fail
      refine wp_region_relyC (Gr w (digF n A B d)) (by kernel_rfl) (by kernel_rfl) ⟨(Below.refl _ _).drew, fun j v h => by cases h⟩ ?hstep ?hend
      case hstep =>
        intro st wx i o ax ho hn haft hG hf
        have f0 : ax.tmps.getD 0 undef = .int .i64 n := frame_stay hf (by kernel_rfl)
        have f3 : ax.tmps.getD 3 undef = .int .i64 (d : Int) := frame_stay hf (by kernel_rfl)
        match i, ho, hn, haft with
        | 0, ho, hn, haft =>
          obtain rfl := Option.some.inj ho
          refine .inl ⟨(.int .i64 n), wx, ?_, gr_pure hG rfl⟩
          go_simp
        | 1, ho, hn, haft =>
          obtain rfl := Option.some.inj ho
          obtain ⟨v0, h0⟩ := Option.isSome_iff_exists.1 (haft ⟨0, .data⟩ (by simp) rfl)
          obtain rfl : v0 = (.int .i64 n) := hG.2 0 v0 h0
          have e29 : ax.tmps.getD 29 undef = (.int .i64 n) := hf.come 0 _ 29 _ rfl rfl h0
          refine .inl ⟨(.int .i64 (n.tdiv 10)), wx, ?_, gr_pure hG rfl⟩
          go_simp; exact HQ.out
        | 2, ho, hn, haft =>
          obtain rfl := Option.some.inj ho
          obtain ⟨v1, h1⟩ := Option.isSome_iff_exists.1 (haft ⟨1, .data⟩ (by simp) rfl)
          obtain rfl : v1 = (.int .i64 (n.tdiv 10)) := hG.2 1 v1 h1
          have e30 : ax.tmps.getD 30 undef = (.int .i64 (n.tdiv 10)) := hf.come 1 _ 30 _ rfl rfl h1
          refine .inr (.inr ⟨31, #[.int .i64 (n.tdiv 10)], _, by go_simp, HC.out wx, ?_⟩)
          rintro e w1 ⟨rfl, hb1⟩
          exact ⟨_, rfl, gr_more (digF_up _ _ _ _) hG hb1 rfl⟩
        | 3, ho, hn, haft =>
          obtain rfl := Option.some.inj ho
          refine .inl ⟨(.int .i64 (d : Int)), wx, ?_, gr_pure hG rfl⟩
          go_simp
        | 4, ho, hn, haft =>
          obtain rfl := Option.some.inj ho
          obtain ⟨v3, h3⟩ := Option.isSome_iff_exists.1 (haft ⟨3, .data⟩ (by simp) rfl)
          obtain rfl : v3 = (.int .i64 (d : Int)) := hG.2 3 v3 h3
          have e32 : ax.tmps.getD 32 undef = (.int .i64 (d : Int)) := hf.come 3 _ 32 _ rfl rfl h3
          refine .inl ⟨(.int .i64 (48 + (d : Int))), wx, ?_, gr_pure hG rfl⟩
          go_simp; rw [IntWalk.i64_in _ (by omega)]
        | 5, ho, hn, haft =>
          obtain rfl := Option.some.inj ho
          obtain ⟨v4, h4⟩ := Option.isSome_iff_exists.1 (haft ⟨4, .data⟩ (by simp) rfl)
          obtain rfl : v4 = (.int .i64 (48 + (d : Int))) := hG.2 4 v4 h4
          have e33 : ax.tmps.getD 33 undef = (.int .i64 (48 + (d : Int))) := hf.come 4 _ 33 _ rfl rfl h4
          refine .inl ⟨(.int .u8 (48 + (d : Int))), wx, ?_, gr_pure hG rfl⟩
          go_simp; first | done | (simp [IntKind.wrap_u8]; omega)
        | 6, ho, hn, haft =>
          obtain rfl := Option.some.inj ho
          obtain ⟨v5, h5⟩ := Option.isSome_iff_exists.1 (haft ⟨5, .data⟩ (by simp) rfl)
          obtain rfl : v5 = (.int .u8 (48 + (d : Int))) := hG.2 5 v5 h5
          have e34 : ax.tmps.getD 34 undef = (.int .u8 (48 + (d : Int))) := hf.come 5 _ 34 _ rfl rfl h5
          refine .inl ⟨.slice (some ⟨wx.heap.size, 0, none⟩) 1 1, wx.alloc (.cells #[.int .u8 (48 + (d : Int))] 5), ?_, gr_more (digF_up _ _ _ _) hG ((Below.refl _ _).alloc (Nat.le_refl _) _) ⟨wx.heap.size, rfl, by rw [World.cell?_alloc_at _ _ _ _ rfl]; rfl⟩⟩
          have e34b := e34
          rw [Array.getD_eq_getD_getElem?] at e34b
          go_simp
        | 7, ho, hn, haft =>
          obtain rfl := Option.some.inj ho
          obtain ⟨v6, h6⟩ := Option.isSome_iff_exists.1 (haft ⟨6, .data⟩ (by simp) rfl)
          have e35 : ax.tmps.getD 35 undef = v6 := hf.come 6 _ 35 _ rfl rfl h6
          obtain ⟨g, rfl, hc⟩ := hG.2 6 v6 h6
          have hcv := HV.out wx g hc
          refine .inl ⟨.string B, wx, ?_, gr_pure hG rfl⟩
          go_simp
        | 8, ho, hn, haft =>
          obtain rfl := Option.some.inj ho
          obtain ⟨v2, h2⟩ := Option.isSome_iff_exists.1 (haft ⟨2, .data⟩ (by simp) rfl)
          obtain rfl : v2 = (.string A) := hG.2 2 v2 h2
          have e31 : ax.tmps.getD 31 undef = (.string A) := hf.come 2 _ 31 _ rfl rfl h2
          obtain ⟨v7, h7⟩ := Option.isSome_iff_exists.1 (haft ⟨7, .data⟩ (by simp) rfl)
          obtain rfl : v7 = (.string B) := hG.2 7 v7 h7
          have e36 : ax.tmps.getD 36 undef = (.string B) := hf.come 7 _ 36 _ rfl rfl h7
          refine .inl ⟨(.string (A ++ B)), wx, ?_, gr_pure hG rfl⟩
          go_simp; first | done | omega
        | 9, ho, hn, haft =>
          obtain rfl := Option.some.inj ho
          obtain ⟨v8, h8⟩ := Option.isSome_iff_exists.1 (haft ⟨8, .data⟩ (by simp) rfl)
          obtain rfl : v8 = (.string (A ++ B)) := hG.2 8 v8 h8
          have e37 : ax.tmps.getD 37 undef = (.string (A ++ B)) := hf.come 8 _ 37 _ rfl rfl h8
          refine .inl ⟨(.string (A ++ B)), wx, ?_, gr_pure hG rfl⟩
          go_simp
        | (i + 10), ho, hn, haft => cases ho
      case hend =>
        intro st wx ax hall hG hf
        obtain ⟨v9, h9⟩ := Option.isSome_iff_exists.1 (hall 9 (by decide))
        obtain rfl : v9 = .string (A ++ B) := hG.2 9 v9 h9
        have hb := Lib.hid hG.1
        obtain ⟨z, hz⟩ : ∃ z : Nat → Value, z = fun i => ax.tmps.getD i undef := ⟨_, rfl⟩
        have hax : ax = ⟨((List.range 38).map z).toArray, ax.defers⟩ := by rw [hz]; exact frame_list (hf.size.trans (by rfl))
        have hde : ax.defers = [] := hf.defers
        rw [hde] at hax
        have hax2 : ax = ⟨#[z 0, z 1, z 2, z 3, z 4, z 5, z 6, z 7, z 8, z 9, z 10, z 11, z 12, z 13, z 14, z 15, z 16, z 17, z 18, z 19, z 20, z 21, z 22, z 23, z 24, z 25, z 26, z 27, z 28, z 29, z 30, z 31, z 32, z 33, z 34, z 35, z 36, z 37], []⟩ := hax
        have z2 : z 2 = .string (A ++ B) := by rw [hz]; exact hf.come 9 _ 2 _ rfl rfl h9
        clear hz hax hde
        subst hax2
        rw [z2]
        clear hf hG hall z2 h9
        go_wp2_with fail
        go_ret
        exact ⟨ret_str HE.out, hb.out⟩
    · have hr2 : n.tmod 10 = (d : Int) := by rw [HR.out]; split <;> omega
      have hd0 : ¬ (d : Int) < 0 := by omega
      clear hp HR
      go_enter Tryd.func31, Tryd.ntmps31
      go_wp2_with fail
      refine wp_region_relyC (Gr w (digF n A B d)) (by kernel_rfl) (by kernel_rfl) ⟨(Below.refl _ _).drew, fun j v h => by cases h⟩ ?hstep ?hend
      case hstep =>
        intro st wx i o ax ho hn haft hG hf
        have f0 : ax.tmps.getD 0 undef = .int .i64 n := frame_stay hf (by kernel_rfl)
        have f3 : ax.tmps.getD 3 undef = .int .i64 (d : Int) := frame_stay hf (by kernel_rfl)
        match i, ho, hn, haft with
        | 0, ho, hn, haft =>
          obtain rfl := Option.some.inj ho
          refine .inl ⟨(.int .i64 n), wx, ?_, gr_pure hG rfl⟩
          go_simp
        | 1, ho, hn, haft =>
          obtain rfl := Option.some.inj ho
          obtain ⟨v0, h0⟩ := Option.isSome_iff_exists.1 (haft ⟨0, .data⟩ (by simp) rfl)
          obtain rfl : v0 = (.int .i64 n) := hG.2 0 v0 h0
          have e29 : ax.tmps.getD 29 undef = (.int .i64 n) := hf.come 0 _ 29 _ rfl rfl h0
          refine .inl ⟨(.int .i64 (n.tdiv 10)), wx, ?_, gr_pure hG rfl⟩
          go_simp; exact HQ.out
        | 2, ho, hn, haft =>
          obtain rfl := Option.some.inj ho
          obtain ⟨v1, h1⟩ := Option.isSome_iff_exists.1 (haft ⟨1, .data⟩ (by simp) rfl)
          obtain rfl : v1 = (.int .i64 (n.tdiv 10)) := hG.2 1 v1 h1
          have e30 : ax.tmps.getD 30 undef = (.int .i64 (n.tdiv 10)) := hf.come 1 _ 30 _ rfl rfl h1
          refine .inr (.inr ⟨31, #[.int .i64 (n.tdiv 10)], _, by go_simp, HC.out wx, ?_⟩)
          rintro e w1 ⟨rfl, hb1⟩
          exact ⟨_, rfl, gr_more (digF_up _ _ _ _) hG hb1 rfl⟩
        | 3, ho, hn, haft =>
          obtain rfl := Option.some.inj ho
          refine .inl ⟨(.int .i64 (d : Int)), wx, ?_, gr_pure hG rfl⟩
          go_simp
        | 4, ho, hn, haft =>
          obtain rfl := Option.some.inj ho
          obtain ⟨v3, h3⟩ := Option.isSome_iff_exists.1 (haft ⟨3, .data⟩ (by simp) rfl)
          obtain rfl : v3 = (.int .i64 (d : Int)) := hG.2 3 v3 h3
          have e32 : ax.tmps.getD 32 undef = (.int .i64 (d : Int)) := hf.come 3 _ 32 _ rfl rfl h3
          refine .inl ⟨(.int .i64 (48 + (d : Int))), wx, ?_, gr_pure hG rfl⟩
          go_simp; rw [IntWalk.i64_in _ (by omega)]
        | 5, ho, hn, haft =>
          obtain rfl := Option.some.inj ho
          obtain ⟨v4, h4⟩ := Option.isSome_iff_exists.1 (haft ⟨4, .data⟩ (by simp) rfl)
          obtain rfl : v4 = (.int .i64 (48 + (d : Int))) := hG.2 4 v4 h4
          have e33 : ax.tmps.getD 33 undef = (.int .i64 (48 + (d : Int))) := hf.come 4 _ 33 _ rfl rfl h4
          refine .inl ⟨(.int .u8 (48 + (d : Int))), wx, ?_, gr_pure hG rfl⟩
          go_simp; first | done | (simp [IntKind.wrap_u8]; omega)
        | 6, ho, hn, haft =>
          obtain rfl := Option.some.inj ho
          obtain ⟨v5, h5⟩ := Option.isSome_iff_exists.1 (haft ⟨5, .data⟩ (by simp) rfl)
          obtain rfl : v5 = (.int .u8 (48 + (d : Int))) := hG.2 5 v5 h5
          have e34 : ax.tmps.getD 34 undef = (.int .u8 (48 + (d : Int))) := hf.come 5 _ 34 _ rfl rfl h5
          refine .inl ⟨.slice (some ⟨wx.heap.size, 0, none⟩) 1 1, wx.alloc (.cells #[.int .u8 (48 + (d : Int))] 5), ?_, gr_more (digF_up _ _ _ _) hG ((Below.refl _ _).alloc (Nat.le_refl _) _) ⟨wx.heap.size, rfl, by rw [World.cell?_alloc_at _ _ _ _ rfl]; rfl⟩⟩
          have e34b := e34
          rw [Array.getD_eq_getD_getElem?] at e34b
          go_simp
        | 7, ho, hn, haft =>
          obtain rfl := Option.some.inj ho
          obtain ⟨v6, h6⟩ := Option.isSome_iff_exists.1 (haft ⟨6, .data⟩ (by simp) rfl)
          have e35 : ax.tmps.getD 35 undef = v6 := hf.come 6 _ 35 _ rfl rfl h6
          obtain ⟨g, rfl, hc⟩ := hG.2 6 v6 h6
          have hcv := HV.out wx g hc
          refine .inl ⟨.string B, wx, ?_, gr_pure hG rfl⟩
          go_simp
        | 8, ho, hn, haft =>
          obtain rfl := Option.some.inj ho
          obtain ⟨v2, h2⟩ := Option.isSome_iff_exists.1 (haft ⟨2, .data⟩ (by simp) rfl)
          obtain rfl : v2 = (.string A) := hG.2 2 v2 h2
          have e31 : ax.tmps.getD 31 undef = (.string A) := hf.come 2 _ 31 _ rfl rfl h2
          obtain ⟨v7, h7⟩ := Option.isSome_iff_exists.1 (haft ⟨7, .data⟩ (by simp) rfl)
          obtain rfl : v7 = (.string B) := hG.2 7 v7 h7
          have e36 : ax.tmps.getD 36 undef = (.string B) := hf.come 7 _ 36 _ rfl rfl h7
          refine .inl ⟨(.string (A ++ B)), wx, ?_, gr_pure hG rfl⟩
          go_simp; first | done | omega
        | 9, ho, hn, haft =>
          obtain rfl := Option.some.inj ho
          obtain ⟨v8, h8⟩ := Option.isSome_iff_exists.1 (haft ⟨8, .data⟩ (by simp) rfl)
          obtain rfl : v8 = (.string (A ++ B)) := hG.2 8 v8 h8
          have e37 : ax.tmps.getD 37 undef = (.string (A ++ B)) := hf.come 8 _ 37 _ rfl rfl h8
          refine .inl ⟨(.string (A ++ B)), wx, ?_, gr_pure hG rfl⟩
          go_simp
        | (i + 10), ho, hn, haft => cases ho
      case hend =>
        intro st wx ax hall hG hf
        obtain ⟨v9, h9⟩ := Option.isSome_iff_exists.1 (hall 9 (by decide))
        obtain rfl : v9 = .string (A ++ B) := hG.2 9 v9 h9
        have hb := Lib.hid hG.1
        obtain ⟨z, hz⟩ : ∃ z : Nat → Value, z = fun i => ax.tmps.getD i undef := ⟨_, rfl⟩
        have hax : ax = ⟨((List.range 38).map z).toArray, ax.defers⟩ := by rw [hz]; exact frame_list (hf.size.trans (by rfl))
        have hde : ax.defers = [] := hf.defers
        rw [hde] at hax
        have hax2 : ax = ⟨#[z 0, z 1, z 2, z 3, z 4, z 5, z 6, z 7, z 8, z 9, z 10, z 11, z 12, z 13, z 14, z 15, z 16, z 17, z 18, z 19, z 20, z 21, z 22, z 23, z 24, z 25, z 26, z 27, z 28, z 29, z 30, z 31, z 32, z 33, z 34, z 35, z 36, z 37], []⟩ := hax
        have z2 : z 2 = .string (A ++ B) := by rw [hz]; exact hf.come 9 _ 2 _ rfl rfl h9
        clear hz hax hde
        subst hax2
        rw [z2]
        clear hf hG hall z2 h9
        go_wp2_with fail
        go_ret
        exact ⟨ret_str HE.out, hb.out⟩
  · clear h
    by_cases hp : n < 0 ∧ 0 < d
    · have hr2 : n.tmod 10 = -(d : Int) := by rw [HR.out, if_pos hp.1]
      have hd0 : -(d : Int) < 0 := by omega
      have hw : IntKind.i64.wrap (-(-(d : Int))) = d := by rw [Int.neg_neg]; exact IntWalk.i64_in _ (by omega)
      clear hp HR
      go_enter Tryd.func31, Tryd.ntmps31
      go_wp2_with fail
      refine wp_region_relyC (Gr w (digF n A B d)) (by kernel_rfl) (by kernel_rfl) ⟨(Below.refl _ _).drew, fun j v h => by cases h⟩ ?hstep ?hend
      case hstep =>
        intro st wx i o ax ho hn haft hG hf
        have f0 : ax.tmps.getD 0 undef = .int .i64 n := frame_stay hf (by kernel_rfl)
        have f3 : ax.tmps.getD 3 undef = .int .i64 (d : Int) := frame_stay hf (by kernel_rfl)
        match i, ho, hn, haft with
        | 0, ho, hn, haft =>
          obtain rfl := Option.some.inj ho
          refine .inl ⟨(.int .i64 n), wx, ?_, gr_pure hG rfl⟩
          go_simp
        | 1, ho, hn, haft =>
          obtain rfl := Option.some.inj ho
          obtain ⟨v0, h0⟩ := Option.isSome_iff_exists.1 (haft ⟨0, .data⟩ (by simp) rfl)
          obtain rfl : v0 = (.int .i64 n) := hG.2 0 v0 h0
          have e29 : ax.tmps.getD 29 undef = (.int .i64 n) := hf.come 0 _ 29 _ rfl rfl h0
          refine .inl ⟨(.int .i64 (n.tdiv 10)), wx, ?_, gr_pure hG rfl⟩
          go_simp; exact HQ.out
        | 2, ho, hn, haft =>
          obtain rfl := Option.some.inj ho
          obtain ⟨v1, h1⟩ := Option.isSome_iff_exists.1 (haft ⟨1, .data⟩ (by simp) rfl)
          obtain rfl : v1 = (.int .i64 (n.tdiv 10)) := hG.2 1 v1 h1
          have e30 : ax.tmps.getD 30 undef = (.int .i64 (n.tdiv 10)) := hf.come 1 _ 30 _ rfl rfl h1
          refine .inr (.inr ⟨31, #[.int .i64 (n.tdiv 10)], _, by go_simp, HC.out wx, ?_⟩)
          rintro e w1 ⟨rfl, hb1⟩
          exact ⟨_, rfl, gr_more (digF_up _ _ _ _) hG hb1 rfl⟩
        | 3, ho, hn, haft =>
          obtain rfl := Option.some.inj ho
          refine .inl ⟨(.int .i64 (d : Int)), wx, ?_, gr_pure hG rfl⟩
          go_simp
        | 4, ho, hn, haft =>
          obtain rfl := Option.some.inj ho
          obtain ⟨v3, h3⟩ := Option.isSome_iff_exists.1 (haft ⟨3, .data⟩ (by simp) rfl)
          obtain rfl : v3 = (.int .i64 (d : Int)) := hG.2 3 v3 h3
          have e32 : ax.tmps.getD 32 undef = (.int .i64 (d : Int)) := hf.come 3 _ 32 _ rfl rfl h3
          refine .inl ⟨(.int .i64 (48 + (d : Int))), wx, ?_, gr_pure hG rfl⟩
          go_simp; rw [IntWalk.i64_in _ (by omega)]
        | 5, ho, hn, haft =>
          obtain rfl := Option.some.inj ho
          obtain ⟨v4, h4⟩ := Option.isSome_iff_exists.1 (haft ⟨4, .data⟩ (by simp) rfl)
          obtain rfl : v4 = (.int .i64 (48 + (d : Int))) := hG.2 4 v4 h4
          have e33 : ax.tmps.getD 33 undef = (.int .i64 (48 + (d : Int))) := hf.come 4 _ 33 _ rfl rfl h4
          refine .inl ⟨(.int .u8 (48 + (d : Int))), wx, ?_, gr_pure hG rfl⟩
          go_simp; first | done | (simp [IntKind.wrap_u8]; omega)
        | 6, ho, hn, haft =>
          obtain rfl := Option.some.inj ho
          obtain ⟨v5, h5⟩ := Option.isSome_iff_exists.1 (haft ⟨5, .data⟩ (by simp) rfl)
          obtain rfl : v5 = (.int .u8 (48 + (d : Int))) := hG.2 5 v5 h5
          have e34 : ax.tmps.getD 34 undef = (.int .u8 (48 + (d : Int))) := hf.come 5 _ 34 _ rfl rfl h5
          refine .inl ⟨.slice (some ⟨wx.heap.size, 0, none⟩) 1 1, wx.alloc (.cells #[.int .u8 (48 + (d : Int))] 5), ?_, gr_more (digF_up _ _ _ _) hG ((Below.refl _ _).alloc (Nat.le_refl _) _) ⟨wx.heap.size, rfl, by rw [World.cell?_alloc_at _ _ _ _ rfl]; rfl⟩⟩
          have e34b := e34
          rw [Array.getD_eq_getD_getElem?] at e34b
          go_simp
        | 7, ho, hn, haft =>
          obtain rfl := Option.some.inj ho
          obtain ⟨v6, h6⟩ := Option.isSome_iff_exists.1 (haft ⟨6, .data⟩ (by simp) rfl)
          have e35 : ax.tmps.getD 35 undef = v6 := hf.come 6 _ 35 _ rfl rfl h6
          obtain ⟨g, rfl, hc⟩ := hG.2 6 v6 h6
          have hcv := HV.out wx g hc
          refine .inl ⟨.string B, wx, ?_, gr_pure hG rfl⟩
          go_simp
        | 8, ho, hn, haft =>
          obtain rfl := Option.some.inj ho
          obtain ⟨v2, h2⟩ := Option.isSome_iff_exists.1 (haft ⟨2, .data⟩ (by simp) rfl)
          obtain rfl : v2 = (.string A) := hG.2 2 v2 h2
          have e31 : ax.tmps.getD 31 undef = (.string A) := hf.come 2 _ 31 _ rfl rfl h2
          obtain ⟨v7, h7⟩ := Option.isSome_iff_exists.1 (haft ⟨7, .data⟩ (by simp) rfl)
          obtain rfl : v7 = (.string B) := hG.2 7 v7 h7
          have e36 : ax.tmps.getD 36 undef = (.string B) := hf.come 7 _ 36 _ rfl rfl h7
          refine .inl ⟨(.string (A ++ B)), wx, ?_, gr_pure hG rfl⟩
          go_simp; first | done | omega
        | 9, ho, hn, haft =>
          obtain rfl := Option.some.inj ho
          obtain ⟨v8, h8⟩ := Option.isSome_iff_exists.1 (haft ⟨8, .data⟩ (by simp) rfl)
          obtain rfl : v8 = (.string (A ++ B)) := hG.2 8 v8 h8
          have e37 : ax.tmps.getD 37 undef = (.string (A ++ B)) := hf.come 8 _ 37 _ rfl rfl h8
          refine .inl ⟨(.string (A ++ B)), wx, ?_, gr_pure hG rfl⟩
          go_simp
        | (i + 10), ho, hn, haft => cases ho
      case hend =>
        intro st wx ax hall hG hf
        obtain ⟨v9, h9⟩ := Option.isSome_iff_exists.1 (hall 9 (by decide))
        obtain rfl : v9 = .string (A ++ B) := hG.2 9 v9 h9
        have hb := Lib.hid hG.1
        obtain ⟨z, hz⟩ : ∃ z : Nat → Value, z = fun i => ax.tmps.getD i undef := ⟨_, rfl⟩
        have hax : ax = ⟨((List.range 38).map z).toArray, ax.defers⟩ := by rw [hz]; exact frame_list (hf.size.trans (by rfl))
        have hde : ax.defers = [] := hf.defers
        rw [hde] at hax
        have hax2 : ax = ⟨#[z 0, z 1, z 2, z 3, z 4, z 5, z 6, z 7, z 8, z 9, z 10, z 11, z 12, z 13, z 14, z 15, z 16, z 17, z 18, z 19, z 20, z 21, z 22, z 23, z 24, z 25, z 26, z 27, z 28, z 29, z 30, z 31, z 32, z 33, z 34, z 35, z 36, z 37], []⟩ := hax
        have z2 : z 2 = .string (A ++ B) := by rw [hz]; exact hf.come 9 _ 2 _ rfl rfl h9
        clear hz hax hde
        subst hax2
        rw [z2]
        clear hf hG hall z2 h9
        go_wp2_with fail
        go_ret
        exact ⟨ret_str HE.out, hb.out⟩
    · have hr2 : n.tmod 10 = (d : Int) := by rw [HR.out]; split <;> omega
      have hd0 : ¬ (d : Int) < 0 := by omega
      clear hp HR
      go_enter Tryd.func31, Tryd.ntmps31
      go_wp2_with fail
      refine wp_region_relyC (Gr w (digF n A B d)) (by kernel_rfl) (by kernel_rfl) ⟨(Below.refl _ _).drew, fun j v h => by cases h⟩ ?hstep ?hend
      case hstep =>
        intro st wx i o ax ho hn haft hG hf
        have f0 : ax.tmps.getD 0 undef = .int .i64 n := frame_stay hf (by kernel_rfl)
        have f3 : ax.tmps.getD 3 undef = .int .i64 (d : Int) := frame_stay hf (by kernel_rfl)
        match i, ho, hn, haft with
        | 0, ho, hn, haft =>
          obtain rfl := Option.some.inj ho
          refine .inl ⟨(.int .i64 n), wx, ?_, gr_pure hG rfl⟩
          go_simp
        | 1, ho, hn, haft =>
          obtain rfl := Option.some.inj ho
          obtain ⟨v0, h0⟩ := Option.isSome_iff_exists.1 (haft ⟨0, .data⟩ (by simp) rfl)
          obtain rfl : v0 = (.int .i64 n) := hG.2 0 v0 h0
          have e29 : ax.tmps.getD 29 undef = (.int .i64 n) := hf.come 0 _ 29 _ rfl rfl h0
          refine .inl ⟨(.int .i64 (n.tdiv 10)), wx, ?_, gr_pure hG rfl⟩
          go_simp; exact HQ.out
        | 2, ho, hn, haft =>
          obtain rfl := Option.some.inj ho
          obtain ⟨v1, h1⟩ := Option.isSome_iff_exists.1 (haft ⟨1, .data⟩ (by simp) rfl)
          obtain rfl : v1 = (.int .i64 (n.tdiv 10)) := hG.2 1 v1 h1
          have e30 : ax.tmps.getD 30 undef = (.int .i64 (n.tdiv 10)) := hf.come 1 _ 30 _ rfl rfl h1
          refine .inr (.inr ⟨31, #[.int .i64 (n.tdiv 10)], _, by go_simp, HC.out wx, ?_⟩)
          rintro e w1 ⟨rfl, hb1⟩
          exact ⟨_, rfl, gr_more (digF_up _ _ _ _) hG hb1 rfl⟩
        | 3, ho, hn, haft =>
          obtain rfl := Option.some.inj ho
          refine .inl ⟨(.int .i64 (d : Int)), wx, ?_, gr_pure hG rfl⟩
          go_simp
        | 4, ho, hn, haft =>
          obtain rfl := Option.some.inj ho
          obtain ⟨v3, h3⟩ := Option.isSome_iff_exists.1 (haft ⟨3, .data⟩ (by simp) rfl)
          obtain rfl : v3 = (.int .i64 (d : Int)) := hG.2 3 v3 h3
          have e32 : ax.tmps.getD 32 undef = (.int .i64 (d : Int)) := hf.come 3 _ 32 _ rfl rfl h3
          refine .inl ⟨(.int .i64 (48 + (d : Int))), wx, ?_, gr_pure hG rfl⟩
          go_simp; rw [IntWalk.i64_in _ (by omega)]
        | 5, ho, hn, haft =>
          obtain rfl := Option.some.inj ho
          obtain ⟨v4, h4⟩ := Option.isSome_iff_exists.1 (haft ⟨4, .data⟩ (by simp) rfl)
          obtain rfl : v4 = (.int .i64 (48 + (d : Int))) := hG.2 4 v4 h4
          have e33 : ax.tmps.getD 33 undef = (.int .i64 (48 + (d : Int))) := hf.come 4 _ 33 _ rfl rfl h4
          refine .inl ⟨(.int .u8 (48 + (d : Int))), wx, ?_, gr_pure hG rfl⟩
          go_simp; first | done | (simp [IntKind.wrap_u8]; omega)
        | 6, ho, hn, haft =>
          obtain rfl := Option.some.inj ho
          obtain ⟨v5, h5⟩ := Option.isSome_iff_exists.1 (haft ⟨5, .data⟩ (by simp) rfl)
          obtain rfl : v5 = (.int .u8 (48 + (d : Int))) := hG.2 5 v5 h5
          have e34 : ax.tmps.getD 34 undef = (.int .u8 (48 + (d : Int))) := hf.come 5 _ 34 _ rfl rfl h5
          refine .inl ⟨.slice (some ⟨wx.heap.size, 0, none⟩) 1 1, wx.alloc (.cells #[.int .u8 (48 + (d : Int))] 5), ?_, gr_more (digF_up _ _ _ _) hG ((Below.refl _ _).alloc (Nat.le_refl _) _) ⟨wx.heap.size, rfl, by rw [World.cell?_alloc_at _ _ _ _ rfl]; rfl⟩⟩
          have e34b := e34
          rw [Array.getD_eq_getD_getElem?] at e34b
          go_simp
        | 7, ho, hn, haft =>
          obtain rfl := Option.some.inj ho
          obtain ⟨v6, h6⟩ := Option.isSome_iff_exists.1 (haft ⟨6, .data⟩ (by simp) rfl)
          have e35 : ax.tmps.getD 35 undef = v6 := hf.come 6 _ 35 _ rfl rfl h6
          obtain ⟨g, rfl, hc⟩ := hG.2 6 v6 h6
          have hcv := HV.out wx g hc
          refine .inl ⟨.string B, wx, ?_, gr_pure hG rfl⟩
          go_simp
        | 8, ho, hn, haft =>
          obtain rfl := Option.some.inj ho
          obtain ⟨v2, h2⟩ := Option.isSome_iff_exists.1 (haft ⟨2, .data⟩ (by simp) rfl)
          obtain rfl : v2 = (.string A) := hG.2 2 v2 h2
          have e31 : ax.tmps.getD 31 undef = (.string A) := hf.come 2 _ 31 _ rfl rfl h2
          obtain ⟨v7, h7⟩ := Option.isSome_iff_exists.1 (haft ⟨7, .data⟩ (by simp) rfl)
          obtain rfl : v7 = (.string B) := hG.2 7 v7 h7
          have e36 : ax.tmps.getD 36 undef = (.string B) := hf.come 7 _ 36 _ rfl rfl h7
          refine .inl ⟨(.string (A ++ B)), wx, ?_, gr_pure hG rfl⟩
          go_simp; first | done | omega
        | 9, ho, hn, haft =>
          obtain rfl := Option.some.inj ho
          obtain ⟨v8, h8⟩ := Option.isSome_iff_exists.1 (haft ⟨8, .data⟩ (by simp) rfl)
          obtain rfl : v8 = (.string (A ++ B)) := hG.2 8 v8 h8
          have e37 : ax.tmps.getD 37 undef = (.string (A ++ B)) := hf.come 8 _ 37 _ rfl rfl h8
          refine .inl ⟨(.string (A ++ B)), wx, ?_, gr_pure hG rfl⟩
          go_simp
        | (i + 10), ho, hn, haft => cases ho
      case hend =>
        intro st wx ax hall hG hf
        obtain ⟨v9, h9⟩ := Option.isSome_iff_exists.1 (hall 9 (by decide))
        obtain rfl : v9 = .string (A ++ B) := hG.2 9 v9 h9
        have hb := Lib.hid hG.1
        obtain ⟨z, hz⟩ : ∃ z : Nat → Value, z = fun i => ax.tmps.getD i undef := ⟨_, rfl⟩
        have hax : ax = ⟨((List.range 38).map z).toArray, ax.defers⟩ := by rw [hz]; exact frame_list (hf.size.trans (by rfl))
        have hde : ax.defers = [] := hf.defers
        rw [hde] at hax
        have hax2 : ax = ⟨#[z 0, z 1, z 2, z 3, z 4, z 5, z 6, z 7, z 8, z 9, z 10, z 11, z 12, z 13, z 14, z 15, z 16, z 17, z 18, z 19, z 20, z 21, z 22, z 23, z 24, z 25, z 26, z 27, z 28, z 29, z 30, z 31, z 32, z 33, z 34, z 35, z 36, z 37], []⟩ := hax
        have z2 : z 2 = .string (A ++ B) := by rw [hz]; exact hf.come 9 _ 2 _ rfl rfl h9
        clear hz hax hde
        subst hax2
        rw [z2]
        clear hf hG hall z2 h9
        go_wp2_with fail
        go_ret
        exact ⟨ret_str HE.out, hb.out⟩
theorem digits_any : ∀ (k : Nat) (n : Int), n.natAbs ≤ k → -9223372036854775808 ≤ n → n ≤ 9223372036854775807 → ∀ w, Calls Tryd.prog 31 #[.int .i64 n] w fun e w' => e = .returned (.string ⟨(Lib.itoa n).toArray⟩) ∧ Below w.heap.size w w' := by
  intro k
  induction k with
  | zero => intro n hk _ _ w; exact digits_small n w ⟨by omega, by omega⟩
  | succ k ih =>
    intro n hk h0 h1 w
    by_cases h : -9 ≤ n ∧ n ≤ 9
    · exact digits_small n w h
    · have hlt := (Vl.itoa_step n h).2
      exact digits_great n h0 h1 h (ih _ (by omega) (by omega) (by omega)) (Nat.le_trans (Lib.itoa_length_le _ (by omega) (by omega)) (by decide)) w
end Go.Proofs.YtpniegglbglbcaaDoor
