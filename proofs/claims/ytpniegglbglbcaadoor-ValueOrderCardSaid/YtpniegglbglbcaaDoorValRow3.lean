/-
  Layer 12: a row's bytes, the program's; whether two rows are the same.
-/
import Derived.Test.YtpniegglbglbcaaDoorValRow2
import Derived.Test.YtpniegglbglbcaaDoorBldF
namespace Go.Proofs.YtpniegglbglbcaaDoor
open Go.RowKit
/-- what Row tells -/
def rowB (L : List Vl.V) : ByteArray := if AllRight L then Vl.row L else Vl.mt
def rowE (L : List Vl.V) : Int := if AllRight L then 0 else 2
theorem row_yes {L : List Vl.V} (h : AllRight L) : rowB L = Vl.row L ∧ rowE L = 0 := ⟨if_pos h, if_pos h⟩
theorem row_no {L : List Vl.V} (h : ¬ AllRight L) : rowB L = Vl.mt ∧ rowE L = 2 := ⟨if_neg h, if_neg h⟩
theorem list_of (A : ByteArray) : (⟨A.data.toList.toArray⟩ : ByteArray) = A := by apply Sl.ba_ext; rfl
set_option maxRecDepth 100000 in
set_option maxHeartbeats 3200000 in
theorem row12_any (a : Option Addr) (L : List Vl.V) (c : Nat) (w : World) (hr : ReadsV w a L) (hL : L.length ≤ 1000) (hS : ∀ x ∈ L, Fits x) :
    Calls Tryd.prog 20 #[.slice a L.length c] w fun e w' => e = .returned (.tuple #[.string (rowB L), .int .i64 (rowE L)]) ∧ Below w.heap.size w w' := by
  have hN := Oct.numB_len (L.length : Int) (by omega) (by omega)
  have cN := fun w => num_any (L.length : Int) w (by omega) (by omega)
  have hz := rowTo_zero L
  have hsz := fun k hA => rowTo_size L k hL hA hS
  rw [← hz] at cN
  have hb0 := (Below.refl w.heap.size w).alloc (Nat.le_refl _) (.cells #[.pointer none, .slice none 0 0] 62)
  have hbf := bldf_fresh w
  have hs0 := World.size_alloc w (.cells #[.pointer none, .slice none 0 0] 62)
  have HC := Lib.hid (And.intro cN (And.intro hb0 (And.intro hbf hs0)))
  clear cN hz hb0 hbf hs0
  go_enter Tryd.func20, Tryd.ntmps20
  go_wp2_with fail
  refine (HC.out.1 _).mono ?_
  rintro e w1 ⟨rfl, hb1⟩
  have hb1' := HC.out.2.1.trans (hb1.mono (by rw [HC.out.2.2.2]; omega))
  have H1 := Lib.hid (And.intro (bldf_below HC.out.2.2.1 hb1) hb1')
  have hsz1 := hb1'.size
  clear hb1 hb1'
  go_wp2_with fail
  refine (bldf_text _ _ _ _ _ H1.out.1 (by have h0 := hsz 0 (allRight_zero L); simp; omega) hsz1).mono ?_
  rintro e w2 ⟨rfl, hbl, hb2, _⟩
  have H2 := Lib.hid (And.intro hbl (H1.out.2.trans hb2))
  clear hbl hb2
  go_wp2_with fail
  go_loopw [6, 7, 14] (fun _ _ i wr => ∃ (k : Nat), k ≤ L.length ∧ i = .int .i64 (k : Int) ∧ Hid (AllRight (L.take k) ∧ BldF wr w.heap.size w.heap.size (rowTo L k).data.toList ∧ Below w.heap.size w wr)) (fun _ _ i _ => L.length - (intOf i).toNat)
  case atStart => exact ⟨0, Nat.zero_le _, rfl, Lib.hid ⟨allRight_zero L, by have h := H2.out.1; rw [List.nil_append] at h; exact h, H2.out.2⟩⟩
  case round =>
    obtain ⟨k, hk, rfl, HI⟩ := hrel
    by_cases hlt : k < L.length
    · obtain ⟨b, off, rfl, c0, c1, c2⟩ := readsV_at (readsV_below hr HI.out.2.2) k hlt
      have hf := hS _ (List.getElem_mem hlt)
      have cK := fun wx => check12_any L[k] wx
      have HX2 := rowTo_next L k hlt
      have hXs := hsz k HI.out.1
      have HY := allRight_not hlt
      have HZ := allRight_take HI.out.1 hlt
      have cB := fun (hxr : Vl.right L[k]) wx => bytesOf12_any L[k] hxr hf.1 hf.2.1 wx
      have hbs := fun (hxr : Vl.right L[k]) => Vl.bytes_size (v := L[k]) hxr hf.1 hf.2.1
      obtain ⟨r0, b0, s0⟩ := val_new L[k] wr
      generalize hx : L[k] = x at *
      obtain ⟨vk, vn, vs⟩ := x
      have hbx := bldf_below HI.out.2.1 b0
      have hbw := HI.out.2.2.trans (b0.mono HI.out.2.2.size)
      have hbox := fun (w1 : World) (hb : Below (wr.alloc (.cells (valC ⟨vk, vn, vs⟩) 24)).heap.size (wr.alloc (.cells (valC ⟨vk, vn, vs⟩) 24)) w1) => box12_at ⟨vk, vn, vs⟩ hb
      by_cases hr1 : Vl.right ⟨vk, vn, vs⟩
      · rw [checkE_ok hr1] at cK
        have cB := cB hr1
        have hbs := hbs hr1
        generalize Vl.bytes _ = BX at *
        have HR := Lib.hid (And.intro cK (And.intro cB (And.intro HX2 (And.intro (HZ hr1) (And.intro hbx (And.intro hbw hbox))))))
        clear cK cB HX2 HZ HY hr1 hx hf hbx hbw hbox r0 b0 s0
        go_wp2_with fail
        refine (HR.out.1 _).mono ?_
        rintro e w3 ⟨rfl, hb3⟩
        obtain ⟨q0, q1, q2, hbb⟩ := HR.out.2.2.2.2.2.2 w3 hb3
        have H3 := Lib.hid (And.intro (bldf_below HI.out.2.1 hbb) (HI.out.2.2.trans (hbb.mono HI.out.2.2.size)))
        clear hb3 hbb
        go_wp2_with fail
        refine (HR.out.2.1 _).mono ?_
        rintro e w4 ⟨rfl, hb4⟩
        have H4 := Lib.hid (And.intro (bldf_below H3.out.1 hb4) (H3.out.2.trans (hb4.mono H3.out.2.size)))
        have hsz4 := H4.out.2.size
        clear hb4
        go_wp2_with fail
        refine (bldf_text _ _ _ _ _ H4.out.1 (by rw [Array.length_toList]; show (rowTo L k).size + _ ≤ _; omega) hsz4).mono ?_
        rintro e w5 ⟨rfl, hbl, hb5, _⟩
        have hbl2 : BldF w5 w.heap.size w.heap.size (rowTo L (k + 1)).data.toList := by rw [HR.out.2.2.1, ByteArray.data_append, Array.toList_append]; exact hbl
        have H5 := Lib.hid (And.intro HR.out.2.2.2.1 (And.intro hbl2 (H4.out.2.trans hb5)))
        clear hbl hb5 hbl2
        go_wp2_with fail
        go_roundw
        case rel => exact ⟨k + 1, by omega, by go_num, H5⟩
        case measure => simp [intOf]; omega
      · rw [checkE_bad hr1] at cK
        have HR := Lib.hid (And.intro cK (And.intro (row_no (HY hr1)) (And.intro hbw hbox)))
        clear cK cB HX2 HZ HY hr1 hx hf hbx hbw hbox r0 b0 s0
        go_wp2_with fail
        refine (HR.out.1 _).mono ?_
        rintro e w3 ⟨rfl, hb3⟩
        obtain ⟨q0, q1, q2, hbb⟩ := HR.out.2.2.2 w3 hb3
        have H3 := Lib.hid (HI.out.2.2.trans (hbb.mono HI.out.2.2.size))
        clear hb3 hbb
        go_wp2_with fail
        go_ret2
        exact ⟨by rw [HR.out.2.1.1, HR.out.2.1.2]; rfl, H3.out⟩
    · have hsz4 := HI.out.2.2.size
      have HF := Lib.hid (And.intro (rowTo_end L k hlt) (row_yes (allRight_full HI.out.1 hlt)))
      go_wp2_with fail
      refine (bldf_string _ _ _ _ HI.out.2.1 hsz4).mono ?_
      rintro e w5 ⟨rfl, hb5⟩
      have H5 := Lib.hid (HI.out.2.2.trans hb5)
      clear hb5
      rw [list_of, HF.out.1]
      go_wp2_with fail
      go_ret2
      exact ⟨by rw [HF.out.2.1, HF.out.2.2]; rfl, H5.out⟩
theorem same_take {L M : List Vl.V} {k : Nat} (h : L.take k = M.take k) (h1 : k < L.length) (h2 : k < M.length) (hx : L[k] = M[k]) : L.take (k + 1) = M.take (k + 1) := by
  rw [List.take_succ_eq_append_getElem h1, List.take_succ_eq_append_getElem h2, h, hx]
theorem same_full {L M : List Vl.V} {k : Nat} (h : L.take k = M.take k) (hl : L.length = M.length) (hk : ¬ k < L.length) : L = M := by
  rwa [List.take_of_length_le (by omega), List.take_of_length_le (by omega)] at h
theorem same_not {L M : List Vl.V} {k : Nat} (h1 : k < L.length) (h2 : k < M.length) (hx : ¬ L[k] = M[k]) : ¬ L = M := fun e => by subst e; exact hx rfl
open Classical in
set_option maxRecDepth 100000 in
set_option maxHeartbeats 3200000 in
theorem sameRow12_any (a a' : Option Addr) (L M : List Vl.V) (c c' : Nat) (w : World) (hr : ReadsV w a L) (hr' : ReadsV w a' M) (hL : L.length ≤ maxLen) :
    Calls Tryd.prog 19 #[.slice a L.length c, .slice a' M.length c'] w fun e w' => e = .returned (.bool (decide (L = M))) ∧ Below w.heap.size w w' := by
  unfold maxLen at hL
  by_cases hl : L.length = M.length
  · go_enter Tryd.func19, Tryd.ntmps19
    have t : (((L.length : Nat) : Int) != ((M.length : Nat) : Int)) = false := by simp [hl]
    have HL := Lib.hid hl
    clear hl
    go_wp2_with fail
    go_loopw [5] (fun i wr => ∃ k : Nat, k ≤ L.length ∧ i = .int .i64 (k : Int) ∧ Hid (L.take k = M.take k) ∧ Hid (Below w.heap.size w wr)) (fun i _ => L.length - (intOf i).toNat)
    case atStart => exact ⟨0, Nat.zero_le _, rfl, Lib.hid rfl, Lib.hid (Below.refl _ _)⟩
    case round =>
      obtain ⟨k, hk, rfl, HE, HI⟩ := hrel
      by_cases hlt : k < L.length
      · have hlt2 : k < M.length := by have := HL.out; omega
        obtain ⟨b, off, rfl, c0, c1, c2⟩ := readsV_at (readsV_below hr HI.out) k hlt
        obtain ⟨b', off', rfl, d0, d1, d2⟩ := readsV_at (readsV_below hr' HI.out) k hlt2
        have hX := same_take HE.out hlt hlt2
        have hY := same_not hlt hlt2
        generalize hx : L[k] = x at *
        generalize hy : M[k] = y at *
        obtain ⟨vk, vn, vs⟩ := x
        obtain ⟨uk, un, us⟩ := y
        have hbd : (off : Int) + 0 = off := by omega
        clear hbd
        by_cases e0 : vk = uk
        · subst e0
          by_cases e1 : vn = un
          · subst e1
            by_cases e2 : vs = us
            · subst e2
              have HS := Lib.hid (hX rfl)
              clear hX hY hx hy
              go_wp2_with fail
              go_quiet (fail)
              go_wp2
              go_roundw
              case rel => exact ⟨k + 1, by omega, by go_num, HS, Lib.hid (below_drewN HI.out _)⟩
              case measure => simp [intOf]; omega
            · have HN := Lib.hid (hY fun e => e2 (congrArg Vl.V.s e))
              have s1 : ¬ vs.toList = us.toList := fun e => e2 (Sl.ba_ext (by rw [← ByteArray.toList_eq, ← ByteArray.toList_eq]; exact e))
              have s2 : (vs.toList == us.toList) = false := by simpa using s1
              have s3 : (vs.toList != us.toList) = true := by simpa using s1
              clear hX hY hx hy e2
              go_wp2_with fail
              go_quiet (fail)
              go_wp2
              go_ret
              exact ⟨ret_bool (decide_eq_false HN.out).symm, below_drewN HI.out _⟩
          · have HN := Lib.hid (hY fun e => e1 (congrArg Vl.V.n e))
            have s2 : (vn == un) = false := by simpa using e1
            clear hX hY hx hy
            go_wp2_with fail
            go_quiet (fail)
            go_wp2
            go_ret
            exact ⟨ret_bool (decide_eq_false HN.out).symm, below_drewN HI.out _⟩
        · have HN := Lib.hid (hY fun e => e0 (congrArg Vl.V.kind e))
          have s2 : (vk == uk) = false := by simpa using e0
          clear hX hY hx hy
          go_wp2_with fail
          go_quiet (fail)
          go_wp2
          go_ret
          exact ⟨ret_bool (decide_eq_false HN.out).symm, below_drewN HI.out _⟩
      · have HF := Lib.hid (same_full HE.out HL.out hlt)
        go_wp2_with fail
        go_ret
        exact ⟨ret_bool (decide_eq_true HF.out).symm, HI.out⟩
  · have t : ((L.length : Int) == (M.length : Int)) = false := by simp; omega
    have HN := Lib.hid (show ¬ L = M from fun e => hl (by rw [e]))
    go_enter Tryd.func19, Tryd.ntmps19
    go_wp2_with fail
    go_ret
    exact ⟨ret_bool (decide_eq_false HN.out).symm, Below.refl _ _⟩
end Go.Proofs.YtpniegglbglbcaaDoor
