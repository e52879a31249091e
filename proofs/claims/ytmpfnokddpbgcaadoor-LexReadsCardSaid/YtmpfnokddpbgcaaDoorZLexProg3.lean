/-
  Layer 13, the program's: texts.
-/
import Derived.Test.YtmpfnokddpbgcaaDoorZLexProg2
import Derived.Test.YtmpfnokddpbgcaaDoorZLexTxt
import Derived.Test.YtmpfnokddpbgcaaDoorPk1
import Derived.BigQuiet
namespace Go.Proofs.YtmpfnokddpbgcaaDoor
open Go.RowKit
/-- the loop's world: the result's box, the builder -/
structure TxtAt (w : World) (acc : List UInt8) (wr : World) : Prop where
  box : RowV wr w.heap.size 33 (tokC Lx.no).toList
  bld : BldF wr (w.heap.size + 1) (w.heap.size + 1) acc
  bel : Below w.heap.size w wr
  siz : w.heap.size + 1 ≤ wr.heap.size
theorem txtAt_next {w wr w' : World} {acc acc' : List UInt8} (h : TxtAt w acc wr) (hb : BldF w' (w.heap.size + 1) (w.heap.size + 1) acc') (hk : Below (w.heap.size + 1) wr w') : TxtAt w acc' w' :=
  ⟨rowV_below h.box hk (Nat.lt_succ_self _), hb, h.bel.trans (hk.mono (Nat.le_succ _)), Nat.le_trans h.siz hk.size⟩
theorem txtAt_start (w : World) : TxtAt w [] ((w.alloc (.cells (tokC Lx.no) 33)).alloc (.cells #[.pointer none, .slice none 0 0] 57)) := by
  obtain ⟨r0, b0, s0⟩ := tok_new Lx.no w
  have hb := bldf_fresh (w.alloc (.cells (tokC Lx.no) 33))
  rw [s0] at hb
  exact ⟨rowV_alloc r0 _, hb, b0.alloc (by rw [s0]; omega) _, by rw [World.size_alloc, s0]; omega⟩
set_option maxRecDepth 100000 in
set_option maxHeartbeats 6400000 in
theorem text13_any (s : ByteArray) (w : World) (hs : s.size ≤ 1000000) :
    Calls Tryd.prog 31 #[.string s] w fun e w' => e = .returned (.tuple #[tokV (Lx.txtT s.data.toList).1, .int .i64 ((Lx.txtT s.data.toList).2.1 : Nat), .int .i64 (Lx.txtT s.data.toList).2.2]) ∧ Below w.heap.size w w' := by
  have HS := Lib.hid (txtAt_start w)
  go_enter Tryd.func31, Tryd.ntmps31
  go_wp2_with fail
  go_loopw [6] (fun i wr => ∃ (k : Nat) (acc : List UInt8), i = .int .i64 (k : Int) ∧ k ≤ s.size + 1 ∧ Hid (TxtTo s k acc) ∧ Hid (TxtAt w acc wr)) (fun i _ => s.size + 1 - (intOf i).toNat)
  case atStart => exact ⟨1, [], rfl, by omega, Lib.hid (txtTo_start s), HS⟩
  case round =>
    obtain ⟨k, acc, rfl, hle, HI, HT⟩ := hrel
    have hal := HI.out.len
    by_cases hlt : k < s.size
    · obtain ⟨c, hcc⟩ : ∃ c, c = s[k] := ⟨_, rfl⟩
      have c256 := c.toNat_lt
      by_cases h34 : s[k] = 34
      · have hres := txtTo_quote HI.out hlt h34
        have t1 : ((s[k].toNat : Int) == 34) = true := by rw [h34]; rfl
        have cL := bldf_len _ _ _ wr HT.out.bld
        by_cases h40 : 40 < acc.length
        · have HN := Lib.hid (hres.trans (if_pos h40))
          have HC := Lib.hid cL
          have t2 : decide ((acc.length : Int) > 40) = true := decide_eq_true (by omega)
          clear hres h34 hcc cL
          obtain ⟨a0, a1, a2, a3, g0, g1, g2, g3⟩ := tok_cells HT.out.box
          go_wp2_with fail
          refine HC.out.mono ?_
          rintro e w1 ⟨rfl, rfl⟩
          go_wp2_with fail
          rw [HN.out]
          exact bodyPost_ret (v := .tuple #[tokV ⟨0, Vl.mt, 0, 0⟩, .int .i64 0, .int .i64 5]) (results_tok (p := 2) (u := 3) (x := 4) rfl _ _ w.heap.size ⟨0, Vl.mt, 0, 0⟩ rfl (tok_put (v := Lx.no) HT.out.box 0 Vl.mt 0 0).1) rfl ⟨by push_cast; rfl, HT.out.bel.trans ((tok_put (v := Lx.no) HT.out.box 0 Vl.mt 0 0).2 _ (Nat.le_refl _))⟩
        · have HN := Lib.hid (hres.trans (if_neg h40))
          have HC := Lib.hid (And.intro cL (bldf_string _ _ acc wr HT.out.bld HT.out.siz))
          have t2 : decide ((acc.length : Int) > 40) = false := decide_eq_false (by omega)
          clear hres h34 hcc cL
          go_wp2_with fail
          refine HC.out.1.mono ?_
          rintro e w1 ⟨rfl, rfl⟩
          go_wp2_with fail
          refine HC.out.2.mono ?_
          rintro e w1 ⟨rfl, hb1⟩
          have hbox := rowV_below HT.out.box hb1 (Nat.lt_succ_self _)
          have hbel := HT.out.bel.trans (hb1.mono (Nat.le_succ _))
          obtain ⟨a0, a1, a2, a3, g0, g1, g2, g3⟩ := tok_cells hbox
          have HB := Lib.hid (And.intro hbox hbel)
          clear hb1 hbox hbel
          go_wp2_with fail
          rw [HN.out]
          exact bodyPost_ret (v := .tuple #[tokV ⟨3, Lx.mk acc, 0, 0⟩, .int .i64 ((k : Int) + 1), .int .i64 0]) (results_tok (p := 2) (u := 3) (x := 4) rfl _ _ w.heap.size ⟨3, Lx.mk acc, 0, 0⟩ rfl (tok_put (v := Lx.no) HB.out.1 3 (Lx.mk acc) 0 0).1) rfl ⟨by push_cast; rfl, HB.out.2.trans ((tok_put (v := Lx.no) HB.out.1 3 (Lx.mk acc) 0 0).2 _ (Nat.le_refl _))⟩
      · have t1 : ((s[k].toNat : Int) == 34) = false := by
          have : ¬ s[k].toNat = 34 := fun e => h34 (UInt8.toNat_inj.1 e)
          simp; omega
        by_cases hb : s[k].toNat < 32 ∨ 126 < s[k].toNat
        · have h92 : ¬ s[k] = 92 := fun e => by rw [e] at hb; revert hb; decide
          have HN := Lib.hid (txtTo_bad HI.out hlt h34 h92 hb)
          have t3 : decide ((s[k].toNat : Int) < 32) = true ∨ (decide ((s[k].toNat : Int) < 32) = false ∧ decide (126 < (s[k].toNat : Int)) = true) := by
            by_cases h : s[k].toNat < 32
            · exact .inl (decide_eq_true (by omega))
            · exact .inr ⟨decide_eq_false (by omega), decide_eq_true (by omega)⟩
          clear h34 h92 hcc hb
          rcases t3 with t3 | ⟨t3, t3'⟩
          · obtain ⟨a0, a1, a2, a3, g0, g1, g2, g3⟩ := tok_cells HT.out.box
            go_wp2_with fail
            rw [HN.out]
            exact bodyPost_ret (v := .tuple #[tokV ⟨0, Vl.mt, 0, 0⟩, .int .i64 0, .int .i64 11]) (results_tok (p := 2) (u := 3) (x := 4) rfl _ _ w.heap.size ⟨0, Vl.mt, 0, 0⟩ rfl (tok_put (v := Lx.no) HT.out.box 0 Vl.mt 0 0).1) rfl ⟨by push_cast; rfl, HT.out.bel.trans ((tok_put (v := Lx.no) HT.out.box 0 Vl.mt 0 0).2 _ (Nat.le_refl _))⟩
          · obtain ⟨a0, a1, a2, a3, g0, g1, g2, g3⟩ := tok_cells HT.out.box
            go_wp2_with fail
            rw [HN.out]
            exact bodyPost_ret (v := .tuple #[tokV ⟨0, Vl.mt, 0, 0⟩, .int .i64 0, .int .i64 11]) (results_tok (p := 2) (u := 3) (x := 4) rfl _ _ w.heap.size ⟨0, Vl.mt, 0, 0⟩ rfl (tok_put (v := Lx.no) HT.out.box 0 Vl.mt 0 0).1) rfl ⟨by push_cast; rfl, HT.out.bel.trans ((tok_put (v := Lx.no) HT.out.box 0 Vl.mt 0 0).2 _ (Nat.le_refl _))⟩
        · have t3 : decide ((s[k].toNat : Int) < 32) = false := decide_eq_false (by omega)
          have t4 : decide (126 < (s[k].toNat : Int)) = false := decide_eq_false (by omega)
          by_cases h92 : s[k] = 92
          · have t2 : ((s[k].toNat : Int) == 92) = true := by rw [h92]; rfl
            by_cases he : k + 1 = s.size
            · have HN := Lib.hid (txtTo_slash0 HI.out hlt h92 he)
              have t5 : (((k : Int) + 1) == (s.size : Int)) = true := by simp; omega
              clear h34 h92 hcc he hb
              obtain ⟨a0, a1, a2, a3, g0, g1, g2, g3⟩ := tok_cells HT.out.box
              go_wp2_with fail
              rw [HN.out]
              exact bodyPost_ret (v := .tuple #[tokV ⟨0, Vl.mt, 0, 0⟩, .int .i64 0, .int .i64 11]) (results_tok (p := 2) (u := 3) (x := 4) rfl _ _ w.heap.size ⟨0, Vl.mt, 0, 0⟩ rfl (tok_put (v := Lx.no) HT.out.box 0 Vl.mt 0 0).1) rfl ⟨by push_cast; rfl, HT.out.bel.trans ((tok_put (v := Lx.no) HT.out.box 0 Vl.mt 0 0).2 _ (Nat.le_refl _))⟩
            · have he2 : k + 1 < s.size := by omega
              have t5 : (((k : Int) + 1) == (s.size : Int)) = false := by simp; omega
              by_cases hd : s[k + 1] = 34 ∨ s[k + 1] = 92
              · have HN := Lib.hid (txtTo_slash HI.out hlt h92 he2 hd)
                have t6 : ((s[k + 1].toNat : Int) != 34) = false ∨ (((s[k + 1].toNat : Int) != 34) = true ∧ ((s[k + 1].toNat : Int) != 92) = false) := by
                  rcases hd with hd | hd
                  · exact .inl (by rw [hd]; rfl)
                  · exact .inr ⟨by rw [hd]; rfl, by rw [hd]; rfl⟩
                clear h34 h92 hcc hd he hb
                rcases t6 with t6 | ⟨t6, t6'⟩
                · go_wp2_with fail
                  refine (bldf_byte _ _ acc s[k + 1] wr HT.out.bld (by omega) HT.out.siz).mono ?_
                  rintro e w1 ⟨rfl, hb1, hb2, -⟩
                  have HT1 := Lib.hid (txtAt_next HT.out hb1 hb2)
                  clear hb1 hb2
                  go_wp2_with fail
                  go_roundw
                  case rel => exact ⟨k + 1 + 1, _, by go_num, by omega, HN, HT1⟩
                  case measure => simp [intOf]; omega
                · go_wp2_with fail
                  refine (bldf_byte _ _ acc s[k + 1] wr HT.out.bld (by omega) HT.out.siz).mono ?_
                  rintro e w1 ⟨rfl, hb1, hb2, -⟩
                  have HT1 := Lib.hid (txtAt_next HT.out hb1 hb2)
                  clear hb1 hb2
                  go_wp2_with fail
                  go_roundw
                  case rel => exact ⟨k + 1 + 1, _, by go_num, by omega, HN, HT1⟩
                  case measure => simp [intOf]; omega
              · have HN := Lib.hid (txtTo_slash_bad HI.out hlt h92 he2 hd)
                have t6 : ((s[k + 1].toNat : Int) != 34) = true := by
                  have : ¬ s[k + 1].toNat = 34 := fun e => hd (.inl (UInt8.toNat_inj.1 e))
                  simp; omega
                have t7 : ((s[k + 1].toNat : Int) != 92) = true := by
                  have : ¬ s[k + 1].toNat = 92 := fun e => hd (.inr (UInt8.toNat_inj.1 e))
                  simp; omega
                clear h34 h92 hcc hd he hb
                obtain ⟨a0, a1, a2, a3, g0, g1, g2, g3⟩ := tok_cells HT.out.box
                go_wp2_with fail
                rw [HN.out]
                exact bodyPost_ret (v := .tuple #[tokV ⟨0, Vl.mt, 0, 0⟩, .int .i64 0, .int .i64 11]) (results_tok (p := 2) (u := 3) (x := 4) rfl _ _ w.heap.size ⟨0, Vl.mt, 0, 0⟩ rfl (tok_put (v := Lx.no) HT.out.box 0 Vl.mt 0 0).1) rfl ⟨by push_cast; rfl, HT.out.bel.trans ((tok_put (v := Lx.no) HT.out.box 0 Vl.mt 0 0).2 _ (Nat.le_refl _))⟩
          · have t2 : ((s[k].toNat : Int) == 92) = false := by
              have : ¬ s[k].toNat = 92 := fun e => h92 (UInt8.toNat_inj.1 e)
              simp; omega
            have HN := Lib.hid (txtTo_plain HI.out hlt h34 h92 hb)
            clear h34 h92 hcc hb
            go_wp2_with fail
            refine (bldf_byte _ _ acc s[k] wr HT.out.bld (by omega) HT.out.siz).mono ?_
            rintro e w1 ⟨rfl, hb1, hb2, -⟩
            have HT1 := Lib.hid (txtAt_next HT.out hb1 hb2)
            clear hb1 hb2
            go_wp2_with fail
            go_roundw
            case rel => exact ⟨k + 1, _, by go_num, by omega, HN, HT1⟩
            case measure => simp [intOf]; omega
    · have HN := Lib.hid (txtTo_end HI.out hlt)
      obtain ⟨a0, a1, a2, a3, g0, g1, g2, g3⟩ := tok_cells HT.out.box
      go_wp2_with fail
      rw [HN.out]
      exact bodyPost_ret (v := .tuple #[tokV ⟨0, Vl.mt, 0, 0⟩, .int .i64 0, .int .i64 11]) (results_tok (p := 2) (u := 3) (x := 4) rfl _ _ w.heap.size ⟨0, Vl.mt, 0, 0⟩ rfl (tok_put (v := Lx.no) HT.out.box 0 Vl.mt 0 0).1) rfl ⟨by push_cast; rfl, HT.out.bel.trans ((tok_put (v := Lx.no) HT.out.box 0 Vl.mt 0 0).2 _ (Nat.le_refl _))⟩
end Go.Proofs.YtmpfnokddpbgcaaDoor
