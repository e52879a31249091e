/-
  Layer 13: LexAgain walked.
-/
import Derived.Test.YtmpfnokddpbgcaaDoorZLexBackW
import Derived.Test.YtmpfnokddpbgcaaDoorPk2
import Derived.BigQuiet
namespace Go.Proofs.YtmpfnokddpbgcaaDoor
open Go.RowKit
namespace Lx
theorem lex_place : ∀ (k a : Nat) (l : List UInt8), (lex k a l).2.2 ≠ 0 → (lex k a l).1 = [] ∧ ∃ p : Nat, (lex k a l).2.1 = (p : Int) ∧ p ≤ a + l.length
  | 0, _, _, h => absurd rfl h
  | _ + 1, _, [], h => absurd rfl h
  | k + 1, a, c :: r, h => by
    by_cases hc : c = 32
    · subst hc
      rw [lex_blank] at h ⊢
      obtain ⟨h1, p, h2, h3⟩ := lex_place k _ _ h
      exact ⟨h1, p, h2, by rw [List.length_cons]; omega⟩
    · by_cases he : (one (c :: r)).2.2 = 0
      · have hle := (one_ok he).2.2.2.1
        rw [lex_more hc he] at h ⊢
        split
        · rename_i h2
          obtain ⟨h1, p, h4, h3⟩ := lex_place k _ _ h2
          refine ⟨rfl, p, h4, ?_⟩
          rw [List.length_drop] at h3
          omega
        · rename_i h2
          rw [if_neg h2] at h
          exact absurd rfl h
      · rw [lex_err hc he]; exact ⟨rfl, a, rfl, Nat.le_add_right _ _⟩
theorem laid_at {s : List UInt8} {e : Nat} {L : List T} {k : Nat} (hk : k < L.length) (h : Laid s e (L.drop k)) : ∃ a : Nat, L[k].spot = (a : Int) ∧ e ≤ a ∧ a + (textL L[k]).length ≤ s.length ∧ (∀ j, e ≤ j → j < a → s[j]? = some 32) ∧ (s.drop a).take (textL L[k]).length = textL L[k] ∧ right L[k] ∧ L[k].n ≤ maxI ∧ Laid s (a + (textL L[k]).length) (L.drop (k + 1)) := by
  rw [List.drop_eq_getElem_cons hk] at h
  exact h
end Lx
theorem lexS_place {s : ByteArray} (h : (lexS s).2.2 ≠ 0) : (lexS s).1 = [] ∧ ∃ p : Nat, (lexS s).2.1 = (p : Int) ∧ p ≤ s.size := by
  have hl : s.data.toList.length = s.size := Array.length_toList ..
  revert h
  unfold lexS
  split
  · exact fun _ => ⟨rfl, 0, rfl, Nat.zero_le _⟩
  · intro h
    obtain ⟨h1, p, h2, h3⟩ := Lx.lex_place _ _ _ h
    exact ⟨h1, p, h2, by omega⟩
theorem lexS_laid {s : ByteArray} (h : (lexS s).2.2 = 0) : (lexS s).2.1 = 0 ∧ Lx.Laid s.data.toList 0 (lexS s).1 := by
  revert h
  unfold lexS
  split
  · intro h; exact absurd h (by decide)
  · intro h
    have h0 := Lx.lexAt_zero _ _ h
    refine ⟨h0, Lx.lex_laid s.data.toList s.data.toList.length 0 _ (Nat.le_of_eq (Nat.sub_zero _)) (Nat.zero_le _) ?_ 0 (Nat.le_refl _) (fun j _ h2 => by omega)⟩
    rw [List.drop_zero]
    exact Prod.ext rfl (Prod.ext h0 h)
theorem blank_at {s : ByteArray} {j : Nat} (hj : j < s.size) (h : s.data.toList[j]? = some 32) : s[j] = 32 := by
  have hl : j < s.data.toList.length := by simpa using hj
  rw [List.getElem?_eq_getElem hl] at h
  exact Option.some.inj h
/-- what the loop over the tokens knows -/
structure AgainAt (s : ByteArray) (L : List Lx.T) (k e : Nat) (w wr : World) : Prop where
  laid : Lx.Laid s.data.toList e (L.drop k)
  bel : Below w.heap.size w wr
theorem text_right {t : Lx.T} (h : Lx.right t) : Lx.textT t = (Lx.mk (Lx.textL t), 0) := if_pos h
theorem right_small {t : Lx.T} (h : Lx.right t) : t.s.size ≤ 40 ∧ -9223372036854775808 ≤ t.n := by
  obtain ⟨k, s, n, a⟩ := t
  have hl : s.data.toList.length = s.size := Array.length_toList ..
  rcases h with ⟨_, h, _, _, h2⟩ | ⟨_, h, h2⟩ | ⟨_, h, h2⟩ | ⟨_, h, h2⟩
  · have h : n = 0 := h
    have h2 : s.size ≤ 16 := h2
    exact ⟨by show s.size ≤ 40; omega, by show _ ≤ n; omega⟩
  · have h : 0 ≤ n := h
    have h2 : s = Vl.mt := h2
    exact ⟨by show s.size ≤ 40; rw [h2]; decide, by show _ ≤ n; omega⟩
  · have h : n = 0 := h
    exact ⟨h2.1, by show _ ≤ n; omega⟩
  · have h2 : n = 0 := h2
    have hm : ∀ m ∈ Lx.marks, m.length ≤ 40 := by decide
    have h3 : s.data.toList.length ≤ 40 := hm _ h
    exact ⟨by show s.size ≤ 40; omega, by show _ ≤ n; omega⟩
theorem cut_text {s : ByteArray} {a : Nat} {l : List UInt8} (h : (s.data.toList.drop a).take l.length = l) : s.extract a (a + (Lx.mk l).size) = Lx.mk l := by
  have hz : (Lx.mk l).size = l.length := List.size_toArray
  apply Sl.ba_ext
  rw [Sl.ext_list, hz, Nat.add_sub_cancel_left, h]
set_option maxRecDepth 100000 in
set_option maxHeartbeats 25600000 in
theorem LexAgain_walk (s : ByteArray) (_hs : s.size ≤ maxLen) (w : World) (hF : Facts13 w) :
    Calls Tryd.prog 6 #[.string s] w fun e w' => e = .returned (.bool true) ∧ Below w.heap.size w w' := by
  have HF := Lib.hid hF
  clear hF
  by_cases hb : (s.size : Int) > 1000
  · have HL := Lib.hid (lives13_any w HF.out.2)
    go_enter Tryd.func6, Tryd.ntmps6
    go_wp2_with fail
    refine HL.out.mono ?_
    rintro e w1 ⟨rfl, hb1⟩
    have H1 := Lib.hid hb1
    clear hb1
    go_wp2_with fail
    go_ret
    exact ⟨rfl, H1.out⟩
  · have cP := lex13_any s w HF.out.2
    have hC := lexS_count s
    have hE := lexS_place (s := s)
    have hO := lexS_laid (s := s)
    generalize lexS s = T at *
    obtain ⟨L, P, E⟩ := T
    by_cases he : E = 0
    · subst he
      obtain ⟨hP, hlaid⟩ := hO rfl
      have hP : P = 0 := hP
      subst hP
      have hlaid : Lx.Laid s.data.toList 0 L := hlaid
      have hC : L.length ≤ 200 := hC
      have hRt := Lx.laid_right L s.data.toList 0 hlaid
      have H := Lib.hid (And.intro cP (And.intro hlaid hRt))
      have hsl : s.data.toList.length = s.size := Array.length_toList ..
      clear cP hE hO hlaid hRt
      go_enter Tryd.func6, Tryd.ntmps6
      go_wp2_with fail
      refine H.out.1.mono ?_
      rintro e w1 ⟨a, cap, rfl, hr, hcap, hb1⟩
      have H1 := Lib.hid (And.intro hr hb1)
      clear hr hcap hb1
      go_wp2_with fail
      go_loopw [6, 7] (fun en i wr => ∃ (k e : Nat), k ≤ L.length ∧ e ≤ s.size ∧ en = .int .i64 (e : Int) ∧ i = .int .i64 (k : Int) ∧ Hid (AgainAt s L k e w1 wr)) (fun _ i _ => L.length - (intOf i).toNat)
      case atStart => exact ⟨0, 0, Nat.zero_le _, Nat.zero_le _, rfl, rfl, Lib.hid ⟨H.out.2.1, Below.refl _ _⟩⟩
      case round =>
        obtain ⟨k, e, hk, hes, rfl, rfl, HI⟩ := hrel
        by_cases hlt : k < L.length
        · obtain ⟨b, off, rfl, c0, c1, c2, c3⟩ := readsT13_at (readsT13_below H1.out.1 HI.out.bel) k hlt
          obtain ⟨A, hA, heA, hAn, hbl, hcut, hrt, hn, hnext⟩ := Lx.laid_at hlt HI.out.laid
          have hsm := right_small hrt
          have cT := text13t_any L[k] (by omega) hsm.2 hn wr (pow10_below HF.out.1 (H1.out.2.trans (HI.out.bel.mono H1.out.2.size))) (errR_below HF.out.2 (H1.out.2.trans (HI.out.bel.mono H1.out.2.size)))
          rw [text_right hrt] at cT
          have hX := cut_text hcut
          have hTs : (Lx.mk (Lx.textL L[k])).size = (Lx.textL L[k]).length := List.size_toArray
          rw [hA] at c3
          have hne : ¬ (Lx.mk (Lx.textL L[k])).toList = [] := by
            obtain ⟨cc, q, hcc, _⟩ := Lx.text_first hrt
            rw [ByteArray.toList_eq]
            show ¬ Lx.textL L[k] = []
            rw [hcc]; simp
          rw [← hTs] at hAn hnext
          rw [hsl] at hAn
          generalize Lx.mk (Lx.textL L[k]) = TX at *
          generalize L[k] = x at *
          obtain ⟨tk, ts, tn, ta⟩ := x
          have hA : ta = (A : Int) := hA
          subst hA
          have hne2 : TX.toList.isEmpty = false := by simpa using hne
          have hne3 : (TX.toList == []) = false := by simpa using hne
          have g1 : decide ((A : Int) < (e : Int)) = false := decide_eq_false (by omega)
          have g2 : decide ((s.size : Int) - (TX.size : Int) < (A : Int)) = false := decide_eq_false (by omega)
          have g3 : (TX.toList == TX.toList) = true := by simp
          have g4 : (TX.toList != TX.toList) = false := by simp
          have HC := Lib.hid (And.intro cT (And.intro hbl (And.intro hnext hX)))
          have HW : Hid (IntKind.i64.wrap ((s.size : Int) - (TX.size : Int)) = (s.size : Int) - (TX.size : Int) ∧ IntKind.i64.wrap ((A : Int) + (TX.size : Int)) = (A : Int) + (TX.size : Int) ∧ ((A : Int) + (TX.size : Int)).toNat = A + TX.size) := Lib.hid ⟨IntWalk.i64_in _ (by omega), IntWalk.i64_in _ (by omega), by omega⟩
          clear cT hbl hcut hrt hn hnext hTs hsm hne hX
          go_wp2_with fail
          refine HC.out.1.mono ?_
          rintro e2 w3 ⟨rfl, hb3⟩
          have z3 : w3.cell? ⟨b, off + k * 4 + 3, none⟩ = some (.int .i64 (A : Int)) := (hb3.cell (World.block_lt_of_cell? _ _ c3)).trans c3
          have HB := Lib.hid (HI.out.bel.trans (hb3.mono HI.out.bel.size))
          clear hb3 c0 c1 c2 c3
          go_wp2_with fail
          refine wp_region_quiet_tail (C := fun wx => (wx.cell? ⟨b, off + k * 4 + 3, none⟩ = some (.int .i64 (A : Int))) ∧ Hid (Below w3.heap.size w3 wx)) 46 (by kernel_rfl) (by kernel_rfl) ⟨z3, Lib.hid (Below.refl w3.heap.size w3).drew⟩ ?_
          simp only [List.take_succ_cons, List.take_zero, List.drop_succ_cons, List.drop_zero]
          go_big_quiet_want
          go_big_quiet_op
          go_big_quiet_on
          go_big_quiet_want
          refine ⟨(.bool false), fun wx hSx => ?_, ?_⟩
          · obtain ⟨k0, -⟩ := hSx
            go_simp
            try first | done | assumption | rfl
          simp only [Act.put, List.setIfInBounds_toArray, List.set_cons_zero, List.set_cons_succ]
          go_big_quiet_on
          go_big_quiet_want
          go_big_quiet_op
          go_big_quiet_on
          go_big_quiet_want
          go_big_quiet_op
          go_big_quiet_on
          go_big_quiet_want
          refine ⟨(.bool false), fun wx hSx => ?_, ?_⟩
          · obtain ⟨k0, -⟩ := hSx
            go_simp
            try first | done | assumption | rfl
          simp only [Act.put, List.setIfInBounds_toArray, List.set_cons_zero, List.set_cons_succ]
          go_big_quiet_on
          go_big_quiet_want
          refine ⟨(.bool false), fun wx hSx => ?_, ?_⟩
          · obtain ⟨k0, -⟩ := hSx
            go_simp
            try first | done | rfl
          simp only [Act.put, List.setIfInBounds_toArray, List.set_cons_zero, List.set_cons_succ]
          go_big_quiet_on
          go_big_quiet_want
          go_big_quiet_op
          go_big_quiet_on
          go_big_quiet_want
          go_big_quiet_op
          go_big_quiet_on
          go_big_quiet_want
          go_big_quiet_op
          go_big_quiet_on
          go_big_quiet_want
          refine ⟨(.pointer (some ⟨b, off + k * 4, none⟩)), fun wx hSx => ?_, ?_⟩
          · obtain ⟨k0, -⟩ := hSx
            go_simp
            try exact fun hx => absurd hx (by omega)
          simp only [Act.put, List.setIfInBounds_toArray, List.set_cons_zero, List.set_cons_succ]
          go_big_quiet_on
          go_big_quiet_want
          refine ⟨(.pointer (some ⟨b, off + k * 4 + 3, none⟩)), fun wx hSx => ?_, ?_⟩
          · obtain ⟨k0, -⟩ := hSx
            go_simp
            try rfl
          simp only [Act.put, List.setIfInBounds_toArray, List.set_cons_zero, List.set_cons_succ]
          go_big_quiet_on
          go_big_quiet_want
          refine ⟨(.int .i64 (A : Int)), fun wx hSx => ?_, ?_⟩
          · obtain ⟨k0, -⟩ := hSx
            go_simp
            try rfl
          simp only [Act.put, List.setIfInBounds_toArray, List.set_cons_zero, List.set_cons_succ]
          go_big_quiet_on
          go_big_quiet_want
          go_big_quiet_op
          go_big_quiet_on
          go_big_quiet_want
          refine ⟨(.bool false), fun wx hSx => ?_, ?_⟩
          · obtain ⟨k0, -⟩ := hSx
            go_simp
            try first | done | assumption | rfl | omega
          simp only [Act.put, List.setIfInBounds_toArray, List.set_cons_zero, List.set_cons_succ]
          go_big_quiet_on
          go_big_quiet_want
          refine ⟨(.bool false), fun wx hSx => ?_, ?_⟩
          · obtain ⟨k0, -⟩ := hSx
            go_simp
            try first | done | rfl
          simp only [Act.put, List.setIfInBounds_toArray, List.set_cons_zero, List.set_cons_succ]
          go_big_quiet_on
          go_big_quiet_want
          go_big_quiet_op
          go_big_quiet_on
          go_big_quiet_want
          go_big_quiet_op
          go_big_quiet_on
          go_big_quiet_want
          go_big_quiet_op
          go_big_quiet_on
          go_big_quiet_want
          refine ⟨(.pointer (some ⟨b, off + k * 4, none⟩)), fun wx hSx => ?_, ?_⟩
          · obtain ⟨k0, -⟩ := hSx
            go_simp
            try exact fun hx => absurd hx (by omega)
          simp only [Act.put, List.setIfInBounds_toArray, List.set_cons_zero, List.set_cons_succ]
          go_big_quiet_on
          go_big_quiet_want
          refine ⟨(.pointer (some ⟨b, off + k * 4 + 3, none⟩)), fun wx hSx => ?_, ?_⟩
          · obtain ⟨k0, -⟩ := hSx
            go_simp
            try rfl
          simp only [Act.put, List.setIfInBounds_toArray, List.set_cons_zero, List.set_cons_succ]
          go_big_quiet_on
          go_big_quiet_want
          refine ⟨(.int .i64 (A : Int)), fun wx hSx => ?_, ?_⟩
          · obtain ⟨k0, -⟩ := hSx
            go_simp
            try rfl
          simp only [Act.put, List.setIfInBounds_toArray, List.set_cons_zero, List.set_cons_succ]
          go_big_quiet_on
          go_big_quiet_want
          go_big_quiet_op
          go_big_quiet_on
          go_big_quiet_want
          refine ⟨(.int .i64 (s.size : Int)), fun wx hSx => ?_, ?_⟩
          · obtain ⟨k0, -⟩ := hSx
            go_simp
            try first | done | rfl
          simp only [Act.put, List.setIfInBounds_toArray, List.set_cons_zero, List.set_cons_succ]
          go_big_quiet_on
          go_big_quiet_want
          go_big_quiet_op
          go_big_quiet_on
          go_big_quiet_want
          refine ⟨(.int .i64 (TX.size : Int)), fun wx hSx => ?_, ?_⟩
          · obtain ⟨k0, -⟩ := hSx
            go_simp
            try first | done | rfl
          simp only [Act.put, List.setIfInBounds_toArray, List.set_cons_zero, List.set_cons_succ]
          go_big_quiet_on
          go_big_quiet_want
          refine ⟨(.int .i64 ((s.size : Int) - (TX.size : Int))), fun wx hSx => ?_, ?_⟩
          · obtain ⟨k0, -⟩ := hSx
            go_simp
            try exact HW.out.1
          simp only [Act.put, List.setIfInBounds_toArray, List.set_cons_zero, List.set_cons_succ]
          go_big_quiet_on
          go_big_quiet_want
          refine ⟨(.bool false), fun wx hSx => ?_, ?_⟩
          · obtain ⟨k0, -⟩ := hSx
            go_simp
            try first | done | assumption | rfl | omega
          simp only [Act.put, List.setIfInBounds_toArray, List.set_cons_zero, List.set_cons_succ]
          go_big_quiet_on
          go_big_quiet_want
          refine ⟨(.bool false), fun wx hSx => ?_, ?_⟩
          · obtain ⟨k0, -⟩ := hSx
            go_simp
            try first | done | rfl
          simp only [Act.put, List.setIfInBounds_toArray, List.set_cons_zero, List.set_cons_succ]
          go_big_quiet_on
          go_big_quiet_want
          go_big_quiet_op
          go_big_quiet_on
          go_big_quiet_want
          go_big_quiet_op
          go_big_quiet_on
          go_big_quiet_want
          go_big_quiet_op
          go_big_quiet_on
          go_big_quiet_want
          go_big_quiet_op
          go_big_quiet_on
          go_big_quiet_want
          refine ⟨(.pointer (some ⟨b, off + k * 4, none⟩)), fun wx hSx => ?_, ?_⟩
          · obtain ⟨k0, -⟩ := hSx
            go_simp
            try exact fun hx => absurd hx (by omega)
          simp only [Act.put, List.setIfInBounds_toArray, List.set_cons_zero, List.set_cons_succ]
          go_big_quiet_on
          go_big_quiet_want
          refine ⟨(.pointer (some ⟨b, off + k * 4 + 3, none⟩)), fun wx hSx => ?_, ?_⟩
          · obtain ⟨k0, -⟩ := hSx
            go_simp
            try rfl
          simp only [Act.put, List.setIfInBounds_toArray, List.set_cons_zero, List.set_cons_succ]
          go_big_quiet_on
          go_big_quiet_want
          refine ⟨(.int .i64 (A : Int)), fun wx hSx => ?_, ?_⟩
          · obtain ⟨k0, -⟩ := hSx
            go_simp
            try rfl
          simp only [Act.put, List.setIfInBounds_toArray, List.set_cons_zero, List.set_cons_succ]
          go_big_quiet_on
          go_big_quiet_want
          go_big_quiet_op
          go_big_quiet_on
          go_big_quiet_want
          go_big_quiet_op
          go_big_quiet_on
          go_big_quiet_want
          refine ⟨(.pointer (some ⟨b, off + k * 4, none⟩)), fun wx hSx => ?_, ?_⟩
          · obtain ⟨k0, -⟩ := hSx
            go_simp
            try exact fun hx => absurd hx (by omega)
          simp only [Act.put, List.setIfInBounds_toArray, List.set_cons_zero, List.set_cons_succ]
          go_big_quiet_on
          go_big_quiet_want
          refine ⟨(.pointer (some ⟨b, off + k * 4 + 3, none⟩)), fun wx hSx => ?_, ?_⟩
          · obtain ⟨k0, -⟩ := hSx
            go_simp
            try rfl
          simp only [Act.put, List.setIfInBounds_toArray, List.set_cons_zero, List.set_cons_succ]
          go_big_quiet_on
          go_big_quiet_want
          refine ⟨(.int .i64 (A : Int)), fun wx hSx => ?_, ?_⟩
          · obtain ⟨k0, -⟩ := hSx
            go_simp
            try rfl
          simp only [Act.put, List.setIfInBounds_toArray, List.set_cons_zero, List.set_cons_succ]
          go_big_quiet_on
          go_big_quiet_want
          go_big_quiet_op
          go_big_quiet_on
          go_big_quiet_want
          refine ⟨(.int .i64 (TX.size : Int)), fun wx hSx => ?_, ?_⟩
          · obtain ⟨k0, -⟩ := hSx
            go_simp
            try first | done | rfl
          simp only [Act.put, List.setIfInBounds_toArray, List.set_cons_zero, List.set_cons_succ]
          go_big_quiet_on
          go_big_quiet_want
          refine ⟨(.int .i64 ((A : Int) + (TX.size : Int))), fun wx hSx => ?_, ?_⟩
          · obtain ⟨k0, -⟩ := hSx
            go_simp
            try exact HW.out.2.1
          simp only [Act.put, List.setIfInBounds_toArray, List.set_cons_zero, List.set_cons_succ]
          go_big_quiet_on
          go_big_quiet_want
          refine ⟨(.string TX), fun wx hSx => ?_, ?_⟩
          · obtain ⟨k0, -⟩ := hSx
            go_simp
            rw [if_pos (show 0 ≤ (A : Int) + (TX.size : Int) ∧ (A : Int) + (TX.size : Int) ≤ (s.size : Int) by omega), if_pos (show (A : Int) ≤ (A : Int) + (TX.size : Int) by omega), HW.out.2.2, HC.out.2.2.2]
            exact ⟨rfl, rfl⟩
          simp only [Act.put, List.setIfInBounds_toArray, List.set_cons_zero, List.set_cons_succ]
          go_big_quiet_on
          go_big_quiet_want
          go_big_quiet_op
          go_big_quiet_on
          go_big_quiet_want
          refine ⟨(.bool false), fun wx hSx => ?_, ?_⟩
          · obtain ⟨k0, -⟩ := hSx
            go_simp
            try first | done | assumption | rfl
          simp only [Act.put, List.setIfInBounds_toArray, List.set_cons_zero, List.set_cons_succ]
          go_big_quiet_on
          refine wpQuiet_nil ?_
          rintro w4 ⟨-, hb4⟩
          have z4 : w4.cell? ⟨b, off + k * 4 + 3, none⟩ = some (.int .i64 (A : Int)) := (hb4.out.cell (World.block_lt_of_cell? _ _ z3)).trans z3
          have HB4 := Lib.hid (HB.out.trans (hb4.out.mono HB.out.size))
          clear hb4 z3
          go_wp2_with fail
          go_loop [10] (fun j => ∃ (m : Nat), j = .int .i64 (m : Int) ∧ e ≤ m ∧ m ≤ A) (fun j => A - (intOf j).toNat)
          case atStart => exact ⟨e, rfl, Nat.le_refl _, heA⟩
          case round =>
            obtain ⟨m, rfl, hem, hmA⟩ := hrel
            by_cases hlm : m < A
            · have hms : m < s.size := by omega
              have hb32 := blank_at hms (HC.out.2.1 m hem hlm)
              have q1 : ((s[m].toNat : Int) == 32) = true := by rw [hb32]; rfl
              have q2 : ((s[m].toNat : Int) != 32) = false := by rw [hb32]; rfl
              have q3 : decide ((m : Int) < (A : Int)) = true := decide_eq_true (by omega)
              clear hb32
              go_wp2_with fail
              go_round
              case rel => exact ⟨m + 1, by go_num, by omega, by omega⟩
              case measure => simp [intOf]; omega
            · have q3 : decide ((m : Int) < (A : Int)) = false := decide_eq_false (by omega)
              have HN : Hid (AgainAt s L (k + 1) (A + TX.size) w1 w4) := Lib.hid ⟨HC.out.2.2.1, HB4.out⟩
              go_wp2_with fail
              go_roundw
              case rel => exact ⟨k + 1, A + TX.size, by omega, by omega, by go_num, by go_num, HN⟩
              case measure => simp [intOf]; omega
        · obtain rfl : k = L.length := by omega
          have hend := HI.out.laid
          rw [List.drop_length] at hend
          have HE := Lib.hid (show ∀ j, e ≤ j → j < s.data.toList.length → s.data.toList[j]? = some 32 from hend)
          clear hend
          go_wp2_with fail
          go_loop [11] (fun j => ∃ (m : Nat), j = .int .i64 (m : Int) ∧ e ≤ m ∧ m ≤ s.size) (fun j => s.size - (intOf j).toNat)
          case atStart => exact ⟨e, rfl, Nat.le_refl _, hes⟩
          case round =>
            obtain ⟨m, rfl, hem, hms⟩ := hrel
            by_cases hlm : m < s.size
            · have hb32 := blank_at hlm (HE.out m hem (by omega))
              have q1 : ((s[m].toNat : Int) == 32) = true := by rw [hb32]; rfl
              have q2 : ((s[m].toNat : Int) != 32) = false := by rw [hb32]; rfl
              clear hb32
              go_wp2_with fail
              go_round
              case rel => exact ⟨m + 1, by go_num, by omega, by omega⟩
              case measure => simp [intOf]; omega
            · have hB := H1.out.2.trans (HI.out.bel.mono H1.out.2.size)
              have hrd := readsT13_below H1.out.1 HI.out.bel
              have hall : ∀ t ∈ L, Lx.right t := fun t ht => (H.out.2.2 t ht).1
              have hmax : ∀ t ∈ L, t.n ≤ 9223372036854775807 := fun t ht => (H.out.2.2 t ht).2
              have cJ := join13_any a L cap wr hrd (by omega) (fun t ht => ⟨by have := (right_small (hall t ht)).1; omega, (right_small (hall t ht)).2, hmax t ht⟩) (pow10_below HF.out.1 hB) (errR_below HF.out.2 hB)
              rw [joinS_right hall] at cJ
              have hjn := lexS_join (L := L) (hr := hall) (hn := hmax)
              have cX := fun wx hx => lex13_any (Lx.mk (Lx.join L)) wx hx
              by_cases hbig : 200 < (Lx.mk (Lx.join L)).size
              · rw [lexS_big hbig] at cX
                have t1 : decide (((Lx.mk (Lx.join L)).size : Int) > 200) = true := decide_eq_true (by omega)
                generalize Lx.mk (Lx.join L) = J at *
                have K := Lib.hid (And.intro cJ (And.intro cX hB))
                clear cJ cX hjn hall hmax hB hrd
                go_wp2_with fail
                refine K.out.1.mono ?_
                rintro e w5 ⟨rfl, hb5⟩
                have hB5 := K.out.2.2.trans (hb5.mono K.out.2.2.size)
                have K5 := Lib.hid hB5
                clear hb5 hB5
                go_wp2_with fail
                refine (K.out.2.1 _ (errR_below HF.out.2 K5.out)).mono ?_
                rintro e w6 ⟨a2, cap2, rfl, hr2, hcap2, hb6⟩
                have hB6 := K5.out.trans (hb6.mono K5.out.size)
                have K6 := Lib.hid (And.intro (lives13_any _ (errR_below HF.out.2 hB6)) hB6)
                clear hb6 hB6 hr2 hcap2
                go_wp2_with fail
                refine K6.out.1.mono ?_
                rintro e w7 ⟨rfl, hb7⟩
                have K7 := Lib.hid (K6.out.2.trans (hb7.mono K6.out.2.size))
                clear hb7
                go_wp2_with fail
                go_ret
                exact ⟨rfl, K7.out⟩
              · obtain ⟨mm, hm1, hm2⟩ := hjn hbig
                rw [hm1] at cX
                generalize Lx.mk (Lx.join L) = J at *
                have K := Lib.hid (And.intro cJ (And.intro cX (And.intro hB (And.intro hm2 hrd))))
                clear cJ cX hjn hall hmax hB hm1 hm2 hrd
                go_wp2_with fail
                refine K.out.1.mono ?_
                rintro e w5 ⟨rfl, hb5⟩
                have hB5 := K.out.2.2.1.trans (hb5.mono K.out.2.2.1.size)
                have K5 := Lib.hid (And.intro hB5 (readsT13_below K.out.2.2.2.2 hb5))
                clear hb5 hB5
                go_wp2_with fail
                refine (K.out.2.1 _ (errR_below HF.out.2 K5.out.1)).mono ?_
                rintro e w6 ⟨a2, cap2, rfl, hr2, hcap2, hb6⟩
                have hB6 := K5.out.1.trans (hb6.mono K5.out.1.size)
                have K6 := Lib.hid (And.intro (rSame13_like K.out.2.2.2.1 a a2 cap cap2 w6 (readsT13_below K5.out.2 hb6) hr2 (by omega)) hB6)
                clear hb6 hB6 hr2 hcap2
                go_wp2_with fail
                refine K6.out.1.mono ?_
                rintro e w7 ⟨rfl, hb7⟩
                have hB7 := K6.out.2.trans (hb7.mono K6.out.2.size)
                have K7 := Lib.hid (And.intro (lives13_any _ (errR_below HF.out.2 hB7)) hB7)
                clear hb7 hB7
                go_wp2_with fail
                refine K7.out.1.mono ?_
                rintro e w8 ⟨rfl, hb8⟩
                have K8 := Lib.hid (K7.out.2.trans (hb8.mono K7.out.2.size))
                clear hb8
                go_wp2_with fail
                go_ret
                exact ⟨rfl, K8.out⟩
    · obtain ⟨hL0, p, hp, hps⟩ := hE he
      have hL0 : L = [] := hL0
      have hp : P = (p : Int) := hp
      subst hL0 hp
      have t1 : (E != 0) = true := by simpa using he
      have H := Lib.hid cP
      clear cP hO hC hE
      go_enter Tryd.func6, Tryd.ntmps6
      go_wp2_with fail
      refine H.out.mono ?_
      rintro e w1 ⟨a, cap, rfl, hr, hcap, hb1⟩
      have H1 := Lib.hid (And.intro (lives13_any _ (errR_below HF.out.2 hb1)) hb1)
      clear hr hcap hb1
      go_wp2_with fail
      refine H1.out.1.mono ?_
      rintro e w2 ⟨rfl, hb2⟩
      have H2 := Lib.hid (H1.out.2.trans (hb2.mono H1.out.2.size))
      clear hb2
      go_wp2_with fail
      go_ret
      exact ⟨rfl, H2.out⟩
end Go.Proofs.YtmpfnokddpbgcaaDoor
