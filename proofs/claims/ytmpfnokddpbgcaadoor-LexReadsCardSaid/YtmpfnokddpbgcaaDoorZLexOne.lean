/-
  Layer 13: the document's first token of a text.
-/
import Derived.Test.YtmpfnokddpbgcaaDoorZLexTxt
import Derived.Test.YtmpfnokddpbgcaaDoorPk1
import Derived.Test.YtmpfnokddpbgcaaDoorPk2
import Derived.SliceStrings
import Derived.BigQuiet
namespace Go.Proofs.YtmpfnokddpbgcaaDoor
open Go.RowKit
/-- the marks as strings in memory -/
abbrev marksV : List Value := Lx.marks.map fun m => .string (Lx.mk m)
set_option maxRecDepth 100000 in
set_option maxHeartbeats 3200000 in
theorem rmarks13_any (w : World) : Calls Tryd.prog 38 #[] w fun e w' => e = .returned (.slice (some ⟨w.heap.size, 0, none⟩) 16 16) ∧ w' = w.alloc (.cells marksV.toArray 9) := by
  go_enter Tryd.func38, Tryd.ntmps38
  go_wp2_with fail
  go_ret
  exact ⟨rfl, rfl⟩
theorem marks_len : Lx.marks.length = 16 := rfl
/-- none of the first k marks stands ahead -/
def NoMark (l : List UInt8) (k : Nat) : Prop := ∀ m ∈ Lx.marks.take k, m.isPrefixOf l = false
theorem noMark_start (l : List UInt8) : NoMark l 0 := by intro m hm; simp at hm
theorem noMark_next {l : List UInt8} {k : Nat} (h : NoMark l k) (hk : k < Lx.marks.length) (hp : Lx.marks[k].isPrefixOf l = false) : NoMark l (k + 1) := by
  intro m hm
  rw [List.take_succ_eq_append_getElem hk] at hm
  rcases List.mem_append.1 hm with hm | hm
  · exact h m hm
  · simp only [List.mem_singleton] at hm; subst hm; exact hp
theorem noMark_end {l : List UInt8} (h : NoMark l 16) : Lx.markT l = (Lx.no, 0, 11) := by
  unfold Lx.markT
  have : Lx.marks.find? (fun m => m.isPrefixOf l) = none := by
    rw [List.find?_eq_none]
    intro m hm
    have := h m (by rw [List.take_of_length_le (by rw [marks_len]; omega)]; exact hm)
    simp [this]
  rw [this]
theorem noMark_hit {l : List UInt8} {k : Nat} (h : NoMark l k) (hk : k < Lx.marks.length) (hp : Lx.marks[k].isPrefixOf l = true) : Lx.markT l = (⟨4, Lx.mk Lx.marks[k], 0, 0⟩, Lx.marks[k].length, 0) := by
  have key : Lx.marks.find? (fun m => m.isPrefixOf l) = some Lx.marks[k] := by
    have e : Lx.marks = Lx.marks.take k ++ Lx.marks[k] :: Lx.marks.drop (k + 1) := by rw [List.getElem_cons_drop, List.take_append_drop]
    rw [List.find?_eq_some_iff_append]
    refine ⟨hp, Lx.marks.take k, Lx.marks.drop (k + 1), e, fun m hm => ?_⟩
    simp [h m hm]
  unfold Lx.markT
  rw [key]
theorem prefix_iff (m : List UInt8) (s : ByteArray) : m.isPrefixOf s.data.toList = true ↔ m.length ≤ s.size ∧ s.extract 0 m.length = Lx.mk m := by
  have hl : s.data.toList.length = s.size := by rw [Array.length_toList]; rfl
  rw [List.isPrefixOf_iff_prefix]
  constructor
  · rintro ⟨q, hq⟩
    refine ⟨by rw [← hl, ← hq]; simp, ?_⟩
    rw [take_list, ← hq, List.take_left]
  · rintro ⟨_, h2⟩
    rw [take_list] at h2
    have := congrArg (fun x : ByteArray => x.data.toList) h2
    have h3 : s.data.toList.take m.length = m := this
    exact ⟨s.data.toList.drop m.length, (congrArg (· ++ s.data.toList.drop m.length) h3.symm).trans (List.take_append_drop _ _)⟩
theorem tok_one4 {X : ByteArray} : (#[Value.int IntKind.i64 4, Value.string X, Value.int IntKind.i64 0, Value.int IntKind.i64 0].all (·.oneCell')) = true := by simp [Value.oneCell']
set_option maxRecDepth 100000 in
set_option maxHeartbeats 6400000 in
theorem rone13_any (s : ByteArray) (w : World) (h0 : 0 < s.size) (hs : s.size ≤ 1000000) :
    Calls Tryd.prog 18 #[.string s] w fun e w' => e = .returned (.tuple #[tokV (Lx.one s.data.toList).1, .int .i64 ((Lx.one s.data.toList).2.1 : Nat), .int .i64 (Lx.one s.data.toList).2.2]) ∧ Below w.heap.size w w' := by
  have hone := Lx.one_cons s[0] (s.data.toList.drop 1)
  rw [← drop_next s 0 h0, List.drop_zero] at hone
  rw [hone]
  clear hone
  have cL := fun w => rletter13_any s[0] w
  have cD := fun w => rdigit13_any s[0] w
  have hsm : s.size ≤ maxLen := by unfold maxLen; omega
  obtain ⟨r0, b0, s0⟩ := tok_new Lx.no w
  cases hL : Lx.letter s[0] with
  | true =>
    rw [hL] at cL
    rw [if_pos rfl]
    have cN := fun w => rname13_any s w hsm
    generalize (Lx.nameT s.data.toList).2.1 = N at *
    generalize (Lx.nameT s.data.toList).2.2 = E at *
    generalize (Lx.nameT s.data.toList).1 = V at *
    have H := Lib.hid (And.intro (And.intro cL cN) (And.intro r0 (And.intro b0 s0)))
    clear cL cD cN r0 b0 s0 hL hsm
    go_enter Tryd.func18, Tryd.ntmps18
    go_wp2_with (first | (go_at_call 33; refine (H.out.1.1 _).mono ?_; rintro e w1 ⟨rfl, rfl⟩))
    refine (H.out.1.2 _).mono ?_
    rintro e w2 ⟨rfl, hb2⟩
    have ra := rowV_below H.out.2.1 hb2 (by rw [World.size_alloc]; omega)
    have hb := H.out.2.2.1.trans (hb2.mono (by rw [World.size_alloc]; omega))
    obtain ⟨tk, ts, tn, ta⟩ := V
    obtain ⟨a0, a1, a2, a3, g0, g1, g2, g3⟩ := tok_cells ra
    have L := Lib.hid (And.intro ra hb)
    clear ra hb hb2
    go_wp2_with fail
    refine bodyPost_ret (v := .tuple #[tokV ⟨tk, ts, tn, ta⟩, .int .i64 (N : Int), .int .i64 E]) (results_tok (p := 2) (u := 3) (x := 4) rfl _ _ w.heap.size ⟨tk, ts, tn, ta⟩ rfl (tok_put (v := Lx.no) L.out.1 tk ts tn ta).1) rfl ⟨rfl, ?_⟩
    exact L.out.2.trans ((tok_put L.out.1 tk ts tn ta).2 _ (Nat.le_refl _))
  | false =>
    rw [hL] at cL
    rw [if_neg (by simp)]
    cases hD : Lx.digit s[0] with
    | true =>
      rw [hD] at cD
      rw [if_pos rfl]
      have cN := fun w => rnumber13_any s w hsm
      generalize (Lx.numT s.data.toList).2.1 = N at *
      generalize (Lx.numT s.data.toList).2.2 = E at *
      generalize (Lx.numT s.data.toList).1 = V at *
      have H := Lib.hid (And.intro (And.intro cL (And.intro cD cN)) (And.intro r0 (And.intro b0 s0)))
      clear cL cD cN r0 b0 s0 hL hsm hD
      go_enter Tryd.func18, Tryd.ntmps18
      go_wp2_with (first | (go_at_call 33; refine (H.out.1.1 _).mono ?_; rintro e w1 ⟨rfl, rfl⟩) | (go_at_call 35; refine (H.out.1.2.1 _).mono ?_; rintro e w1 ⟨rfl, rfl⟩))
      refine (H.out.1.2.2 _).mono ?_
      rintro e w2 ⟨rfl, hb2⟩
      have ra := rowV_below H.out.2.1 hb2 (by rw [World.size_alloc]; omega)
      have hb := H.out.2.2.1.trans (hb2.mono (by rw [World.size_alloc]; omega))
      obtain ⟨tk, ts, tn, ta⟩ := V
      obtain ⟨a0, a1, a2, a3, g0, g1, g2, g3⟩ := tok_cells ra
      have L := Lib.hid (And.intro ra hb)
      clear ra hb hb2
      go_wp2_with fail
      refine bodyPost_ret (v := .tuple #[tokV ⟨tk, ts, tn, ta⟩, .int .i64 (N : Int), .int .i64 E]) (results_tok (p := 2) (u := 3) (x := 4) rfl _ _ w.heap.size ⟨tk, ts, tn, ta⟩ rfl (tok_put (v := Lx.no) L.out.1 tk ts tn ta).1) rfl ⟨rfl, ?_⟩
      exact L.out.2.trans ((tok_put L.out.1 tk ts tn ta).2 _ (Nat.le_refl _))
    | false =>
      rw [hD] at cD
      rw [if_neg (by simp)]
      by_cases h34 : s[0] = 34
      · rw [if_pos h34]
        have t1 : ((s[0].toNat : Int) == 34) = true := by rw [h34]; rfl
        have cN := fun w => rtext13_any s w hs
        generalize (Lx.txtT s.data.toList).2.1 = N at *
        generalize (Lx.txtT s.data.toList).2.2 = E at *
        generalize (Lx.txtT s.data.toList).1 = V at *
        have H := Lib.hid (And.intro (And.intro cL (And.intro cD cN)) (And.intro r0 (And.intro b0 s0)))
        clear cL cD cN r0 b0 s0 hL hsm hD h34
        go_enter Tryd.func18, Tryd.ntmps18
        go_wp2_with (first | (go_at_call 33; refine (H.out.1.1 _).mono ?_; rintro e w1 ⟨rfl, rfl⟩) | (go_at_call 35; refine (H.out.1.2.1 _).mono ?_; rintro e w1 ⟨rfl, rfl⟩))
        refine (H.out.1.2.2 _).mono ?_
        rintro e w2 ⟨rfl, hb2⟩
        have ra := rowV_below H.out.2.1 hb2 (by rw [World.size_alloc]; omega)
        have hb := H.out.2.2.1.trans (hb2.mono (by rw [World.size_alloc]; omega))
        obtain ⟨tk, ts, tn, ta⟩ := V
        obtain ⟨a0, a1, a2, a3, g0, g1, g2, g3⟩ := tok_cells ra
        have L := Lib.hid (And.intro ra hb)
        clear ra hb hb2
        go_wp2_with fail
        refine bodyPost_ret (v := .tuple #[tokV ⟨tk, ts, tn, ta⟩, .int .i64 (N : Int), .int .i64 E]) (results_tok (p := 2) (u := 3) (x := 4) rfl _ _ w.heap.size ⟨tk, ts, tn, ta⟩ rfl (tok_put (v := Lx.no) L.out.1 tk ts tn ta).1) rfl ⟨rfl, ?_⟩
        exact L.out.2.trans ((tok_put L.out.1 tk ts tn ta).2 _ (Nat.le_refl _))
      · rw [if_neg h34]
        have t1 : ((s[0].toNat : Int) == 34) = false := by
          have : ¬ s[0].toNat = 34 := fun e => h34 (UInt8.toNat_inj.1 e)
          simp; omega
        have rm := rowV_new (w.alloc (.cells (tokC Lx.no) 33)) 9 marksV
        rw [s0] at rm
        have rb := rowV_alloc r0 (.cells marksV.toArray 9)
        have hb := b0.alloc (by rw [s0]; omega) (.cells marksV.toArray 9)
        have cM := rmarks13_any (w.alloc (.cells (tokC Lx.no) 33))
        rw [s0] at cM
        have H := Lib.hid (And.intro (And.intro cL (And.intro cD cM)) (And.intro rm (And.intro rb hb)))
        clear cL cD cM r0 b0 s0 hL hsm hD h34 rm rb hb
        go_enter Tryd.func18, Tryd.ntmps18
        go_wp2_with (first | (go_at_call 33; refine (H.out.1.1 _).mono ?_; rintro e w1 ⟨rfl, rfl⟩) | (go_at_call 35; refine (H.out.1.2.1 _).mono ?_; rintro e w1 ⟨rfl, rfl⟩))
        refine H.out.1.2.2.mono ?_
        rintro e w1 ⟨rfl, hw1⟩
        rw [← hw1] at H
        have hsz : w.heap.size + 1 < w1.heap.size := rowV_lt H.out.2.1
        clear hw1
        go_wp2_with fail
        go_loopw [6] (fun i wr => ∃ k : Nat, k ≤ 16 ∧ i = .int .i64 (k : Int) ∧ Hid (NoMark s.data.toList k) ∧ Hid (Below w1.heap.size w1 wr)) (fun i _ => 16 - (intOf i).toNat)
        case atStart => exact ⟨0, Nat.zero_le _, rfl, Lib.hid (noMark_start _), Lib.hid (Below.refl _ _)⟩
        case round =>
          obtain ⟨k, hk, rfl, HM, HI⟩ := hrel
          by_cases hlt : k < 16
          · have hkl : k < Lx.marks.length := hlt
            have hrow := rowV_below H.out.2.1 HI.out hsz
            have hc : wr.cell? ⟨w.heap.size + 1, k, none⟩ = some (.string (Lx.mk Lx.marks[k])) := by
              rw [rowV_cell hrow k]
              show (Lx.marks.map fun m => Value.string (Lx.mk m))[k]? = _
              rw [List.getElem?_map, List.getElem?_eq_getElem hkl]; rfl
            have hMs := mk_size Lx.marks[k]
            have hpi := prefix_iff Lx.marks[k] s
            have hnext := noMark_next HM.out hkl
            have hhit := noMark_hit HM.out hkl
            rw [← hMs] at hpi hhit
            generalize hMM : Lx.mk Lx.marks[k] = M at *
            by_cases hle : (M.size : Int) ≤ (s.size : Int)
            · have hd : decide ((M.size : Int) ≤ (s.size : Int)) = true := decide_eq_true hle
              by_cases he : s.extract 0 M.size = M
              · have HP := Lib.hid (hhit (hpi.2 ⟨by omega, he⟩))
                have he2 : ((s.extract 0 M.size).toList == M.toList) = true := by rw [he]; simp
                have he3 := he
                clear hpi hnext hhit hMM hMs hrow
                generalize hX : s.extract 0 M.size = X at *
                subst he3
                clear he
                go_wp2_with fail
                go_quiet (fail)
                have hcq : (wr.drewN nq).cell? ⟨w.heap.size + 1, k, none⟩ = some (.string X) := hc
                have hbq := below_drewN HI.out nq
                generalize wr.drewN nq = wq at *
                clear hc
                go_wp2_with fail
                have hra : RowV wq w.heap.size 33 (tokC Lx.no).toList := rowV_below H.out.2.2.1 hbq (Nat.lt_of_succ_lt hsz)
                have ra : RowV wq.drew w.heap.size 33 (tokC Lx.no).toList := hra
                have hb := H.out.2.2.2.trans (hbq.mono (Nat.le_of_lt (Nat.lt_of_succ_lt hsz)))
                refine wp_region_plan (S := fun wx => wx.cell? ⟨w.heap.size + 1, k, none⟩ = some (.string X)) 11 [(true, 0), (true, 1), (true, 2), (true, 3), (true, 4), (true, 5), (true, 6), (true, 7), (true, 8), (true, 9), (false, 10)] (by kernel_rfl) (fun _ d _ _ _ h => by cases d <;> exact h) (by kernel_rfl) hcq ?_
                refine wpPlan_step (i := 0) rfl ?_
                apply Exists.intro
                refine ⟨⟨by rfl, fun wx hSx => ?_⟩, ?_⟩
                · obtain hcx := hSx
                  go_simp
                  with_reducible rfl
                simp only [Act.put, List.setIfInBounds_toArray, List.set_cons_zero, List.set_cons_succ]
                refine wpPlan_step (i := 1) rfl ?_
                apply Exists.intro
                refine ⟨⟨by rfl, fun wx hSx => ?_⟩, ?_⟩
                · obtain hcx := hSx
                  go_simp
                  with_reducible rfl
                simp only [Act.put, List.setIfInBounds_toArray, List.set_cons_zero, List.set_cons_succ]
                refine wpPlan_step (i := 2) rfl ⟨(.pointer (some ⟨w.heap.size + 1, k, none⟩)), ⟨by rfl, fun wx hSx => ?_⟩, ?_⟩
                · obtain hcx := hSx
                  go_simp
                simp only [Act.put, List.setIfInBounds_toArray, List.set_cons_zero, List.set_cons_succ]
                refine wpPlan_step (i := 3) rfl ⟨(.string X), ⟨by rfl, fun wx hSx => ?_⟩, ?_⟩
                · obtain hcx := hSx
                  go_simp
                simp only [Act.put, List.setIfInBounds_toArray, List.set_cons_zero, List.set_cons_succ]
                refine wpPlan_step (i := 4) rfl ⟨(.agg #[.int .i64 4, .string X, .int .i64 0, .int .i64 0]), ⟨by rfl, fun wx hSx => ?_⟩, ?_⟩
                · obtain hcx := hSx
                  go_simp
                simp only [Act.put, List.setIfInBounds_toArray, List.set_cons_zero, List.set_cons_succ]
                refine wpPlan_step (i := 5) rfl ?_
                apply Exists.intro
                refine ⟨⟨by rfl, fun wx hSx => ?_⟩, ?_⟩
                · obtain hcx := hSx
                  go_simp
                  with_reducible rfl
                simp only [Act.put, List.setIfInBounds_toArray, List.set_cons_zero, List.set_cons_succ]
                refine wpPlan_step (i := 6) rfl ?_
                apply Exists.intro
                refine ⟨⟨by rfl, fun wx hSx => ?_⟩, ?_⟩
                · obtain hcx := hSx
                  go_simp
                  with_reducible rfl
                simp only [Act.put, List.setIfInBounds_toArray, List.set_cons_zero, List.set_cons_succ]
                refine wpPlan_step (i := 7) rfl ⟨(.pointer (some ⟨w.heap.size + 1, k, none⟩)), ⟨by rfl, fun wx hSx => ?_⟩, ?_⟩
                · obtain hcx := hSx
                  go_simp
                simp only [Act.put, List.setIfInBounds_toArray, List.set_cons_zero, List.set_cons_succ]
                refine wpPlan_step (i := 8) rfl ⟨(.string X), ⟨by rfl, fun wx hSx => ?_⟩, ?_⟩
                · obtain hcx := hSx
                  go_simp
                simp only [Act.put, List.setIfInBounds_toArray, List.set_cons_zero, List.set_cons_succ]
                refine wpPlan_step (i := 9) rfl ⟨(.int .i64 (X.size : Int)), ⟨by rfl, fun wx hSx => ?_⟩, ?_⟩
                · obtain hcx := hSx
                  go_simp
                simp only [Act.put, List.setIfInBounds_toArray, List.set_cons_zero, List.set_cons_succ]
                have r4 := rowV_row ra [.int .i64 4, .string X, .int .i64 0, .int .i64 0]
                have o4 : Only (fun j => j = w.heap.size) wq.drew (wq.drew.setRow w.heap.size [.int .i64 4, .string X, .int .i64 0, .int .i64 0].toArray) := ⟨rfl, rfl, rfl, by simp [World.setRow], fun j _ hj => setRow_far _ _ j _ hj⟩
                refine wpPlan_keep (i := 10) rfl (by rfl) fun K hK => wp_store_row 33 (.tmp 2) (.tmp 67) rfl w.heap.size #[.int .i64 4, .string X, .int .i64 0, .int .i64 0] rfl rfl 33 _ ra info_tok rfl tok_one4 (hK _ _ ((o4.cell (World.block_lt_of_cell? _ _ hcq) (by show ¬ w.heap.size + 1 = w.heap.size; omega)).trans hcq) ?_)
                simp only [Act.put]
                have hb4 := Lib.hid ((hb.trans (Below.refl w.heap.size wq).drew).trans ((o4.below (B := w.heap.size) (fun j _ e => Nat.le_of_eq e.symm) (Nat.le_of_lt (rowV_lt ra)))))
                have HR4 := Lib.hid r4
                clear hbq hra ra hb r4 o4
                show wpList _ _ _ _ _ _
                simp only [List.drop_succ_cons, List.drop_zero]
                go_wp2_with fail
                rw [HP.out]
                exact bodyPost_ret (v := .tuple #[tokV ⟨4, X, 0, 0⟩, .int .i64 (X.size : Int), .int .i64 0]) (results_tok (p := 2) (u := 3) (x := 4) rfl _ _ w.heap.size ⟨4, X, 0, 0⟩ rfl HR4.out) rfl ⟨rfl, hb4.out⟩
              · have HN := Lib.hid (hnext (by cases hh : Lx.marks[k].isPrefixOf s.data.toList with | false => rfl | true => exact absurd (hpi.1 hh).2 he))
                have he1 : ¬ (s.extract 0 M.size).toList = M.toList := fun e => he (Sl.ba_ext (by rw [← ByteArray.toList_eq, ← ByteArray.toList_eq]; exact e))
                have he2 : ((s.extract 0 M.size).toList == M.toList) = false := by simpa using he1
                clear hpi hnext hhit hMM hMs hrow he
                go_wp2_with fail
                go_quiet (fail)
                go_wp2_with fail
                go_roundw
                case rel => exact ⟨k + 1, by omega, by go_num, HN, Lib.hid (below_drewN HI.out _)⟩
                case measure => simp [intOf]; omega
            · have hd : decide ((M.size : Int) ≤ (s.size : Int)) = false := decide_eq_false hle
              have HN := Lib.hid (hnext (by cases hh : Lx.marks[k].isPrefixOf s.data.toList with | false => rfl | true => have := (hpi.1 hh).1; omega))
              have hgt : s.size < M.size := by omega
              clear hpi hnext hhit hMM hMs hrow hle
              go_wp2_with fail
              refine wp_region_quiet_tail (C := fun wx => (wx.cell? ⟨w.heap.size + 1, k, none⟩ = some (.string M)) ∧ Hid (Below wr.heap.size wr wx)) 21 (by kernel_rfl) (by kernel_rfl) ⟨hc, Lib.hid (Below.refl wr.heap.size wr).drew⟩ ?_
              simp only [List.take_succ_cons, List.take_zero, List.drop_succ_cons, List.drop_zero]
              go_big_quiet_want
              go_big_quiet_op
              go_big_quiet_on
              go_big_quiet_want
              go_big_quiet_op
              go_big_quiet_on
              go_big_quiet_want
              refine ⟨(.pointer (some ⟨w.heap.size + 1, k, none⟩)), fun wx hSx => ?_, ?_⟩
              · obtain ⟨k0, -⟩ := hSx
                go_simp
                try exact ⟨rfl, rfl⟩
              simp only [Act.put, List.setIfInBounds_toArray, List.set_cons_zero, List.set_cons_succ]
              go_big_quiet_on
              go_big_quiet_want
              refine ⟨(.string M), fun wx hSx => ?_, ?_⟩
              · obtain ⟨k0, -⟩ := hSx
                go_simp
                try first
                  | with_reducible rfl
                  | rw [if_neg (by omega)]
              simp only [Act.put, List.setIfInBounds_toArray, List.set_cons_zero, List.set_cons_succ]
              go_big_quiet_on
              go_big_quiet_want
              refine ⟨(.int .i64 (M.size : Int)), fun wx hSx => ?_, ?_⟩
              · obtain ⟨k0, -⟩ := hSx
                go_simp
                try first
                  | with_reducible rfl
                  | rw [if_neg (by omega)]
              simp only [Act.put, List.setIfInBounds_toArray, List.set_cons_zero, List.set_cons_succ]
              go_big_quiet_on
              go_big_quiet_want
              go_big_quiet_op
              go_big_quiet_on
              go_big_quiet_want
              refine ⟨(.int .i64 (s.size : Int)), fun wx hSx => ?_, ?_⟩
              · obtain ⟨k0, -⟩ := hSx
                go_simp
                try first
                  | with_reducible rfl
                  | rw [if_neg (by omega)]
              simp only [Act.put, List.setIfInBounds_toArray, List.set_cons_zero, List.set_cons_succ]
              go_big_quiet_on
              go_big_quiet_want
              refine ⟨(.bool false), fun wx hSx => ?_, ?_⟩
              · obtain ⟨k0, -⟩ := hSx
                go_simp
                first | done | exact hgt | exact hd
              simp only [Act.put, List.setIfInBounds_toArray, List.set_cons_zero, List.set_cons_succ]
              go_big_quiet_on
              go_big_quiet_want
              go_big_quiet_op
              go_big_quiet_on
              go_big_quiet_skip
              go_big_quiet_skip
              go_big_quiet_skip
              go_big_quiet_skip
              go_big_quiet_skip
              go_big_quiet_skip
              go_big_quiet_skip
              go_big_quiet_skip
              go_big_quiet_skip
              go_big_quiet_skip
              go_big_quiet_skip
              go_big_quiet_skip
              refine wpQuiet_nil ?_
              rintro w4 ⟨-, hb4⟩
              have H4 := Lib.hid (HI.out.trans (hb4.out.mono HI.out.size))
              clear hb4
              go_wp2_with fail
              go_roundw
              case rel => exact ⟨k + 1, by omega, by go_num, HN, H4⟩
              case measure => simp [intOf]; omega
          · obtain rfl : k = 16 := by omega
            have HE := Lib.hid (noMark_end HM.out)
            have ra := rowV_below H.out.2.2.1 HI.out (Nat.lt_of_succ_lt hsz)
            have hb := H.out.2.2.2.trans (HI.out.mono (Nat.le_of_lt (Nat.lt_of_succ_lt hsz)))
            obtain ⟨a0, a1, a2, a3, g0, g1, g2, g3⟩ := tok_cells ra
            have L := Lib.hid (And.intro ra hb)
            clear ra hb
            go_wp2_with fail
            rw [HE.out]
            refine bodyPost_ret (v := .tuple #[tokV Lx.no, .int .i64 0, .int .i64 11]) (results_tok (p := 2) (u := 3) (x := 4) rfl _ _ w.heap.size Lx.no rfl (tok_put (v := Lx.no) L.out.1 0 Vl.mt 0 0).1) rfl ⟨rfl, ?_⟩
            exact L.out.2.trans ((tok_put (v := Lx.no) L.out.1 0 Vl.mt 0 0).2 _ (Nat.le_refl _))
end Go.Proofs.YtmpfnokddpbgcaaDoor
