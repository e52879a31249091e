/-
  Layer 13: the document's first token of a text: texts.
-/
import Derived.Test.YtmpfnokddpbgcaaDoorZLexNum
namespace Go.Proofs.YtmpfnokddpbgcaaDoor
open Go.RowKit
/-- what is told ahead of place i -/
structure TxtTo (s : ByteArray) (i : Nat) (acc : List UInt8) : Prop where
  eq : Lx.txt s.data.toList.tail [] = Lx.txt (s.data.toList.drop i) acc
  one : 1 ≤ i
  len : acc.length ≤ i
theorem txtTo_start (s : ByteArray) : TxtTo s 1 [] := ⟨by rw [List.drop_one], Nat.le_refl _, Nat.zero_le _⟩
theorem txtTo_quote {s : ByteArray} {i : Nat} {acc : List UInt8} (h : TxtTo s i acc) (hi : i < s.size) (hc : s[i] = 34) : Lx.txtT s.data.toList = if 40 < acc.length then (Lx.no, 0, 5) else (⟨3, Lx.mk acc, 0, 0⟩, i + 1, 0) := by
  have e : Lx.txt s.data.toList.tail [] = some (acc, s.data.toList.drop (i + 1)) := by rw [h.eq, drop_next s i hi, hc, Lx.txt_end]
  have hl : s.data.toList.length = s.size := by rw [Array.length_toList]; rfl
  unfold Lx.txtT
  rw [e]
  simp only [List.length_drop, hl]
  rw [show s.size - (s.size - (i + 1)) = i + 1 by omega]
theorem txt_none {s : ByteArray} (h : Lx.txt s.data.toList.tail [] = none) : Lx.txtT s.data.toList = (Lx.no, 0, 11) := by unfold Lx.txtT; rw [h]
theorem txtTo_end {s : ByteArray} {i : Nat} {acc : List UInt8} (h : TxtTo s i acc) (hi : ¬ i < s.size) : Lx.txtT s.data.toList = (Lx.no, 0, 11) := by
  refine txt_none ?_
  rw [h.eq, List.drop_eq_nil_of_le (by rw [Array.length_toList]; show s.size ≤ i; omega)]; rfl
theorem txtTo_slash0 {s : ByteArray} {i : Nat} {acc : List UInt8} (h : TxtTo s i acc) (hi : i < s.size) (hc : s[i] = 92) (he : i + 1 = s.size) : Lx.txtT s.data.toList = (Lx.no, 0, 11) := by
  refine txt_none ?_
  rw [h.eq, drop_next s i hi, hc, List.drop_eq_nil_of_le (by rw [Array.length_toList]; show s.size ≤ i + 1; omega), Lx.txt_slash0]
theorem txtTo_slash_bad {s : ByteArray} {i : Nat} {acc : List UInt8} (h : TxtTo s i acc) (hi : i < s.size) (hc : s[i] = 92) (he : i + 1 < s.size) (hd : ¬ (s[i + 1] = 34 ∨ s[i + 1] = 92)) : Lx.txtT s.data.toList = (Lx.no, 0, 11) := by
  refine txt_none ?_
  rw [h.eq, drop_next s i hi, hc, drop_next s (i + 1) he, Lx.txt_slash, if_neg hd]
theorem txtTo_slash {s : ByteArray} {i : Nat} {acc : List UInt8} (h : TxtTo s i acc) (hi : i < s.size) (hc : s[i] = 92) (he : i + 1 < s.size) (hd : s[i + 1] = 34 ∨ s[i + 1] = 92) : TxtTo s (i + 1 + 1) (acc ++ [s[i + 1]]) := by
  refine ⟨?_, by omega, by rw [List.length_append]; have := h.len; show _ + 1 ≤ _; omega⟩
  rw [h.eq, drop_next s i hi, hc, drop_next s (i + 1) he, Lx.txt_slash, if_pos hd]
theorem txtTo_bad {s : ByteArray} {i : Nat} {acc : List UInt8} (h : TxtTo s i acc) (hi : i < s.size) (h1 : ¬ s[i] = 34) (h2 : ¬ s[i] = 92) (hb : s[i].toNat < 32 ∨ 126 < s[i].toNat) : Lx.txtT s.data.toList = (Lx.no, 0, 11) := by
  refine txt_none ?_
  rw [h.eq, drop_next s i hi, Lx.txt_plain _ _ h1 h2, if_pos hb]
theorem txtTo_plain {s : ByteArray} {i : Nat} {acc : List UInt8} (h : TxtTo s i acc) (hi : i < s.size) (h1 : ¬ s[i] = 34) (h2 : ¬ s[i] = 92) (hb : ¬ (s[i].toNat < 32 ∨ 126 < s[i].toNat)) : TxtTo s (i + 1) (acc ++ [s[i]]) := by
  refine ⟨?_, by omega, by rw [List.length_append]; have := h.len; show _ + 1 ≤ _; omega⟩
  rw [h.eq, drop_next s i hi, Lx.txt_plain _ _ h1 h2, if_neg hb]
theorem mk_app (acc : List UInt8) (s : ByteArray) (i : Nat) (hi : i < s.size) : Lx.mk acc ++ s.extract i (i + 1) = Lx.mk (acc ++ [s[i]]) := by
  have hl : i < s.data.toList.length := by simpa using hi
  apply Sl.ba_ext
  rw [ByteArray.data_append, Array.toList_append, Sl.ext_list, show i + 1 - i = 1 by omega, Oct.drop_at _ _ hl]
  rfl
theorem mk_size (acc : List UInt8) : (Lx.mk acc).size = acc.length := by show acc.toArray.size = _; rw [List.size_toArray]
set_option maxRecDepth 100000 in
set_option maxHeartbeats 3200000 in
theorem rtext13_any (s : ByteArray) (w : World) (hs : s.size ≤ 1000000) :
    Calls Tryd.prog 37 #[.string s] w fun e w' => e = .returned (.tuple #[tokV (Lx.txtT s.data.toList).1, .int .i64 ((Lx.txtT s.data.toList).2.1 : Nat), .int .i64 (Lx.txtT s.data.toList).2.2]) ∧ Below w.heap.size w w' := by
  go_enter Tryd.func37, Tryd.ntmps37
  go_wp2
  go_loop [5, 6, 7] (fun t i _ => ∃ (k : Nat) (acc : List UInt8) (A : ByteArray), t = .string A ∧ i = .int .i64 (k : Int) ∧ k ≤ s.size + 1 ∧ A.size ≤ k ∧ Hid (A = Lx.mk acc ∧ TxtTo s k acc)) (fun _ i _ => s.size + 1 - (intOf i).toNat)
  case atStart => exact ⟨1, [], _, rfl, rfl, by omega, by decide, Lib.hid ⟨rfl, txtTo_start s⟩⟩
  case round =>
    obtain ⟨k, acc, A, rfl, rfl, hle, hA, HI⟩ := hrel
    have hAl : A.size = acc.length := by rw [HI.out.1]; exact mk_size acc
    by_cases hlt : k < s.size
    · obtain ⟨c, hcc⟩ : ∃ c, c = s[k] := ⟨_, rfl⟩
      have c256 := c.toNat_lt
      have hxs : (s.extract k (k + 1)).size = 1 := by rw [ByteArray.size_extract]; omega
      by_cases h34 : s[k] = 34
      · have hres := txtTo_quote HI.out.2 hlt h34
        have t1 : ((s[k].toNat : Int) == 34) = true := by rw [h34]; rfl
        by_cases h40 : (A.size : Int) > 40
        · have HN := Lib.hid (hres.trans (if_pos (by omega)))
          have HT := Lib.hid (tok_new Lx.no w)
          clear hres h34 hcc
          go_wp2_with fail
          rw [HN.out]
          exact bodyPost_ret (v := .tuple #[tokV Lx.no, .int .i64 0, .int .i64 5]) (results_tok (p := 2) (u := 3) (x := 4) rfl _ _ w.heap.size Lx.no rfl HT.out.1) rfl ⟨rfl, HT.out.2.1⟩
        · have HN := Lib.hid (hres.trans (if_neg (by omega)))
          rw [← HI.out.1] at HN
          have HT := Lib.hid (tok_new ⟨3, A, 0, 0⟩ w)
          clear hres h34 hcc
          go_wp2_with fail
          rw [HN.out]
          exact bodyPost_ret (v := .tuple #[tokV ⟨3, A, 0, 0⟩, .int .i64 ((k : Int) + 1), .int .i64 0]) (results_tok (p := 2) (u := 3) (x := 4) rfl _ _ w.heap.size ⟨3, A, 0, 0⟩ rfl HT.out.1) rfl ⟨by push_cast; rfl, HT.out.2.1⟩
      · have t1 : ((s[k].toNat : Int) == 34) = false := by
          have : ¬ s[k].toNat = 34 := fun e => h34 (UInt8.toNat_inj.1 e)
          simp; omega
        by_cases h92 : s[k] = 92
        · have t2 : ((s[k].toNat : Int) == 92) = true := by rw [h92]; rfl
          by_cases he : k + 1 = s.size
          · have HN := Lib.hid (txtTo_slash0 HI.out.2 hlt h92 he)
            have HT := Lib.hid (tok_new Lx.no w)
            have t3 : (((k : Int) + 1) == (s.size : Int)) = true := by simp; omega
            clear h34 h92 hcc he
            go_wp2_with fail
            rw [HN.out]
            exact bodyPost_ret (v := .tuple #[tokV Lx.no, .int .i64 0, .int .i64 11]) (results_tok (p := 2) (u := 3) (x := 4) rfl _ _ w.heap.size Lx.no rfl HT.out.1) rfl ⟨rfl, HT.out.2.1⟩
          · have he2 : k + 1 < s.size := by omega
            have t3 : (((k : Int) + 1) == (s.size : Int)) = false := by simp; omega
            have hx2 : (s.extract (k + 1) (k + 1 + 1)).size = 1 := by rw [ByteArray.size_extract]; omega
            have hmk := mk_app acc s (k + 1) he2
            by_cases hd : s[k + 1] = 34 ∨ s[k + 1] = 92
            · have hst := txtTo_slash HI.out.2 hlt h92 he2 hd
              have HN := Lib.hid (And.intro (show A ++ s.extract (k + 1) (k + 1 + 1) = Lx.mk (acc ++ [s[k + 1]]) by rw [HI.out.1]; exact hmk) hst)
              have t4 : ((s[k + 1].toNat : Int) != 34) = false ∨ (((s[k + 1].toNat : Int) != 34) = true ∧ ((s[k + 1].toNat : Int) != 92) = false) := by
                rcases hd with hd | hd
                · exact .inl (by rw [hd]; rfl)
                · exact .inr ⟨by rw [hd]; rfl, by rw [hd]; rfl⟩
              have t5 : ¬ (s[k + 1].toNat : Int) < 32 := by rcases hd with hd | hd <;> rw [hd] <;> decide
              have t6 : ¬ (s[k + 1].toNat : Int) > 126 := by rcases hd with hd | hd <;> rw [hd] <;> decide
              clear h34 h92 hcc hmk hst hd he
              rcases t4 with t4 | ⟨t4, t4'⟩
              · go_wp2_with fail
                go_round
                case rel => exact ⟨k + 1 + 1, _, _, rfl, by go_num, by omega, by rw [ByteArray.size_append]; omega, HN⟩
                case measure => simp [intOf]; omega
              · go_wp2_with fail
                go_round
                case rel => exact ⟨k + 1 + 1, _, _, rfl, by go_num, by omega, by rw [ByteArray.size_append]; omega, HN⟩
                case measure => simp [intOf]; omega
            · have HN := Lib.hid (txtTo_slash_bad HI.out.2 hlt h92 he2 hd)
              have HT := Lib.hid (tok_new Lx.no w)
              have t4 : ((s[k + 1].toNat : Int) != 34) = true := by
                have : ¬ s[k + 1].toNat = 34 := fun e => hd (.inl (UInt8.toNat_inj.1 e))
                simp; omega
              have t5 : ((s[k + 1].toNat : Int) != 92) = true := by
                have : ¬ s[k + 1].toNat = 92 := fun e => hd (.inr (UInt8.toNat_inj.1 e))
                simp; omega
              clear h34 h92 hcc hmk hd he
              go_wp2_with fail
              rw [HN.out]
              exact bodyPost_ret (v := .tuple #[tokV Lx.no, .int .i64 0, .int .i64 11]) (results_tok (p := 2) (u := 3) (x := 4) rfl _ _ w.heap.size Lx.no rfl HT.out.1) rfl ⟨rfl, HT.out.2.1⟩
        · have t2 : ((s[k].toNat : Int) == 92) = false := by
            have : ¬ s[k].toNat = 92 := fun e => h92 (UInt8.toNat_inj.1 e)
            simp; omega
          by_cases hb : s[k].toNat < 32 ∨ 126 < s[k].toNat
          · have HN := Lib.hid (txtTo_bad HI.out.2 hlt h34 h92 hb)
            have HT := Lib.hid (tok_new Lx.no w)
            have t3 : decide ((s[k].toNat : Int) < 32) = true ∨ (decide ((s[k].toNat : Int) < 32) = false ∧ decide (126 < (s[k].toNat : Int)) = true) := by
              by_cases h : s[k].toNat < 32
              · exact .inl (decide_eq_true (by omega))
              · exact .inr ⟨decide_eq_false (by omega), decide_eq_true (by omega)⟩
            clear h34 h92 hcc hb
            rcases t3 with t3 | ⟨t3, t3'⟩
            · go_wp2_with fail
              rw [HN.out]
              exact bodyPost_ret (v := .tuple #[tokV Lx.no, .int .i64 0, .int .i64 11]) (results_tok (p := 2) (u := 3) (x := 4) rfl _ _ w.heap.size Lx.no rfl HT.out.1) rfl ⟨rfl, HT.out.2.1⟩
            · go_wp2_with fail
              rw [HN.out]
              exact bodyPost_ret (v := .tuple #[tokV Lx.no, .int .i64 0, .int .i64 11]) (results_tok (p := 2) (u := 3) (x := 4) rfl _ _ w.heap.size Lx.no rfl HT.out.1) rfl ⟨rfl, HT.out.2.1⟩
          · have hst := txtTo_plain HI.out.2 hlt h34 h92 hb
            have HN := Lib.hid (And.intro (show A ++ s.extract k (k + 1) = Lx.mk (acc ++ [s[k]]) by rw [HI.out.1]; exact mk_app acc s k hlt) hst)
            have t3 : ¬ (s[k].toNat : Int) < 32 := by omega
            have t4 : ¬ (s[k].toNat : Int) > 126 := by omega
            clear h34 h92 hcc hst hb
            go_wp2_with fail
            go_round
            case rel => exact ⟨k + 1, _, _, rfl, by go_num, by omega, by rw [ByteArray.size_append]; omega, HN⟩
            case measure => simp [intOf]; omega
    · have HN := Lib.hid (txtTo_end HI.out.2 hlt)
      have HT := Lib.hid (tok_new Lx.no w)
      go_wp2_with fail
      rw [HN.out]
      exact bodyPost_ret (v := .tuple #[tokV Lx.no, .int .i64 0, .int .i64 11]) (results_tok (p := 2) (u := 3) (x := 4) rfl _ _ w.heap.size Lx.no rfl HT.out.1) rfl ⟨rfl, HT.out.2.1⟩
end Go.Proofs.YtmpfnokddpbgcaaDoor
