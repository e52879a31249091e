/-
  Layer 13: the document's first token of a text: numbers.
-/
import Derived.Test.YtmpfnokddpbgcaaDoorZLexRef
namespace Go.Proofs.YtmpfnokddpbgcaaDoor
open Go.RowKit
/-- k digits are told: v is what they say, or it is too much -/
structure NumTo (s : ByteArray) (k : Nat) (v : Nat) (over : Bool) : Prop where
  all : Lx.digs s.data.toList = s.data.toList.take k ++ Lx.digs (s.data.toList.drop k)
  le : k ≤ s.size
  most : v ≤ Lx.maxI
  is : over = decide (Lx.maxI < Vl.val (s.data.toList.take k) 0)
  eq : over = false → v = Vl.val (s.data.toList.take k) 0
theorem numTo_start (s : ByteArray) : NumTo s 0 0 false := ⟨by simp, Nat.zero_le _, by decide, by simp [Vl.val, Lx.maxI], fun _ => rfl⟩
theorem digs_cons_yes {c : UInt8} (r : List UInt8) (h : Lx.digit c = true) : Lx.digs (c :: r) = c :: Lx.digs r := by unfold Lx.digs; rw [List.takeWhile_cons, if_pos h]
theorem digs_cons_no {c : UInt8} (r : List UInt8) (h : Lx.digit c = false) : Lx.digs (c :: r) = [] := by unfold Lx.digs; rw [List.takeWhile_cons, h]; simp
theorem take_next (s : ByteArray) (k : Nat) (hk : k < s.size) : s.data.toList.take (k + 1) = s.data.toList.take k ++ [s[k]] := by
  have hl : k < s.data.toList.length := by simpa using hk
  rw [List.take_succ_eq_append_getElem hl]; rfl
theorem drop_next (s : ByteArray) (k : Nat) (hk : k < s.size) : s.data.toList.drop k = s[k] :: s.data.toList.drop (k + 1) := by
  have hl : k < s.data.toList.length := by simpa using hk
  exact Oct.drop_at _ _ hl
theorem numTo_digs {s : ByteArray} {k v : Nat} {over : Bool} (h : NumTo s k v over) (hk : k < s.size) (hd : Lx.digit s[k] = true) : Lx.digs s.data.toList = s.data.toList.take (k + 1) ++ Lx.digs (s.data.toList.drop (k + 1)) := by
  rw [h.all, drop_next s k hk, digs_cons_yes _ hd, take_next s k hk, List.append_assoc]; rfl
theorem val_next (s : ByteArray) (k : Nat) (hk : k < s.size) : Vl.val (s.data.toList.take (k + 1)) 0 = Vl.val (s.data.toList.take k) 0 * 10 + (s[k].toNat - 48) := by
  rw [take_next s k hk, Vl.val_append]; rfl
/-- it was too much, and is -/
theorem numTo_over {s : ByteArray} {k v : Nat} (h : NumTo s k v true) (hk : k < s.size) (hd : Lx.digit s[k] = true) : NumTo s (k + 1) v true := by
  have hi := of_decide_eq_true h.is.symm
  refine ⟨numTo_digs h hk hd, by omega, h.most, ?_, fun e => by cases e⟩
  rw [val_next s k hk]; symm; apply decide_eq_true; omega
/-- it is too much now -/
theorem numTo_much {s : ByteArray} {k v : Nat} (h : NumTo s k v false) (hk : k < s.size) (hd : Lx.digit s[k] = true) (hv : Lx.maxI < 10 * v + (s[k].toNat - 48)) : NumTo s (k + 1) v true := by
  refine ⟨numTo_digs h hk hd, by omega, h.most, ?_, fun e => by cases e⟩
  rw [val_next s k hk, ← h.eq rfl]; symm; apply decide_eq_true; omega
theorem numTo_more {s : ByteArray} {k v : Nat} (h : NumTo s k v false) (hk : k < s.size) (hd : Lx.digit s[k] = true) (hv : ¬ Lx.maxI < 10 * v + (s[k].toNat - 48)) : NumTo s (k + 1) (10 * v + (s[k].toNat - 48)) false := by
  refine ⟨numTo_digs h hk hd, by omega, by omega, ?_, fun _ => ?_⟩
  · rw [val_next s k hk, ← h.eq rfl]; symm; apply decide_eq_false; omega
  · rw [val_next s k hk, ← h.eq rfl]; omega
/-- where the digits end -/
theorem numTo_end {s : ByteArray} {k v : Nat} {over : Bool} (h : NumTo s k v over) (he : ∀ hk : k < s.size, Lx.digit s[k] = false) : Lx.digs s.data.toList = s.data.toList.take k ∧ (Lx.digs s.data.toList).length = k := by
  have h1 : Lx.digs s.data.toList = s.data.toList.take k := by
    rw [h.all]
    by_cases hk : k < s.size
    · rw [drop_next s k hk, digs_cons_no _ (he hk), List.append_nil]
    · rw [List.drop_eq_nil_of_le (by rw [Array.length_toList]; show s.size ≤ k; omega)]; exact List.append_nil _
  refine ⟨h1, ?_⟩
  rw [h1, List.length_take, Array.length_toList]
  have := h.le
  show min k s.size = k
  omega
theorem head_at0 (s : ByteArray) (h : 0 < s.size) : s.data.toList.head? = some s[0] := by
  have := drop_next s 0 h
  rw [List.drop_zero] at this
  rw [this]; rfl
/-- what the number's loop ends in -/
theorem num_syntax {s : ByteArray} {k v : Nat} {over : Bool} (h : NumTo s k v over) (he : ∀ hk : k < s.size, Lx.digit s[k] = false) (h1 : 1 < k) (h0 : 0 < s.size) (hz : s[0] = 48) : Lx.numT s.data.toList = (Lx.no, 0, 11) := by
  obtain ⟨_, e2⟩ := numTo_end h he
  unfold Lx.numT; rw [if_pos ⟨by omega, by rw [head_at0 s h0, hz]⟩]
theorem num_over {s : ByteArray} {k v : Nat} (h : NumTo s k v true) (he : ∀ hk : k < s.size, Lx.digit s[k] = false) (hz : ¬ (1 < k ∧ ∃ h0 : 0 < s.size, s[0] = 48)) : Lx.numT s.data.toList = (Lx.no, 0, 15) := by
  obtain ⟨e1, e2⟩ := numTo_end h he
  have hi := of_decide_eq_true h.is.symm
  unfold Lx.numT
  rw [if_neg, if_pos (by rw [e1]; exact hi)]
  rintro ⟨a, b⟩
  have h0 : 0 < s.size := by have := h.le; omega
  rw [head_at0 s h0] at b
  exact hz ⟨by omega, h0, by injection b⟩
theorem num_ok {s : ByteArray} {k v : Nat} (h : NumTo s k v false) (he : ∀ hk : k < s.size, Lx.digit s[k] = false) (hz : ¬ (1 < k ∧ ∃ h0 : 0 < s.size, s[0] = 48)) : Lx.numT s.data.toList = (⟨2, Vl.mt, (v : Nat), 0⟩, k, 0) := by
  obtain ⟨e1, e2⟩ := numTo_end h he
  have hi := of_decide_eq_false h.is.symm
  unfold Lx.numT
  rw [if_neg, if_neg (by rw [e1]; exact hi), e2, e1, ← h.eq rfl]
  rintro ⟨a, b⟩
  have h0 : 0 < s.size := by have := h.le; omega
  rw [head_at0 s h0] at b
  exact hz ⟨by omega, h0, by injection b⟩
set_option maxRecDepth 100000 in
set_option maxHeartbeats 3200000 in
theorem rnumber13_any (s : ByteArray) (w : World) (hs : s.size ≤ maxLen) :
    Calls Tryd.prog 36 #[.string s] w fun e w' => e = .returned (.tuple #[tokV (Lx.numT s.data.toList).1, .int .i64 ((Lx.numT s.data.toList).2.1 : Nat), .int .i64 (Lx.numT s.data.toList).2.2]) ∧ Below w.heap.size w w' := by
  unfold maxLen at hs
  go_enter Tryd.func36, Tryd.ntmps36
  go_wp2
  go_loop [5, 6, 7, 8] (fun i v o _ => ∃ (k V : Nat) (over : Bool), i = .int .i64 (k : Int) ∧ v = .int .i64 (V : Int) ∧ o = .bool over ∧ k ≤ s.size ∧ V ≤ 9223372036854775807 ∧ Hid (NumTo s k V over)) (fun i _ _ _ => s.size - (intOf i).toNat)
  case atStart => exact ⟨0, 0, false, rfl, rfl, rfl, Nat.zero_le _, Nat.zero_le _, Lib.hid (numTo_start s)⟩
  case round =>
    obtain ⟨k, V, over, rfl, rfl, rfl, hle, hV, HNT⟩ := hrel
    by_cases hdig : ∃ hk : k < s.size, Lx.digit s[k] = true
    · obtain ⟨hlt, hD⟩ := hdig
      have cD := fun w => rdigit13_any s[k] w
      rw [hD] at cD
      have hd := (Lx.digit_iff _).1 hD
      have hstep : NumTo s k V over := HNT.out
      have HC := Lib.hid (And.intro cD hD)
      clear cD
      cases over with
      | true =>
        have HN := Lib.hid (numTo_over hstep hlt hD)
        clear hstep hD
        go_wp2_with (go_at_call 35; refine (HC.out.1 _).mono ?_; rintro e w1 ⟨rfl, rfl⟩)
        go_round
        case rel => exact ⟨k + 1, V, true, by go_num, rfl, rfl, by omega, hV, HN⟩
        case measure => simp [intOf]; omega
      | false =>
        by_cases hv : Lx.maxI < 10 * V + (s[k].toNat - 48)
        · have HN := Lib.hid (numTo_much hstep hlt hD hv)
          have hv2 : decide ((9223372036854775807 - ((s[k].toNat : Int) - 48)) / 10 < (V : Int)) = true := decide_eq_true (by unfold Lx.maxI at hv; omega)
          clear hstep hD hv
          go_wp2_with (go_at_call 35; refine (HC.out.1 _).mono ?_; rintro e w1 ⟨rfl, rfl⟩)
          go_round
          case rel => exact ⟨k + 1, V, true, by go_num, rfl, rfl, by omega, hV, HN⟩
          case measure => simp [intOf]; omega
        · have HN := Lib.hid (numTo_more hstep hlt hD hv)
          have hv2 : decide ((9223372036854775807 - ((s[k].toNat : Int) - 48)) / 10 < (V : Int)) = false := decide_eq_false (by unfold Lx.maxI at hv; omega)
          have hv3 : 10 * V + (s[k].toNat - 48) ≤ 9223372036854775807 := by unfold Lx.maxI at hv; omega
          clear hstep hD hv
          go_wp2_with (go_at_call 35; refine (HC.out.1 _).mono ?_; rintro e w1 ⟨rfl, rfl⟩)
          go_round
          case rel => exact ⟨k + 1, 10 * V + (s[k].toNat - 48), false, by go_num, by go_num, rfl, by omega, hv3, HN⟩
          case measure => simp [intOf]; omega
    · have he : ∀ hk : k < s.size, Lx.digit s[k] = false := fun hk => by
        cases h : Lx.digit s[k] with
        | false => rfl
        | true => exact absurd ⟨hk, h⟩ hdig
      clear hdig
      by_cases hlt : k < s.size
      · have cD := fun w => rdigit13_any s[k] w
        rw [he hlt] at cD
        have HC := Lib.hid cD
        clear cD
        cases over with
        | true =>
          by_cases h1 : (k : Int) > 1
          · have h0 : 0 < s.size := by omega
            by_cases hz : s[0] = 48
            · have HN := Lib.hid (num_syntax HNT.out he (by omega) h0 hz)
              have hz2 : ((s[0].toNat : Int) == 48) = true := by rw [hz]; rfl
              clear he hz
              have HT := Lib.hid (tok_new Lx.no w)
              clear HNT
              go_wp2_with (go_at_call 35; refine (HC.out _).mono ?_; rintro e w1 ⟨rfl, rfl⟩)
              rw [HN.out]
              exact bodyPost_ret (v := .tuple #[tokV Lx.no, .int .i64 0, .int .i64 11]) (results_tok (p := 2) (u := 3) (x := 4) rfl _ _ w.heap.size Lx.no rfl HT.out.1) rfl ⟨rfl, HT.out.2.1⟩
            · have HN := Lib.hid (num_over HNT.out he (fun x => hz x.2.2))
              have hz2 : ((s[0].toNat : Int) == 48) = false := by
                have : ¬ s[0].toNat = 48 := fun e => hz (UInt8.toNat_inj.1 e)
                simp; omega
              clear he hz
              have HT := Lib.hid (tok_new Lx.no w)
              clear HNT
              go_wp2_with (go_at_call 35; refine (HC.out _).mono ?_; rintro e w1 ⟨rfl, rfl⟩)
              rw [HN.out]
              exact bodyPost_ret (v := .tuple #[tokV Lx.no, .int .i64 0, .int .i64 15]) (results_tok (p := 2) (u := 3) (x := 4) rfl _ _ w.heap.size Lx.no rfl HT.out.1) rfl ⟨rfl, HT.out.2.1⟩
          · have HN := Lib.hid (num_over HNT.out he (fun x => by have := x.1; omega))
            clear he
            have HT := Lib.hid (tok_new Lx.no w)
            clear HNT
            go_wp2_with (go_at_call 35; refine (HC.out _).mono ?_; rintro e w1 ⟨rfl, rfl⟩)
            rw [HN.out]
            exact bodyPost_ret (v := .tuple #[tokV Lx.no, .int .i64 0, .int .i64 15]) (results_tok (p := 2) (u := 3) (x := 4) rfl _ _ w.heap.size Lx.no rfl HT.out.1) rfl ⟨rfl, HT.out.2.1⟩
        | false =>
          by_cases h1 : (k : Int) > 1
          · have h0 : 0 < s.size := by omega
            by_cases hz : s[0] = 48
            · have HN := Lib.hid (num_syntax HNT.out he (by omega) h0 hz)
              have hz2 : ((s[0].toNat : Int) == 48) = true := by rw [hz]; rfl
              clear he hz
              have HT := Lib.hid (tok_new Lx.no w)
              clear HNT
              go_wp2_with (go_at_call 35; refine (HC.out _).mono ?_; rintro e w1 ⟨rfl, rfl⟩)
              rw [HN.out]
              exact bodyPost_ret (v := .tuple #[tokV Lx.no, .int .i64 0, .int .i64 11]) (results_tok (p := 2) (u := 3) (x := 4) rfl _ _ w.heap.size Lx.no rfl HT.out.1) rfl ⟨rfl, HT.out.2.1⟩
            · have HN := Lib.hid (num_ok HNT.out he (fun x => hz x.2.2))
              have hz2 : ((s[0].toNat : Int) == 48) = false := by
                have : ¬ s[0].toNat = 48 := fun e => hz (UInt8.toNat_inj.1 e)
                simp; omega
              clear he hz
              have HT := Lib.hid (tok_new ⟨2, Vl.mt, (V : Int), 0⟩ w)
              clear HNT
              go_wp2_with (go_at_call 35; refine (HC.out _).mono ?_; rintro e w1 ⟨rfl, rfl⟩)
              rw [HN.out]
              exact bodyPost_ret (v := .tuple #[tokV ⟨2, Vl.mt, (V : Int), 0⟩, .int .i64 (k : Int), .int .i64 0]) (results_tok (p := 2) (u := 3) (x := 4) rfl _ _ w.heap.size ⟨2, Vl.mt, (V : Int), 0⟩ rfl HT.out.1) rfl ⟨rfl, HT.out.2.1⟩
          · have HN := Lib.hid (num_ok HNT.out he (fun x => by have := x.1; omega))
            clear he
            have HT := Lib.hid (tok_new ⟨2, Vl.mt, (V : Int), 0⟩ w)
            clear HNT
            go_wp2_with (go_at_call 35; refine (HC.out _).mono ?_; rintro e w1 ⟨rfl, rfl⟩)
            rw [HN.out]
            exact bodyPost_ret (v := .tuple #[tokV ⟨2, Vl.mt, (V : Int), 0⟩, .int .i64 (k : Int), .int .i64 0]) (results_tok (p := 2) (u := 3) (x := 4) rfl _ _ w.heap.size ⟨2, Vl.mt, (V : Int), 0⟩ rfl HT.out.1) rfl ⟨rfl, HT.out.2.1⟩
      · cases over with
        | true =>
          by_cases h1 : (k : Int) > 1
          · have h0 : 0 < s.size := by omega
            by_cases hz : s[0] = 48
            · have HN := Lib.hid (num_syntax HNT.out he (by omega) h0 hz)
              have hz2 : ((s[0].toNat : Int) == 48) = true := by rw [hz]; rfl
              clear he hz
              have HT := Lib.hid (tok_new Lx.no w)
              clear HNT
              go_wp2_with fail
              rw [HN.out]
              exact bodyPost_ret (v := .tuple #[tokV Lx.no, .int .i64 0, .int .i64 11]) (results_tok (p := 2) (u := 3) (x := 4) rfl _ _ w.heap.size Lx.no rfl HT.out.1) rfl ⟨rfl, HT.out.2.1⟩
            · have HN := Lib.hid (num_over HNT.out he (fun x => hz x.2.2))
              have hz2 : ((s[0].toNat : Int) == 48) = false := by
                have : ¬ s[0].toNat = 48 := fun e => hz (UInt8.toNat_inj.1 e)
                simp; omega
              clear he hz
              have HT := Lib.hid (tok_new Lx.no w)
              clear HNT
              go_wp2_with fail
              rw [HN.out]
              exact bodyPost_ret (v := .tuple #[tokV Lx.no, .int .i64 0, .int .i64 15]) (results_tok (p := 2) (u := 3) (x := 4) rfl _ _ w.heap.size Lx.no rfl HT.out.1) rfl ⟨rfl, HT.out.2.1⟩
          · have HN := Lib.hid (num_over HNT.out he (fun x => by have := x.1; omega))
            clear he
            have HT := Lib.hid (tok_new Lx.no w)
            clear HNT
            go_wp2_with fail
            rw [HN.out]
            exact bodyPost_ret (v := .tuple #[tokV Lx.no, .int .i64 0, .int .i64 15]) (results_tok (p := 2) (u := 3) (x := 4) rfl _ _ w.heap.size Lx.no rfl HT.out.1) rfl ⟨rfl, HT.out.2.1⟩
        | false =>
          by_cases h1 : (k : Int) > 1
          · have h0 : 0 < s.size := by omega
            by_cases hz : s[0] = 48
            · have HN := Lib.hid (num_syntax HNT.out he (by omega) h0 hz)
              have hz2 : ((s[0].toNat : Int) == 48) = true := by rw [hz]; rfl
              clear he hz
              have HT := Lib.hid (tok_new Lx.no w)
              clear HNT
              go_wp2_with fail
              rw [HN.out]
              exact bodyPost_ret (v := .tuple #[tokV Lx.no, .int .i64 0, .int .i64 11]) (results_tok (p := 2) (u := 3) (x := 4) rfl _ _ w.heap.size Lx.no rfl HT.out.1) rfl ⟨rfl, HT.out.2.1⟩
            · have HN := Lib.hid (num_ok HNT.out he (fun x => hz x.2.2))
              have hz2 : ((s[0].toNat : Int) == 48) = false := by
                have : ¬ s[0].toNat = 48 := fun e => hz (UInt8.toNat_inj.1 e)
                simp; omega
              clear he hz
              have HT := Lib.hid (tok_new ⟨2, Vl.mt, (V : Int), 0⟩ w)
              clear HNT
              go_wp2_with fail
              rw [HN.out]
              exact bodyPost_ret (v := .tuple #[tokV ⟨2, Vl.mt, (V : Int), 0⟩, .int .i64 (k : Int), .int .i64 0]) (results_tok (p := 2) (u := 3) (x := 4) rfl _ _ w.heap.size ⟨2, Vl.mt, (V : Int), 0⟩ rfl HT.out.1) rfl ⟨rfl, HT.out.2.1⟩
          · have HN := Lib.hid (num_ok HNT.out he (fun x => by have := x.1; omega))
            clear he
            have HT := Lib.hid (tok_new ⟨2, Vl.mt, (V : Int), 0⟩ w)
            clear HNT
            go_wp2_with fail
            rw [HN.out]
            exact bodyPost_ret (v := .tuple #[tokV ⟨2, Vl.mt, (V : Int), 0⟩, .int .i64 (k : Int), .int .i64 0]) (results_tok (p := 2) (u := 3) (x := 4) rfl _ _ w.heap.size ⟨2, Vl.mt, (V : Int), 0⟩ rfl HT.out.1) rfl ⟨rfl, HT.out.2.1⟩
end Go.Proofs.YtmpfnokddpbgcaaDoor
