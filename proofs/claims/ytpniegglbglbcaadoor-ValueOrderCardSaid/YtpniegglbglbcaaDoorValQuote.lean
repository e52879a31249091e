/-
  Layer 12: a text's text: in quotes, the program's and the document's.
-/
import Derived.Test.YtpniegglbglbcaaDoorValRight
import Derived.Test.YtpniegglbglbcaaDoorBldF
import Derived.Lib.OthersKept
namespace Go.Proofs.YtpniegglbglbcaaDoor
open Go.RowKit
theorem bldf_34 (B b : Nat) (l : List UInt8) (w : World) (h : BldF w B b l) (hlen : l.length + 1 ≤ 140737488355328) (hBw : B ≤ w.heap.size) :
    Calls Tryd.prog 46 #[.pointer (some ⟨b, 0, none⟩), .int .u8 34] w fun e w' => e = .returned .nilIface ∧ BldF w' B b (l ++ [34]) ∧ Below B w w' ∧ KeptF b w w' := bldf_byte B b l 34 w h hlen hBw
theorem bldf_92 (B b : Nat) (l : List UInt8) (w : World) (h : BldF w B b l) (hlen : l.length + 1 ≤ 140737488355328) (hBw : B ≤ w.heap.size) :
    Calls Tryd.prog 46 #[.pointer (some ⟨b, 0, none⟩), .int .u8 92] w fun e w' => e = .returned .nilIface ∧ BldF w' B b (l ++ [92]) ∧ Below B w w' ∧ KeptF b w w' := bldf_byte B b l 92 w h hlen hBw
/-- what stands in quotes ahead of pos -/
def quoTo (s : ByteArray) (pos : Nat) : List UInt8 := 34 :: Vl.esc (s.data.toList.take pos)
theorem quoTo_len (s : ByteArray) (pos : Nat) (h : s.size ≤ 40) : (quoTo s pos).length ≤ 81 := by
  have h1 := Vl.esc_len (s.data.toList.take pos)
  have h2 : (s.data.toList.take pos).length ≤ 40 := by rw [List.length_take]; simp; omega
  unfold quoTo; rw [List.length_cons]; omega
theorem quoTo_step (s : ByteArray) (pos : Nat) (h : pos < s.size) : quoTo s (pos + 1) = quoTo s pos ++ (if s[pos] = 34 ∨ s[pos] = 92 then [92, s[pos]] else [s[pos]]) := by
  have hl : pos < s.data.toList.length := by simpa using h
  unfold quoTo
  rw [List.take_add_one, List.getElem?_eq_getElem hl, Vl.esc_append]
  show 34 :: (Vl.esc _ ++ Vl.esc [s[pos]]) = _
  rw [Vl.esc, Vl.esc]
  rw [List.cons_append]
theorem quoTo_end (s : ByteArray) (pos : Nat) (h : ¬ pos < s.size) : quoTo s pos ++ [34] = Vl.quoteL s.data.toList := by
  unfold quoTo Vl.quoteL
  rw [List.take_of_length_le (by simp; omega), List.cons_append]
/-- the loop's state: the builder N, the iterator G -/
structure QuoAt (s : ByteArray) (w : World) (G pos : Nat) (wr : World) : Prop where
  bld : BldF wr w.heap.size w.heap.size (quoTo s pos)
  iter : wr.heap[G]? = some (.stringIter s pos)
  below : Below w.heap.size w wr
theorem quoAt_next {s : ByteArray} {w wr : World} {G pos : Nat} (h : QuoAt s w G pos wr) (hG : w.heap.size < G) (pos' : Nat) : BldF (wr.iterAt G s pos') w.heap.size w.heap.size (quoTo s pos) ∧ (wr.iterAt G s pos').heap[G]? = some (.stringIter s pos') ∧ Below w.heap.size w (wr.iterAt G s pos') :=
  ⟨Lib.IsBuilderF.iterAt h.bld h.iter pos', Lib.iterAt_heap wr G s pos pos' h.iter, Lib.below_iterAt h.below (Nat.le_of_lt hG) s pos'⟩
set_option maxRecDepth 100000 in
set_option maxHeartbeats 3200000 in
theorem quoted_any (s : ByteArray) (hp : Vl.plain s) (w : World) :
    Calls Tryd.prog 26 #[.string s] w fun e w' => e = .returned (.string ⟨(Vl.quoteL s.data.toList).toArray⟩) ∧ Below w.heap.size w w' := by
  have h40 := hp.1
  have HP := Lib.hid hp
  clear hp
  have c0 := bldf_34 w.heap.size w.heap.size [] _ (bldf_fresh w) (by simp) (by simp)
  have b0 := Lib.hid ((Below.refl w.heap.size w).alloc (Nat.le_refl _) (.cells #[.pointer none, .slice none 0 0] 62))
  go_enter Tryd.func26, Tryd.ntmps26
  go_wp2_with fail
  refine c0.mono ?_
  rintro e w1 ⟨rfl, hbl, hb1, _⟩
  have h1 : w.heap.size < w1.heap.size := by have := hb1.size; rw [World.size_alloc] at this; omega
  have I1 : QuoAt s w w1.heap.size 0 (w1.iter s 0) := ⟨Lib.IsBuilderF.alloc hbl _, World.iter_heap w1 s 0, (b0.out.trans hb1).alloc (Nat.le_of_lt h1) _⟩
  have HI1 := Lib.hid I1
  clear hbl hb1 c0 I1
  generalize hG : w1.heap.size = G at *
  go_wp2_with fail
  go_loopw [5] (fun _ wr => ∃ (pos : Nat), pos ≤ s.size ∧ QuoAt s w G pos wr) (fun _ wr => s.size - wr.iterPos G)
  case atStart => exact ⟨0, Nat.zero_le _, by first | exact HI1.out | (rw [← hG] at *; exact HI1.out)⟩
  case round =>
    obtain ⟨pos, hle, hI⟩ := hrel
    have hit := iterPos_of hI.iter
    by_cases hps : pos < s.size
    · have hc := HP.out.2 s[pos] (by
        have hl : pos < s.data.toList.length := by simpa using hps
        exact (List.getElem_mem hl : s.data.toList[pos] ∈ s.data.toList))
      have hnx : ∀ ty, (Instr.next (.pointer (some ⟨G, 0, none⟩)) true ty).run Tryd.prog wr = _ := fun ty => Lib.run_next_ascii_at wr G s pos ty hI.iter hps (by omega)
      have hlen := quoTo_len s pos h40
      obtain ⟨q1, q2, q3⟩ := quoAt_next hI h1 (pos + 1)
      have hst := quoTo_step s pos hps
      have HQ := Lib.hid (And.intro q1 (And.intro q2 (And.intro q3 hst)))
      have hq3 := q3.size
      clear q1 q2 q3 hst hI
      generalize hwn : wr.iterAt G s (pos + 1) = wn at *
      obtain ⟨c, hcc⟩ : ∃ c, c = s[pos] := ⟨_, rfl⟩
      rw [← hcc] at hc hnx
      by_cases hq : (c.toNat : Int) = 34 ∨ (c.toNat : Int) = 92
      · have HS : Hid (quoTo s (pos + 1) = quoTo s pos ++ [92] ++ [c]) := Lib.hid (by
          rw [HQ.out.2.2.2, ← hcc, if_pos (hq.elim (fun h => .inl (UInt8.toNat_inj.1 (Int.ofNat_inj.1 h))) (fun h => .inr (UInt8.toNat_inj.1 (Int.ofNat_inj.1 h)))), List.append_assoc]; rfl)
        have t : ((c.toNat : Int) == 34) = true ∨ (((c.toNat : Int) == 34) = false ∧ ((c.toNat : Int) == 92) = true) := by
          rcases hq with h | h
          · exact .inl (by simp [h])
          · exact .inr ⟨by simp [h], by simp [h]⟩
        clear hcc hq
        rcases t with t | ⟨t, t'⟩
        · go_wp2_with fail
          refine (bldf_92 _ _ _ wn HQ.out.1 (by omega) hq3).mono ?_
          rintro e w3 ⟨rfl, hbl3, hb3, hk3⟩
          have hlen3 : (quoTo s pos ++ [92]).length ≤ 82 := by rw [List.length_append]; show _ + 1 ≤ 82; omega
          have hs3 := (HQ.out.2.2.1.trans hb3).size
          have H3 := Lib.hid (And.intro hbl3 (And.intro (hk3.iter HQ.out.2.1 (by omega)) (HQ.out.2.2.1.trans hb3)))
          clear hbl3 hb3 hk3
          go_wp2_with fail
          refine (bldf_rune _ _ _ c (by omega) w3 H3.out.1 (by omega) hs3).mono ?_
          rintro e w4 ⟨rfl, hbl, hb4, hk4⟩
          have I4 : QuoAt s w G (pos + 1) w4 := ⟨by rw [HS.out]; exact hbl, hk4.iter H3.out.2.1 (by omega), H3.out.2.2.trans hb4⟩
          have HI4 := Lib.hid I4
          clear hbl hb4 hk4 I4
          go_wp2_with fail
          go_roundw
          case rel => exact ⟨pos + 1, by omega, HI4.out⟩
          case measure => rw [iterPos_of HI4.out.iter, hit]; omega
        · go_wp2_with fail
          refine (bldf_92 _ _ _ wn HQ.out.1 (by omega) hq3).mono ?_
          rintro e w3 ⟨rfl, hbl3, hb3, hk3⟩
          have hlen3 : (quoTo s pos ++ [92]).length ≤ 82 := by rw [List.length_append]; show _ + 1 ≤ 82; omega
          have hs3 := (HQ.out.2.2.1.trans hb3).size
          have H3 := Lib.hid (And.intro hbl3 (And.intro (hk3.iter HQ.out.2.1 (by omega)) (HQ.out.2.2.1.trans hb3)))
          clear hbl3 hb3 hk3
          go_wp2_with fail
          refine (bldf_rune _ _ _ c (by omega) w3 H3.out.1 (by omega) hs3).mono ?_
          rintro e w4 ⟨rfl, hbl, hb4, hk4⟩
          have I4 : QuoAt s w G (pos + 1) w4 := ⟨by rw [HS.out]; exact hbl, hk4.iter H3.out.2.1 (by omega), H3.out.2.2.trans hb4⟩
          have HI4 := Lib.hid I4
          clear hbl hb4 hk4 I4
          go_wp2_with fail
          go_roundw
          case rel => exact ⟨pos + 1, by omega, HI4.out⟩
          case measure => rw [iterPos_of HI4.out.iter, hit]; omega
      · have HS : Hid (quoTo s (pos + 1) = quoTo s pos ++ [c]) := Lib.hid (by
          rw [HQ.out.2.2.2, ← hcc, if_neg (by rintro (h | h) <;> (apply hq; rw [h]; decide))])
        have t1 : ((c.toNat : Int) == 34) = false := by simp; omega
        have t2 : ((c.toNat : Int) == 92) = false := by simp; omega
        clear hcc hq
        go_wp2_with fail
        refine (bldf_rune _ _ _ c (by omega) wn HQ.out.1 (by omega) hq3).mono ?_
        rintro e w4 ⟨rfl, hbl, hb4, hk4⟩
        have I4 : QuoAt s w G (pos + 1) w4 := ⟨by rw [HS.out]; exact hbl, hk4.iter HQ.out.2.1 (by omega), HQ.out.2.2.1.trans hb4⟩
        have HI4 := Lib.hid I4
        clear hbl hb4 hk4 I4
        go_wp2_with fail
        go_roundw
        case rel => exact ⟨pos + 1, by omega, HI4.out⟩
        case measure => rw [iterPos_of HI4.out.iter, hit]; omega
    · have hnx : ∀ ty, (Instr.next (.pointer (some ⟨G, 0, none⟩)) true ty).run Tryd.prog wr = _ := fun ty => Lib.run_next_end_at wr G s pos ty hI.iter hps
      have hlen := quoTo_len s pos h40
      have HE := Lib.hid (quoTo_end s pos hps)
      have hsz := hI.below.size
      have HI := Lib.hid hI
      clear hI
      go_wp2_with fail
      refine (bldf_34 _ _ _ wr HI.out.bld (by omega) hsz).mono ?_
      rintro e w4 ⟨rfl, hbl, hb4, _⟩
      rw [HE.out] at hbl
      have HB := Lib.hid (And.intro hbl (HI.out.below.trans hb4))
      have hs4 := (HI.out.below.trans hb4).size
      clear hbl hb4
      go_wp2_with fail
      refine (bldf_string _ _ _ w4 HB.out.1 hs4).mono ?_
      rintro e w5 ⟨rfl, hb5⟩
      have H5 := Lib.hid (HB.out.2.trans hb5)
      clear hb5
      go_wp2_with fail
      go_ret
      exact ⟨rfl, H5.out⟩
/-- what stands in quotes ahead of pos, as a string -/
def quoB (s : ByteArray) (pos : Nat) : ByteArray := ⟨(quoTo s pos).toArray⟩
theorem quoB_size (s : ByteArray) (pos : Nat) (h : s.size ≤ 40) : (quoB s pos).size ≤ 81 := by
  show (quoTo s pos).toArray.size ≤ 81
  rw [List.size_toArray]; exact quoTo_len s pos h
theorem quoB_start (s : ByteArray) : quoB s 0 = ⟨#[34]⟩ := by simp [quoB, quoTo, Vl.esc]
theorem cut_one (s : ByteArray) (k : Nat) (h : k < s.size) : (s.extract k (k + 1)).data.toList = [s[k]] := by
  have hl : k < s.data.toList.length := by simpa using h
  rw [Sl.ext_list, show k + 1 - k = 1 by omega, Oct.drop_at _ _ hl]; rfl
theorem quoB_plain (s : ByteArray) (k : Nat) (h : k < s.size) (hq : ¬ (s[k] = 34 ∨ s[k] = 92)) : quoB s k ++ s.extract k (k + 1) = quoB s (k + 1) := by
  apply Sl.ba_ext
  rw [ByteArray.data_append, Array.toList_append, cut_one s k h]
  show quoTo s k ++ [s[k]] = quoTo s (k + 1)
  rw [quoTo_step s k h, if_neg hq]
theorem quoB_esc (s : ByteArray) (k : Nat) (h : k < s.size) (hq : s[k] = 34 ∨ s[k] = 92) : quoB s k ++ ⟨#[92]⟩ ++ s.extract k (k + 1) = quoB s (k + 1) := by
  apply Sl.ba_ext
  rw [ByteArray.data_append, ByteArray.data_append, Array.toList_append, Array.toList_append, cut_one s k h]
  show quoTo s k ++ [92] ++ [s[k]] = quoTo s (k + 1)
  rw [quoTo_step s k h, if_pos hq, List.append_assoc]; rfl
theorem quoB_end (s : ByteArray) (k : Nat) (h : ¬ k < s.size) : quoB s k ++ ⟨#[34]⟩ = ⟨(Vl.quoteL s.data.toList).toArray⟩ := by
  apply Sl.ba_ext
  rw [ByteArray.data_append, Array.toList_append]
  exact quoTo_end s k h
set_option maxRecDepth 100000 in
set_option maxHeartbeats 3200000 in
theorem rquote_any (s : ByteArray) (hp : Vl.plain s) (w : World) :
    Calls Tryd.prog 32 #[.string s] w fun e w' => e = .returned (.string ⟨(Vl.quoteL s.data.toList).toArray⟩) ∧ w' = w := by
  have h40 := hp.1
  clear hp
  go_enter Tryd.func32, Tryd.ntmps32
  go_wp2
  go_loop [3, 4] (fun o i => ∃ k : Nat, i = .int .i64 k ∧ k ≤ s.size ∧ ∃ B : ByteArray, o = .string B ∧ Hid (B = quoB s k)) (fun _ i => s.size - (intOf i).toNat)
  case atStart => exact ⟨0, rfl, Nat.zero_le _, _, rfl, Lib.hid (quoB_start s).symm⟩
  case round =>
    obtain ⟨k, rfl, hle, B, rfl, HB⟩ := hrel
    have hBs : B.size ≤ 81 := by rw [HB.out]; exact quoB_size s k h40
    by_cases hlt : k < s.size
    · obtain ⟨c, hcc⟩ : ∃ c, c = s[k] := ⟨_, rfl⟩
      have hxs : (s.extract k (k + 1)).size = 1 := by rw [ByteArray.size_extract]; omega
      have c256 : c.toNat < 256 := c.toNat_lt
      by_cases hq : (c.toNat : Int) = 34 ∨ (c.toNat : Int) = 92
      · have hq' : s[k] = 34 ∨ s[k] = 92 := by
          rw [← hcc]
          exact hq.elim (fun h => .inl (UInt8.toNat_inj.1 (Int.ofNat_inj.1 h))) (fun h => .inr (UInt8.toNat_inj.1 (Int.ofNat_inj.1 h)))
        have HS := Lib.hid (quoB_esc s k hlt hq')
        have t : (((s[k]).toNat : Int) == 34) = true ∨ ((((s[k]).toNat : Int) == 34) = false ∧ (((s[k]).toNat : Int) == 92) = true) := by
          rw [← hcc]
          rcases hq with h | h
          · exact .inl (by simp [h])
          · exact .inr ⟨by simp [h], by simp [h]⟩
        have h92 : (⟨#[92]⟩ : ByteArray).size = 1 := rfl
        have hBx : (B ++ (⟨#[92]⟩ : ByteArray)).size ≤ 82 := by rw [ByteArray.size_append]; omega
        clear hq hq' hcc c256
        rcases t with t | ⟨t, t'⟩
        · go_wp2_with fail
          go_round
          case rel => exact ⟨k + 1, by go_num, by omega, _, rfl, Lib.hid (by rw [HB.out]; exact HS.out)⟩
          case measure => simp [intOf]; omega
        · go_wp2_with fail
          go_round
          case rel => exact ⟨k + 1, by go_num, by omega, _, rfl, Lib.hid (by rw [HB.out]; exact HS.out)⟩
          case measure => simp [intOf]; omega
      · have hq' : ¬ (s[k] = 34 ∨ s[k] = 92) := by
          rw [← hcc]
          rintro (h | h) <;> (apply hq; rw [h]; decide)
        have HS := Lib.hid (quoB_plain s k hlt hq')
        have t1 : (((s[k]).toNat : Int) == 34) = false := by rw [← hcc]; simp; omega
        have t2 : (((s[k]).toNat : Int) == 92) = false := by rw [← hcc]; simp; omega
        clear hq hq' hcc c256
        go_wp2_with fail
        go_round
        case rel => exact ⟨k + 1, by go_num, by omega, _, rfl, Lib.hid (by rw [HB.out]; exact HS.out)⟩
        case measure => simp [intOf]; omega
    · have HE := Lib.hid (quoB_end s k hlt)
      have h34 : (⟨#[34]⟩ : ByteArray).size = 1 := rfl
      go_wp2_with fail
      go_ret
      exact ⟨ret_str (by rw [HB.out]; exact HE.out), rfl⟩
end Go.Proofs.YtpniegglbglbcaaDoor
