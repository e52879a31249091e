/-
  Layer 7: the program's Open.
-/
import Derived.Test.YtednmncapfclfaaZWalAppend
namespace Go.Proofs.Ytednmncapfclfaa
open Go.RowKit
/-- what Open leaves -/
def OpenP (T p : Nat) (E : Int) (g : Wl.Lg) (w : World) (e : Ending) (w' : World) : Prop :=
  (E ≠ 0 ∧ e = .returned (.tuple #[.pointer none, .int .i64 E]) ∧ Below w.heap.size w w') ∨ (E = 0 ∧ ∃ l, e = .returned (.tuple #[.pointer (some ⟨l, 0, none⟩), .int .i64 0]) ∧ LogAt T w' (fun k => w.heap.size ≤ k) l p g ∧ Below w.heap.size w w')
theorem Dk.readE_one (d : Dk.D) (i : Int) : (Dk.readE d i == 1) = false := by
  rw [beq_eq_false_iff_ne]
  unfold Dk.readE
  split
  · decide
  · split <;> decide
theorem lg_box (w : World) (T p : Nat) (fr n tail head : Int) : Below w.heap.size w (w.alloc (.cells #[.pointer (some ⟨p, 0, none⟩), .int .i64 fr, .int .i64 n, .int .i64 tail, .int .i64 head, .slice none 0 0] T)) ∧ w.heap.size < (w.alloc (.cells #[.pointer (some ⟨p, 0, none⟩), .int .i64 fr, .int .i64 n, .int .i64 tail, .int .i64 head, .slice none 0 0] T)).heap.size ∧
    RowV (w.alloc (.cells #[.pointer (some ⟨p, 0, none⟩), .int .i64 fr, .int .i64 n, .int .i64 tail, .int .i64 head, .slice none 0 0] T)) w.heap.size T [.pointer (some ⟨p, 0, none⟩), .int .i64 fr, .int .i64 n, .int .i64 tail, .int .i64 head, .slice none 0 0] :=
  ⟨(Below.refl w.heap.size w).alloc (Nat.le_refl _) _, by simp, rowV_new w _ [_, _, _, _, _, _]⟩
/-- a text more, behind an append -/
theorem lg_grow {T l p cap cap' : Nat} {la la' : Option Addr} {w8 : World} {S S8 : Nat → Prop} {fr n tail head : Nat} {L : List ByteArray} {O : ByteArray} (hr : RowV w8 l T (lgC p ⟨fr, n, tail, head, L⟩ la cap)) (hR : RecAt w8 S8 (fun x => x = l) la' cap' (L ++ [O])) (hS : ∀ k, S8 k → S k) (hl : S l) :
    LogAt T (w8.setCell ⟨l, 5, none⟩ (.slice la' (L.length + 1) cap')) S l p ⟨fr, n, tail, head, L ++ [O]⟩ := by
  refine ⟨la', cap', ?_, ?_, hl⟩
  · have r := rowV_stored hr 5 (.slice la' (L.length + 1) cap')
    have e : lgC p ⟨fr, n, tail, head, L ++ [O]⟩ la' cap' = (lgC p ⟨fr, n, tail, head, L⟩ la cap).set 5 (.slice la' (L.length + 1) cap') := by
      show [_, _, _, _, _, Value.slice _ (L ++ [O]).length _] = [_, _, _, _, _, _]
      rw [List.length_append]; rfl
    unfold LgHead
    rw [e]; exact r
  · rcases hR with hx | ⟨g', A, r, a1, a2, a3, a4, a5, a6, a7⟩
    · exact .inl hx
    · exact .inr ⟨g', A, r, a1, rowV_far a2 a6 _, a3, a4, a5, a6, hS _ a7⟩
section
variable {w : World} {X : Nat → Prop} {p : Nat} {d : Dk.D} {D : World → (Nat → Prop) → Dk.D → Prop}
set_option maxRecDepth 100000 in
set_option maxHeartbeats 1600000 in
theorem wopen_a (K : DskP p D) (h : D w X d) (fr n tail head : Int) (hn : n ≤ 9223372036854775807) (hb : ¬ (0 ≤ fr ∧ 1 ≤ n ∧ fr ≤ (d.B.length : Int) - n)) :
    Calls Try.prog 19 #[.pointer (some ⟨p, 0, none⟩), .int .i64 fr, .int .i64 n, .int .i64 tail, .int .i64 head] w fun e w' => e = .returned (.tuple #[.pointer none, .int .i64 2]) ∧ Below w.heap.size w w' := by
  obtain ⟨hb1, hlt, hrow⟩ := lg_box w 63 p fr n tail head
  have cR := K.read h 0
  have q := Dk.readE_one d 0
  have cF := wfits_any K (K.below h hb1) fr n hn
  rw [decide_eq_false hb] at cF
  generalize Dk.readS d 0 = RS at *
  generalize Dk.readE d 0 = RE at *
  have c0 := rowV_cell hrow 0
  have c1 := rowV_cell hrow 1
  have c2 := rowV_cell hrow 2
  simp only [List.getElem?_cons_zero, List.getElem?_cons_succ] at c0 c1 c2
  have H := Lib.hid (And.intro cR (And.intro cF hb1))
  clear cR cF hb1 hlt hrow h hn hb
  go_enter Try.func19, Try.ntmps19
  go_wp2_with fail
  refine H.out.1.mono ?_
  rintro e w1 ⟨rfl, hw1⟩
  obtain rfl := hw1.symm; clear hw1
  go_wp2_with fail
  refine H.out.2.1.mono ?_
  rintro e w2 ⟨rfl, hb2⟩
  have H2 := Lib.hid (below_two H.out.2.2 hb2)
  clear hb2
  go_wp2_with fail
  go_ret2
  exact ⟨rfl, H2.out⟩
set_option maxRecDepth 100000 in
set_option maxHeartbeats 1600000 in
theorem wopen_b (K : DskP p D) (h : D w X d) (fr n tail head : Int) (hn : n ≤ 9223372036854775807) (hb : 0 ≤ fr ∧ 1 ≤ n ∧ fr ≤ (d.B.length : Int) - n) (hr : ¬ (0 ≤ tail ∧ tail ≤ head ∧ head ≤ 1125899906842624)) :
    Calls Try.prog 19 #[.pointer (some ⟨p, 0, none⟩), .int .i64 fr, .int .i64 n, .int .i64 tail, .int .i64 head] w fun e w' => e = .returned (.tuple #[.pointer none, .int .i64 2]) ∧ Below w.heap.size w w' := by
  obtain ⟨hb1, hlt, hrow⟩ := lg_box w 63 p fr n tail head
  have cR := K.read h 0
  have q := Dk.readE_one d 0
  have cF := wfits_any K (K.below h hb1) fr n hn
  rw [decide_eq_true hb] at cF
  have cG := fun wx => wright_any tail head wx
  rw [decide_eq_false hr] at cG
  generalize Dk.readS d 0 = RS at *
  generalize Dk.readE d 0 = RE at *
  have c0 := rowV_cell hrow 0
  have c1 := rowV_cell hrow 1
  have c2 := rowV_cell hrow 2
  simp only [List.getElem?_cons_zero, List.getElem?_cons_succ] at c0 c1 c2
  have H := Lib.hid (And.intro cR (And.intro cF (And.intro hb1 (And.intro cG (And.intro hrow hlt)))))
  clear cR cF hb1 hlt hrow h hn hb cG hr
  go_enter Try.func19, Try.ntmps19
  go_wp2_with fail
  refine H.out.1.mono ?_
  rintro e w1 ⟨rfl, hw1⟩
  obtain rfl := hw1.symm; clear hw1
  go_wp2_with fail
  refine H.out.2.1.mono ?_
  rintro e w2 ⟨rfl, hb2⟩
  have hrow2 := rowV_below H.out.2.2.2.2.1 hb2 H.out.2.2.2.2.2
  have d3 := rowV_cell hrow2 3
  have d4 := rowV_cell hrow2 4
  simp only [List.getElem?_cons_zero, List.getElem?_cons_succ] at d3 d4
  have H2 := Lib.hid (below_two H.out.2.2.1 hb2)
  clear hb2 hrow2
  go_wp2_with fail
  refine (H.out.2.2.2.1 _).mono ?_
  rintro e w3 ⟨rfl, hb3⟩
  have H3 := Lib.hid (below_two H2.out hb3)
  clear hb3
  go_wp2_with fail
  go_ret2
  exact ⟨rfl, H3.out⟩
set_option maxRecDepth 100000 in
set_option maxHeartbeats 1600000 in
theorem wopen_c (K : DskP p D) (h : D w X d) (fr n : Int) (tail head : Nat) (hn : n ≤ 9223372036854775807) (hb : 0 ≤ fr ∧ 1 ≤ n ∧ fr ≤ (d.B.length : Int) - n) (h1 : tail ≤ head) (h2 : head ≤ 1125899906842624) (hc : n < ((head - tail : Nat) : Int)) :
    Calls Try.prog 19 #[.pointer (some ⟨p, 0, none⟩), .int .i64 fr, .int .i64 n, .int .i64 (tail : Int), .int .i64 (head : Int)] w fun e w' => e = .returned (.tuple #[.pointer none, .int .i64 2]) ∧ Below w.heap.size w w' := by
  obtain ⟨hb1, hlt, hrow⟩ := lg_box w 63 p fr n tail head
  have cR := K.read h 0
  have q := Dk.readE_one d 0
  have cF := wfits_any K (K.below h hb1) fr n hn
  rw [decide_eq_true hb] at cF
  have cG := fun wx => wright_any tail head wx
  rw [decide_eq_true ⟨by omega, by omega, by omega⟩] at cG
  have cC := fun wx => wcount_any tail head h1 (by omega) wx
  generalize Dk.readS d 0 = RS at *
  generalize Dk.readE d 0 = RE at *
  generalize head - tail = r at *
  have c0 := rowV_cell hrow 0
  have c1 := rowV_cell hrow 1
  have c2 := rowV_cell hrow 2
  simp only [List.getElem?_cons_zero, List.getElem?_cons_succ] at c0 c1 c2
  have H := Lib.hid (And.intro cR (And.intro cF (And.intro hb1 (And.intro cG (And.intro hrow (And.intro hlt cC))))))
  clear cR cF hb1 hlt hrow h hn hb cG cC h1 h2
  go_enter Try.func19, Try.ntmps19
  go_wp2_with fail
  refine H.out.1.mono ?_
  rintro e w1 ⟨rfl, hw1⟩
  obtain rfl := hw1.symm; clear hw1
  go_wp2_with fail
  refine H.out.2.1.mono ?_
  rintro e w2 ⟨rfl, hb2⟩
  have hrow2 := rowV_below H.out.2.2.2.2.1 hb2 H.out.2.2.2.2.2.1
  have d3 := rowV_cell hrow2 3
  have d4 := rowV_cell hrow2 4
  simp only [List.getElem?_cons_zero, List.getElem?_cons_succ] at d3 d4
  have H2 := Lib.hid (And.intro (below_two H.out.2.2.1 hb2) hrow2)
  clear hb2 hrow2
  go_wp2_with fail
  refine (H.out.2.2.2.1 _).mono ?_
  rintro e w3 ⟨rfl, hb3⟩
  have hrow3 := rowV_below H2.out.2 hb3 (rowV_lt H2.out.2)
  have e3 := rowV_cell hrow3 3
  have e4 := rowV_cell hrow3 4
  simp only [List.getElem?_cons_zero, List.getElem?_cons_succ] at e3 e4
  have H3 := Lib.hid (below_two H2.out.1 hb3)
  clear hb3 hrow3 d3 d4
  go_wp2_with fail
  refine (H.out.2.2.2.2.2.2 _).mono ?_
  rintro e w4 ⟨rfl, hb4⟩
  have H4 := Lib.hid (below_two H3.out hb4)
  clear hb4
  go_wp2_with fail
  go_ret2
  exact ⟨rfl, H4.out⟩
set_option maxRecDepth 100000 in
set_option maxHeartbeats 4000000 in
theorem wopen_d (K : DskP p D) (h : D w X d) (fr n tail head : Nat) (hb1 : 1 ≤ n) (hb2 : fr + n ≤ d.B.length) (h1 : tail ≤ head) (h2 : head ≤ 1125899906842624) (hc : head - tail ≤ n) :
    Calls Try.prog 19 #[.pointer (some ⟨p, 0, none⟩), .int .i64 (fr : Int), .int .i64 (n : Int), .int .i64 (tail : Int), .int .i64 (head : Int)] w (OpenP 63 p (Wl.firstE d fr n tail (head - tail)) ⟨fr, n, tail, head, Wl.texts d fr n tail (head - tail)⟩ w) := by
  obtain ⟨i0, hi0, hz0, hz1, hz2⟩ := info_parts info_str
  obtain ⟨hbx, hlt, hrow⟩ := lg_box w 63 p fr n tail head
  have hm := (K.ok h).most
  have cR := K.read h 0
  have q := Dk.readE_one d 0
  have cF := wfits_any K (K.below h hbx) fr n (by omega)
  rw [decide_eq_true ⟨by omega, by omega, by omega⟩] at cF
  have cG := fun wx => wright_any tail head wx
  rw [decide_eq_true ⟨by omega, by omega, by omega⟩] at cG
  have cC := fun wx => wcount_any tail head h1 (by omega) wx
  have cD := fun wx j (hx : Below w.heap.size w wx) (hj : j < head - tail) => wread_any K (K.below h hx) fr n (tail + j) hb1 (by omega) (by omega)
  have hst : ∀ j, Wl.firstE d fr n tail j ≠ 0 → j ≤ head - tail → Wl.firstE d fr n tail (head - tail) = Wl.firstE d fr n tail j := fun j hj hk => by
    have := Wl.firstE_stays d fr n tail j hj (head - tail - j)
    rwa [show j + (head - tail - j) = head - tail by omega] at this
  generalize Dk.readS d 0 = RS at *
  generalize Dk.readE d 0 = RE at *
  obtain ⟨r, hr⟩ : ∃ r, r = head - tail := ⟨_, rfl⟩
  rw [← hr] at cC cD hst hc ⊢
  have hrn : r ≤ 4096 := by omega
  have c0 := rowV_cell hrow 0
  have c1 := rowV_cell hrow 1
  have c2 := rowV_cell hrow 2
  simp only [List.getElem?_cons_zero, List.getElem?_cons_succ] at c0 c1 c2
  have H := Lib.hid (And.intro cR (And.intro cF (And.intro hbx (And.intro cG (And.intro hrow (And.intro hlt cC))))))
  have HD := Lib.hid (And.intro cD hst)
  have HB := Lib.hid (And.intro hr (And.intro h1 h2))
  clear cR cF hbx hlt hrow h cG cC cD hst hr h1 hb1 hb2 hm
  go_enter Try.func19, Try.ntmps19
  go_wp2_with fail
  refine H.out.1.mono ?_
  rintro e w1 ⟨rfl, hw1⟩
  obtain rfl := hw1.symm; clear hw1
  go_wp2_with fail
  refine H.out.2.1.mono ?_
  rintro e w2 ⟨rfl, hb2⟩
  have hrow2 := rowV_below H.out.2.2.2.2.1 hb2 H.out.2.2.2.2.2.1
  have d3 := rowV_cell hrow2 3
  have d4 := rowV_cell hrow2 4
  simp only [List.getElem?_cons_zero, List.getElem?_cons_succ] at d3 d4
  have H2 := Lib.hid (And.intro (below_two H.out.2.2.1 hb2) hrow2)
  clear hb2 hrow2
  go_wp2_with fail
  refine (H.out.2.2.2.1 _).mono ?_
  rintro e w3 ⟨rfl, hb3⟩
  have hrow3 := rowV_below H2.out.2 hb3 (rowV_lt H2.out.2)
  have e3 := rowV_cell hrow3 3
  have e4 := rowV_cell hrow3 4
  simp only [List.getElem?_cons_zero, List.getElem?_cons_succ] at e3 e4
  have H3 := Lib.hid (And.intro (below_two H2.out.1 hb3) hrow3)
  clear hb3 hrow3 d3 d4
  go_wp2_with fail
  refine (H.out.2.2.2.2.2.2 _).mono ?_
  rintro e w4 ⟨rfl, hb4⟩
  have hrow4 := rowV_below H3.out.2 hb4 (rowV_lt H3.out.2)
  have a3 := rowV_cell hrow4 3
  have a4 := rowV_cell hrow4 4
  simp only [List.getElem?_cons_zero, List.getElem?_cons_succ] at a3 a4
  have H4 := Lib.hid (And.intro (below_two H3.out.1 hb4) hrow4)
  clear hb4 hrow4 e3 e4
  go_wp2_with fail
  refine (H.out.2.2.2.2.2.2 _).mono ?_
  rintro e w5 ⟨rfl, hb5⟩
  have H5 := Lib.hid (And.intro (below_two H4.out.1 hb5) (rowV_below H4.out.2 hb5 (rowV_lt H4.out.2)))
  clear hb5 a3 a4
  go_wp2_with fail
  clear c0 c1 c2 H H2 H3 H4
  go_loopw [63] (fun i wr => ∃ j : Nat, j ≤ r ∧ i = .int .i64 (j : Int) ∧ Hid (Wl.firstE d fr n tail j = 0 ∧ LogAt 63 wr (fun k => w.heap.size ≤ k) w.heap.size p ⟨fr, n, tail, head, Wl.texts d fr n tail j⟩ ∧ Below w.heap.size w wr)) (fun i _ => r - (intOf i).toNat)
  case atStart => exact ⟨0, Nat.zero_le _, rfl, Lib.hid ⟨rfl, ⟨none, 0, H5.out.2, recAt_nil _ _ _ _, Nat.le_refl _⟩, H5.out.1⟩⟩
  case round =>
    obtain ⟨j, hj, rfl, HK⟩ := hrel
    by_cases hlt : j < r
    · obtain ⟨hf, hl, hB⟩ := HK.out
      obtain ⟨la, cap, hrow, hrec, hself⟩ := hl
      have c0 := rowV_cell hrow 0
      have c1 := rowV_cell hrow 1
      have c2 := rowV_cell hrow 2
      simp only [List.getElem?_cons_zero, List.getElem?_cons_succ] at c0 c1 c2
      have hs : IntKind.i64.wrap ((tail : Int) + (j : Int)) = ((tail + j : Nat) : Int) := by have := HB.out; rw [IntWalk.i64_in _ (by omega)]; omega
      have cD := HD.out.1 wr j hB hlt
      have hst := HD.out.2 (j + 1)
      have hn1 : Wl.firstE d fr n tail (j + 1) = Wl.errAt d fr n (tail + j) := by
        show (if Wl.firstE d fr n tail j ≠ 0 then _ else _) = _
        exact if_neg fun hn => hn hf
      have hn2 : Wl.errAt d fr n (tail + j) = 0 → Wl.texts d fr n tail (j + 1) = Wl.texts d fr n tail j ++ [Wl.outAt d fr n (tail + j)] := fun h0 => by
        show _ ++ [Wl.textAt d fr n (tail + j)] = _
        unfold Wl.outAt; rw [if_pos h0]
      have hlen : (Wl.texts d fr n tail j).length = j := Wl.texts_len _ _ _ _ _
      rw [hn1] at hst
      generalize Wl.errAt d fr n (tail + j) = E at *
      generalize Wl.outAt d fr n (tail + j) = O at *
      generalize Wl.texts d fr n tail j = TX at *
      obtain ⟨hd, hhd⟩ : ∃ m : Nat, m = tail + j := ⟨_, rfl⟩
      rw [← hhd] at hs cD
      have HC := Lib.hid (And.intro cD (And.intro hst (And.intro hn1 (And.intro hn2 (And.intro hrow (And.intro hrec hB))))))
      have HL := Lib.hid (And.intro hlen hself)
      clear cD hst hn1 hn2 hrow hrec hB HK hf hhd hlen hself
      by_cases hE : E = 0
      · have q2 : (E != 0) = false := by rw [hE]; rfl
        have HE := Lib.hid hE
        clear hE
        go_wp2_with fail
        refine HC.out.1.mono ?_
        rintro e w6 ⟨rfl, hb6⟩
        have hrow6 := rowV_below HC.out.2.2.2.2.1 hb6 (rowV_lt HC.out.2.2.2.2.1)
        have c5 := rowV_cell hrow6 5
        simp only [List.getElem?_cons_zero, List.getElem?_cons_succ] at c5
        have h7 : Below w6.heap.size w6 (w6.alloc (.cells #[.string O] 9)) := (Below.refl _ _).alloc (Nat.le_refl _) _
        have hr7 := rowV_new w6 9 [.string O]
        have hrow7 := rowV_below hrow6 h7 (rowV_lt hrow6)
        have hrec7 := recAt_only HC.out.2.2.2.2.2.1 (Only.of_none (F := fun _ => False) (below_two hb6 h7)) fun _ _ _ h => h
        have H7 := Lib.hid (And.intro hrow7 (And.intro hrec7 (And.intro hr7 (below_two (below_two HC.out.2.2.2.2.2.2 hb6) h7))))
        clear hb6 hrow6 h7 hr7 hrow7 hrec7 c0 c1 c2
        go_wp2_with (at_builtin
                     refine wpList_append_rec rfl (.tmp 84) (.tmp 86) _ rfl i0 Try.underlying39 hi0 hz0 hz1 hz2 rfl H7.out.2.1 (some ⟨w6.heap.size, 0, none⟩) 1 [O] rfl ?_ (by have := HL.out; simp; omega) (fun j hj => by rw [hj]; exact rowV_lt H7.out.1) ?_
                     · intro i hi
                       obtain rfl : i = 0 := by simp at hi; omega
                       exact ⟨_, 0, rfl, rowV_cell H7.out.2.2.1 0⟩
                     intro la' cap' w8 hR8 ho8
                     have hr8 := rowV_only H7.out.1 ho8 (fun hn => hn.2 rfl)
                     have e5 := rowV_cell hr8 5
                     have f5 := rowV_frozen hr8 5
                     simp only [List.getElem?_cons_zero, List.getElem?_cons_succ] at e5
                     have H8 := Lib.hid (And.intro hr8 (And.intro hR8 ho8))
                     clear hr8 hR8 ho8)
        obtain ⟨r8, R8, o8⟩ := H8.out
        have hR8 : ∀ k, (w.heap.size ≤ k ∨ (w6.alloc (.cells #[.string O] 9)).heap.size ≤ k) → w.heap.size ≤ k := fun k hk => hk.elim id fun h => Nat.le_trans H7.out.2.2.2.size h
        have hlog := lg_grow (S := fun k => w.heap.size ≤ k) r8 R8 hR8 (Nat.le_refl _)
        refine ⟨⟨j + 1, by omega, by go_num, Lib.hid ⟨by rw [HC.out.2.2.1]; exact HE.out, by rw [HC.out.2.2.2.1 HE.out]; exact hlog, ?_⟩⟩, by simp [intOf]; omega⟩
        exact (H7.out.2.2.2.trans (o8.below (B := w.heap.size) (fun _ _ h => h.1) H7.out.2.2.2.size)).setCell (p := ⟨w.heap.size, 5, none⟩) (Nat.le_refl _) _
      · have q2 : (E != 0) = true := by simpa using hE
        have HE := Lib.hid hE
        clear hE
        go_wp2_with fail
        refine HC.out.1.mono ?_
        rintro e w6 ⟨rfl, hb6⟩
        have H6 := Lib.hid (below_two HC.out.2.2.2.2.2.2 hb6)
        clear hb6
        go_wp2_with fail
        go_ret2
        have e1 := HC.out.2.1 HE.out (by omega)
        exact .inl ⟨by rw [e1]; exact HE.out, by rw [e1]; rfl, H6.out⟩
    · obtain rfl : j = r := by omega
      obtain ⟨hf, hl, hB⟩ := HK.out
      have HQ := Lib.hid (And.intro hf (And.intro hl hB))
      clear hf hl hB HK
      go_wp2_with fail
      go_ret2
      exact .inr ⟨HQ.out.1, _, rfl, HQ.out.2.1, HQ.out.2.2⟩
theorem wopen_any (K : DskP p D) (h : D w X d) (fr n tail head : Int) (hn : n ≤ 9223372036854775807) :
    Calls Try.prog 19 #[.pointer (some ⟨p, 0, none⟩), .int .i64 fr, .int .i64 n, .int .i64 tail, .int .i64 head] w (OpenP 63 p (Wl.openE d fr n tail head) (Wl.openG d fr n tail head) w) := by
  by_cases hbad : Wl.isBad d.B.length fr n tail head
  · have e : Wl.openE d fr n tail head = 2 := by unfold Wl.openE; rw [if_pos hbad]
    rw [e]
    have fin : ∀ e w', (e = .returned (.tuple #[.pointer none, .int .i64 2]) ∧ Below w.heap.size w w') → OpenP 63 p 2 (Wl.openG d fr n tail head) w e w' := fun e w' h => .inl ⟨by decide, h⟩
    by_cases h1 : 0 ≤ fr ∧ 1 ≤ n ∧ fr ≤ (d.B.length : Int) - n
    · by_cases h2 : 0 ≤ tail ∧ tail ≤ head ∧ head ≤ 1125899906842624
      · obtain ⟨t, rfl⟩ : ∃ t : Nat, tail = (t : Int) := ⟨tail.toNat, by omega⟩
        obtain ⟨hd, rfl⟩ : ∃ t : Nat, head = (t : Int) := ⟨head.toNat, by omega⟩
        unfold Wl.isBad at hbad
        exact (wopen_c K h fr n t hd hn h1 (by omega) (by omega) (by omega)).mono fin
      · exact (wopen_b K h fr n tail head hn h1 h2).mono fin
    · exact (wopen_a K h fr n tail head hn h1).mono fin
  · have e : Wl.openE d fr n tail head = Wl.firstE d fr.toNat n.toNat tail.toNat (head - tail).toNat := by unfold Wl.openE; rw [if_neg hbad]
    rw [e]
    unfold Wl.openG
    unfold Wl.isBad at hbad
    obtain ⟨t, rfl⟩ : ∃ t : Nat, tail = (t : Int) := ⟨tail.toNat, by omega⟩
    obtain ⟨hd, rfl⟩ : ∃ t : Nat, head = (t : Int) := ⟨head.toNat, by omega⟩
    obtain ⟨f, rfl⟩ : ∃ t : Nat, fr = (t : Int) := ⟨fr.toNat, by omega⟩
    obtain ⟨m, rfl⟩ : ∃ t : Nat, n = (t : Int) := ⟨n.toNat, by omega⟩
    rw [show ((hd : Int) - (t : Int)).toNat = hd - t by omega]
    exact wopen_d K h f m t hd (by omega) (by omega) (by omega) (by omega) (by omega)
end
end Go.Proofs.Ytednmncapfclfaa
