/-
  Layer 7: the document's Open.
-/
import Derived.Test.YtednmncapfclfaaZWalRapp
namespace Go.Proofs.Ytednmncapfclfaa
open Go.RowKit
section
variable {w : World} {X : Nat → Prop} {q : Nat} {d : Dk.D} {E : World → (Nat → Prop) → Dk.D → Prop}
set_option maxRecDepth 100000 in
set_option maxHeartbeats 4000000 in
theorem ropen_bad (K : DskR q E) (h : E w X d) (fr n tail head : Int) (hb : Wl.isBad d.B.length fr n tail head) :
    Calls Try.prog 25 #[.pointer (some ⟨q, 0, none⟩), .int .i64 fr, .int .i64 n, .int .i64 tail, .int .i64 head] w fun e w' => e = .returned (.tuple #[.pointer none, .int .i64 2]) ∧ Below w.heap.size w w' := by
  obtain ⟨lb, cb, c0⟩ := K.len h
  have hm := (K.ok h).most
  clear h
  generalize d.B.length = m at *
  unfold Wl.isBad at hb
  by_cases b0 : fr < 0
  · clear hb
    go_enter Try.func25, Try.ntmps25
    go_wp2_with fail
    go_ret2
    exact ⟨rfl, Below.refl _ _⟩
  · skip
    by_cases b1 : n < 1
    · clear hb
      go_enter Try.func25, Try.ntmps25
      go_wp2_with fail
      go_ret2
      exact ⟨rfl, Below.refl _ _⟩
    · skip
      by_cases b2 : (m : Int) < n
      · clear hb
        go_enter Try.func25, Try.ntmps25
        go_wp2_with fail
        go_ret2
        exact ⟨rfl, Below.refl _ _⟩
      · skip
        by_cases b3 : (m : Int) - n < fr
        · clear hb
          go_enter Try.func25, Try.ntmps25
          go_wp2_with fail
          go_ret2
          exact ⟨rfl, Below.refl _ _⟩
        · skip
          by_cases b4 : tail < 0
          · clear hb
            go_enter Try.func25, Try.ntmps25
            go_wp2_with fail
            go_ret2
            exact ⟨rfl, Below.refl _ _⟩
          · skip
            by_cases b5 : head < tail
            · clear hb
              go_enter Try.func25, Try.ntmps25
              go_wp2_with fail
              go_ret2
              exact ⟨rfl, Below.refl _ _⟩
            · skip
              by_cases b6 : 1125899906842624 < head
              · clear hb
                go_enter Try.func25, Try.ntmps25
                go_wp2_with fail
                go_ret2
                exact ⟨rfl, Below.refl _ _⟩
              · skip
                have b7 : n < head - tail := by omega
                clear hb
                go_enter Try.func25, Try.ntmps25
                go_wp2_with fail
                go_ret2
                exact ⟨rfl, Below.refl _ _⟩
set_option maxRecDepth 100000 in
set_option maxHeartbeats 4000000 in
theorem ropen_d (K : DskR q E) (h : E w X d) (fr n tail head : Nat) (hb1 : 1 ≤ n) (hb2 : fr + n ≤ d.B.length) (h1 : tail ≤ head) (h2 : head ≤ 1125899906842624) (hc : head - tail ≤ n) :
    Calls Try.prog 25 #[.pointer (some ⟨q, 0, none⟩), .int .i64 (fr : Int), .int .i64 (n : Int), .int .i64 (tail : Int), .int .i64 (head : Int)] w (OpenP 45 q (Wl.firstE d fr n tail (head - tail)) ⟨fr, n, tail, head, Wl.texts d fr n tail (head - tail)⟩ w) := by
  obtain ⟨i0, hi0, hz0, hz1, hz2⟩ := info_parts info_str
  obtain ⟨hbx, hlt, hrow⟩ := lg_box w 45 q fr n tail head
  obtain ⟨lb, cb, c0⟩ := K.len h
  have hm := (K.ok h).most
  have cD := fun wx i (hx : Below w.heap.size w wx) => K.read (K.apart.below h hx) i
  have cT := fun i wx => rtake5_any (Dk.readS d i) (readS_size (K.ok h) i) wx
  have hst : ∀ j, Wl.firstE d fr n tail j ≠ 0 → j ≤ head - tail → Wl.firstE d fr n tail (head - tail) = Wl.firstE d fr n tail j := fun j hj hk => by
    have := Wl.firstE_stays d fr n tail j hj (head - tail - j)
    rwa [show j + (head - tail - j) = head - tail by omega] at this
  obtain ⟨r, hr⟩ : ∃ r, r = head - tail := ⟨_, rfl⟩
  rw [← hr] at hst hc ⊢
  have hrn : r ≤ 4096 := by omega
  have H := Lib.hid (And.intro hbx (And.intro hrow hlt))
  have HD := Lib.hid (And.intro cD (And.intro cT hst))
  have HB := Lib.hid (And.intro hr (And.intro h1 (And.intro h2 (And.intro hb2 hm))))
  have a0 : decide ((fr : Int) < 0) = false := decide_eq_false (by omega)
  have a1 : decide ((n : Int) < 1) = false := decide_eq_false (by omega)
  have a2 : decide (d.B.length < n) = false := decide_eq_false (by omega)
  have a3 : decide ((d.B.length : Int) - (n : Int) < (fr : Int)) = false := decide_eq_false (by omega)
  have a4 : decide ((tail : Int) < 0) = false := decide_eq_false (by omega)
  have a5 : decide (head < tail) = false := decide_eq_false (by omega)
  have a6 : decide ((1125899906842624 : Int) < (head : Int)) = false := decide_eq_false (by omega)
  have a7 : decide ((n : Int) < (head : Int) - (tail : Int)) = false := decide_eq_false (by omega)
  have a8 : tail ≤ 1125899906842624 := by omega
  clear hbx hlt hrow cD cT hst h h1 hr
  go_enter Try.func25, Try.ntmps25
  go_wp2_with fail
  go_loopw [13] (fun i wr => ∃ j : Nat, j ≤ r ∧ i = .int .i64 ((tail + j : Nat) : Int) ∧ Hid (Wl.firstE d fr n tail j = 0 ∧ LogAt 45 wr (fun k => w.heap.size ≤ k) w.heap.size q ⟨fr, n, tail, head, Wl.texts d fr n tail j⟩ ∧ Below w.heap.size w wr)) (fun i _ => head - (intOf i).toNat)
  case atStart => exact ⟨0, Nat.zero_le _, rfl, Lib.hid ⟨rfl, ⟨none, 0, H.out.2.1, recAt_nil _ _ _ _, Nat.le_refl _⟩, H.out.1⟩⟩
  case round =>
    obtain ⟨j, hj, rfl, HK⟩ := hrel
    by_cases hlt : j < r
    · obtain ⟨hf, hl, hB⟩ := HK.out
      obtain ⟨la, cap, hrow, hrec, hself⟩ := hl
      have hst := HD.out.2.2 (j + 1)
      have hn1 : Wl.firstE d fr n tail (j + 1) = Wl.errAt d fr n (tail + j) := by
        show (if Wl.firstE d fr n tail j ≠ 0 then _ else _) = _
        exact if_neg fun hn => hn hf
      have hn2 : Wl.errAt d fr n (tail + j) = 0 → Wl.texts d fr n tail (j + 1) = Wl.texts d fr n tail j ++ [Wl.outAt d fr n (tail + j)] := fun h0 => by
        show _ ++ [Wl.textAt d fr n (tail + j)] = _
        unfold Wl.outAt; rw [if_pos h0]
      have hlen : (Wl.texts d fr n tail j).length = j := Wl.texts_len _ _ _ _ _
      have hb2 := HB.out.2.2.2.1
      have hm := HB.out.2.2.2.2
      have hqm := Nat.mod_lt (tail + j) hb1
      have hs2 : IntKind.i64.wrap ((fr : Int) + (((tail + j) % n : Nat) : Int)) = ((Wl.spot fr n (tail + j) : Nat) : Int) := by rw [IntWalk.i64_in _ (by omega)]; unfold Wl.spot; omega
      obtain ⟨hrem, hn0⟩ := rem_of (tail + j) n hb1
      have cD := HD.out.1 wr (Wl.spot fr n (tail + j) : Nat) hB
      have cT := fun wx => HD.out.2.1 (Wl.spot fr n (tail + j) : Nat) wx
      have z1 := Wl.at_bad (d := d) (fr := fr) (n := n) (p := tail + j)
      have z2 := Wl.at_rot (d := d) (fr := fr) (n := n) (p := tail + j)
      have z3 := Wl.at_ok (d := d) (fr := fr) (n := n) (p := tail + j)
      rw [hn1] at hst
      generalize Wl.errAt d fr n (tail + j) = E' at *
      generalize Wl.outAt d fr n (tail + j) = O at *
      generalize Wl.texts d fr n tail j = TX at *
      generalize Dk.readE d (Wl.spot fr n (tail + j) : Nat) = RE at *
      generalize Dk.readS d (Wl.spot fr n (tail + j) : Nat) = RS at *
      generalize (Sl.take RS).1 = T1 at *
      generalize (Sl.take RS).2.1 = T2 at *
      generalize (Sl.take RS).2.2 = T3 at *
      generalize ((Wl.spot fr n (tail + j) : Nat) : Int) = P at *
      obtain ⟨hd, hhd⟩ : ∃ m : Nat, m = tail + j := ⟨_, rfl⟩
      have hhh : hd < head := by have := HB.out; omega
      rw [← hhd] at hs2 hrem z2 z3 ⊢
      generalize hd % n = M at *
      have hhl : hd ≤ 1125900000000000 := by have := HB.out; omega
      have HC := Lib.hid (And.intro cD (And.intro hst (And.intro hn1 (And.intro hn2 (And.intro hrow (And.intro hrec hB))))))
      have HL := Lib.hid (And.intro hlen (And.intro hself hhd))
      have HA := Lib.hid (And.intro z1 (And.intro z2 z3))
      have HT := Lib.hid cT
      clear cD hst hn1 hn2 hrow hrec hB HK hf hhd hlen hself z1 z2 z3 cT hqm hb2 hm
      by_cases e1 : RE = 0
      · have q1 : (RE != 0) = false := by rw [e1]; rfl
        have HE := Lib.hid e1
        clear e1
        by_cases e2 : T3 = 0
        · have q2 : (T3 != 0) = false := by rw [e2]; rfl
          have HE2 := Lib.hid e2
          clear e2
          by_cases e3 : T1 = (hd : Int) + 1
          · have q3 : (T1 != (hd : Int) + 1) = false := by rw [e3]; simp
            have HO := Lib.hid (HA.out.2.2 HE.out HE2.out e3)
            clear e3
            go_wp2_with fail
            refine HC.out.1.mono ?_
            rintro e w5 ⟨rfl, hw5⟩
            obtain rfl := hw5.symm; clear hw5
            go_wp2_with fail
            refine (HT.out _).mono ?_
            rintro e w6 ⟨rfl, hb6⟩
            have hrow6 := rowV_below HC.out.2.2.2.2.1 hb6 (rowV_lt HC.out.2.2.2.2.1)
            have c5 := rowV_cell hrow6 5
            simp only [List.getElem?_cons_zero, List.getElem?_cons_succ] at c5
            have h7 : Below w6.heap.size w6 (w6.alloc (.cells #[.string T2] 9)) := (Below.refl _ _).alloc (Nat.le_refl _) _
            have hr7 := rowV_new w6 9 [.string T2]
            have hrow7 := rowV_below hrow6 h7 (rowV_lt hrow6)
            have hrec7 := recAt_only HC.out.2.2.2.2.2.1 (Only.of_none (F := fun _ => False) (below_two hb6 h7)) fun _ _ _ h => h
            have H7 := Lib.hid (And.intro hrow7 (And.intro hrec7 (And.intro hr7 (below_two (below_two HC.out.2.2.2.2.2.2 hb6) h7))))
            clear hb6 hrow6 h7 hr7 hrow7 hrec7
            go_wp2_with (at_builtin
                         refine wpList_append_rec rfl (.tmp 109) (.tmp 111) _ rfl i0 Try.underlying39 hi0 hz0 hz1 hz2 rfl H7.out.2.1 (some ⟨w6.heap.size, 0, none⟩) 1 [T2] rfl ?_ (by have := HL.out; simp; omega) (fun j hj => by rw [hj]; exact rowV_lt H7.out.1) ?_
                         · intro i hi
                           obtain rfl : i = 0 := by simp at hi; omega
                           exact ⟨_, 0, rfl, rowV_cell H7.out.2.2.1 0⟩
                         intro la' cap' w8 hR8 ho8
                         have hr8 := rowV_only H7.out.1 ho8 (fun hn => hn.2 rfl)
                         have e5 := rowV_cell hr8 5
                         have f5 := rowV_frozen hr8 5
                         simp only [List.getElem?_cons_zero, List.getElem?_cons_succ] at e5
                         have H8 := Lib.hid (And.intro hr8 (And.intro hR8 ho8))
                         clear hr8 hR8 ho8)
            obtain ⟨r8, R8, o8⟩ := H8.out
            have hR8 : ∀ k, (w.heap.size ≤ k ∨ (w6.alloc (.cells #[.string T2] 9)).heap.size ≤ k) → w.heap.size ≤ k := fun k hk => hk.elim id fun h => Nat.le_trans H7.out.2.2.2.size h
            have hlog := lg_grow (S := fun k => w.heap.size ≤ k) r8 R8 hR8 (Nat.le_refl _)
            have hT2 : TX ++ [T2] = TX ++ [O] := by rw [HO.out.1]
            have hBe := (H7.out.2.2.2.trans (o8.below (B := w.heap.size) (fun _ _ h => h.1) H7.out.2.2.2.size)).setCell (p := ⟨w.heap.size, 5, none⟩) (Nat.le_refl _) (.slice la' (TX.length + 1) cap')
            refine ⟨⟨j + 1, by omega, ?_, Lib.hid ⟨by rw [HC.out.2.2.1]; exact HO.out.2, by rw [HC.out.2.2.2.1 HO.out.2, ← hT2]; exact hlog, hBe⟩⟩, by simp [intOf]; omega⟩
            rw [HL.out.2.2]; go_num
          · have q3 : (T1 != (hd : Int) + 1) = true := by simpa using e3
            have HO := Lib.hid (HA.out.2.1 HE.out (.inr e3))
            clear e3
            go_wp2_with fail
            refine HC.out.1.mono ?_
            rintro e w5 ⟨rfl, hw5⟩
            obtain rfl := hw5.symm; clear hw5
            go_wp2_with fail
            refine (HT.out _).mono ?_
            rintro e w6 ⟨rfl, hb6⟩
            have H6 := Lib.hid (below_two HC.out.2.2.2.2.2.2 hb6)
            clear hb6
            go_wp2_with fail
            go_ret2
            have e1 := HC.out.2.1 (by rw [HO.out.2]; decide) (by omega)
            exact .inl ⟨by rw [e1, HO.out.2]; decide, by rw [e1, HO.out.2]; rfl, H6.out⟩
        · have q2 : (T3 != 0) = true := by simpa using e2
          have HO := Lib.hid (HA.out.2.1 HE.out (.inl e2))
          clear e2
          go_wp2_with fail
          refine HC.out.1.mono ?_
          rintro e w5 ⟨rfl, hw5⟩
          obtain rfl := hw5.symm; clear hw5
          go_wp2_with fail
          refine (HT.out _).mono ?_
          rintro e w6 ⟨rfl, hb6⟩
          have H6 := Lib.hid (below_two HC.out.2.2.2.2.2.2 hb6)
          clear hb6
          go_wp2_with fail
          go_ret2
          have e1 := HC.out.2.1 (by rw [HO.out.2]; decide) (by omega)
          exact .inl ⟨by rw [e1, HO.out.2]; decide, by rw [e1, HO.out.2]; rfl, H6.out⟩
      · have q1 : (RE != 0) = true := by simpa using e1
        have HO := Lib.hid (HA.out.1 e1)
        have HE := Lib.hid e1
        clear e1
        go_wp2_with fail
        refine HC.out.1.mono ?_
        rintro e w5 ⟨rfl, hw5⟩
        obtain rfl := hw5.symm; clear hw5
        go_wp2_with fail
        go_ret2
        have e1 := HC.out.2.1 (by rw [HO.out.2]; exact HE.out) (by omega)
        exact .inl ⟨by rw [e1, HO.out.2]; exact HE.out, by rw [e1, HO.out.2]; rfl, HC.out.2.2.2.2.2.2⟩
    · obtain rfl : j = r := by omega
      obtain ⟨hf, hl, hB⟩ := HK.out
      have HQ := Lib.hid (And.intro hf (And.intro hl hB))
      have hend : tail + j = head := by have := HB.out; omega
      clear hf hl hB HK
      rw [hend]
      go_wp2_with fail
      go_ret2
      exact .inr ⟨HQ.out.1, _, rfl, HQ.out.2.1, HQ.out.2.2⟩
theorem ropen_any (K : DskR q E) (h : E w X d) (fr n tail head : Int) :
    Calls Try.prog 25 #[.pointer (some ⟨q, 0, none⟩), .int .i64 fr, .int .i64 n, .int .i64 tail, .int .i64 head] w (OpenP 45 q (Wl.openE d fr n tail head) (Wl.openG d fr n tail head) w) := by
  by_cases hbad : Wl.isBad d.B.length fr n tail head
  · have e : Wl.openE d fr n tail head = 2 := by unfold Wl.openE; rw [if_pos hbad]
    rw [e]
    exact (ropen_bad K h fr n tail head hbad).mono fun e w' h => .inl ⟨by decide, h⟩
  · have e : Wl.openE d fr n tail head = Wl.firstE d fr.toNat n.toNat tail.toNat (head - tail).toNat := by unfold Wl.openE; rw [if_neg hbad]
    rw [e]
    unfold Wl.openG
    unfold Wl.isBad at hbad
    obtain ⟨t, rfl⟩ : ∃ t : Nat, tail = (t : Int) := ⟨tail.toNat, by omega⟩
    obtain ⟨hd, rfl⟩ : ∃ t : Nat, head = (t : Int) := ⟨head.toNat, by omega⟩
    obtain ⟨f, rfl⟩ : ∃ t : Nat, fr = (t : Int) := ⟨fr.toNat, by omega⟩
    obtain ⟨m, rfl⟩ : ∃ t : Nat, n = (t : Int) := ⟨n.toNat, by omega⟩
    rw [show ((hd : Int) - (t : Int)).toNat = hd - t by omega]
    exact ropen_d K h f m t hd (by omega) (by omega) (by omega) (by omega) (by omega)
end
end Go.Proofs.Ytednmncapfclfaa
