/-
  Layer 7's laws: WalRing, walked: the law itself.
-/
import Derived.Test.YtednmncapfclfaaZWalRingW
namespace Go.Proofs.Ytednmncapfclfaa
open Go.RowKit
theorem slice_one (ad : Option Addr) (n cap k : Nat) (hk : k < n) (hn : n ≤ cap) (w : World) : (Instr.slice 39 (.slice ad n cap) (some (.int .i64 (k : Int))) (some (.int .i64 ((k : Int) + 1))) none).run Try.prog w = .ok (.slice (if cap = k then ad else ad.map (·.add (k * 1))) 1 (cap - k)) w := by
  obtain ⟨i0, hi0, hz0, hz1, hz2⟩ := info_parts info_str
  rw [run_slice_lh (P := Try.prog) w 39 ad n cap (by rw [elem_str]; exact Try.underlying39) .i64 .i64 k ((k : Int) + 1) (by omega) (by omega) (by omega)]
  simp [elem_str, sizeOf, typeInfo, hi0, Result.andThen, sliced, hz1]
set_option maxRecDepth 100000 in
set_option maxHeartbeats 8000000 in
theorem WalRing_in (r : Nat) (lst : List ByteArray) (ad : Option Addr) (cap : Nat) (hr1 : 1 ≤ r) (hr8 : r ≤ 8) (hl : lst.length ≤ 60) (hc : lst.length ≤ cap) (w : World) (hr : ReadsS w ad lst) :
    Calls Try.prog 5 #[.int .i64 (r : Int), .slice ad lst.length cap] w fun e w' => e = .returned (.bool true) ∧ Below w.heap.size w w' := by
  obtain ⟨i0, hi0, hz0, hz1, hz2⟩ := info_parts info_str
  obtain ⟨l0, l1, l2⟩ := Wl.live_new (m := 9) (fr := 1) (n := r) hr1 (by omega)
  have hadr : ∀ a, ad = some a → lst ≠ [] → a.block < w.heap.size := fun a ha hne => by
    obtain ⟨b, off, e, hx⟩ := hr 0 (List.length_pos_iff.2 hne)
    rw [ha] at e; cases e
    exact World.block_lt_of_cell? w _ hx
  have H := Lib.hid (And.intro hr (And.intro hadr hc))
  have HM := Lib.hid (And.intro l0 (And.intro l1 l2))
  have u1 : decide ((r : Int) < 1) = false := decide_eq_false (by omega)
  have u2 : decide ((8 : Int) < (r : Int)) = false := decide_eq_false (by omega)
  have u3 : decide ((60 : Int) < (lst.length : Int)) = false := decide_eq_false (by omega)
  have HR := Lib.hid (And.intro hr1 hr8)
  clear hr hadr l0 l1 l2 hc hr1 hr8
  go_enter Try.func5, Try.ntmps5
  go_wp2_with fail
  refine (new_one 9 w (by omega) (by omega)).mono ?_
  rintro e w1 ⟨p, rfl, hd, hb⟩
  have H1 := Lib.hid (And.intro hd hb); clear hd hb
  go_wp2_with fail
  refine (wopen_any (dskP_one p) H1.out.1 1 r 0 0 (by have := HR.out; omega)).mono ?_
  rintro e w2 hP
  obtain ⟨hE, _⟩ | ⟨_, l, rfl, hlg, hb⟩ := hP
  · exact absurd HM.out.2.1 hE
  have e2 := HM.out.2.2
  rw [show Wl.openG (Dk.new 9) 1 (r : Int) 0 0 = _ from e2] at hlg
  have hS : RingSt w r 0 0 l p [] none 0 [] w2 := by
    have hp := pair_open (dskP_one p).apart H1.out.1 hlg hb
    refine ⟨Dk.new 9, fun _ => False, pair_less hp fun j hj => hj.elim id False.elim, HM.out.1, List.length_replicate, Nat.le_refl _, recAt_nil _ _ _ _, fun _ h => h.elim, below_two H1.out.2 hb⟩
  have H2 := Lib.hid hS
  clear hlg hb e2 hS H1
  go_wp2_with fail
  go_loopw [9, 10] (fun want i wr => ∃ k : Nat, k ≤ lst.length ∧ i = .int .i64 (k : Int) ∧ ∃ wa wc Wt t, want = .slice wa Wt.length wc ∧ Hid (RingSt w r k t l p Wt wa wc Wt wr)) (fun _ i _ => lst.length - (intOf i).toNat)
  case atStart => exact ⟨0, Nat.zero_le _, rfl, none, 0, [], 0, rfl, H2⟩
  case round =>
    obtain ⟨k, hk, rfl, wa, wc, Wt, t, rfl, HB⟩ := hrel
    by_cases hlt : k < lst.length
    · obtain ⟨b, off, had, hcell⟩ := H.out.1 k hlt
      obtain ⟨he, hroom⟩ := ring_ends HB.out
      have hBw : Below w.heap.size w wr := by obtain ⟨d, Sw, h⟩ := HB.out; exact h.below
      have c0 : wr.cell? ⟨b, off + k, none⟩ = some (.string lst[k]) := (hBw.cell (World.block_lt_of_cell? w _ hcell)).trans hcell
      have hpart := fun wx (hb : Below w.heap.size w wx) => reads_part (readsS_below H.out.1 hb) hlt cap H.out.2.2
      have hblk : ∀ a, (if cap = k then ad else ad.map (·.add (k * 1))) = some a → a.block < w.heap.size := fun a ha => by
        have hcap := H.out.2.2
        rw [if_neg (by omega), had, Option.map_some, addr_add, Nat.mul_one] at ha
        cases ha
        exact World.block_lt_of_cell? w _ hcell
      have q1 := fun W => slice_one ad lst.length cap k hlt H.out.2.2 W
      generalize (if cap = k then ad else ad.map (·.add (k * 1))) = pa at *
      generalize lst[k] = s at *
      have HC := Lib.hid hcell
      have HP := Lib.hid (And.intro hpart (And.intro hblk (And.intro he (And.intro hroom hBw))))
      clear hpart hblk he hroom hBw hcell
      subst had
      by_cases hbig : 490 < s.size
      · have t1 : (490 : Int) < (s.size : Int) := by omega
        go_wp2_with fail
        refine (lives7_any _).mono ?_
        rintro e w7 ⟨rfl, hb7⟩
        have H7 := Lib.hid (below_two HP.out.2.2.2.2 hb7)
        clear hb7
        go_wp2_with fail
        go_ret
        exact ⟨rfl, H7.out⟩
      · have t1 : ¬ (490 : Int) < (s.size : Int) := by omega
        have HS := Lib.hid hbig
        clear hbig
        by_cases hfull : Wt.length = r
        · have q2 : ((Wt.length : Int) == (r : Int)) = true := by rw [hfull]; simp
          have HF := Lib.hid hfull
          clear hfull
          have hW1 : 1 ≤ Wt.length := by have := HF.out; have := HR.out; omega
          have cF := ring_full HB.out (by omega) HF.out pa s (cap - k) (by have := HS.out; omega) (HP.out.1 wr HP.out.2.2.2.2) HP.out.2.1
          have ht : t ≤ 60 := by have := HP.out.2.2.1; omega
          go_wp2_with fail
          refine cF.mono ?_
          rintro e w3 ⟨rfl, h3⟩
          have H3 := Lib.hid h3
          clear h3 cF
          go_wp2_with fail
          refine (ring_tail H3.out).mono ?_
          rintro e w8 ⟨rfl, hw8⟩
          obtain rfl := hw8.symm; clear hw8
          have cD := ring_drop H3.out (by omega) hW1
          rw [show ((t + 1 : Nat) : Int) = (t : Int) + 1 from rfl] at cD
          obtain ⟨t2, ht2⟩ : ∃ t2, t2 = t + 1 := ⟨_, rfl⟩
          rw [← ht2] at cD
          clear ht2
          go_wp2_with fail
          refine cD.mono ?_
          rintro e w4 ⟨rfl, h4⟩
          have h4 := ring_cut h4 hW1
          have q3 : ∀ W, (Instr.slice 39 (.slice wa Wt.length wc) (some (.int .i64 1)) none none).run Try.prog W = .ok (.slice (if wc = 1 then wa else wa.map (·.add (1 * 1))) (Wt.length - 1) (wc - 1)) W := fun W => slice_from wa Wt.length wc 1 hW1 W
          have hdl : (Wt.drop 1).length = Wt.length - 1 := List.length_drop
          have hdr : (Wt.drop 1).length < r := by have := HF.out; omega
          rw [← hdl] at q3
          generalize (if wc = 1 then wa else wa.map (·.add (1 * 1))) = wb at *
          generalize Wt.drop 1 = W2 at *
          generalize wc - 1 = wc2 at *
          have H4 := Lib.hid h4
          have HL := Lib.hid hdr
          clear h4 cD hdl hdr hW1 ht
          obtain ⟨k1, hk1⟩ : ∃ k1, k1 = k + 1 := ⟨_, rfl⟩
          have cA := ring_app H4.out (by omega) HL.out pa s (cap - k) (by have := HS.out; omega) (HP.out.1 w4 (ring_base H4.out)) HP.out.2.1
          rw [← hk1] at cA
          have HK1 := Lib.hid hk1
          clear hk1
          go_wp2_with fail
          refine cA.mono ?_
          rintro e w5 ⟨rfl, h5⟩
          have c5 : w5.cell? ⟨b, off + k, none⟩ = some (.string s) := ((ring_base h5).cell (p := ⟨b, off + k, none⟩) (World.block_lt_of_cell? w _ HC.out)).trans HC.out
          have ha : Below w5.heap.size w5 (w5.alloc (.cells #[.string s] 9)) := (Below.refl _ _).alloc (Nat.le_refl _) _
          obtain ⟨d6, Sw6, h6⟩ := ring_below h5 ha
          have hs6 : ReadsS (w5.alloc (.cells #[.string s] 9)) (some ⟨w5.heap.size, 0, none⟩) [s] := by
            intro i hi
            obtain rfl : i = 0 := by simp at hi; omega
            exact ⟨_, 0, rfl, rowV_cell (rowV_new w5 9 [.string s]) 0⟩
          have H6 := Lib.hid (And.intro h6 hs6)
          clear h5 h6 ha hs6 cA
          go_wp2_with (at_builtin
                       refine wpList_append_rec rfl (.tmp 88) (.tmp 93) _ rfl i0 Try.underlying39 hi0 hz0 hz1 hz2 rfl H6.out.1.want (some ⟨w5.heap.size, 0, none⟩) 1 [s] rfl H6.out.2 (by have := HL.out; have := HR.out; simp; omega) (fun _ h => h.elim) ?_
                       intro la7 cap7 w7 hR7 ho7
                       have H7 := Lib.hid (ring_want H6.out.1 hR7 ho7)
                       clear hR7 ho7)
          refine (ring_tail H7.out).mono ?_
          rintro e w8 ⟨rfl, hw8⟩
          obtain rfl := hw8.symm; clear hw8
          go_wp2_with fail
          refine (ring_head H7.out).mono ?_
          rintro e w8 ⟨rfl, hw8⟩
          obtain rfl := hw8.symm; clear hw8
          go_wp2_with fail
          refine (ring_open H7.out (by have := HR.out; omega) (by have := HK1.out; omega)).mono ?_
          rintro e w8 ⟨v, rfl, hv, hb8⟩
          have H8 := Lib.hid (And.intro hv (ring_below H7.out hb8))
          clear hv hb8
          have hlen : (W2 ++ [s]).length = W2.length + 1 := by rw [List.length_append]; rfl
          have HN := Lib.hid hlen
          clear hlen
          go_wp2_with fail
          refine (wrecords_any H8.out.1 (by show (W2 ++ [s]).length ≤ _; have := HN.out; have := HL.out; have := HR.out; omega)).mono ?_
          rintro e w9 ⟨ra, rc, rfl, hr9, hb9⟩
          have H9 := Lib.hid (And.intro hr9 (ring_below H8.out.2 hb9))
          clear hr9 hb9
          have cS := sameS_any (W2 ++ [s]) ra la7 rc cap7 w9 (by have := HN.out; have := HL.out; have := HR.out; omega) H9.out.1 (ring_reads H9.out.2)
          rw [HN.out] at cS
          dsimp only
          rw [HN.out]
          go_wp2_with fail
          refine cS.mono ?_
          rintro e w10 ⟨rfl, hb10⟩
          have H10 := Lib.hid (ring_below H9.out.2 hb10)
          clear hb10 cS
          go_wp2_with fail
          refine (ring_records H10.out (by have := HR.out; omega)).mono ?_
          rintro e w11 ⟨ra2, rc2, rfl, hr11, hb11⟩
          have H11 := Lib.hid (And.intro hr11 (ring_below H10.out hb11))
          clear hr11 hb11
          have cS := sameS_any (W2 ++ [s]) ra2 la7 rc2 cap7 w11 (by have := HN.out; have := HL.out; have := HR.out; omega) H11.out.1 (ring_reads H11.out.2)
          rw [HN.out] at cS
          rw [HN.out]
          go_wp2_with fail
          refine cS.mono ?_
          rintro e w12 ⟨rfl, hb12⟩
          have H12 := Lib.hid (ring_below H11.out.2 hb12)
          clear hb12 cS
          go_wp2_with fail
          exact ⟨⟨k + 1, by omega, by go_num, la7, cap7, W2 ++ [s], t2, by rw [HN.out], Lib.hid (by rw [← HK1.out]; exact H12.out)⟩, by simp [intOf]; omega⟩
        · have q2 : ((Wt.length : Int) == (r : Int)) = false := by rw [beq_eq_false_iff_ne]; omega
          have HL := Lib.hid (show Wt.length < r by have := HP.out.2.2.2.1; omega)
          clear hfull
          obtain ⟨W2, hW2⟩ : ∃ W2, W2 = Wt := ⟨_, rfl⟩
          subst hW2
          obtain ⟨w4, hw4⟩ : ∃ w4, w4 = wr := ⟨_, rfl⟩
          subst hw4
          obtain ⟨t2, ht2⟩ : ∃ t2, t2 = t := ⟨_, rfl⟩
          subst ht2
          have H4 := Lib.hid HB.out
          obtain ⟨k1, hk1⟩ : ∃ k1, k1 = k + 1 := ⟨_, rfl⟩
          have cA := ring_app H4.out (by omega) HL.out pa s (cap - k) (by have := HS.out; omega) (HP.out.1 w4 (ring_base H4.out)) HP.out.2.1
          rw [← hk1] at cA
          have HK1 := Lib.hid hk1
          clear hk1
          go_wp2_with fail
          refine cA.mono ?_
          rintro e w5 ⟨rfl, h5⟩
          have c5 : w5.cell? ⟨b, off + k, none⟩ = some (.string s) := ((ring_base h5).cell (p := ⟨b, off + k, none⟩) (World.block_lt_of_cell? w _ HC.out)).trans HC.out
          have ha : Below w5.heap.size w5 (w5.alloc (.cells #[.string s] 9)) := (Below.refl _ _).alloc (Nat.le_refl _) _
          obtain ⟨d6, Sw6, h6⟩ := ring_below h5 ha
          have hs6 : ReadsS (w5.alloc (.cells #[.string s] 9)) (some ⟨w5.heap.size, 0, none⟩) [s] := by
            intro i hi
            obtain rfl : i = 0 := by simp at hi; omega
            exact ⟨_, 0, rfl, rowV_cell (rowV_new w5 9 [.string s]) 0⟩
          have H6 := Lib.hid (And.intro h6 hs6)
          clear h5 h6 ha hs6 cA
          go_wp2_with (at_builtin
                       refine wpList_append_rec rfl (.tmp 88) (.tmp 93) _ rfl i0 Try.underlying39 hi0 hz0 hz1 hz2 rfl H6.out.1.want (some ⟨w5.heap.size, 0, none⟩) 1 [s] rfl H6.out.2 (by have := HL.out; have := HR.out; simp; omega) (fun _ h => h.elim) ?_
                       intro la7 cap7 w7 hR7 ho7
                       have H7 := Lib.hid (ring_want H6.out.1 hR7 ho7)
                       clear hR7 ho7)
          refine (ring_tail H7.out).mono ?_
          rintro e w8 ⟨rfl, hw8⟩
          obtain rfl := hw8.symm; clear hw8
          go_wp2_with fail
          refine (ring_head H7.out).mono ?_
          rintro e w8 ⟨rfl, hw8⟩
          obtain rfl := hw8.symm; clear hw8
          go_wp2_with fail
          refine (ring_open H7.out (by have := HR.out; omega) (by have := HK1.out; omega)).mono ?_
          rintro e w8 ⟨v, rfl, hv, hb8⟩
          have H8 := Lib.hid (And.intro hv (ring_below H7.out hb8))
          clear hv hb8
          have hlen : (W2 ++ [s]).length = W2.length + 1 := by rw [List.length_append]; rfl
          have HN := Lib.hid hlen
          clear hlen
          go_wp2_with fail
          refine (wrecords_any H8.out.1 (by show (W2 ++ [s]).length ≤ _; have := HN.out; have := HL.out; have := HR.out; omega)).mono ?_
          rintro e w9 ⟨ra, rc, rfl, hr9, hb9⟩
          have H9 := Lib.hid (And.intro hr9 (ring_below H8.out.2 hb9))
          clear hr9 hb9
          have cS := sameS_any (W2 ++ [s]) ra la7 rc cap7 w9 (by have := HN.out; have := HL.out; have := HR.out; omega) H9.out.1 (ring_reads H9.out.2)
          rw [HN.out] at cS
          dsimp only
          rw [HN.out]
          go_wp2_with fail
          refine cS.mono ?_
          rintro e w10 ⟨rfl, hb10⟩
          have H10 := Lib.hid (ring_below H9.out.2 hb10)
          clear hb10 cS
          go_wp2_with fail
          refine (ring_records H10.out (by have := HR.out; omega)).mono ?_
          rintro e w11 ⟨ra2, rc2, rfl, hr11, hb11⟩
          have H11 := Lib.hid (And.intro hr11 (ring_below H10.out hb11))
          clear hr11 hb11
          have cS := sameS_any (W2 ++ [s]) ra2 la7 rc2 cap7 w11 (by have := HN.out; have := HL.out; have := HR.out; omega) H11.out.1 (ring_reads H11.out.2)
          rw [HN.out] at cS
          rw [HN.out]
          go_wp2_with fail
          refine cS.mono ?_
          rintro e w12 ⟨rfl, hb12⟩
          have H12 := Lib.hid (ring_below H11.out.2 hb12)
          clear hb12 cS
          go_wp2_with fail
          exact ⟨⟨k + 1, by omega, by go_num, la7, cap7, W2 ++ [s], t2, by rw [HN.out], Lib.hid (by rw [← HK1.out]; exact H12.out)⟩, by simp [intOf]; omega⟩
    · obtain rfl : k = lst.length := by omega
      obtain ⟨_, hroom⟩ := ring_ends HB.out
      have cM := ring_room HB.out (by omega)
      rw [show ((r - Wt.length : Nat) : Int) = (r : Int) - (Wt.length : Int) by omega] at cM
      have hr8 := HR.out.2
      go_wp2_with fail
      refine (ring_head HB.out).mono ?_
      rintro e w8 ⟨rfl, hw8⟩
      obtain rfl := hw8.symm; clear hw8
      go_wp2_with fail
      refine cM.mono ?_
      rintro e w9 ⟨rfl, hb9⟩
      have H9 := Lib.hid (below_two (ring_base HB.out) hb9)
      clear hb9 cM
      go_wp2_with fail
      refine (lives7_any _).mono ?_
      rintro e w7 ⟨rfl, hb7⟩
      have H7 := Lib.hid (below_two H9.out hb7)
      clear hb7
      go_wp2_with fail
      go_ret
      exact ⟨rfl, H7.out⟩
set_option maxRecDepth 100000 in
set_option maxHeartbeats 1600000 in
theorem WalRing_walk (ring : Int) (lst : List ByteArray) (ad : Option Addr) (cap : Nat) (_w0 : (Lit.int .i64 ring).wf = true) (hm : lst.length ≤ maxLen) (_hz : ∀ x ∈ lst, x.size ≤ maxLen) (hc : lst.length ≤ cap) (w : World) (hr : ReadsS w ad lst) :
    Calls Try.prog 5 #[.int .i64 ring, .slice ad lst.length cap] w fun e w' => e = .returned (.bool true) ∧ Below w.heap.size w w' := by
  by_cases h : 1 ≤ ring ∧ ring ≤ 8 ∧ lst.length ≤ 60
  · obtain ⟨r, rfl⟩ : ∃ r : Nat, ring = (r : Int) := ⟨ring.toNat, by omega⟩
    exact WalRing_in r lst ad cap (by omega) (by omega) h.2.2 hc w hr
  · unfold maxLen at hm
    clear hr hc _hz _w0
    by_cases h1 : ring < 1
    · go_enter Try.func5, Try.ntmps5
      go_wp2_with fail
      refine (lives7_any _).mono ?_
      rintro e w7 ⟨rfl, hb7⟩
      have H7 := Lib.hid hb7
      clear hb7
      go_wp2_with fail
      go_ret
      exact ⟨rfl, H7.out⟩
    · by_cases h2 : 8 < ring
      · clear h
        go_enter Try.func5, Try.ntmps5
        go_wp2_with fail
        refine (lives7_any _).mono ?_
        rintro e w7 ⟨rfl, hb7⟩
        have H7 := Lib.hid hb7
        clear hb7
        go_wp2_with fail
        go_ret
        exact ⟨rfl, H7.out⟩
      · have h3 : (60 : Int) < (lst.length : Int) := by omega
        clear h
        go_enter Try.func5, Try.ntmps5
        go_wp2_with fail
        refine (lives7_any _).mono ?_
        rintro e w7 ⟨rfl, hb7⟩
        have H7 := Lib.hid hb7
        clear hb7
        go_wp2_with fail
        go_ret
        exact ⟨rfl, H7.out⟩
end Go.Proofs.Ytednmncapfclfaa
