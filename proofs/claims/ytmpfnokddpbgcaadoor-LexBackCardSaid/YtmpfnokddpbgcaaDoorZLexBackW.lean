/-
  Layer 13: LexBack walked.
-/
import Derived.Test.YtmpfnokddpbgcaaDoorZLexTextsW
namespace Go.Proofs.YtmpfnokddpbgcaaDoor
open Go.RowKit
theorem joinS_right {L : List Lx.T} (h : ∀ t ∈ L, Lx.right t) : Lx.joinS L = (Lx.mk (Lx.join L), 0) := if_pos h
theorem joinS_wrong {L : List Lx.T} (h : ¬ ∀ t ∈ L, Lx.right t) : Lx.joinS L = (Vl.mt, 2) := if_neg h
theorem rSame13_like {L M : List Lx.T} (h : Lx.Same M L) (a a' : Option Addr) (c c' : Nat) (w : World) (hr : ReadsT13 w a L) (hr' : ReadsT13 w a' M) (hL : L.length ≤ 1000000) :
    Calls Tryd.prog 10 #[.slice a L.length c, .slice a' M.length c', .bool false] w fun e w' => e = .returned (.bool true) ∧ Below w.heap.size w w' :=
  (rSame13_any false a a' L M c c' w hr hr' (by unfold maxLen; omega)).mono fun _ _ h2 => ⟨h2.1.trans (ret_bool (by
    have e : L.map (Lx.key false) = M.map (Lx.key false) := h.symm
    simp [e])), h2.2⟩
theorem lexS_big {s : ByteArray} (h : 200 < s.size) : lexS s = ([], 0, 5) := if_pos h
theorem lexS_join {L : List Lx.T} (h : ¬ 200 < (Lx.mk (Lx.join L)).size) (hr : ∀ t ∈ L, Lx.right t) (hn : ∀ t ∈ L, t.n ≤ 9223372036854775807) : ∃ m, lexS (Lx.mk (Lx.join L)) = (m, 0, 0) ∧ Lx.Same m L := by
  obtain ⟨m, h1, h2⟩ := Lx.join_back L 0 fun t ht => ⟨hr t ht, hn t ht⟩
  exact ⟨m, (if_neg h).trans h1, h2⟩
set_option maxRecDepth 100000 in
set_option maxHeartbeats 6400000 in
theorem LexBack_walk (L : List Lx.T) (a : Option Addr) (c : Nat) (_hm : L.length ≤ maxLen) (w : World) (hrd : ReadsTF w a L) (hF : Facts13 w) :
    Calls Tryd.prog 5 #[.slice a L.length c] w fun e w' => e = .returned (.bool true) ∧ Below w.heap.size w w' := by
  have HF := Lib.hid hF
  have HL := Lib.hid (lives13_any w hF.2)
  clear hF
  by_cases hb : (L.length : Int) > 200
  · go_enter Tryd.func5, Tryd.ntmps5
    go_wp2_with fail
    refine HL.out.mono ?_
    rintro e w1 ⟨rfl, hb1⟩
    have H1 := Lib.hid hb1
    clear hb1
    go_wp2_with fail
    go_ret
    exact ⟨rfl, H1.out⟩
  · have HR := Lib.hid hrd
    clear hrd
    go_enter Tryd.func5, Tryd.ntmps5
    go_wp2_with fail
    go_loop [3] (fun i => ∃ (k : Nat), k ≤ L.length ∧ i = .int .i64 (k : Int) ∧ Hid (∀ j (h : j < L.length), j < k → L[j].s.size ≤ 300)) (fun i => L.length - (intOf i).toNat)
    case atStart => exact ⟨0, Nat.zero_le _, rfl, Lib.hid (by intro j _ h; omega)⟩
    case round =>
      obtain ⟨k, hk, rfl, HK⟩ := hrel
      by_cases hlt : k < L.length
      · obtain ⟨b, off, rfl, c0, c1, c2, c3⟩ := readsT13_at HR.out.1 k hlt
        by_cases hz : (L[k].s.size : Int) > 300
        · generalize L[k] = y at *
          obtain ⟨yk, ys, yn, ya⟩ := y
          go_wp2_with fail
          refine HL.out.mono ?_
          rintro e w1 ⟨rfl, hb1⟩
          have H1 := Lib.hid hb1
          clear hb1
          go_wp2_with fail
          go_ret
          exact ⟨rfl, H1.out⟩
        · have HN : Hid (∀ j (h : j < L.length), j < k + 1 → L[j].s.size ≤ 300) := Lib.hid (by
            intro j h hj
            by_cases hjk : j < k
            · exact HK.out j h hjk
            · obtain rfl : j = k := by omega
              omega)
          generalize L[k] = y at *
          obtain ⟨yk, ys, yn, ya⟩ := y
          go_wp2_with fail
          go_round
          case rel => exact ⟨k + 1, by omega, by go_num, HN⟩
          case measure => simp [intOf]; omega
      · obtain rfl : k = L.length := by omega
        have hS : ∀ t ∈ L, t.s.size ≤ 300 ∧ -9223372036854775808 ≤ t.n ∧ t.n ≤ 9223372036854775807 := fun t ht => by
          obtain ⟨j, hj, rfl⟩ := List.getElem_of_mem ht
          have := HR.out.2 _ ht
          exact ⟨HK.out j hj hj, this.1.1, this.1.2⟩
        have cP := join13_any a L c w HR.out.1 (by omega) (fun t ht => ⟨by have := (hS t ht).1; omega, (hS t ht).2⟩) HF.out.1 HF.out.2
        by_cases hr : ∀ t ∈ L, Lx.right t
        · have hz := Lx.join_size L (fun t ht => (hS t ht).2.2) L.length (fun t ht => hr t (List.mem_of_mem_take ht))
          rw [List.take_length] at hz
          rw [joinS_right hr] at cP
          have hjn := lexS_join (L := L) (hr := hr) (hn := fun t ht => (hS t ht).2.2)
          have cX := fun wx hx => lex13_any (Lx.mk (Lx.join L)) wx hx
          by_cases hbig : 200 < (Lx.mk (Lx.join L)).size
          · rw [lexS_big hbig] at cX
            have t1 : decide (((Lx.mk (Lx.join L)).size : Int) > 200) = true := decide_eq_true (by omega)
            generalize Lx.mk (Lx.join L) = J at *
            have H := Lib.hid (And.intro cP cX)
            clear cP cX hjn hS hr
            go_wp2_with fail
            refine H.out.1.mono ?_
            rintro e w1 ⟨rfl, hb1⟩
            have H1 := Lib.hid hb1
            clear hb1
            go_wp2_with fail
            refine (H.out.2 _ (errR_below HF.out.2 H1.out)).mono ?_
            rintro e w2 ⟨a2, cap2, rfl, hr2, hcap2, hb2⟩
            have hB2 := H1.out.trans (hb2.mono H1.out.size)
            have H2 := Lib.hid (And.intro (lives13_any _ (errR_below HF.out.2 hB2)) hB2)
            clear hb2 hB2 hr2 hcap2
            go_wp2_with fail
            refine H2.out.1.mono ?_
            rintro e w3 ⟨rfl, hb3⟩
            have H3 := Lib.hid (H2.out.2.trans (hb3.mono H2.out.2.size))
            clear hb3
            go_wp2_with fail
            go_ret
            exact ⟨rfl, H3.out⟩
          · obtain ⟨m, hm1, hm2⟩ := hjn hbig
            rw [hm1] at cX
            have t1 : decide (((Lx.mk (Lx.join L)).size : Int) > 200) = false := decide_eq_false (by omega)
            generalize Lx.mk (Lx.join L) = J at *
            have H := Lib.hid (And.intro cP (And.intro cX hm2))
            clear cP cX hjn hS hr hm1 hm2
            go_wp2_with fail
            refine H.out.1.mono ?_
            rintro e w1 ⟨rfl, hb1⟩
            have H1 := Lib.hid hb1
            clear hb1
            go_wp2_with fail
            refine (H.out.2.1 _ (errR_below HF.out.2 H1.out)).mono ?_
            rintro e w2 ⟨a2, cap2, rfl, hr2, hcap2, hb2⟩
            have hB2 := H1.out.trans (hb2.mono H1.out.size)
            have H2 := Lib.hid (And.intro (rSame13_like H.out.2.2 a a2 c cap2 w2 (readsT13_below HR.out.1 hB2) hr2 (by omega)) hB2)
            clear hb2 hB2 hr2 hcap2
            go_wp2_with fail
            refine H2.out.1.mono ?_
            rintro e w3 ⟨rfl, hb3⟩
            have hB3 := H2.out.2.trans (hb3.mono H2.out.2.size)
            have H3 := Lib.hid (And.intro (lives13_any _ (errR_below HF.out.2 hB3)) hB3)
            clear hb3 hB3
            go_wp2_with fail
            refine H3.out.1.mono ?_
            rintro e w4 ⟨rfl, hb4⟩
            have H4 := Lib.hid (H3.out.2.trans (hb4.mono H3.out.2.size))
            clear hb4
            go_wp2_with fail
            go_ret
            exact ⟨rfl, H4.out⟩
        · rw [joinS_wrong hr] at cP
          have H := Lib.hid cP
          clear cP hS hr
          go_wp2_with fail
          refine H.out.mono ?_
          rintro e w1 ⟨rfl, hb1⟩
          have H1 := Lib.hid (And.intro (lives13_any _ (errR_below HF.out.2 hb1)) hb1)
          clear hb1
          go_wp2_with fail
          refine H1.out.1.mono ?_
          rintro e w3 ⟨rfl, hb3⟩
          have H3 := Lib.hid (H1.out.2.trans (hb3.mono H1.out.2.size))
          clear hb3
          go_wp2_with fail
          go_ret
          exact ⟨rfl, H3.out⟩
end Go.Proofs.YtmpfnokddpbgcaaDoor
