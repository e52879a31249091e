/-
  Layer 3: the law ShaGoes, walked.
-/
import Derived.Test.YtjdjajjogpmdaaaDoorShaFew
import Derived.Deep.RegionHeld3
import Derived.BigQuiet
import Derived.Sort.AtCall
namespace Go.Proofs.YtjdjajjogpmdaaaDoor
open Go.RowKit

theorem u64_rem (x : Int) (n : Nat) (h : 0 < n) : ∃ j : Nat, j < n ∧ (IntKind.u64.wrap x).tmod (n : Int) = (j : Int) := by
  refine ⟨((IntKind.u64.wrap x).tmod (n : Int)).toNat, ?_, ?_⟩
  all_goals
    rw [IntKind.wrap_u64, Int.tmod_eq_emod_of_nonneg (by omega)]
    have h1 := Int.emod_nonneg (x % 18446744073709551616) (show (n : Int) ≠ 0 by omega)
    have h2 := Int.emod_lt_of_pos (x % 18446744073709551616) (show (0 : Int) < (n : Int) by omega)
    omega
theorem chainB_app (sum : ByteArray) (l : List ByteArray) (k : Nat) : chainB (chainB sum (l.take k)) (l.drop k) = chainB sum l := by
  unfold chainB; rw [← List.foldl_append, List.take_append_drop]
theorem chainB_one (sum s : ByteArray) : chainB sum [s] = digB (sum.data.toList ++ s.data.toList) := rfl
theorem readsS_drop {w : World} {g o : Nat} {l : List ByteArray} (h : ReadsS w (some ⟨g, o, none⟩) l) (k : Nat) : ReadsS w (some ⟨g, o + k, none⟩) (l.drop k) := by
  intro i hi
  have hi2 : k + i < l.length := by rw [List.length_drop] at hi; omega
  obtain ⟨b, off, h1, h2⟩ := h (k + i) hi2
  cases h1
  exact ⟨_, _, rfl, by rw [Nat.add_assoc, h2, List.getElem_drop]⟩

set_option maxRecDepth 100000 in
set_option maxHeartbeats 800000 in
theorem ShaGoes_walk (sum : ByteArray) (l : List ByteArray) (a : Option Addr) (cap : Nat) (at_ : Int) (hs : sum.size ≤ maxLen) (hl : l.length ≤ maxLen) (hz : ∀ x ∈ l, x.size ≤ maxLen) (hc : l.length ≤ cap) (_w1 : (Lit.int .i64 at_).wf = true) (w : World) (hr : ReadsS w a l) (ht : Tab w) :
    Calls Tryd.prog 6 #[.string sum, .slice a l.length cap, .int .i64 at_] w fun e w' => e = .returned (.bool true) ∧ Below w.heap.size w w' := by
  have HT := Lib.hid (And.intro ht (And.intro hr (And.intro hl (And.intro hz hc)))); clear ht hr hl hz hc _w1
  unfold maxLen at hs
  by_cases h1 : 1000 < sum.size
  · go_enter Tryd.func6, Tryd.ntmps6
    go_wp2_with fail
    refine (few_any l a cap w HT.out.2.1 HT.out.2.2.1 HT.out.2.2.2.1 HT.out.2.2.2.2).mono ?_
    rintro e w1 ⟨n, hn, h12, hlen, rfl, rfl⟩
    clear h12 hlen hn
    go_wp2_with fail
    refine (lives3_any _ HT.out.1).mono ?_
    rintro e w1 ⟨rfl, hb⟩
    have B1 := Lib.hid hb; clear hb
    go_wp2_with fail
    go_ret
    exact ⟨rfl, B1.out⟩
  · go_enter Tryd.func6, Tryd.ntmps6
    go_wp2_with fail
    refine (few_any l a cap w HT.out.2.1 HT.out.2.2.1 HT.out.2.2.2.1 HT.out.2.2.2.2).mono ?_
    rintro e w1 ⟨n, hn, h12, hlen, rfl, rfl⟩
    obtain ⟨L, hL⟩ : ∃ L, l.take n = L := ⟨_, rfl⟩
    have hLn : n = L.length := by rw [← hL, List.length_take]; omega
    have hrL : ReadsS w a L := by rw [← hL]; exact readsS_take HT.out.2.1 n
    have hcn : n ≤ cap := Nat.le_trans hn HT.out.2.2.2.2
    rw [hL] at hlen
    subst hLn
    clear hL hn
    have hz : ∀ s ∈ L, s.size ≤ 1048576 := fun s h => by have := mem_catB h; omega
    have HZ := Lib.hid (And.intro hz hrL); clear hz hrL hlen
    obtain ⟨j, hj, ej⟩ := u64_rem at_ (L.length + 1) (by omega)
    have ej2 : (IntKind.u64.wrap at_).tmod ((L.length : Int) + 1) = (j : Int) := ej
    clear ej
    have hT0 := tab_pos HT.out.1
    have hsum : sum.size ≤ 1048576 := by omega
    have cT : ∀ wx, Below w.heap.size w wx → Tab wx := fun wx hb => tab_below HT.out.1 hb hT0
    have cAll : ∀ wx, Below w.heap.size w wx → ∀ c, Calls Tryd.prog 15 #[.string sum, .slice a L.length c] wx fun e w' => e = .returned (.string (chainB sum L)) ∧ Below w.heap.size w w' := fun wx hb c =>
      (chain_any sum L a c wx hsum (readsS_below HZ.out.2 hb) (by unfold maxLen; omega) HZ.out.1 (cT wx hb)).mono fun e w' h => ⟨h.1, hb.trans (h.2.mono hb.size)⟩
    have cNone : ∀ wx, Below w.heap.size w wx → Calls Tryd.prog 15 #[.string sum, .slice none 0 0] wx fun e w' => e = .returned (.string sum) ∧ Below w.heap.size w w' := fun wx hb =>
      (chain_any sum [] none 0 wx hsum (readsS_none _ _) (by unfold maxLen; simp) (by simp) (cT wx hb)).mono fun e w' h => ⟨h.1, hb.trans (h.2.mono hb.size)⟩
    have cLives : ∀ wx, Below w.heap.size w wx → Calls Tryd.prog 7 #[] wx fun e w' => e = .returned (.bool true) ∧ Below w.heap.size w w' := fun wx hb =>
      (lives3_any wx (cT wx hb)).mono fun e w' h => ⟨h.1, hb.trans (h.2.mono hb.size)⟩
    have cFront : ∀ wx, Below w.heap.size w wx → ∀ c, Calls Tryd.prog 15 #[.string sum, .slice a j c] wx fun e w' => e = .returned (.string (chainB sum (L.take j))) ∧ Below w.heap.size w w' := fun wx hb c => by
      have hlj : (L.take j).length = j := by rw [List.length_take]; omega
      have h := chain_any sum (L.take j) a c wx hsum (readsS_below (readsS_take HZ.out.2 j) hb) (by unfold maxLen; omega) (fun s hs => HZ.out.1 s (List.mem_of_mem_take hs)) (cT wx hb)
      rw [hlj] at h
      exact h.mono fun e w' h => ⟨h.1, hb.trans (h.2.mono hb.size)⟩
    have hCz : (chainB sum (L.take j)).size ≤ 1048576 := by rcases chainB_size sum (L.take j) with h | h <;> omega
    have cBack : ∀ wx, Below w.heap.size w wx → ∀ a2 c, ReadsS w a2 (L.drop j) → Calls Tryd.prog 15 #[.string (chainB sum (L.take j)), .slice a2 (L.length - j) c] wx fun e w' => e = .returned (.string (chainB sum L)) ∧ Below w.heap.size w w' := fun wx hb a2 c hr2 => by
      have hlj : (L.drop j).length = L.length - j := by rw [List.length_drop]
      have h := chain_any (chainB sum (L.take j)) (L.drop j) a2 c wx hCz (readsS_below hr2 hb) (by unfold maxLen; omega) (fun s hs => HZ.out.1 s (List.mem_of_mem_drop hs)) (cT wx hb)
      rw [hlj, chainB_app] at h
      exact h.mono fun e w' h => ⟨h.1, hb.trans (h.2.mono hb.size)⟩
    clear hCz
    generalize chainB sum (L.take j) = C1 at cFront cBack
    by_cases h0 : L.length = 0
    · have hL0 : L = [] := List.eq_nil_of_length_eq_zero h0
      obtain rfl : j = 0 := by omega
      subst hL0
      generalize chainB sum [] = R at cAll cBack
      have HC := Lib.hid (And.intro cAll (And.intro cNone (And.intro cLives (And.intro cFront cBack))))
      clear cAll cNone cLives cFront cBack cT h0 hj hT0 hsum
      cases a with
        | none =>
          go_wp2_with fail
          go_region_held3 (fun w' => Below w.heap.size w w')
            (first | exact (Below.refl _ _).drew | exact hb2 | exact hb3)
            (first
              | (go_at_call_has 15 (Value.string sum); refine (HC.out.2.2.2.1 _ (Below.refl _ _).drew _).mono ?_; rintro e w2 ⟨rfl, hb2⟩)
              | (go_at_call 15; refine (HC.out.2.2.2.2 _ hb2 _ _ (readsS_none _ _)).mono ?_; rintro e w3 ⟨rfl, hb3⟩))
          go_wp2_with fail
          have B3 := Lib.hid hb3; clear hb2 hb3
          go_quiet (fail)
          go_wp2_with fail
          refine (HC.out.1 _ (below_drewN B3.out _) _).mono ?_
          rintro e w5 ⟨rfl, hb5⟩
          have B5 := Lib.hid hb5; clear hb5
          go_wp2_with fail
          refine (HC.out.2.1 _ B5.out).mono ?_
          rintro e w6 ⟨rfl, hb6⟩
          have B6 := Lib.hid hb6; clear hb6
          go_wp2_with fail
          refine (HC.out.2.2.1 _ B6.out).mono ?_
          rintro e w7 ⟨rfl, hb7⟩
          have B7 := Lib.hid hb7; clear hb7
          go_wp2_with fail
          go_ret
          exact ⟨rfl, B7.out⟩
        | some a0 =>
          go_wp2_with fail
          go_region_held3 (fun w' => Below w.heap.size w w')
            (first | exact (Below.refl _ _).drew | exact hb2 | exact hb3)
            (first
              | (go_at_call_has 15 (Value.string sum); refine (HC.out.2.2.2.1 _ (Below.refl _ _).drew _).mono ?_; rintro e w2 ⟨rfl, hb2⟩)
              | (go_at_call 15; refine (HC.out.2.2.2.2 _ hb2 _ _ (readsS_none _ _)).mono ?_; rintro e w3 ⟨rfl, hb3⟩))
          go_wp2_with fail
          have B3 := Lib.hid hb3; clear hb2 hb3
          go_quiet (fail)
          go_wp2_with fail
          refine (HC.out.1 _ (below_drewN B3.out _) _).mono ?_
          rintro e w5 ⟨rfl, hb5⟩
          have B5 := Lib.hid hb5; clear hb5
          go_wp2_with fail
          refine (HC.out.2.1 _ B5.out).mono ?_
          rintro e w6 ⟨rfl, hb6⟩
          have B6 := Lib.hid hb6; clear hb6
          go_wp2_with fail
          refine (HC.out.2.2.1 _ B6.out).mono ?_
          rintro e w7 ⟨rfl, hb7⟩
          have B7 := Lib.hid hb7; clear hb7
          go_wp2_with fail
          go_ret
          exact ⟨rfl, B7.out⟩
    · have hpos : 0 < L.length := by omega
      obtain ⟨g, o, rfl, hcell⟩ := HZ.out.2 0 hpos
      have hm := HZ.out.1 (L[0]) (List.getElem_mem _)
      have hgl : g < w.heap.size := World.block_lt_of_cell? w _ hcell
      have hd2 := readsS_drop HZ.out.2 j
      generalize hs0 : L[0] = s at *
      clear hs0
      replace hcell : w.cell? ⟨g, o, none⟩ = some (.string s) := hcell
      have cOne : ∀ wx, Below w.heap.size w wx → Calls Tryd.prog 15 #[.string sum, .slice (some ⟨wx.heap.size, 0, none⟩) 1 1] (wx.alloc (.cells #[.string s] 9)).drew fun e w' => e = .returned (.string (digB (sum.data.toList ++ s.data.toList))) ∧ Below w.heap.size w w' := fun wx hb => by
        have hb2 : Below w.heap.size w (wx.drew.alloc (.cells #[.string s] 9)) := hb.drew.alloc hb.size _
        exact (chain_any sum [s] (some ⟨wx.heap.size, 0, none⟩) 1 (wx.drew.alloc (.cells #[.string s] 9)) hsum (reads_one wx.drew s _) (by unfold maxLen; simp) (by intro x hx; simp at hx; subst hx; exact hm) (cT _ hb2)).mono fun e w' h => ⟨h.1, hb2.trans (h.2.mono hb2.size)⟩
      have cLink : ∀ wx, Below w.heap.size w wx → Calls Tryd.prog 13 #[.string sum, .string s] wx fun e w' => e = .returned (.string (digB (sum.data.toList ++ s.data.toList))) ∧ Below w.heap.size w w' := fun wx hb =>
        (link_any sum s wx hsum hm (cT wx hb)).mono fun e w' h => ⟨h.1, hb.trans (h.2.mono hb.size)⟩
      generalize digB (sum.data.toList ++ s.data.toList) = D at cOne cLink
      generalize chainB sum L = R at cAll cBack
      have hkeep : ∀ wx, Below w.heap.size w wx → wx.cell? ⟨g, o, none⟩ = some (.string s) ∧ Below w.heap.size w wx := fun wx hb => ⟨(hb.cell (p := ⟨g, o, none⟩) hgl).trans hcell, hb⟩
      have hb00 : ∀ a2, a2 = some ⟨g, o + j, none⟩ ∨ L.length = j → ReadsS w a2 (L.drop j) := fun a2 h => by
        rcases h with rfl | h
        · exact hd2
        · rw [List.drop_of_length_le (by omega)]; exact readsS_none _ _
      have HC := Lib.hid (And.intro cAll (And.intro cNone (And.intro cLives (And.intro cFront (And.intro cBack (And.intro cOne (And.intro cLink (And.intro hkeep hb00))))))))
      clear cAll cNone cLives cFront cBack cOne cLink hkeep hd2 cT hT0 hsum hb00 hgl hm hcell h0
      have j0 : (0 : Int) ≤ (j : Int) := by omega
      have j1 : (j : Int) ≤ (L.length : Int) := by omega
      have j2 : (j : Int) ≤ (cap : Int) := by omega
      have n0 : (0 : Int) < (L.length : Int) := by omega
      by_cases hjc : cap = j
      · have hLj : L.length = j := by omega
        have HLj := Lib.hid hLj
        clear hLj
        go_wp2_with fail
        go_region_held3 (fun w' => Below w.heap.size w w')
          (first | exact (Below.refl _ _).drew | exact hb2 | exact hb3)
          (first
            | (go_at_call_has 15 (Value.string sum); refine (HC.out.2.2.2.1 _ (Below.refl _ _).drew _).mono ?_; rintro e w2 ⟨rfl, hb2⟩)
            | (go_at_call 15; refine (HC.out.2.2.2.2.1 _ hb2 _ _ (HC.out.2.2.2.2.2.2.2.2 _ (Or.inr HLj.out))).mono ?_; rintro e w3 ⟨rfl, hb3⟩))
        have B3 := Lib.hid hb3; clear hb2 hb3
        clear hjc j0 j1 j2 ej2 hj hcn
        go_wp2_with fail
        go_region_held3 (fun w' => w'.cell? ⟨g, o, none⟩ = some (.string s) ∧ Below w.heap.size w w')
          (first
            | exact HC.out.2.2.2.2.2.2.2.1 _ B3.out.drew
            | exact HC.out.2.2.2.2.2.2.2.1 _ (B3.out.alloc B3.out.size _).drew
            | exact HC.out.2.2.2.2.2.2.2.1 _ hb4
            | exact HC.out.2.2.2.2.2.2.2.1 _ hb5)
          (first
            | (go_at_call 15; refine (HC.out.2.2.2.2.2.1 _ B3.out).mono ?_; rintro e w4 ⟨rfl, hb4⟩)
            | (go_at_call 13; refine (HC.out.2.2.2.2.2.2.1 _ hb4).mono ?_; rintro e w5 ⟨rfl, hb5⟩))
        have B5 := Lib.hid hb5; clear hb4 hb5
        go_wp2_with fail
        refine (HC.out.1 _ B5.out _).mono ?_
        rintro e w6 ⟨rfl, hb6⟩
        have B6 := Lib.hid hb6; clear hb6
        go_wp2_with fail
        refine (HC.out.2.1 _ B6.out).mono ?_
        rintro e w7 ⟨rfl, hb7⟩
        have B7 := Lib.hid hb7; clear hb7
        go_wp2_with fail
        refine (HC.out.2.2.1 _ B7.out).mono ?_
        rintro e w8 ⟨rfl, hb8⟩
        have B8 := Lib.hid hb8; clear hb8
        go_wp2_with fail
        go_ret
        exact ⟨rfl, B8.out⟩
      · go_wp2_with fail
        go_region_held3 (fun w' => Below w.heap.size w w')
          (first | exact (Below.refl _ _).drew | exact hb2 | exact hb3)
          (first
            | (go_at_call_has 15 (Value.string sum); refine (HC.out.2.2.2.1 _ (Below.refl _ _).drew _).mono ?_; rintro e w2 ⟨rfl, hb2⟩)
            | (go_at_call 15; refine (HC.out.2.2.2.2.1 _ hb2 _ _ (HC.out.2.2.2.2.2.2.2.2 _ (Or.inl rfl))).mono ?_; rintro e w3 ⟨rfl, hb3⟩))
        have B3 := Lib.hid hb3; clear hb2 hb3
        clear hjc j0 j1 j2 ej2 hj hcn
        go_wp2_with fail
        go_region_held3 (fun w' => w'.cell? ⟨g, o, none⟩ = some (.string s) ∧ Below w.heap.size w w')
          (first
            | exact HC.out.2.2.2.2.2.2.2.1 _ B3.out.drew
            | exact HC.out.2.2.2.2.2.2.2.1 _ (B3.out.alloc B3.out.size _).drew
            | exact HC.out.2.2.2.2.2.2.2.1 _ hb4
            | exact HC.out.2.2.2.2.2.2.2.1 _ hb5)
          (first
            | (go_at_call 15; refine (HC.out.2.2.2.2.2.1 _ B3.out).mono ?_; rintro e w4 ⟨rfl, hb4⟩)
            | (go_at_call 13; refine (HC.out.2.2.2.2.2.2.1 _ hb4).mono ?_; rintro e w5 ⟨rfl, hb5⟩))
        have B5 := Lib.hid hb5; clear hb4 hb5
        go_wp2_with fail
        refine (HC.out.1 _ B5.out _).mono ?_
        rintro e w6 ⟨rfl, hb6⟩
        have B6 := Lib.hid hb6; clear hb6
        go_wp2_with fail
        refine (HC.out.2.1 _ B6.out).mono ?_
        rintro e w7 ⟨rfl, hb7⟩
        have B7 := Lib.hid hb7; clear hb7
        go_wp2_with fail
        refine (HC.out.2.2.1 _ B7.out).mono ?_
        rintro e w8 ⟨rfl, hb8⟩
        have B8 := Lib.hid hb8; clear hb8
        go_wp2_with fail
        go_ret
        exact ⟨rfl, B8.out⟩
end Go.Proofs.YtjdjajjogpmdaaaDoor
