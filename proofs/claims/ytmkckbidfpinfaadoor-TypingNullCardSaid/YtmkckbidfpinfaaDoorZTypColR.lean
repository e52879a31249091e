/-
  Layer 15: which columns there may be: the document's Columns, At and Fits; are columns few?
-/
import Derived.Test.YtmkckbidfpinfaaDoorZTypCols
namespace Go.Proofs.YtmkckbidfpinfaaDoor
open Go.RowKit Go.Shelf
attribute [local go_sem] Oper.semAt_some
/-- the number of the first column of a name, or -1 -/
def AtP (L : List ColV) (nm : ByteArray) (r : Int) : Prop := (∃ k, ∃ h : k < L.length, r = (k : Int) ∧ L[k].name = nm ∧ ∀ j (hj : j < L.length), j < k → L[j].name ≠ nm) ∨ (r = -1 ∧ ∀ j (hj : j < L.length), L[j].name ≠ nm)
theorem atP_lt {L : List ColV} {nm : ByteArray} {k : Nat} {r : Int} (hk : k < L.length) (e : L[k].name = nm) (h : AtP L nm r) : decide (r < (k : Int)) = (L.take k).any (fun c => decide (c.name = nm)) := by
  rcases h with ⟨m, hm, rfl, hm1, hm2⟩ | ⟨_, h⟩
  · by_cases hlt : m < k
    · rw [decide_eq_true (by omega), eq_comm, List.any_eq_true]
      refine ⟨L[m], ?_, decide_eq_true hm1⟩
      exact List.mem_iff_getElem.2 ⟨m, by rw [List.length_take]; omega, by rw [List.getElem_take]⟩
    · rw [decide_eq_false (by omega), eq_comm, List.any_eq_false]
      intro c hc
      obtain ⟨j, hj, e2⟩ := List.mem_iff_getElem.1 hc
      rw [List.length_take] at hj
      rw [List.getElem_take] at e2
      rw [decide_eq_true_eq, ← e2]
      exact hm2 j (by omega) (by omega)
  · exact absurd e (h k hk)
set_option maxRecDepth 100000 in
set_option maxHeartbeats 3200000 in
theorem rAt15_any (nm : ByteArray) (L : List ColV) (al : Option Addr) (n cap : Nat) (hn : L.length = n) (hl : n ≤ 1000000) (w : World) (hR : ReadsC w al L) :
    Calls Tryd.prog 29 #[.slice al n cap, .string nm] w fun e w' => (∃ r : Int, e = .returned (.int .i64 r) ∧ AtP L nm r) ∧ w' = w := by
  have HR := Lib.hid (And.intro hR hn)
  clear hR hn
  go_enter Tryd.func29, Tryd.ntmps29
  go_wp2_with fail
  go_loop [5] (fun i => ∃ k : Nat, k ≤ n ∧ i = .int .i64 (k : Int) ∧ Hid (∀ j (hj : j < L.length), j < k → L[j].name ≠ nm)) (fun i => n - (intOf i).toNat)
  case atStart => exact ⟨0, Nat.zero_le _, rfl, Lib.hid (fun j _ h => by omega)⟩
  case round =>
    obtain ⟨k, hk, rfl, HK⟩ := hrel
    by_cases hlt : k < n
    · have hlt2 : k < L.length := by rw [HR.out.2]; exact hlt
      obtain ⟨b, off, rfl, c0, c1, c2⟩ := HR.out.1 k hlt2
      by_cases he : L[k].name = nm
      · have HX : Hid (AtP L nm (k : Int)) := Lib.hid (.inl ⟨k, hlt2, rfl, he, HK.out⟩)
        rw [he] at c0
        clear he c1 c2
        go_wp2_with fail
        go_ret
        exact ⟨⟨_, rfl, HX.out⟩, rfl⟩
      · have HN : Hid (∀ j (hj : j < L.length), j < k + 1 → L[j].name ≠ nm) := Lib.hid (fun j hj h => by
          by_cases e : j = k
          · subst e; exact he
          · exact HK.out j hj (by omega))
        have g1 := str_neq he
        have g2 : (L[k].name.toList == nm.toList) = false := by simpa using g1
        clear he c1 c2
        generalize L[k].name = y at *
        go_wp2_with fail
        go_round
        case rel => exact ⟨k + 1, by omega, by go_num, HN⟩
        case measure => simp only [intOf]; omega
    · obtain rfl : k = n := by omega
      have HX : Hid (AtP L nm (-1)) := Lib.hid (.inr ⟨rfl, fun j hj => HK.out j hj (by have := HR.out.2; omega)⟩)
      go_wp2_with fail
      go_ret
      exact ⟨⟨_, rfl, HX.out⟩, rfl⟩
set_option maxRecDepth 100000 in
theorem rFits15_any (k want : Int) (w : World) : Calls Tryd.prog 11 #[.int .i64 k, .int .i64 want] w fun e w' => e = .returned (.bool (Ty.fits k want)) ∧ w' = w := by
  have hE : Ty.fits k want = (decide (k = want) || (decide (k = 0) || decide (want = 0))) := rfl
  rw [hE]
  by_cases h1 : k = want
  · have t1 : (k == want) = true := by simpa using h1
    go_enter Tryd.func11, Tryd.ntmps11
    go_wp2_with fail
    go_ret
    exact ⟨ret_bool (by rw [decide_eq_true h1]; rfl), rfl⟩
  · have t1 : (k == want) = false := by simpa using h1
    by_cases h2 : k = 0
    · have t2 : (k == 0) = true := by simpa using h2
      go_enter Tryd.func11, Tryd.ntmps11
      go_wp2_with fail
      go_ret
      exact ⟨ret_bool (by rw [decide_eq_false h1, decide_eq_true h2]; rfl), rfl⟩
    · have t2 : (k == 0) = false := by simpa using h2
      by_cases h3 : want = 0
      · have t3 : (want == 0) = true := by simpa using h3
        go_enter Tryd.func11, Tryd.ntmps11
        go_wp2_with fail
        go_ret
        exact ⟨ret_bool (by rw [decide_eq_false h1, decide_eq_false h2, decide_eq_true h3]; rfl), rfl⟩
      · have t3 : (want == 0) = false := by simpa using h3
        go_enter Tryd.func11, Tryd.ntmps11
        go_wp2_with fail
        go_ret
        exact ⟨ret_bool (by rw [decide_eq_false h1, decide_eq_false h2, decide_eq_false h3]; rfl), rfl⟩
/-- few columns with short names -/
def fewC (L : List ColV) : Bool := decide (L.length ≤ 12) && L.all fun c => decide (c.name.size ≤ 300)
theorem fewC_long {L : List ColV} (h : 12 < L.length) : fewC L = false := by unfold fewC; rw [decide_eq_false (by omega)]; rfl
theorem fewC_no {L : List ColV} {k : Nat} (hk : k < L.length) (h : 300 < L[k].name.size) : fewC L = false := by
  unfold fewC
  rw [show (L.all fun c => decide (c.name.size ≤ 300)) = false from ?_, Bool.and_false]
  rw [List.all_eq_false]
  exact ⟨L[k], List.getElem_mem hk, by rw [decide_eq_true_eq]; omega⟩
theorem fewC_yes {L : List ColV} (h0 : L.length ≤ 12) (h : ∀ j (hj : j < L.length), L[j].name.size ≤ 300) : fewC L = true := by
  unfold fewC
  rw [decide_eq_true h0, Bool.true_and, List.all_eq_true]
  intro c hc
  obtain ⟨j, hj, e⟩ := List.mem_iff_getElem.1 hc
  rw [decide_eq_true_eq, ← e]
  exact h j hj
theorem fewC_is {L : List ColV} (h : fewC L = true) : L.length ≤ 12 ∧ ∀ c ∈ L, c.name.size ≤ 300 := by
  unfold fewC at h
  rw [Bool.and_eq_true, decide_eq_true_eq, List.all_eq_true] at h
  exact ⟨h.1, fun c hc => by have := h.2 c hc; rwa [decide_eq_true_eq] at this⟩
set_option maxRecDepth 100000 in
set_option maxHeartbeats 3200000 in
theorem fewC15_any (L : List ColV) (al : Option Addr) (n cap : Nat) (hn : L.length = n) (hl : n ≤ 9223372036854775807) (hN : ∀ c ∈ L, c.name.size ≤ 9223372036854775807) (w : World) (hR : ReadsC w al L) :
    Calls Tryd.prog 6 #[.slice al n cap] w fun e w' => e = .returned (.bool (fewC L)) ∧ w' = w := by
  have HR := Lib.hid (And.intro hR (And.intro hn hN))
  by_cases h12 : 12 < n
  · have t1 : decide ((n : Int) > 12) = true := decide_eq_true (by omega)
    rw [fewC_long (by omega)]
    clear hR hn hN
    go_enter Tryd.func6, Tryd.ntmps6
    go_wp2_with fail
    go_ret
    exact ⟨rfl, rfl⟩
  · have t1 : decide ((n : Int) > 12) = false := decide_eq_false (by omega)
    clear hR hn hN
    go_enter Tryd.func6, Tryd.ntmps6
    go_wp2_with fail
    go_loop [3] (fun i => ∃ k : Nat, k ≤ n ∧ i = .int .i64 (k : Int) ∧ Hid (∀ j (hj : j < L.length), j < k → L[j].name.size ≤ 300)) (fun i => n - (intOf i).toNat)
    case atStart => exact ⟨0, Nat.zero_le _, rfl, Lib.hid (fun j _ h => by omega)⟩
    case round =>
      obtain ⟨k, hk, rfl, HK⟩ := hrel
      by_cases hlt : k < n
      · have hlt2 : k < L.length := by rw [HR.out.2.1]; exact hlt
        obtain ⟨b, off, rfl, c0, c1, c2⟩ := HR.out.1 k hlt2
        have hz := HR.out.2.2 L[k] (List.getElem_mem hlt2)
        by_cases he : 300 < L[k].name.size
        · have HX := Lib.hid (fewC_no hlt2 he)
          have t2 : decide ((L[k].name.size : Int) > 300) = true := decide_eq_true (by omega)
          clear he c1 c2
          generalize L[k].name = y at *
          go_wp2_with fail
          go_ret
          exact ⟨ret_bool HX.out.symm, rfl⟩
        · have HN : Hid (∀ j (hj : j < L.length), j < k + 1 → L[j].name.size ≤ 300) := Lib.hid (fun j hj h => by
            by_cases e : j = k
            · subst e; omega
            · exact HK.out j hj (by omega))
          have t2 : decide ((L[k].name.size : Int) > 300) = false := decide_eq_false (by omega)
          clear he c1 c2
          generalize L[k].name = y at *
          go_wp2_with fail
          go_round
          case rel => exact ⟨k + 1, by omega, by go_num, HN⟩
          case measure => simp only [intOf]; omega
      · obtain rfl : k = n := by omega
        have HX : Hid (fewC L = true) := Lib.hid (fewC_yes (by have := HR.out.2.1; omega) (fun j hj => HK.out j hj (by have := HR.out.2.1; omega)))
        go_wp2_with fail
        go_ret
        exact ⟨ret_bool HX.out.symm, rfl⟩
set_option maxRecDepth 100000 in
set_option maxHeartbeats 6400000 in
theorem rColumns15_any (L : List ColV) (al : Option Addr) (n cap : Nat) (hn : L.length = n) (hl : n ≤ 1000000) (hN : ∀ c ∈ L, c.name.size ≤ 1000000) (w : World) (hR : ReadsC w al L) :
    Calls Tryd.prog 9 #[.slice al n cap] w fun e w' => (∃ r : Int, e = .returned (.int .i64 r) ∧ Ty.ColsR L r) ∧ Below w.heap.size w w' := by
  have HR := Lib.hid (And.intro hR (And.intro hn hN))
  clear hR hN
  by_cases h6 : 6 < n
  · have t1 : decide ((n : Int) > 6) = true := decide_eq_true (by omega)
    have HX : Hid (Ty.ColsR L 24) := Lib.hid (.inl ⟨by omega, rfl⟩)
    go_enter Tryd.func9, Tryd.ntmps9
    go_wp2_with fail
    go_ret
    exact ⟨⟨_, rfl, HX.out⟩, Below.refl _ _⟩
  · have t1 : decide ((n : Int) > 6) = false := decide_eq_false (by omega)
    have H6 := Lib.hid (show L.length ≤ 6 by omega)
    clear hn
    go_enter Tryd.func9, Tryd.ntmps9
    go_wp2_with fail
    go_loopw [3] (fun i wr => ∃ k : Nat, i = .int .i64 (k : Int) ∧ k ≤ n ∧ Hid (∀ j, j < k → Ty.bad L j = 0) ∧ Hid (Below w.heap.size w wr)) (fun i _ => n - (intOf i).toNat)
    case atStart => exact ⟨0, rfl, Nat.zero_le _, Lib.hid (fun j h => by omega), Lib.hid (Below.refl _ _)⟩
    case round =>
      obtain ⟨k, rfl, hk, HK, HB⟩ := hrel
      by_cases hlt : k < n
      · have hlt2 : k < L.length := by rw [HR.out.2.1]; exact hlt
        obtain ⟨b, off, rfl, c0, c1, c2⟩ := readsC_below HR.out.1 HB.out k hlt2
        have hz := HR.out.2.2 L[k] (List.getElem_mem hlt2)
        have cN := rNameB13_any L[k].name wr (by unfold maxLen; omega)
        have h13a := Ty.bad_13a hlt2
        have h13b := Ty.bad_13b hlt2
        have h14 := Ty.bad_14 hlt2
        have hA := fun (wx : World) (hb : Below wr.heap.size wr wx) => rAt15_any L[k].name L (some ⟨b, off, none⟩) n cap HR.out.2.1 hl wx (readsC_below HR.out.1 (HB.out.trans (hb.mono HB.out.size)))
        have hAl := fun r => atP_lt (r := r) hlt2 rfl
        have hRd := fun (wx : World) (hb : Below wr.heap.size wr wx) => readsC_below HR.out.1 (HB.out.trans (hb.mono HB.out.size)) k hlt2
        have HX : ∀ r : Int, Ty.bad L k = r → r ≠ 0 → Ty.ColsR L r := fun r h0 h1 => .inr ⟨H6.out, .inl ⟨k, hlt2, HK.out, h0, h1⟩⟩
        have HN : Ty.bad L k = 0 → ∀ j, j < k + 1 → Ty.bad L j = 0 := fun h0 j hj => by
          by_cases e : j = k
          · subst e; exact h0
          · exact HK.out j (by omega)
        generalize (L.take k).any (fun c => decide (c.name = L[k].name)) = B2 at *
        generalize L[k] = y at *
        obtain ⟨y1, y2, y3, y4, y5⟩ := y
        dsimp only at c0 c1 c2 cN h13a h13b h14 hA hAl hRd
        have HC := Lib.hid (And.intro cN (And.intro hA (And.intro hAl (And.intro hRd (And.intro h13a (And.intro h13b (And.intro h14 (And.intro HX HN))))))))
        clear cN hA hAl hRd h13a h13b h14 HX HN hz
        cases hB1 : Lx.nameB y1 with
        | false =>
          have HX2 := Lib.hid (HC.out.2.2.2.2.2.2.2.1 13 (HC.out.2.2.2.2.1 hB1) (by decide))
          rw [hB1] at HC
          clear hB1
          go_wp2_with fail
          refine HC.out.1.mono ?_
          rintro e w1 ⟨rfl, hb1⟩
          have H1 := Lib.hid (HB.out.trans (hb1.mono HB.out.size))
          clear hb1
          go_wp2_with fail
          go_ret
          exact ⟨⟨_, rfl, HX2.out⟩, H1.out⟩
        | true =>
          rw [hB1] at HC
          clear hB1
          go_wp2_with fail
          refine HC.out.1.mono ?_
          rintro e w1 ⟨rfl, hb1⟩
          obtain ⟨b', off', eb, k0, k1, k2⟩ := HC.out.2.2.2.1 w1 hb1
          injection eb with eb
          injection eb with eb eo
          subst eb; subst eo
          have H1 := Lib.hid (And.intro (HC.out.2.1 w1 hb1) (HB.out.trans (hb1.mono HB.out.size)))
          clear hb1 c0 c1 c2 k2
          cases B2 with
          | true =>
            have HX2 := Lib.hid (HC.out.2.2.2.2.2.2.2.1 13 (HC.out.2.2.2.2.2.1 rfl) (by decide))
            go_wp2_with fail
            refine H1.out.1.mono ?_
            rintro e w2 ⟨⟨r, rfl, hr⟩, rfl⟩
            have hlt3 := HC.out.2.2.1 r hr
            clear hr
            go_wp2_with fail
            go_ret
            exact ⟨⟨_, rfl, HX2.out⟩, H1.out.2⟩
          | false =>
            have hbk := HC.out.2.2.2.2.2.2.1 (by trivial) (by first | rfl | trivial)
            by_cases h3 : 1 ≤ y2 ∧ y2 ≤ 3
            · rw [if_pos h3] at hbk
              have HN2 := Lib.hid (HC.out.2.2.2.2.2.2.2.2 hbk)
              have t3 : decide (y2 < 1) = false := decide_eq_false (by omega)
              have t4 : decide (y2 > 3) = false := decide_eq_false (by omega)
              clear hbk h3
              go_wp2_with fail
              refine H1.out.1.mono ?_
              rintro e w2 ⟨⟨r, rfl, hr⟩, rfl⟩
              have hlt3 := HC.out.2.2.1 r hr
              clear hr
              go_wp2_with fail
              go_roundw
              case rel => exact ⟨k + 1, by go_num, by omega, HN2, Lib.hid H1.out.2⟩
              case measure => simp only [intOf]; omega
            · rw [if_neg h3] at hbk
              have HX2 := Lib.hid (HC.out.2.2.2.2.2.2.2.1 14 hbk (by decide))
              by_cases h4 : y2 < 1
              · have t3 : decide (y2 < 1) = true := decide_eq_true h4
                clear hbk h3
                go_wp2_with fail
                refine H1.out.1.mono ?_
                rintro e w2 ⟨⟨r, rfl, hr⟩, rfl⟩
                have hlt3 := HC.out.2.2.1 r hr
                clear hr
                go_wp2_with fail
                go_ret
                exact ⟨⟨_, rfl, HX2.out⟩, H1.out.2⟩
              · have t3 : decide (y2 < 1) = false := decide_eq_false h4
                have t4 : decide (y2 > 3) = true := decide_eq_true (by omega)
                clear hbk h3
                go_wp2_with fail
                refine H1.out.1.mono ?_
                rintro e w2 ⟨⟨r, rfl, hr⟩, rfl⟩
                have hlt3 := HC.out.2.2.1 r hr
                clear hr
                go_wp2_with fail
                go_ret
                exact ⟨⟨_, rfl, HX2.out⟩, H1.out.2⟩
      · obtain rfl : k = n := by omega
        have HX : Hid (Ty.ColsR L 0) := Lib.hid (.inr ⟨H6.out, .inr ⟨fun j hj => HK.out j (by have := HR.out.2.1; omega), rfl⟩⟩)
        go_wp2_with fail
        go_ret
        exact ⟨⟨_, rfl, HX.out⟩, HB.out⟩
end Go.Proofs.YtmkckbidfpinfaaDoor
