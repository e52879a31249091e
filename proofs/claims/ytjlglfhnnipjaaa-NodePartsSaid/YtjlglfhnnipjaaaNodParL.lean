/-
  Layer 9: the law NodeParts, walked.
-/
import Derived.Test.YtjlglfhnnipjaaaNodLaws
import Derived.Test.YtjlglfhnnipjaaaNodFew3
import Derived.Test.YtjlglfhnnipjaaaNodOpen
import Derived.Test.YtjlglfhnnipjaaaNodQuiet
namespace Go.Proofs.Ytjlglfhnnipjaaa
open Go.RowKit
set_option maxRecDepth 100000 in
theorem rFewest9_any (leaf : Bool) (a : Option Addr) (L : Nd.Prs) (c : Nat) (w : World) (hr : ReadsP w a L) (hL : L.length ≤ 900) (hc : L.length ≤ c) (hS : ∀ x ∈ L, x.1.size ≤ 1000 ∧ x.2.size ≤ 1000) :
    Calls Try.prog 25 #[nodV leaf a L.length c] w fun e w' => e = .returned (.int .i64 (Nd.few leaf L [] 0 : Int)) ∧ Below w.heap.size w w' := by
  have hb : Below w.heap.size w (w.alloc (.cells #[.bool leaf, .slice a L.length c] 24)) := (Below.refl w.heap.size w).alloc (Nat.le_refl _) _
  obtain ⟨r0, r1, _, _⟩ := nod_cells (rowV_new w 24 (nodC leaf a L.length c))
  have cF := rfewest9_any leaf a L c (w.alloc (.cells #[.bool leaf, .slice a L.length c] 24)) (readsP_below hr hb) hL hc hS
  generalize Nd.few leaf L [] 0 = FW at *
  have H := Lib.hid (And.intro cF hb)
  clear cF hb hr hS
  go_enter Try.func25, Try.ntmps25
  go_wp2_with fail
  refine H.out.1.mono ?_
  rintro e w1 ⟨rfl, hb1⟩
  have H1 := Lib.hid (H.out.2.trans (hb1.mono H.out.2.size))
  clear hb1
  go_wp2_with fail
  go_ret
  exact ⟨rfl, H1.out⟩
theorem flat_next (X : List Part) (k : Nat) (h : k < X.length) : ((X.map (·.2.2)).take (k + 1)).flatten = ((X.map (·.2.2)).take k).flatten ++ X[k].2.2 := by
  have h2 : k < (X.map (·.2.2)).length := by rw [List.length_map]; exact h
  rw [List.take_succ_eq_append_getElem h2, List.flatten_append]
  simp
theorem flat_le (X : List Part) (k : Nat) : ((X.map (·.2.2)).take k).flatten.length ≤ (X.map (·.2.2)).flatten.length := by
  have h := List.take_append_drop k (X.map (·.2.2))
  have : (X.map (·.2.2)).flatten = ((X.map (·.2.2)).take k).flatten ++ ((X.map (·.2.2)).drop k).flatten := by rw [← List.flatten_append, h]
  rw [this, List.length_append]; omega
set_option maxRecDepth 100000 in
set_option maxHeartbeats 12800000 in
theorem NodeParts_walk (leaf : Bool) (a : Option Addr) (L : List (ByteArray × ByteArray)) (c : Nat) (hm : L.length ≤ maxLen) (hz : ∀ x ∈ L, x.1.size ≤ maxLen ∧ x.2.size ≤ maxLen) (hc : L.length ≤ c) (w : World) (hr : ReadsP w a L) :
    Calls Try.prog 5 #[nodV leaf a L.length c] w fun e w' => e = .returned (.bool true) ∧ Below w.heap.size w w' := by
  have hb : Below w.heap.size w (w.alloc (.cells #[.bool leaf, .slice a L.length c] 24)) := (Below.refl w.heap.size w).alloc (Nat.le_refl _) _
  have hrow := rowV_new w 24 (nodC leaf a L.length c)
  obtain ⟨r0, r1, _, _⟩ := nod_cells hrow
  have hr0 := readsP_below hr hb
  have cS : Calls Try.prog 8 #[nodV leaf a L.length c] (w.alloc (.cells #[.bool leaf, .slice a L.length c] 24)) fun e w' => e = .returned (.bool (decide (Nd.small L))) ∧ Below (w.alloc (.cells #[.bool leaf, .slice a L.length c] 24)).heap.size (w.alloc (.cells #[.bool leaf, .slice a L.length c] 24)) w' :=
    small9_any leaf a L c _ hr0 hm hz
  by_cases hs : Nd.small L
  · rw [decide_eq_true hs] at cS
    obtain ⟨hl60, hsz⟩ := hs
    have hS : ∀ x ∈ L, x.1.size ≤ 1000 ∧ x.2.size ≤ 1000 := fun x hx => by have := hsz x hx; omega
    have cP := fun wx (hx : ReadsP wx a L) => parts9_any leaf a L c wx hx (by omega) hc
    have cR := fun wx (hx : ReadsP wx a L) => rright9_any leaf a L c wx hx (by omega)
    have cC := fun wx (hx : ReadsP wx a L) => rcheck9_any leaf a L c wx hx (by omega) hS
    have cF := fun wx (hx : ReadsP wx a L) => rFewest9_any leaf a L c wx hx (by omega) hc hS
    have H := Lib.hid (And.intro cS (And.intro hb (And.intro hrow (And.intro hr0 (And.intro cP cR)))))
    have HC := Lib.hid (And.intro cC cF)
    have HS := Lib.hid hS
    clear hr hb hrow hr0 cS hz cP cR cC cF hS hsz
    generalize hN : w.heap.size = N at *
    by_cases hri : Nd.right ⟨leaf, L⟩
    · go_enter Try.func5, Try.ntmps5
      go_wp2_with fail
      refine H.out.1.mono ?_
      rintro e w1 ⟨rfl, hb1⟩
      have hrow1 := rowV_below H.out.2.2.1 hb1 (rowV_lt H.out.2.2.1)
      have hr1 := readsP_below H.out.2.2.2.1 hb1
      have hbw1 : Below N w w1 := H.out.2.1.trans (hb1.mono (by rw [← hN]; exact H.out.2.1.size))
      obtain ⟨p0, p1, _, _⟩ := nod_cells hrow1
      have H1 := Lib.hid (And.intro hrow1 (And.intro hr1 hbw1))
      clear hb1 hrow1 hr1 hbw1 r0 r1
      go_wp2_with fail
      refine (H.out.2.2.2.2.1 _ H1.out.2.1).mono ?_
      rintro e w2 ⟨v, X, rfl, hX, hXp, hb2⟩
      rw [if_pos hri] at hXp
      have hrow2 := rowV_below H1.out.1 hb2 (rowV_lt H1.out.1)
      have hr2 := readsP_below H1.out.2.1 hb2
      have hbw2 : Below N w w2 := H1.out.2.2.trans (hb2.mono (by rw [← hN]; exact H1.out.2.2.size))
      obtain ⟨q0, q1, _, _⟩ := nod_cells hrow2
      have cRR := H.out.2.2.2.2.2 w2 hr2
      rw [decide_eq_true hri] at cRR
      have H2 := Lib.hid (And.intro hrow2 (And.intro hr2 (And.intro hbw2 (And.intro hX (And.intro hXp cRR)))))
      have hflat := Nd.parts_flat hXp
      have hpr := Nd.parts_right hXp hri.2.1 hri.2.2
      have hXl : X.length ≤ L.length := by
        have h := Nd.parts_len hXp hri.2.1
        rw [List.length_map] at h
        exact h
      have hX0 : 0 < X.length := by
        cases X with
        | nil => exact absurd hflat.symm hri.1
        | cons => simp
      have hfw := Nd.few_is hri.1 hri.2.1 hXp
      rw [List.length_map] at hfw
      have hone := fun h => Nd.parts_one hXp hri.1 h
      obtain ⟨gg, capX, rfl, hgB, hgl⟩ := World.ownsRow.form hX.1 hX0
      have hcells : ∀ i (hi : i < X.length), w2.cell? ⟨gg, i * 2, none⟩ = some (.bool leaf) ∧ w2.cell? ⟨gg, i * 2 + 1, none⟩ = some (.slice X[i].1 X[i].2.2.length X[i].2.1) := fun i hi => by
        obtain ⟨u1, u2⟩ := partsC_at leaf X i hi
        exact ⟨own_cell hX.1 u1, own_cell hX.1 u2⟩
      have hreads : ∀ i (hi : i < X.length), ReadsP w2 X[i].1 X[i].2.2 := fun i hi => by
        obtain ⟨a', cap', e, h, _⟩ := owns_readsP (hX.2 X[i] (List.getElem_mem hi)) rfl
        injection e with e1 e2 e3
        rw [e1]; exact h
      have HX := Lib.hid (And.intro hflat (And.intro hpr (And.intro hcells (And.intro hreads (And.intro hfw hone)))))
      clear hb2 hrow2 hr2 hbw2 hX hXp cRR hflat hpr hcells hreads hfw hone p0 p1
      go_wp2_with fail
      refine H2.out.2.2.2.2.2.mono ?_
      rintro e w3 ⟨rfl, hb3⟩
      have hrow3 := rowV_below H2.out.1 hb3 (rowV_lt H2.out.1)
      have hr3 := readsP_below H2.out.2.1 hb3
      have hbw3 : Below N w w3 := H2.out.2.2.1.trans (hb3.mono (by rw [← hN]; exact H2.out.2.2.1.size))
      have H3 := Lib.hid (And.intro hrow3 (And.intro hr3 (And.intro hbw3 hb3)))
      clear hrow3 hr3 hbw3 hb3 q0 q1
      go_wp2_with fail
      go_loopw [4, 5] (fun av i wr => ∃ (k : Nat), k ≤ X.length ∧ i = .int .i64 (k : Int) ∧ Hid (wr.ownsRow w3.heap.size 33 2 av ((X.map (·.2.2)).take k).flatten.length (pairsC ((X.map (·.2.2)).take k).flatten) ∧ Below w3.heap.size w3 wr)) (fun _ i _ => X.length - (RowKit.intOf i).toNat)
      case atStart => exact ⟨0, Nat.zero_le _, rfl, Lib.hid ⟨World.ownsRow_nil _ _ _ _, Below.refl _ _⟩⟩
      case round =>
        obtain ⟨k, hk, rfl, HI⟩ := hrel
        have hrN := rowV_below H3.out.1 HI.out.2 (rowV_lt H3.out.1)
        obtain ⟨g0, g1, _, _⟩ := nod_cells hrN
        by_cases hlt : k < X.length
        · obtain ⟨c0', c1'⟩ := HX.out.2.2.1 k hlt
          have hup : Below w2.heap.size w2 wr := H3.out.2.2.2.trans (HI.out.2.mono H3.out.2.2.2.size)
          have c0 := cell1_kept hup c0'
          have c1 := cell1_kept hup c1'
          have hrd := readsP_below (HX.out.2.2.2.1 k hlt) hup
          have hnx := flat_next X k hlt
          have hle := flat_le X (k + 1)
          have hlL : (X.map (·.2.2)).flatten.length = L.length := by rw [HX.out.1]
          have hchk := HX.out.2.1 X[k].2.2 (List.mem_map.2 ⟨X[k], List.getElem_mem hlt, rfl⟩)
          have hmemL : ∀ y ∈ X[k].2.2, y ∈ L := fun y hy => by
            rw [← HX.out.1]
            exact List.mem_flatten.2 ⟨X[k].2.2, List.mem_map.2 ⟨X[k], List.getElem_mem hlt, rfl⟩, hy⟩
          generalize hxk : X[k] = xk at *
          obtain ⟨xa, xc, xl⟩ := xk
          dsimp only at c1 hrd hnx hchk hmemL c1'
          have hxl : xl.length ≤ 60 := by
            rw [hnx, List.length_append] at hle
            omega
          have hcf : ∀ wx, Hid (Below wr.heap.size wr wx) → Calls Try.prog 23 #[nodV leaf xa xl.length xc] wx fun e w' => e = .returned (.int .i64 0) ∧ Below wx.heap.size wx w' := fun wx hx => by
            have := rcheck9_any leaf xa xl xc wx (readsP_below hrd hx.out) (by omega) (fun y hy => HS.out y (hmemL y hy))
            rwa [hchk] at this
          have HK := Lib.hid hcf
          have HN := Lib.hid (And.intro hnx (And.intro hrd (And.intro hrN (And.intro hle hlL))))
          clear hcf hnx hrN hle hlL hchk hmemL hup c0' c1' hrd hxk
          go_wp2_with fail
          refine wp_region_quiet_tail (C := fun wx => (wx.cell? ⟨gg, k * 2, none⟩ = some (.bool leaf) ∧ wx.cell? ⟨gg, k * 2 + 1, none⟩ = some (.slice xa xl.length xc) ∧ wx.cell? ⟨N, 0, none⟩ = some (.bool leaf)) ∧ Hid (Below wr.heap.size wr wx)) 15 (by kernel_rfl) (by kernel_rfl) ⟨⟨c0, c1, g0⟩, Lib.hid (Below.refl wr.heap.size wr).drew⟩ ?_
          simp only [List.take_succ_cons, List.take_zero, List.drop_succ_cons, List.drop_zero]
          go_big_quiet_want
          go_big_quiet_op
          go_big_quiet_on
          go_big_quiet_want
          go_big_quiet_op
          go_big_quiet_on
          go_big_quiet_want
          refine ⟨.pointer (some ⟨gg, k * 2, none⟩), fun wx hSx => ?_, ?_⟩
          · obtain ⟨⟨k0, k1, k2⟩, -⟩ := hSx
            go_simp
            try first
              | with_reducible rfl
              | rw [if_neg (by omega)]
          simp only [Act.put, List.setIfInBounds_toArray, List.set_cons_zero, List.set_cons_succ]
          go_big_quiet_on
          go_big_quiet_want
          refine ⟨.pointer (some ⟨gg, k * 2, none⟩), fun wx hSx => ?_, ?_⟩
          · obtain ⟨⟨k0, k1, k2⟩, -⟩ := hSx
            go_simp
            try first
              | with_reducible rfl
              | rw [if_neg (by omega)]
          simp only [Act.put, List.setIfInBounds_toArray, List.set_cons_zero, List.set_cons_succ]
          go_big_quiet_on
          go_big_quiet_want
          refine ⟨.bool leaf, fun wx hSx => ?_, ?_⟩
          · obtain ⟨⟨k0, k1, k2⟩, -⟩ := hSx
            go_simp
            try first
              | with_reducible rfl
              | rw [if_neg (by omega)]
          simp only [Act.put, List.setIfInBounds_toArray, List.set_cons_zero, List.set_cons_succ]
          go_big_quiet_on
          go_big_quiet_want
          refine ⟨.pointer (some ⟨N, 0, none⟩), fun wx hSx => ?_, ?_⟩
          · obtain ⟨⟨k0, k1, k2⟩, -⟩ := hSx
            go_simp
            try first
              | with_reducible rfl
              | rw [if_neg (by omega)]
          simp only [Act.put, List.setIfInBounds_toArray, List.set_cons_zero, List.set_cons_succ]
          go_big_quiet_on
          go_big_quiet_want
          refine ⟨.bool leaf, fun wx hSx => ?_, ?_⟩
          · obtain ⟨⟨k0, k1, k2⟩, -⟩ := hSx
            go_simp
            try first
              | with_reducible rfl
              | rw [if_neg (by omega)]
          simp only [Act.put, List.setIfInBounds_toArray, List.set_cons_zero, List.set_cons_succ]
          go_big_quiet_on
          go_big_quiet_want
          refine ⟨.bool false, fun wx hSx => ?_, ?_⟩
          · obtain ⟨⟨k0, k1, k2⟩, -⟩ := hSx
            go_simp
            try first
              | with_reducible rfl
              | rw [if_neg (by omega)]
          simp only [Act.put, List.setIfInBounds_toArray, List.set_cons_zero, List.set_cons_succ]
          go_big_quiet_on
          go_big_quiet_want
          go_big_quiet_op
          go_big_quiet_on
          go_big_quiet_want
          go_big_quiet_op
          go_big_quiet_on
          go_big_quiet_want
          go_big_quiet_op
          go_big_quiet_on
          go_big_quiet_want
          refine ⟨.pointer (some ⟨gg, k * 2, none⟩), fun wx hSx => ?_, ?_⟩
          · obtain ⟨⟨k0, k1, k2⟩, -⟩ := hSx
            go_simp
            try first
              | with_reducible rfl
              | rw [if_neg (by omega)]
          simp only [Act.put, List.setIfInBounds_toArray, List.set_cons_zero, List.set_cons_succ]
          go_big_quiet_on
          go_big_quiet_want
          refine ⟨nodV leaf xa xl.length xc, fun wx hSx => ?_, ?_⟩
          · obtain ⟨⟨k0, k1, k2⟩, -⟩ := hSx
            go_simp
            try first
              | with_reducible rfl
              | rw [if_neg (by omega)]
          simp only [Act.put, List.setIfInBounds_toArray, List.set_cons_zero, List.set_cons_succ]
          go_big_quiet_on
          go_big_quiet_want
          refine ⟨.int .i64 0, fun wx hSx => ?_, ?_⟩
          · exact quietAt_call 23 #[nodV leaf xa xl.length xc] (by go_simp) ((HK.out wx hSx.2.out).mono fun e w' hh => ⟨hh.1, ⟨(hh.2.cell (p := ⟨gg, k * 2, none⟩) (World.block_lt_of_cell? _ _ hSx.1.1)).trans hSx.1.1, (hh.2.cell (p := ⟨gg, k * 2 + 1, none⟩) (World.block_lt_of_cell? _ _ hSx.1.2.1)).trans hSx.1.2.1, (hh.2.cell (p := ⟨N, 0, none⟩) (World.block_lt_of_cell? _ _ hSx.1.2.2)).trans hSx.1.2.2⟩, Lib.hid (hSx.2.out.trans (hh.2.mono hSx.2.out.size))⟩)
          simp only [Act.put, List.setIfInBounds_toArray, List.set_cons_zero, List.set_cons_succ]
          go_big_quiet_on
          go_big_quiet_want
          refine ⟨.bool false, fun wx hSx => ?_, ?_⟩
          · obtain ⟨⟨k0, k1, k2⟩, -⟩ := hSx
            go_simp
            try first
              | with_reducible rfl
              | rw [if_neg (by omega)]
          simp only [Act.put, List.setIfInBounds_toArray, List.set_cons_zero, List.set_cons_succ]
          go_big_quiet_on
          refine wpQuiet_nil ?_
          rintro w5 ⟨-, hb5⟩
          obtain ⟨i0, hi, hi0, hi1, hi2⟩ := info_parts pair_parts
          have c1b := cell1_kept hb5.out c1
          have hown5 := ownsRow_only HI.out.1 (Only.of_none (F := fun _ => False) hb5.out) (fun _ _ h => h)
          have hrd5 := readsP_below HN.out.2.1 hb5.out
          have hb35 : Below w3.heap.size w3 w5 := HI.out.2.trans (hb5.out.mono HI.out.2.size)
          obtain ⟨v', w6, hrun, hown6, hgr, _⟩ := run_append_pairs (P := Try.prog) 22 22 i0 _ Try.underlying22 hi hi0 hi1 hi2 rfl hown5 rfl xa xc hrd5 (by have := HN.out.2.2.2.1; have h2 := HN.out.2.2.2.2; rw [HN.out.1, List.length_append] at this; omega) hb35.size
          have hb36 : Below w3.heap.size w3 w6 := hb35.grown hgr hb35.size (fun j hj => (World.ownsRow.lt hown5 j hj).1)
          have hown7 : w6.ownsRow w3.heap.size 33 2 v' ((X.map (·.2.2)).take (k + 1)).flatten.length (pairsC ((X.map (·.2.2)).take (k + 1)).flatten) := by
            rw [HN.out.1, List.length_append]; exact hown6
          have H7 := Lib.hid (And.intro hown7 hb36)
          have HR := Lib.hid hrun
          clear hi hi0 hi1 hi2 hown5 hrd5 hb35 hrun hown6 hgr hb36 hown7 hb5 g0 g1 c0
          go_wp2_with (at_builtin; refine wpList_run_app rfl _ _ 22 rfl _ _ rfl rfl _ _ HR.out ?_)
          go_roundw
          case rel => exact ⟨k + 1, by omega, by go_num, H7⟩
          case measure => simp [RowKit.intOf]; omega
        · obtain rfl : k = X.length := by omega
          have hall := HI.out.1
          rw [List.take_of_length_le (by rw [List.length_map]; exact Nat.le_refl _), HX.out.1] at hall
          obtain ⟨aa, ca, rfl, hrA, _⟩ := owns_readsP hall rfl
          have hrL := readsP_below H3.out.2.1 HI.out.2
          have hbwr : Below N w wr := H3.out.2.2.1.trans (HI.out.2.mono (by rw [← hN]; exact H3.out.2.2.1.size))
          have H4 := Lib.hid (And.intro hrN (And.intro hrA (And.intro hrL hbwr)))
          have cCh := HC.out.1 wr hrL
          have hce := Nd.check_cases ⟨leaf, L⟩
          have h480 : Nd.checkE ⟨leaf, L⟩ = 0 → X.length = 1 := fun h => by
            have h2 := congrArg List.length (HX.out.2.2.2.2.2 (Nd.check_ok h).2)
            rw [List.length_map] at h2
            exact h2
          generalize Nd.checkE ⟨leaf, L⟩ = CE at *
          have HE := Lib.hid cCh
          clear hrN hall hrA hrL hbwr cCh hce
          have hfw := HX.out.2.2.2.2.1
          have cFw : ∀ wx (hx : ReadsP wx a L), Calls Try.prog 25 #[nodV leaf a L.length c] wx fun e w' => e = .returned (.int .i64 (X.length : Int)) ∧ Below wx.heap.size wx w' := fun wx hx => by
            have := HC.out.2 wx hx
            rwa [hfw] at this
          have HF := Lib.hid cFw
          clear hfw cFw
          have dle : decide ((X.length : Int) ≤ (X.length : Int) + 1) = true := decide_eq_true (by omega)
          by_cases h0 : CE = 0
          · have d1 : (CE == 0) = true := by rw [h0]; rfl
            have d2 : ((X.length : Int) != 1) = false := by rw [h480 h0]; rfl
            clear h480 h0
            go_wp2_with fail
            refine HE.out.mono ?_
            rintro e w5 ⟨rfl, hb5⟩
            have hrow5 := rowV_below H4.out.1 hb5 (rowV_lt H4.out.1)
            have hrA5 := readsP_below H4.out.2.1 hb5
            have hrL5 := readsP_below H4.out.2.2.1 hb5
            have hbw5 : Below N w w5 := H4.out.2.2.2.trans (hb5.mono (by rw [← hN]; exact H4.out.2.2.2.size))
            obtain ⟨x0, x1, _, _⟩ := nod_cells hrow5
            have cSm := rpairs9_any aa a L L ca c w5 hrA5 hrL5 (by omega) (by omega)
            rw [decide_eq_true rfl] at cSm
            have H5 := Lib.hid (And.intro hrow5 (And.intro hrL5 (And.intro hbw5 cSm)))
            clear hb5 hrow5 hrA5 hrL5 hbw5 cSm g0 g1
            go_wp2_with fail
            refine H5.out.2.2.2.mono ?_
            rintro e w6 ⟨rfl, hb6⟩
            have hrow6 := rowV_below H5.out.1 hb6 (rowV_lt H5.out.1)
            have hrL6 := readsP_below H5.out.2.1 hb6
            have hbw6 : Below N w w6 := H5.out.2.2.1.trans (hb6.mono (by rw [← hN]; exact H5.out.2.2.1.size))
            obtain ⟨y0, y1, _, _⟩ := nod_cells hrow6
            have H6 := Lib.hid (And.intro hrL6 hbw6)
            clear hb6 hrow6 hrL6 hbw6 x0 x1
            go_wp2_with fail
            refine (HF.out _ H6.out.1).mono ?_
            rintro e w7 ⟨rfl, hb7⟩
            have H7 := Lib.hid (show Below N w w7 from H6.out.2.trans (hb7.mono (by rw [← hN]; exact H6.out.2.size)))
            clear hb7 y0 y1
            go_wp2_with fail
            refine (lives9_any _).mono ?_
            rintro e w9 ⟨rfl, hbl⟩
            have HL := Lib.hid (show Below N w w9 from H7.out.trans (hbl.mono (by rw [← hN]; exact H7.out.size)))
            clear hbl
            go_wp2_with fail
            go_ret
            exact ⟨rfl, by first | exact HL.out | (rw [hN]; exact HL.out)⟩
          · have d1 : (CE == 0) = false := by simpa using h0
            clear h480 h0
            go_wp2_with fail
            refine HE.out.mono ?_
            rintro e w5 ⟨rfl, hb5⟩
            have hrow5 := rowV_below H4.out.1 hb5 (rowV_lt H4.out.1)
            have hrA5 := readsP_below H4.out.2.1 hb5
            have hrL5 := readsP_below H4.out.2.2.1 hb5
            have hbw5 : Below N w w5 := H4.out.2.2.2.trans (hb5.mono (by rw [← hN]; exact H4.out.2.2.2.size))
            obtain ⟨x0, x1, _, _⟩ := nod_cells hrow5
            have cSm := rpairs9_any aa a L L ca c w5 hrA5 hrL5 (by omega) (by omega)
            rw [decide_eq_true rfl] at cSm
            have H5 := Lib.hid (And.intro hrow5 (And.intro hrL5 (And.intro hbw5 cSm)))
            clear hb5 hrow5 hrA5 hrL5 hbw5 cSm g0 g1
            go_wp2_with fail
            refine H5.out.2.2.2.mono ?_
            rintro e w6 ⟨rfl, hb6⟩
            have hrow6 := rowV_below H5.out.1 hb6 (rowV_lt H5.out.1)
            have hrL6 := readsP_below H5.out.2.1 hb6
            have hbw6 : Below N w w6 := H5.out.2.2.1.trans (hb6.mono (by rw [← hN]; exact H5.out.2.2.1.size))
            obtain ⟨y0, y1, _, _⟩ := nod_cells hrow6
            have H6 := Lib.hid (And.intro hrL6 hbw6)
            clear hb6 hrow6 hrL6 hbw6 x0 x1
            go_wp2_with fail
            refine (HF.out _ H6.out.1).mono ?_
            rintro e w7 ⟨rfl, hb7⟩
            have H7 := Lib.hid (show Below N w w7 from H6.out.2.trans (hb7.mono (by rw [← hN]; exact H6.out.2.size)))
            clear hb7 y0 y1
            go_wp2_with fail
            refine (lives9_any _).mono ?_
            rintro e w9 ⟨rfl, hbl⟩
            have HL := Lib.hid (show Below N w w9 from H7.out.trans (hbl.mono (by rw [← hN]; exact H7.out.size)))
            clear hbl
            go_wp2_with fail
            go_ret
            exact ⟨rfl, by first | exact HL.out | (rw [hN]; exact HL.out)⟩
    · go_enter Try.func5, Try.ntmps5
      go_wp2_with fail
      refine H.out.1.mono ?_
      rintro e w1 ⟨rfl, hb1⟩
      have hrow1 := rowV_below H.out.2.2.1 hb1 (rowV_lt H.out.2.2.1)
      have hr1 := readsP_below H.out.2.2.2.1 hb1
      have hbw1 : Below N w w1 := H.out.2.1.trans (hb1.mono (by rw [← hN]; exact H.out.2.1.size))
      obtain ⟨p0, p1, _, _⟩ := nod_cells hrow1
      have H1 := Lib.hid (And.intro hrow1 (And.intro hr1 hbw1))
      clear hb1 hrow1 hr1 hbw1 r0 r1
      go_wp2_with fail
      refine (H.out.2.2.2.2.1 _ H1.out.2.1).mono ?_
      rintro e w2 ⟨v, X, rfl, hX, hXp, hb2⟩
      rw [if_neg hri] at hXp
      have hrow2 := rowV_below H1.out.1 hb2 (rowV_lt H1.out.1)
      have hr2 := readsP_below H1.out.2.1 hb2
      have hbw2 : Below N w w2 := H1.out.2.2.trans (hb2.mono (by rw [← hN]; exact H1.out.2.2.size))
      obtain ⟨q0, q1, _, _⟩ := nod_cells hrow2
      have cRR := H.out.2.2.2.2.2 w2 hr2
      rw [decide_eq_false hri] at cRR
      have H2 := Lib.hid (And.intro hrow2 (And.intro hr2 (And.intro hbw2 (And.intro hX (And.intro hXp cRR)))))
      obtain ⟨la, cap, rfl⟩ : ∃ la cap, v = .slice la 0 cap := by
        subst hXp
        rcases hX.1.2 with ⟨rfl, _⟩ | ⟨g, cap, cur, rfl, _⟩
        · exact ⟨none, 0, rfl⟩
        · exact ⟨_, _, rfl⟩
      clear hb2 hrow2 hr2 hbw2 hX hXp cRR p0 p1
      go_wp2_with fail
      refine H2.out.2.2.2.2.2.mono ?_
      rintro e w3 ⟨rfl, hb3⟩
      have H3 := Lib.hid (show Below N w w3 from H2.out.2.2.1.trans (hb3.mono (by rw [← hN]; exact H2.out.2.2.1.size)))
      clear hb3
      go_wp2_with fail
      refine (lives9_any _).mono ?_
      rintro e w9 ⟨rfl, hbl⟩
      have HL := Lib.hid (show Below N w w9 from H3.out.trans (hbl.mono (by rw [← hN]; exact H3.out.size)))
      clear hbl
      go_wp2_with fail
      go_ret
      exact ⟨rfl, by first | exact HL.out | (rw [hN]; exact HL.out)⟩

  · rw [decide_eq_false hs] at cS
    have H := Lib.hid (And.intro cS hb)
    clear hr hb hrow hr0 cS hs hz
    go_enter Try.func5, Try.ntmps5
    go_wp2_with fail
    refine H.out.1.mono ?_
    rintro e w1 ⟨rfl, hb1⟩
    have H1 := Lib.hid (H.out.2.trans (hb1.mono H.out.2.size))
    clear hb1
    go_wp2_with fail
    refine (lives9_any _).mono ?_
    rintro e w2 ⟨rfl, hb2⟩
    have H2 := Lib.hid (H1.out.trans (hb2.mono H1.out.size))
    clear hb2
    go_wp2_with fail
    go_ret
    exact ⟨rfl, H2.out⟩
end Go.Proofs.Ytjlglfhnnipjaaa
