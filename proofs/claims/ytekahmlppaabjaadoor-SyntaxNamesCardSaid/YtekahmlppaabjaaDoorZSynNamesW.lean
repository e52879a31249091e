/-
  Layer 14: SyntaxNames walked.
-/
import Derived.Test.YtekahmlppaabjaaDoorZSynAgainW
import Derived.Test.YtekahmlppaabjaaDoorZSynPrR
import Derived.Test.YtekahmlppaabjaaDoorZSynSmallW
namespace Go.Proofs.YtekahmlppaabjaaDoor
open Go.RowKit
open Sx (X)
namespace Sx
open Lx (T)
theorem words_strip (m : List T) : words (m.map Lx.strip) = words m := by
  unfold words
  rw [List.filter_map, List.map_map]
  rfl
theorem words_drop_no {L : List T} {i : Nat} (h : i < L.length) (hk : ¬ L[i].kind = 1) : words (L.drop i) = words (L.drop (i + 1)) := by
  rw [List.drop_eq_getElem_cons h]
  unfold words
  rw [List.filter_cons, if_neg (by simpa using hk)]
theorem words_drop_yes {L : List T} {i : Nat} (h : i < L.length) (hk : L[i].kind = 1) : words (L.drop i) = L[i].s :: words (L.drop (i + 1)) := by
  rw [List.drop_eq_getElem_cons h]
  unfold words
  rw [List.filter_cons, if_pos (by simpa using hk)]
  rfl
/-- the names of a beginning: each a name, each once, and in the order of the words -/
theorem names_pre {x : X} (hr : right x = true) {pre rest : List (X × Nat)} (h : pre ++ rest = po x 1) {LL : List ByteArray} (hL : LL = addN [] (nmL pre)) {m : List T} (hm : m.map Lx.strip = tk x 0) :
    (∀ s ∈ LL, Lx.nameB s = true) ∧ LL.Nodup ∧ LL.Sublist (words m) := by
  have h1 : nmL pre ++ nmL rest = allN x := by rw [← nmL_app, h, nmL_po]
  have h2 : names x = addN LL (nmL rest) := by rw [names_all, ← h1, addN_app, hL]
  obtain ⟨r, h3, _⟩ := addN_sub (nmL rest) LL
  have h4 : LL.Sublist (names x) := by rw [h2, h3]; exact List.sublist_append_left _ _
  have h5 := names_words _ x (Nat.le_refl _) hr 0 (by omega)
  rw [← hm, words_strip] at h5
  exact ⟨fun s hs => names_are x hr s (h4.subset hs), h4.nodup (names_nodup x), (h4.trans (names_sub x)).trans h5⟩
end Sx
set_option maxRecDepth 100000 in
set_option maxHeartbeats 25600000 in
theorem SyntaxNames_walk (x : X) (a : Option Addr) (c : Nat) (w : World) (hX : XOk w w.heap.size True x a) (hok : Sx.okX x) (hF : Facts14 w) : Calls Tryd.prog 4 #[xV x a c] w fun e w' => e = .returned (.bool true) ∧ Below w.heap.size w w' := by
  have HLv := Lib.hid fun (wx : World) (hb : Below w.heap.size w wx) => lives14_any wx (facts14_below hF hb)
  have hB0 := Lib.hid (x_new x a c w).2.1
  have HL := Lib.hid fun (wr : World) (hb : Below (w.alloc (.cells (xC x a c) 29)).heap.size (w.alloc (.cells (xC x a c) 29)) wr) => x_look hb
  have HSm := Lib.hid fun (wx : World) (hb : Below w.heap.size w wx) => Small14_any (fun j => j < w.heap.size) x hok a c wx (xat_below (xok_at x a hX) hb)
  obtain ⟨⟨c0, c1, c2, c3, c4, c5⟩, _⟩ := HL.out _ (Below.refl _ _)
  simp only [Nat.zero_add] at c0 c1 c2 c3 c4 c5
  by_cases hsm : Sx.smallX x = true
  · obtain ⟨hfine, hdeep, hsize⟩ := Sx.smallX_facts hsm hok
    rw [hsm] at HSm
    have up : ∀ (wr : World), Below w.heap.size w wr → XOk wr wr.heap.size True x a := fun wr hb => xok_same hb.size (fun j hj => hb.block j hj) x a hX
    have HT := Lib.hid fun (wx : World) (hb : Below w.heap.size w wx) => text14_any x a c wx (up wx hb) hfine (by omega) (fun _ hr => by have := hsize hr; omega) (errR_below hF.2.1 hb) (twos_below hF.2.2 hb) (pow10_below hF.1 hb)
    have HNm := Lib.hid fun (hr : Sx.right x = true) (wx : World) (hb : Below w.heap.size w wx) => names14P_any x a c wx (up wx hb) hfine (by omega) (by rw [Sx.po_len]; have := hsize hr; omega)
    have HFx := Lib.hid (And.intro hF hfine)
    clear up hX hF hdeep hsize hfine
    go_enter Tryd.func4, Tryd.ntmps4
    go_wp2_with fail
    refine (HSm.out _ hB0.out).mono ?_
    rintro e w1 ⟨rfl, hb1⟩
    obtain ⟨⟨d0, d1, d2, d3, d4, d5⟩, hbb⟩ := HL.out _ (hb1.mono (Nat.le_refl _))
    simp only [Nat.zero_add] at d0 d1 d2 d3 d4 d5
    have HB1 := Lib.hid (And.intro hb1 hbb)
    clear hb1 hbb
    go_wp2_with fail
    refine (HT.out _ HB1.out.2).mono ?_
    rintro e w2 ⟨s, r, rfl, hb2, hsr⟩
    have hB2 := HB1.out.1.trans (hb2.mono HB1.out.1.size)
    obtain ⟨⟨k0, k1, k2, k3, k4, k5⟩, hbb⟩ := HL.out _ hB2
    simp only [Nat.zero_add] at k0 k1 k2 k3 k4 k5
    have H2 := Lib.hid (And.intro hB2 hbb)
    clear hb2 hB2 hbb
    dsimp only
    by_cases h0 : r = 0
    · subst h0
      have hrt : Sx.right x = true ∧ Sx.fit x = true ∧ s = Sx.wt x 0 ∧ s.size ≤ 200 := by
        have hfit := Sx.fit_ok x hok
        rcases hsr with h | ⟨_, h⟩
        · have h2 := Sx.textE_ok (x := x) (congrArg Prod.snd h).symm
          have h3 : s = (Sx.textE x).1 := congrArg Prod.fst h
          rw [h2.2.2.2] at h3
          exact ⟨h2.1, hfit, h3, by rw [h3]; show (Sx.flat (Sx.wr x 0)).toArray.size ≤ 200; rw [List.size_toArray]; exact h2.2.2.1⟩
        · rcases h with ⟨_, h⟩ | ⟨_, h1, h2, h3⟩
          · omega
          · exact ⟨h1, hfit, h2, h3⟩
      obtain ⟨h1, hfit, h3, h4⟩ := hrt
      obtain ⟨m, hm1, hm2⟩ := Sx.lex_wr h1 hfit
      have hlx : lexS s = (m, 0, 0) := by
        unfold lexS
        rw [if_neg (by omega), h3]
        exact hm1
      have hlen : m.length ≤ 200 := by have := (lexS_toks s).2.1; rw [hlx] at this; exact this
      have cX := lex13_any s w2 (errR_below HFx.out.1.2.1 H2.out.2)
      rw [hlx] at cX
      have HN2 := Lib.hid (HNm.out h1)
      have HX := Lib.hid (And.intro h1 (And.intro hm2 cX))
      clear hsr h1 hfit h3 h4 hm1 hm2 hlx cX HNm
      go_wp2_with fail
      refine HX.out.2.2.mono ?_
      rintro e w3 ⟨al, cap, rfl, hr3, hc3, hb3⟩
      replace hr3 : ReadsT13 w3 al m := hr3
      dsimp only
      have hB3 := H2.out.1.trans (hb3.mono H2.out.1.size)
      obtain ⟨⟨m0, m1, m2, m3, m4, m5⟩, hbb⟩ := HL.out _ hB3
      simp only [Nat.zero_add] at m0 m1 m2 m3 m4 m5
      have H3 := Lib.hid (And.intro hr3 (And.intro hB3 hbb))
      clear hr3 hc3 hb3 hB3 hbb
      go_wp2_with fail
      refine (HN2.out _ H3.out.2.2).mono ?_
      rintro e w4 ⟨ao, cp, LL, rfl, how, hb4, pre, rest, hp1, hp2, hp3⟩
      have hB4 := H3.out.2.1.trans (hb4.mono H3.out.2.1.size)
      have hfa := Sx.names_pre HX.out.1 hp1 hp2 HX.out.2.1
      have hT4 := readsT13_below H3.out.1 hb4
      have H4 := Lib.hid (And.intro how (And.intro hT4 (And.intro hfa (And.intro hB4 (HLv.out _ ((HL.out _ hB4).2))))))
      have hLL : LL.length ≤ 1000000 := by
        have h1 := hfa.2.2.length_le
        have h2 : (Sx.words m).length ≤ m.length := by unfold Sx.words; rw [List.length_map]; exact List.length_filter_le ..
        omega
      clear how hb4 hp1 hp2 hp3 hB4 hfa hT4
      go_wp2_with fail
      have hB4w : Below w.heap.size w w4 := (HL.out _ H4.out.2.2.2.1).2
      have HW4 := Lib.hid hB4w
      clear hB4w k0 k1 k2 k3 k4 k5 d0 d1 d2 d3 d4 d5 c0 c1 c2 c3 c4 c5 m0 m1 m2 m3 m4 m5
      go_loopw [9, 10] (fun u i wr => ∃ (k j : Nat), u = .int .i64 (j : Int) ∧ i = .int .i64 (k : Int) ∧ k ≤ m.length ∧ j ≤ LL.length ∧ Hid (Sx.scan (Sx.words (m.drop k)) (LL.drop j) = []) ∧ Hid (Below w4.heap.size w4 wr)) (fun _ i _ => m.length - (intOf i).toNat)
      case atStart => exact ⟨0, 0, rfl, rfl, Nat.zero_le _, Nat.zero_le _, Lib.hid (by rw [List.drop_zero, List.drop_zero]; exact Sx.scan_sub _ _ H4.out.2.2.1.2.2), Lib.hid (Below.refl _ _)⟩
      case round =>
        obtain ⟨k, j, rfl, rfl, hk, hj, HSc, HB⟩ := hrel
        by_cases hkm : k < m.length
        · have t1 : decide ((k : Int) < (m.length : Int)) = true := decide_eq_true (by omega)
          by_cases hjl : j < LL.length
          · have t2 : decide ((j : Int) < (LL.length : Int)) = true := decide_eq_true (by omega)
            obtain ⟨b, off, rfl, q0, q1, q2, q3⟩ := readsT13_below H4.out.2.1 HB.out k hkm
            obtain ⟨g, cg, eg, hcg⟩ := owL_cell (f := fStr) (fun _ _ => rfl) (owL_below H4.out.1 HB.out) j hjl
            injection eg with eg1 _ eg3
            subst eg1; subst eg3
            have qn := (hcg 0 _ rfl).1
            rw [Nat.mul_one, Nat.add_zero] at qn
            by_cases hk1 : m[k].kind = 1
            · have hw := Sx.words_drop_yes hkm hk1
              rw [hk1] at q0
              have hLj : LL.drop j = LL[j] :: LL.drop (j + 1) := List.drop_eq_getElem_cons hjl
              have hsc := HSc.out
              rw [hw, hLj, Sx.scan] at hsc
              by_cases he : m[k].s = LL[j]
              · rw [if_pos he] at hsc
                rw [he] at q1
                have HN := Lib.hid hsc
                generalize LL[j] = NM at *
                have t3 : (NM.toList == NM.toList) = true := by simp
                clear hsc hLj hw q2 q3 hcg he hk1
                go_wp2_with fail
                go_quiet (fail)
                go_wp2_with fail
                go_roundw
                case rel => exact ⟨k + 1, j + 1, by go_num, by go_num, by omega, by omega, HN, Lib.hid (below_drewN HB.out _)⟩
                case measure => simp only [intOf]; omega
              · rw [if_neg he, ← hLj] at hsc
                have HN := Lib.hid hsc
                have t3 : ¬ m[k].s.toList = LL[j].toList := str_neq he
                have t4 : (m[k].s.toList == LL[j].toList) = false := str_beq t3
                generalize LL[j] = NM at *
                generalize m[k].s = NS at *
                clear hsc hLj hw q2 q3 hcg he hk1
                go_wp2_with fail
                go_quiet (fail)
                go_wp2_with fail
                go_roundw
                case rel => exact ⟨k + 1, j, rfl, by go_num, by omega, by omega, HN, Lib.hid (below_drewN HB.out _)⟩
                case measure => simp only [intOf]; omega
            · have hsc := HSc.out
              rw [Sx.words_drop_no hkm hk1] at hsc
              have HN := Lib.hid hsc
              have t3 : (m[k].kind == 1) = false := by simpa using hk1
              generalize m[k].kind = KK at *
              clear hsc q1 q2 q3 hcg hk1
              go_wp2_with fail
              go_quiet (fail)
              go_wp2_with fail
              go_roundw
              case rel => exact ⟨k + 1, j, rfl, by go_num, by omega, by omega, HN, Lib.hid (below_drewN HB.out _)⟩
              case measure => simp only [intOf]; omega
          · obtain rfl : j = LL.length := by omega
            have t2 : decide ((LL.length : Int) < (LL.length : Int)) = false := decide_eq_false (by omega)
            go_wp2_with fail
            clear HSc
            have HFin := Lib.hid fun (wx : World) (hb : Below w4.heap.size w4 wx) => HLv.out wx (HW4.out.trans (hb.mono HW4.out.size))
            go_loopw [11] (fun i wr => ∃ (k : Nat), i = .int .i64 (k : Int) ∧ k ≤ LL.length ∧ Hid (Below w4.heap.size w4 wr)) (fun i _ => LL.length - (intOf i).toNat)
            case atStart => exact ⟨0, rfl, Nat.zero_le _, HB⟩
            case round =>
              clear HB
              obtain ⟨k, rfl, hk, HB⟩ := hrel
              by_cases hkl : k < LL.length
              · have t5 : decide ((k : Int) < (LL.length : Int)) = true := decide_eq_true (by omega)
                obtain ⟨g, cg, eg, hcg⟩ := owL_cell (f := fStr) (fun _ _ => rfl) (owL_below H4.out.1 HB.out) k hkl
                injection eg with eg1 _ eg3
                subst eg1; subst eg3
                have qn := (hcg 0 _ rfl).1
                rw [Nat.mul_one, Nat.add_zero] at qn
                have hnm := H4.out.2.2.1.1 _ (List.getElem_mem hkl)
                have cN := Name13_any LL[k] wr (by have := Sx.name_size hnm; omega) (errR_below HFx.out.1.2.1 (HW4.out.trans (HB.out.mono HW4.out.size)))
                rw [hnm] at cN
                have HCN := Lib.hid cN
                clear cN hnm hcg
                go_wp2_with fail
                refine HCN.out.mono ?_
                rintro e w7 ⟨rfl, hb7⟩
                have HB7 := Lib.hid (HB.out.trans (hb7.mono HB.out.size))
                clear hb7 qn
                go_wp2_with fail
                go_loopw [12] (fun q wr => ∃ (j : Nat), q = .int .i64 (j : Int) ∧ j ≤ k ∧ Hid (Below w4.heap.size w4 wr)) (fun q _ => k - (intOf q).toNat)
                case atStart => exact ⟨0, rfl, Nat.zero_le _, HB7⟩
                case round =>
                  clear HB HB7
                  obtain ⟨j, rfl, hj2, HB⟩ := hrel
                  by_cases hjk : j < k
                  · have t6 : decide ((j : Int) < (k : Int)) = true := decide_eq_true (by omega)
                    have t7 : decide (j < LL.length) = true := decide_eq_true (by omega)
                    have hjl2 : j < LL.length := by omega
                    have qa := (owL_at1 (f := fStr) (fun _ _ => rfl) (owL_below H4.out.1 HB.out) j hjl2 0 _ rfl).1
                    have qb := (owL_at1 (f := fStr) (fun _ _ => rfl) (owL_below H4.out.1 HB.out) k hkl 0 _ rfl).1
                    rw [Nat.mul_one, Nat.add_zero] at qa qb
                    have hne : LL[j] ≠ LL[k] := List.pairwise_iff_getElem.1 H4.out.2.2.1.2.1 j k hjl2 hkl hjk
                    have t8 : ¬ LL[j].toList = LL[k].toList := str_neq hne
                    have t9 : (LL[j].toList == LL[k].toList) = false := str_beq t8
                    generalize LL[j] = NA at *
                    generalize LL[k] = NB at *
                    clear hne
                    go_wp2_with fail
                    go_quiet (fail)
                    go_wp2_with fail
                    go_roundw
                    case rel => exact ⟨j + 1, by go_num, by omega, Lib.hid (below_drewN HB.out _)⟩
                    case measure => simp only [intOf]; omega
                  · obtain rfl : j = k := by omega
                    go_wp2_with fail
                    go_roundw
                    case rel => exact ⟨j + 1, by go_num, by omega, HB⟩
                    case measure => simp only [intOf]; omega
              · obtain rfl : k = LL.length := by omega
                have HL5 := Lib.hid (HFin.out _ HB.out)
                go_wp2_with fail
                refine HL5.out.mono ?_
                rintro e w8 ⟨rfl, hb8⟩
                have H8 := Lib.hid ((HW4.out.trans (HB.out.mono HW4.out.size)).trans (hb8.mono (HW4.out.trans (HB.out.mono HW4.out.size)).size))
                clear hb8
                go_wp2_with fail
                go_ret
                exact ⟨rfl, H8.out⟩
        · obtain rfl : k = m.length := by omega
          have hjL : j = LL.length := by
            have := HSc.out
            rw [List.drop_length] at this
            by_cases hjl : j < LL.length
            · rw [List.drop_eq_getElem_cons hjl] at this
              cases this
            · omega
          subst hjL
          go_wp2_with fail
          clear HSc
          have HFin := Lib.hid fun (wx : World) (hb : Below w4.heap.size w4 wx) => HLv.out wx (HW4.out.trans (hb.mono HW4.out.size))
          go_loopw [11] (fun i wr => ∃ (k : Nat), i = .int .i64 (k : Int) ∧ k ≤ LL.length ∧ Hid (Below w4.heap.size w4 wr)) (fun i _ => LL.length - (intOf i).toNat)
          case atStart => exact ⟨0, rfl, Nat.zero_le _, HB⟩
          case round =>
            clear HB
            obtain ⟨k, rfl, hk, HB⟩ := hrel
            by_cases hkl : k < LL.length
            · have t5 : decide ((k : Int) < (LL.length : Int)) = true := decide_eq_true (by omega)
              obtain ⟨g, cg, eg, hcg⟩ := owL_cell (f := fStr) (fun _ _ => rfl) (owL_below H4.out.1 HB.out) k hkl
              injection eg with eg1 _ eg3
              subst eg1; subst eg3
              have qn := (hcg 0 _ rfl).1
              rw [Nat.mul_one, Nat.add_zero] at qn
              have hnm := H4.out.2.2.1.1 _ (List.getElem_mem hkl)
              have cN := Name13_any LL[k] wr (by have := Sx.name_size hnm; omega) (errR_below HFx.out.1.2.1 (HW4.out.trans (HB.out.mono HW4.out.size)))
              rw [hnm] at cN
              have HCN := Lib.hid cN
              clear cN hnm hcg
              go_wp2_with fail
              refine HCN.out.mono ?_
              rintro e w7 ⟨rfl, hb7⟩
              have HB7 := Lib.hid (HB.out.trans (hb7.mono HB.out.size))
              clear hb7 qn
              go_wp2_with fail
              go_loopw [12] (fun q wr => ∃ (j : Nat), q = .int .i64 (j : Int) ∧ j ≤ k ∧ Hid (Below w4.heap.size w4 wr)) (fun q _ => k - (intOf q).toNat)
              case atStart => exact ⟨0, rfl, Nat.zero_le _, HB7⟩
              case round =>
                clear HB HB7
                obtain ⟨j, rfl, hj2, HB⟩ := hrel
                by_cases hjk : j < k
                · have t6 : decide ((j : Int) < (k : Int)) = true := decide_eq_true (by omega)
                  have t7 : decide (j < LL.length) = true := decide_eq_true (by omega)
                  have hjl2 : j < LL.length := by omega
                  have qa := (owL_at1 (f := fStr) (fun _ _ => rfl) (owL_below H4.out.1 HB.out) j hjl2 0 _ rfl).1
                  have qb := (owL_at1 (f := fStr) (fun _ _ => rfl) (owL_below H4.out.1 HB.out) k hkl 0 _ rfl).1
                  rw [Nat.mul_one, Nat.add_zero] at qa qb
                  have hne : LL[j] ≠ LL[k] := List.pairwise_iff_getElem.1 H4.out.2.2.1.2.1 j k hjl2 hkl hjk
                  have t8 : ¬ LL[j].toList = LL[k].toList := str_neq hne
                  have t9 : (LL[j].toList == LL[k].toList) = false := str_beq t8
                  generalize LL[j] = NA at *
                  generalize LL[k] = NB at *
                  clear hne
                  go_wp2_with fail
                  go_quiet (fail)
                  go_wp2_with fail
                  go_roundw
                  case rel => exact ⟨j + 1, by go_num, by omega, Lib.hid (below_drewN HB.out _)⟩
                  case measure => simp only [intOf]; omega
                · obtain rfl : j = k := by omega
                  go_wp2_with fail
                  go_roundw
                  case rel => exact ⟨j + 1, by go_num, by omega, HB⟩
                  case measure => simp only [intOf]; omega
            · obtain rfl : k = LL.length := by omega
              have HL5 := Lib.hid (HFin.out _ HB.out)
              go_wp2_with fail
              refine HL5.out.mono ?_
              rintro e w8 ⟨rfl, hb8⟩
              have H8 := Lib.hid ((HW4.out.trans (HB.out.mono HW4.out.size)).trans (hb8.mono (HW4.out.trans (HB.out.mono HW4.out.size)).size))
              clear hb8
              go_wp2_with fail
              go_ret
              exact ⟨rfl, H8.out⟩
    · have t0 : (r != 0) = true := by simp; exact h0
      have HLv2 := Lib.hid (HLv.out _ H2.out.2)
      clear hsr
      go_wp2_with fail
      refine HLv2.out.mono ?_
      rintro e w5 ⟨rfl, hb5⟩
      have H5 := Lib.hid (H2.out.2.trans (hb5.mono H2.out.2.size))
      clear hb5
      go_wp2_with fail
      go_ret
      exact ⟨rfl, H5.out⟩
  · have hsf : Sx.smallX x = false := by cases h : Sx.smallX x <;> simp_all
    rw [hsf] at HSm
    clear hX hF
    go_enter Tryd.func4, Tryd.ntmps4
    go_wp2_with fail
    refine (HSm.out _ hB0.out).mono ?_
    rintro e w1 ⟨rfl, hb1⟩
    have hbb := (HL.out _ hb1).2
    have H1 := Lib.hid (And.intro hbb (HLv.out _ hbb))
    clear hb1 hbb
    go_wp2_with fail
    refine H1.out.2.mono ?_
    rintro e w5 ⟨rfl, hb5⟩
    have H5 := Lib.hid (H1.out.1.trans (hb5.mono H1.out.1.size))
    clear hb5
    go_wp2_with fail
    go_ret
    exact ⟨rfl, H5.out⟩
end Go.Proofs.YtekahmlppaabjaaDoor
