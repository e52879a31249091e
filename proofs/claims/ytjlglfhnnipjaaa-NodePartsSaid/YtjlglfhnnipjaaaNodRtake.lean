/-
  Layer 9: the document's node: the node of a page.
-/
import Derived.Test.YtjlglfhnnipjaaaNodRput
import Derived.Test.YtjlglfhnnipjaaaNodeTook
import Derived.Test.YtjlglfhnnipjaaaPairOwn
import Derived.Test.YtjlglfhnnipjaaaNodCell
import Derived.Test.YtjlglfhnnipjaaaOctTxt
import Derived.Deep.LoopGhost
namespace Go.Proofs.Ytjlglfhnnipjaaa
open Go.RowKit
theorem Nd.first_one (page : ByteArray) (h : 0 < page.size) : ((page[0].toNat : Int) == 1) = decide (page.extract 0 1 = ⟨#[1]⟩) := by
  have he : (page.extract 0 1).data.toList = page.data.toList.take 1 := by rw [Sl.ext_first]
  have hd : page.data.toList = page[0] :: page.data.toList.drop 1 := by
    have hl : 0 < page.data.toList.length := by rw [Array.length_toList]; exact h
    have := List.drop_eq_getElem_cons hl
    rw [List.drop_zero] at this
    rw [this]
    congr 1
  have h2 : page.extract 0 1 = ⟨#[1]⟩ ↔ page[0] = 1 := by
    constructor
    · intro e
      rw [e, hd] at he
      have : [(1 : UInt8)] = [page[0]] := he
      simp at this
      exact this.symm
    · intro e
      apply Sl.ba_ext
      rw [he, hd, e]; rfl
  rw [Bool.eq_iff_iff, beq_iff_eq, decide_eq_true_iff, h2]
  constructor
  · intro e
    apply UInt8.toNat_inj.1
    have : page[0].toNat = 1 := by omega
    rw [this]; rfl
  · intro e; rw [e]; rfl
section
variable {w : World}
set_option maxRecDepth 100000 in
set_option maxHeartbeats 6400000 in
theorem rtake9_any (page : ByteArray) (w : World) (hs : page.size ≤ 100000) : Calls Try.prog 20 #[.string page] w (TakePost page w) := by
  have hb : Below w.heap.size w (w.alloc (.cells #[.bool false, .slice none 0 0] 24)) := (Below.refl w.heap.size w).alloc (Nat.le_refl _) _
  have hrow := rowV_new w 24 (nodC false none 0 0)
  obtain ⟨s0, s1, f0, f1⟩ := nod_cells hrow
  by_cases hz : page.size = 480
  · have hfirst := Nd.first_one page (by omega)
    have hcs : Oct.tN (page.extract 1 480) ≤ 9223372036854775807 ∧ -9223372036854775808 ≤ Oct.tN (page.extract 1 480) ∧ (Oct.tE (page.extract 1 480) ≠ 0 → Oct.tN (page.extract 1 480) = 0) := by
      rcases Oct.t_cases (page.extract 1 480) with ⟨e1, _⟩ | ⟨n, r, g1, g2, _, e1, _, e3, _⟩
      · rw [e1]; exact ⟨by omega, by omega, fun _ => rfl⟩
      · rw [e1]; exact ⟨by omega, by omega, fun h => absurd e3 h⟩
    have hxs : (page.extract 1 480).size ≤ maxLen := by unfold maxLen; rw [ByteArray.size_extract]; omega
    have cN := fun wx => rtakeNum_any (page.extract 1 480) wx hxs
    have hRs : (Oct.tR (page.extract 1 480)).size ≤ 480 := by
      have h0 : (page.extract 1 480).size ≤ 480 := by rw [ByteArray.size_extract]; omega
      rcases Oct.t_cases (page.extract 1 480) with ⟨_, e2, _⟩ | ⟨n, r, _, _, g3, _, e2, _⟩
      · rw [e2]; exact Nat.zero_le _
      · rw [e2]; omega
    obtain ⟨hsm, hln⟩ := Nd.greedy_small (Oct.tN (page.extract 1 480)).toNat (Oct.tR (page.extract 1 480))
    have hok := fun h1 h2 => Nd.take_took (page := page) h1 h2
    have hno := fun h => Nd.take_not (page := page) h
    have hsh := fun h => Nd.take_short (page := page) h
    have htk : Nd.took page = ⟨decide (page.extract 0 1 = ⟨#[1]⟩), Nd.greedy (Oct.tN (page.extract 1 480)).toNat (Oct.tR (page.extract 1 480))⟩ := rfl
    rw [htk] at hok hno
    have hx0 : 0 < page.size := by omega
    generalize hLL : Nd.greedy (Oct.tN (page.extract 1 480)).toNat (Oct.tR (page.extract 1 480)) = LL at *
    generalize decide (page.extract 0 1 = ⟨#[1]⟩) = leaf at *
    generalize Oct.tN (page.extract 1 480) = M at *
    generalize Oct.tR (page.extract 1 480) = R at *
    generalize Oct.tE (page.extract 1 480) = E at *
    clear htk
    have hL2 : LL.length ≤ 1000 := by omega
    have cU := fun a c wx (hr : ReadsP wx a LL) => rput9_any leaf a LL c wx hr hL2 (fun x hx => by have := hsm x hx; omega)
    have hbA : Below w.heap.size w ((w.alloc (.cells #[.bool false, .slice none 0 0] 24)).alloc (.cells #[.bool leaf, .slice none 0 0] 24)) := hb.alloc (by rw [World.size_alloc]; omega) _
    have hsz1 : (w.alloc (.cells #[.bool false, .slice none 0 0] 24)).heap.size = w.heap.size + 1 := World.size_alloc _ _
    have hrowA := rowV_alloc hrow (.cells #[.bool leaf, .slice none 0 0] 24)
    have hrowM := rowV_new (w.alloc (.cells #[.bool false, .slice none 0 0] 24)) 24 (nodC leaf none 0 0)
    rw [hsz1] at hrowM
    have H := Lib.hid (And.intro hbA (And.intro hrowA (And.intro hrowM (And.intro cN cU))))
    have HN := Lib.hid hno
    have HK := Lib.hid hok
    have HS := Lib.hid (And.intro hsh hLL)
    have HC := Lib.hid hcs
    clear hb hrow cN cU hok hno hsm hcs hsh hLL hbA hrowA hrowM hsz1 s0 s1 f0 f1
    generalize hpp : Nd.put ⟨leaf, LL⟩ = PP at *
    generalize hce : Nd.checkE ⟨leaf, LL⟩ = CE at *
    clear hpp hce
    go_enter Try.func20, Try.ntmps20
    go_wp2_with fail
    refine (H.out.2.2.2.1 _).mono ?_
    rintro e w2 ⟨rfl, nq, hw2⟩
    have hbw2 : Below w.heap.size w w2 := by rw [hw2]; exact below_drewN H.out.1 nq
    have hr0 : RowV w2 w.heap.size 24 (nodC false none 0 0) := by rw [hw2]; exact H.out.2.1
    have hrM : RowV w2 (w.heap.size + 1) 24 (nodC leaf none 0 0) := by rw [hw2]; exact H.out.2.2.1
    have H2 := Lib.hid (And.intro hbw2 (And.intro hr0 hrM))
    clear hw2 hbw2 hr0 hrM
    obtain ⟨i0, hi, hi0, hi1, hi2⟩ := info_parts pair_parts
    have HI := Lib.hid (And.intro hi (And.intro hi0 (And.intro hi1 hi2)))
    clear hi hi0 hi1 hi2
    generalize hB : w.heap.size = B at *
    go_wp2_with fail
    go_loopg [6, 8] M.toNat (fun gh sv i wr => ∃ (k : Nat) (s' : ByteArray) (A : List (ByteArray × ByteArray)) (a : Option Addr) (cp : Nat), gh = M.toNat - k ∧ i = .int .i64 (k : Int) ∧ sv = .string s' ∧ s'.size + 2 * k ≤ 480 ∧ Hid (A.length = k) ∧ ((k : Int) ≤ M ∨ k = 0) ∧ Hid (A ++ Nd.greedy (M.toNat - k) s' = LL) ∧
      Hid (RowV wr B 24 (nodC false none 0 0) ∧ RowV wr (B + 1) 24 (nodC leaf a k cp) ∧ wr.ownsRow (B + 2) 33 2 (.slice a k cp) k (pairsC A) ∧ Below B w wr))
    case atStart => exact ⟨0, R, [], none, 0, by omega, rfl, rfl, by omega, Lib.hid rfl, .inr rfl, Lib.hid HS.out.2, Lib.hid ⟨H2.out.2.1, H2.out.2.2, World.ownsRow_nil _ _ _ _, H2.out.1⟩⟩
    case round =>
      obtain ⟨k, s', A, a, cp, rfl, rfl, rfl, hsk, hAk, hkM, HG, HW⟩ := hrel
      by_cases hlt : (k : Int) < M
      · have hE0 : E = 0 := by
          rcases Classical.em (E = 0) with h | h
          · exact h
          · have := HC.out.2.2 h; omega
        have d1 : decide ((k : Int) < M) = true := decide_eq_true hlt
        have d2 : (E == 0) = true := by rw [hE0]; rfl
        have d3 : decide ((k : Int) < 480) = true := decide_eq_true (by omega)
        have hsl : s'.size ≤ maxLen := by unfold maxLen; omega
        have c1 := fun wx => rtakeText_any s' 48 wx hsl
        have t1 := Nd.txt_len s' 48 (by decide)
        have hsl2 : (Oct.txt s' 48).2.1.size ≤ maxLen := by have := t1.2.1; unfold maxLen; omega
        have c2 := fun wx => rtakeText_any (Oct.txt s' 48).2.1 160 wx hsl2
        have t2 := Nd.txt_len (Oct.txt s' 48).2.1 160 (by decide)
        have hgr : Nd.greedy (M.toNat - k) s' = if (Oct.txt s' 48).2.2 ≠ 0 then [] else if (Oct.txt (Oct.txt s' 48).2.1 160).2.2 ≠ 0 then [] else ((Oct.txt s' 48).1, (Oct.txt (Oct.txt s' 48).2.1 160).1) :: Nd.greedy (M.toNat - (k + 1)) (Oct.txt (Oct.txt s' 48).2.1 160).2.1 := by
          rw [show M.toNat - k = (M.toNat - (k + 1)) + 1 by omega]; rfl
        generalize (Oct.txt (Oct.txt s' 48).2.1 160).1 = Y at *
        generalize (Oct.txt (Oct.txt s' 48).2.1 160).2.1 = S2 at *
        generalize (Oct.txt (Oct.txt s' 48).2.1 160).2.2 = E2 at *
        generalize (Oct.txt s' 48).1 = X at *
        generalize (Oct.txt s' 48).2.1 = S1 at *
        generalize (Oct.txt s' 48).2.2 = E1 at *
        obtain ⟨t1a, t1b, t1c⟩ := t1
        obtain ⟨t2a, t2b, t2c⟩ := t2
        have HT := Lib.hid (And.intro c1 (And.intro c2 hgr))
        have HTc := Lib.hid (And.intro t1c t2c)
        clear c1 c2 hgr hE0 t1c t2c
        go_wp2_with fail
        refine (HT.out.1 _).mono ?_
        rintro e w3 ⟨rfl, n3, hw3⟩
        have HW3 : Hid (RowV w3 B 24 (nodC false none 0 0) ∧ RowV w3 (B + 1) 24 (nodC leaf a k cp) ∧ w3.ownsRow (B + 2) 33 2 (.slice a k cp) k (pairsC A) ∧ Below B w w3) := Lib.hid (by rw [hw3]; exact ⟨HW.out.1, HW.out.2.1, ownsRow_only HW.out.2.2.1 ((Only.refl (fun _ => False) wr).drewN n3) (fun _ _ h => h), below_drewN HW.out.2.2.2 _⟩)
        clear hw3
        go_wp2_with fail
        refine (HT.out.2.1 _).mono ?_
        rintro e w4 ⟨rfl, n4, hw4⟩
        have HW4 : Hid (RowV w4 B 24 (nodC false none 0 0) ∧ RowV w4 (B + 1) 24 (nodC leaf a k cp) ∧ w4.ownsRow (B + 2) 33 2 (.slice a k cp) k (pairsC A) ∧ Below B w w4) := Lib.hid (by rw [hw4]; exact ⟨HW3.out.1, HW3.out.2.1, ownsRow_only HW3.out.2.2.1 ((Only.refl (fun _ => False) w3).drewN n4) (fun _ _ h => h), below_drewN HW3.out.2.2.2 _⟩)
        clear hw4
        obtain ⟨b0, b1, b2, b3⟩ := nod_cells HW4.out.1
        obtain ⟨m0, m1, m2, m3⟩ := nod_cells HW4.out.2.1
        have hpn := nod_put HW4.out.1 false none 0 0
        have KP := Lib.hid hpn
        clear hpn
        have hbad : (E1 ≠ 0 ∨ E2 ≠ 0) → Nd.take page = (Nd.none, 4) := fun h => HS.out.1 (by
          have := HG.out
          rw [HT.out.2.2] at this
          have e : LL = A := by
            rcases h with h | h
            · rw [if_pos h, List.append_nil] at this; exact this.symm
            · by_cases h1 : E1 ≠ 0
              · rw [if_pos h1, List.append_nil] at this; exact this.symm
              · rw [if_neg h1, if_pos h, List.append_nil] at this; exact this.symm
          rw [e, hAk.out]; omega)
        have HB := Lib.hid hbad
        clear hbad
        by_cases h1 : E1 = 0
        · have q1 : (E1 != 0) = false := by rw [h1]; rfl
          by_cases h2 : E2 = 0
          · have q2 : (E2 != 0) = false := by rw [h2]; rfl
            have hc1 := HTc.out.1 h1
            have hc2 := HTc.out.2 h2
            have hgn : A ++ [(X, Y)] ++ Nd.greedy (M.toNat - (k + 1)) S2 = LL := by
              rw [← HG.out, HT.out.2.2, if_neg (fun x => x h1), if_neg (fun x => x h2), List.append_assoc]; rfl
            have HGN := Lib.hid hgn
            have hlt4 := rowV_lt HW4.out.2.1
            have hown2 := World.ownsRow.alloc HW4.out.2.2.1 (.cells #[.string X, .string Y] 33)
            have hbase : B + 2 ≤ (w4.alloc (.cells #[.string X, .string Y] 33)).heap.size := by rw [World.size_alloc]; omega
            have HO := Lib.hid hown2
            have hne := fun j (hj : (Value.slice a k cp).ownBlock = some j) => (World.ownsRow.lt HW4.out.2.2.1 j hj).1
            have HNE := Lib.hid (And.intro (show ¬ (Value.slice a k cp).ownBlock = some (B + 1) from fun h => by have := hne _ h; omega) (And.intro (show ¬ (Value.slice a k cp).ownBlock = some B from fun h => by have := hne _ h; omega) hne))
            clear hne
            clear hown2 hgn h1 h2
            go_wp2_with (at_builtin; refine wpList_append_lies _ rfl _ _ _ rfl (B + 2) 33 i0 _ 2 32 Try.underlying22 HI.out.1 HI.out.2.1 HI.out.2.2.1 HI.out.2.2.2 rfl (by omega) (.slice a k cp) k (pairsC A) rfl HO.out ⟨w4.heap.size, 0, none⟩ 1 1 [.string X, .string Y] rfl rfl (World.news_of_block (cs := #[.string X, .string Y]) (t := 33) (fr := (0, 0)) (heap_alloc_new w4 _)) (by intro u hu; simp at hu; rcases hu with rfl | rfl <;> rfl) (by omega) (by unfold maxLen; omega) (by omega) hbase _ rfl ?_; intro gg cap w5 hown5 hgrow hat hlt5; have hO5 := (Only.refl (fun j => (Value.slice a k cp).ownBlock = some j) _).grown hgrow (fun _ _ e => e); have hr5 := rowV_only (rowV_alloc HW4.out.2.1 (.cells #[.string X, .string Y] 33)) hO5 HNE.out.1; obtain ⟨z0, z1, z2, z3⟩ := nod_cells hr5)
            have hr5b := rowV_far (rowV_only (rowV_alloc HW4.out.1 (.cells #[.string X, .string Y] 33)) hO5 HNE.out.2.1) (show B ≠ B + 1 by omega) (i := 1) (.slice (some ⟨gg, 0, none⟩) (k + 1) cap)
            have hr5c := rowV_stored hr5 1 (.slice (some ⟨gg, 0, none⟩) (k + 1) cap)
            have hgg : ∀ j, (Value.slice (some ⟨gg, 0, none⟩) (k + 1) cap).ownBlock = some j → ¬ (j = B + 1) := fun j hj => by have := (World.ownsRow.lt hown5 j hj).1; omega
            have hown6 := ownsRow_only hown5 (Only.setCell (F := fun j => j = B + 1) (g := B + 1) (i := 1) (Only.refl _ w5) (fun _ => rfl) (.slice (some ⟨gg, 0, none⟩) (k + 1) cap)) hgg
            have hown7 : (w5.setCell ⟨B + 1, 1, none⟩ (.slice (some ⟨gg, 0, none⟩) (k + 1) cap)).ownsRow (B + 2) 33 2 (.slice (some ⟨gg, 0, none⟩) (k + 1) cap) (k + 1) (pairsC (A ++ [(X, Y)])) := by rw [pairsC_app]; exact hown6
            have hb6 : Below B w (w5.setCell ⟨B + 1, 1, none⟩ (.slice (some ⟨gg, 0, none⟩) (k + 1) cap)) := ((HW4.out.2.2.2.alloc (by omega) (.cells #[.string X, .string Y] 33)).grown hgrow (by rw [World.size_alloc]; omega) (fun j hj => by have := HNE.out.2.2 j hj; omega)).setCell (by show B ≤ B + 1; omega) _
            have H6 := Lib.hid (And.intro hr5b (And.intro hr5c (And.intro hown7 hb6)))
            clear hr5b hr5c hown6 hown7 hb6 hown5 hgrow hat hlt5 hO5 hr5 hgg
            go_roundg (M.toNat - (k + 1))
            case measure => omega
            case rel => exact ⟨k + 1, S2, A ++ [(X, Y)], some ⟨gg, 0, none⟩, cap, rfl, by go_num, rfl, by omega, Lib.hid (by rw [List.length_append, hAk.out]; rfl), .inl (by omega), HGN, Lib.hid ⟨H6.out.1, H6.out.2.1, H6.out.2.2.1, H6.out.2.2.2⟩⟩
          · have q2 : (E2 != 0) = true := by simpa using h2
            have hfin := HB.out (.inr h2)
            have HF := Lib.hid hfin
            clear hfin h1 h2
            go_wp2_with fail
            refine bodyPost_ret (results_nod (g := B) (leaf := false) (a := none) (n := 0) (c := 0) rfl _ _ rfl KP.out.1) rfl ?_
            exact takePost_none HF.out (by rw [hB]; exact HW4.out.2.2.2.trans (KP.out.2 _ (Nat.le_refl _)))
        · have q1 : (E1 != 0) = true := by simpa using h1
          have hfin := HB.out (.inl h1)
          have HF := Lib.hid hfin
          clear hfin h1
          go_wp2_with fail
          refine bodyPost_ret (results_nod (g := B) (leaf := false) (a := none) (n := 0) (c := 0) rfl _ _ rfl KP.out.1) rfl ?_
          exact takePost_none HF.out (by rw [hB]; exact HW4.out.2.2.2.trans (KP.out.2 _ (Nat.le_refl _)))
      · have d1 : decide ((k : Int) < M) = false := decide_eq_false hlt
        obtain ⟨b0, b1, b2, b3⟩ := nod_cells HW.out.1
        obtain ⟨m0, m1, _, _⟩ := nod_cells HW.out.2.1
        have hAL : A = LL := by
          have := HG.out
          rw [show M.toNat - k = 0 by omega] at this
          rw [← this]; show A = A ++ []; rw [List.append_nil]
        have hrdA : ReadsP wr a A := by
          obtain ⟨a', cp', e, h, _⟩ := owns_readsP HW.out.2.2.1 hAk.out.symm
          injection e with e1 e2 e3
          subst e1; exact h
        have cV := H.out.2.2.2.2 a cp wr (by rw [← hAL]; exact hrdA)
        rw [← hAL, hAk.out] at cV
        have HR2 := Lib.hid (And.intro hAL (And.intro hrdA cV))
        clear hAL hrdA cV
        go_wp2_with fail
        refine HR2.out.2.2.mono ?_
        rintro e w4 ⟨rfl, hb4⟩
        have hrow4 := rowV_below HW.out.1 hb4 (rowV_lt HW.out.1)
        have hrA4 := rowV_below HW.out.2.1 hb4 (rowV_lt HW.out.2.1)
        have hr4 := readsP_below HR2.out.2.1 hb4
        have hbw := HW.out.2.2.2.trans (hb4.mono (show B ≤ wr.heap.size by rw [← hB]; exact HW.out.2.2.2.size))
        obtain ⟨y0, y1, y2, y3⟩ := nod_cells hrow4
        obtain ⟨x0, x1, _, _⟩ := nod_cells hrA4
        have hpn := nod_put hrow4 false none 0 0
        have hpl := nod_put hrow4 leaf a k cp
        have K5 := Lib.hid (And.intro hbw (And.intro hpn (And.intro hpl (And.intro hr4 hrow4))))
        clear hb4 hrow4 hrA4 hr4 hbw hpn hpl b0 b1 b2 b3 m0 m1
        by_cases h5 : CE = 0
        · have h5b : (CE != 0) = false := by rw [h5]; rfl
          by_cases h6 : PP = page
          · subst h6
            have hfin := HK.out h5 rfl
            rw [← HR2.out.1] at hfin
            have HF := Lib.hid hfin
            clear hfin h5
            go_wp2_with fail
            refine bodyPost_ret (results_nod (g := B) (leaf := leaf) (a := a) (n := k) (c := cp) rfl _ _ rfl K5.out.2.2.1.1) rfl ?_
            exact takePost_some HF.out rfl hAk.out (readsP_put K5.out.2.2.2.2 K5.out.2.2.2.1 _ _) (by rw [hB]; exact K5.out.1.trans (K5.out.2.2.1.2 _ (Nat.le_refl _)))
          · have h6b := str_neq h6
            have h6c := str_beq h6b
            have hfin := HN.out (fun h => h6 h.2)
            have HF := Lib.hid hfin
            clear hfin h5 h6
            go_wp2_with fail
            refine bodyPost_ret (results_nod (g := B) (leaf := false) (a := none) (n := 0) (c := 0) rfl _ _ rfl K5.out.2.1.1) rfl ?_
            exact takePost_none HF.out (by rw [hB]; exact K5.out.1.trans (K5.out.2.1.2 _ (Nat.le_refl _)))
        · have h5b : (CE != 0) = true := by simpa using h5
          have hfin := HN.out (fun h => h5 h.1)
          have HF := Lib.hid hfin
          clear hfin h5
          go_wp2_with fail
          refine bodyPost_ret (results_nod (g := B) (leaf := false) (a := none) (n := 0) (c := 0) rfl _ _ rfl K5.out.2.1.1) rfl ?_
          exact takePost_none HF.out (by rw [hB]; exact K5.out.1.trans (K5.out.2.1.2 _ (Nat.le_refl _)))
  · have hno := Nd.take_size hz
    have hz2 : ((page.size : Int) != 480) = true := by simp; omega
    have H := Lib.hid (And.intro hb (And.intro hrow hno))
    clear hb hrow hno
    go_enter Try.func20, Try.ntmps20
    go_wp2_with fail
    refine bodyPost_ret (results_nod (g := w.heap.size) (leaf := false) (a := none) (n := 0) (c := 0) rfl _ _ rfl H.out.2.1) rfl ?_
    exact takePost_none H.out.2.2 H.out.1
end
end Go.Proofs.Ytjlglfhnnipjaaa
