/-
  Layer 11: the document's edits; two lists of edits that are the same.
-/
import Derived.Test.YtlhhecomjhfhjaaChkRef
namespace Go.Proofs.Ytlhhecomjhfhjaa
open Go.RowKit
theorem edit_parts12 : (Try.prog.info? 30).map (fun i => (i.zero, i.size, i.bytes)) = some (some (.agg #[.string ⟨#[]⟩, .string ⟨#[]⟩, .bool false, .string ⟨#[]⟩]), 4, 56) := by kernel_rfl
theorem edit_elem12 : ElemOk Try.prog 30 4 56 := elemOk_of edit_parts12 rfl (by decide) (by decide)
theorem edC12_one (x : Tr.Ed) : ∀ u ∈ edC11 x, u.oneCell' = true := by
  intro u hu
  simp [edC11] at hu
  rcases hu with rfl | rfl | rfl | rfl <;> rfl
theorem own_apart11 {α β : Type} {f : α → List Value} {g : β → List Value} {E E' k k' B B' : Nat} {w : World} {v v' : Value} {l : List α} {l' : List β} (h : OwL f E k w B v l) (h' : OwL g E' k' w B' v' l') (hE : E ≠ E') : ∀ j, v.ownBlock = some j → v'.ownBlock ≠ some j := by
  intro j e e'
  rcases h.2 with ⟨rfl, _⟩ | ⟨x, cap, cur, rfl, _, hx, _⟩
  · cases e
  · rcases h'.2 with ⟨rfl, _⟩ | ⟨y, cap', cur', rfl, _, hy, _⟩
    · cases e'
    · injection e with e
      injection e' with e'
      have e : x = j := e
      have e' : y = j := e'
      rw [e] at hx
      rw [e', hx] at hy
      injection hy with hy
      injection hy with _ hT _
      exact hE hT
theorem owL_one12 {α : Type} {f : α → List Value} {E k : Nat} {w : World} {g : Nat} {x : α} (h : RowV w g E (f x)) (hf : (f x).length = k) : OwL f E k w g (.slice (some ⟨g, 0, none⟩) 1 1) [x] := by
  have e : [x].flatMap f = f x := by simp
  refine ⟨by rw [e, hf]; simp, .inr ⟨g, 1, (f x).toArray, rfl, Nat.le_refl _, h, Nat.le_refl _, by decide, by rw [List.size_toArray, hf, Nat.one_mul], ?_⟩⟩
  rw [e, List.toList_toArray, List.length_singleton, Nat.one_mul, ← hf]
  exact List.take_length
theorem owL_base12 {α : Type} {f : α → List Value} {E k B B' : Nat} {w : World} {v : Value} {l : List α} (h : OwL f E k w B v l) (hB : B' ≤ B) : OwL f E k w B' v l := by
  obtain ⟨h1, h2⟩ := h
  refine ⟨h1, ?_⟩
  rcases h2 with h2 | ⟨g, cap, cur, e, hb, rest⟩
  · exact .inl h2
  · exact .inr ⟨g, cap, cur, e, by omega, rest⟩
set_option maxRecDepth 100000 in
set_option maxHeartbeats 4000000 in
theorem redits11_any (p s : ByteArray) (hp : p.size ≤ 1000000000) (hs : s.size ≤ 100000000) (w : World) :
    Calls Try.prog 8 #[.string p, .string s] w fun e w' => ∃ v, e = .returned (.tuple #[v, .int .i64 (Ck.edits p s).2]) ∧ OwL edC11 30 4 w' w.heap.size v (Ck.edits p s).1 ∧ Below w.heap.size w w' := by
  have cC := fun w => rclear11_any p hp w
  unfold Ck.edits
  cases hr : Ck.rightB p with
  | false =>
    have hcl : Ck.clear p = (⟨⟨#[]⟩, ⟨#[]⟩, false, ⟨#[]⟩⟩, 2) := by unfold Ck.clear; rw [hr]; rfl
    rw [hcl] at cC
    rw [if_neg (by decide)]
    have HC := Lib.hid cC
    clear cC hcl
    go_enter Try.func8, Try.ntmps8
    go_wp2_with (go_at_call 10; refine (HC.out _).mono ?_; rintro e w1 ⟨rfl, hb⟩; have H1 := Lib.hid hb; clear hb)
    refine bodyPost_ret (results_tmp2 rfl _ _ _) rfl ?_
    exact ⟨_, rfl, owL_nil _, H1.out.alloc H1.out.size _⟩
  | true =>
    have hcl : (Ck.clear p).2 = 0 := by unfold Ck.clear; rw [hr]; rfl
    rw [hcl] at cC
    rw [if_pos rfl]
    generalize hKK : (Ck.clear p).1 = K at *
    obtain ⟨k1, k2, k3, k4⟩ := K
    by_cases hbig : 1400 < s.size
    · rw [if_pos hbig]
      have d1 : decide (1400 < (s.size : Int)) = true := decide_eq_true (by omega)
      have HC := Lib.hid cC
      clear cC hcl hKK
      go_enter Try.func8, Try.ntmps8
      go_wp2_with (go_at_call 10; refine (HC.out _).mono ?_; rintro e w1 ⟨rfl, hb⟩; have H1 := Lib.hid hb; clear hb)
      refine bodyPost_ret (results_tmp2 rfl _ _ _) rfl ?_
      exact ⟨_, rfl, owL_nil _, H1.out.alloc H1.out.size _⟩
    · rw [if_neg hbig]
      have d1 : decide (1400 < (s.size : Int)) = false := decide_eq_false (by omega)
      have hcs := Ck.cnt_le (n := s.size) (m := 10) (by omega) (by omega)
      have hll := Ck.chunks_len p s
      have HC := Lib.hid (And.intro cC (fun w => rpairs11_any p s hp (by omega) w))
      generalize Ck.chunks p s = L at *
      clear cC hcl hKK
      go_enter Try.func8, Try.ntmps8
      go_wp2_with (first
        | (go_at_call 10; refine (HC.out.1 _).mono ?_; rintro e w1 ⟨rfl, hb⟩; have H1 := Lib.hid hb; clear hb)
        | (go_at_call 18; refine (HC.out.2 _).mono ?_; rintro e w2 ⟨v, rfl, ho, hb⟩; obtain ⟨la, lc, rfl, -⟩ := owL_form ho; have H2 := Lib.hid (And.intro ho hb); clear ho hb))
      have sz1 : (w1.alloc (.cells #[.string k1, .string k2, .bool k3, .string k4] 30)).heap.size = w1.heap.size + 1 := World.size_alloc _ _
      have sz2 : ((w1.alloc (.cells #[.string k1, .string k2, .bool k3, .string k4] 30)).alloc (.cells #[.string k1, .string k2, .bool k3, .string k4] 30)).heap.size = w1.heap.size + 1 + 1 := by rw [World.size_alloc, sz1]
      have bA : Below w1.heap.size w1 ((w1.alloc (.cells #[.string k1, .string k2, .bool k3, .string k4] 30)).alloc (.cells #[.string k1, .string k2, .bool k3, .string k4] 30)) := ((Below.refl _ w1).alloc (Nat.le_refl _) _).alloc (by omega) _
      have r1 := rowV_new (w1.alloc (.cells #[.string k1, .string k2, .bool k3, .string k4] 30)) 30 (edC11 ⟨k1, k2, k3, k4⟩)
      rw [sz1] at r1
      have h1s := H1.out.size
      have o1 := owL_base12 (owL_one12 (f := edC11) (x := ⟨k1, k2, k3, k4⟩) (rowV_below r1 H2.out.2 (by show w1.heap.size + 1 < ((w1.alloc (.cells #[.string k1, .string k2, .bool k3, .string k4] 30)).alloc (.cells #[.string k1, .string k2, .bool k3, .string k4] 30)).heap.size; omega)) rfl) (show w.heap.size ≤ w1.heap.size + 1 by omega)
      have oL := owL_base12 H2.out.1 (show w.heap.size ≤ _ by rw [sz2]; omega)
      have bW := (H1.out.trans (bA.mono h1s)).trans (H2.out.2.mono (by rw [sz2]; omega))
      have H3 := Lib.hid (And.intro o1 (And.intro oL bW))
      clear o1 oL bW r1 bA sz1 sz2 H2
      go_loopw [8, 10] (fun o i wr => ∃ (k : Nat) (ao : Option Addr) (cp : Nat), k ≤ L.length ∧ i = .int .i64 (k : Int) ∧ o = .slice ao (k + 1) cp ∧ Hid (OwL edC11 30 4 wr w.heap.size (.slice ao (k + 1) cp) (⟨k1, k2, k3, k4⟩ :: (L.take k).map Ck.ed) ∧ OwL pC 46 2 wr w.heap.size (.slice la L.length lc) L ∧ Below w.heap.size w wr)) (fun _ i _ => L.length - (RowKit.intOf i).toNat)
      case atStart => exact ⟨0, _, _, Nat.zero_le _, rfl, rfl, H3⟩
      case round =>
        obtain ⟨k, ao, cp, hk, rfl, rfl, HI⟩ := hrel
        by_cases hlt : k < L.length
        · obtain ⟨g, c9, e9, hcel⟩ := owL_cell (f := pC) (fun _ _ => rfl) HI.out.2.1 k hlt
          injection e9 with e9 _ e9'
          obtain ⟨ab, off, hab, hoff⟩ : ∃ ab off, ab = g ∧ off = 0 := ⟨_, _, rfl, rfl⟩
          have c0 := (hcel 0 _ rfl).1
          have c1 := (hcel 1 _ rfl).1
          rw [← hab, show k * 2 + 0 = off + k * 2 by omega] at c0
          rw [← hab, show k * 2 + 1 = off + k * 2 + 1 by omega] at c1
          have htk := List.take_succ_eq_append_getElem hlt
          have e10 : la = some ⟨ab, off, none⟩ := by rw [e9, hab, hoff]
          clear hcel e9 e9' hoff
          subst hab
          subst e10
          generalize L[k] = x at *
          obtain ⟨x1, x2⟩ := x
          dsimp only at c0 c1
          have HT := Lib.hid htk
          clear htk
          go_wp2_with fail
          refine wp_region_plan (S := fun wx => wx.cell? ⟨ab, off + k * 2, none⟩ = some (.string x1) ∧ wx.cell? ⟨ab, off + k * 2 + 1, none⟩ = some (.string x2)) 14 [(true, 0), (true, 1), (true, 2), (true, 3), (true, 4), (true, 5), (true, 6), (true, 7), (true, 8), (true, 9), (true, 10), (true, 11), (false, 12), (false, 13)] (by kernel_rfl) (fun _ d _ _ _ h => by cases d <;> exact h) (by kernel_rfl) ⟨c0, c1⟩ ?_
          refine wpPlan_step (i := 0) rfl ?_
          apply Exists.intro
          refine ⟨⟨by rfl, fun wx hSx => ?_⟩, ?_⟩
          · obtain ⟨k0, k1⟩ := hSx
            go_simp
            with_reducible rfl
          simp only [Act.put, List.setIfInBounds_toArray, List.set_cons_zero, List.set_cons_succ]
          refine wpPlan_step (i := 1) rfl ?_
          apply Exists.intro
          refine ⟨⟨by rfl, fun wx hSx => ?_⟩, ?_⟩
          · obtain ⟨k0, k1⟩ := hSx
            go_simp
            with_reducible rfl
          simp only [Act.put, List.setIfInBounds_toArray, List.set_cons_zero, List.set_cons_succ]
          refine wpPlan_step (i := 2) rfl ?_
          apply Exists.intro
          refine ⟨⟨by rfl, fun wx hSx => ?_⟩, ?_⟩
          · obtain ⟨k0, k1⟩ := hSx
            go_simp
            with_reducible rfl
          simp only [Act.put, List.setIfInBounds_toArray, List.set_cons_zero, List.set_cons_succ]
          refine wpPlan_step (i := 3) rfl ?_
          apply Exists.intro
          refine ⟨⟨by rfl, fun wx hSx => ?_⟩, ?_⟩
          · obtain ⟨k0, k1⟩ := hSx
            go_simp
            with_reducible rfl
          simp only [Act.put, List.setIfInBounds_toArray, List.set_cons_zero, List.set_cons_succ]
          refine wpPlan_step (i := 4) rfl ?_
          apply Exists.intro
          refine ⟨⟨by rfl, fun wx hSx => ?_⟩, ?_⟩
          · obtain ⟨k0, k1⟩ := hSx
            go_simp
            with_reducible rfl
          simp only [Act.put, List.setIfInBounds_toArray, List.set_cons_zero, List.set_cons_succ]
          refine wpPlan_step (i := 5) rfl ?_
          apply Exists.intro
          refine ⟨⟨by rfl, fun wx hSx => ?_⟩, ?_⟩
          · obtain ⟨k0, k1⟩ := hSx
            go_simp
            with_reducible rfl
          simp only [Act.put, List.setIfInBounds_toArray, List.set_cons_zero, List.set_cons_succ]
          refine wpPlan_step (i := 6) rfl ?_
          apply Exists.intro
          refine ⟨⟨by rfl, fun wx hSx => ?_⟩, ?_⟩
          · obtain ⟨k0, k1⟩ := hSx
            go_simp
            with_reducible rfl
          simp only [Act.put, List.setIfInBounds_toArray, List.set_cons_zero, List.set_cons_succ]
          refine wpPlan_step (i := 7) rfl ?_
          apply Exists.intro
          refine ⟨⟨by rfl, fun wx hSx => ?_⟩, ?_⟩
          · obtain ⟨k0, k1⟩ := hSx
            go_simp
            with_reducible rfl
          simp only [Act.put, List.setIfInBounds_toArray, List.set_cons_zero, List.set_cons_succ]
          refine wpPlan_step (i := 8) rfl ?_
          apply Exists.intro
          refine ⟨⟨by rfl, fun wx hSx => ?_⟩, ?_⟩
          · obtain ⟨k0, k1⟩ := hSx
            go_simp
            with_reducible rfl
          simp only [Act.put, List.setIfInBounds_toArray, List.set_cons_zero, List.set_cons_succ]
          refine wpPlan_step (i := 9) rfl ?_
          apply Exists.intro
          refine ⟨⟨by rfl, fun wx hSx => ?_⟩, ?_⟩
          · obtain ⟨k0, k1⟩ := hSx
            go_simp
            with_reducible rfl
          simp only [Act.put, List.setIfInBounds_toArray, List.set_cons_zero, List.set_cons_succ]
          refine wpPlan_step (i := 10) rfl ?_
          apply Exists.intro
          refine ⟨⟨by rfl, fun wx hSx => ?_⟩, ?_⟩
          · obtain ⟨k0, k1⟩ := hSx
            go_simp
            with_reducible rfl
          simp only [Act.put, List.setIfInBounds_toArray, List.set_cons_zero, List.set_cons_succ]
          refine wpPlan_step (i := 11) rfl ?_
          apply Exists.intro
          refine ⟨⟨by rfl, fun wx hSx => ?_⟩, ?_⟩
          · obtain ⟨k0, k1⟩ := hSx
            go_simp
            with_reducible rfl
          simp only [Act.put, List.setIfInBounds_toArray, List.set_cons_zero, List.set_cons_succ]
          obtain ⟨oV5, bW5, hs5, rB5⟩ := box_app11 (f := edC11) (E := 30) (k := 4) (wr := wr.drew) 30 [.string x1, .string x2, .bool false, .string ⟨#[]⟩] (owL_below HI.out.1 ((Below.refl _ wr).drew)) HI.out.2.2.drew (Nat.le_refl w.heap.size)
          obtain ⟨w7, hw7⟩ : ∃ w7, w7 = wr.drew.alloc (.cells #[.string x1, .string x2, .bool false, .string ⟨#[]⟩] 30) := ⟨_, rfl⟩
          have hw8 : w7 = wr.drew.alloc (.cells [Value.string x1, .string x2, .bool false, .string ⟨#[]⟩].toArray 30) := hw7
          rw [← hw8] at oV5 bW5 hs5 rB5
          have b7 : Below wr.heap.size wr w7 := by rw [hw7]; exact ((Below.refl _ wr).drew).alloc (Nat.le_refl _) _
          have hl7 := owL_below HI.out.2.1 b7
          have hS7 : w7.cell? ⟨ab, off + k * 2, none⟩ = some (.string x1) ∧ w7.cell? ⟨ab, off + k * 2 + 1, none⟩ = some (.string x2) := ⟨(b7.cell (World.block_lt_of_cell? _ _ c0)).trans c0, (b7.cell (World.block_lt_of_cell? _ _ c1)).trans c1⟩
          have HB := Lib.hid (And.intro oV5 (And.intro bW5 (And.intro hs5 (And.intro rB5 (And.intro hl7 hS7)))))
          clear oV5 bW5 hs5 rB5 hw8 hl7 hS7 b7
          refine wpPlan_keep (i := 12) rfl (by rfl) fun K hK => wp_slice_one edit_elem12 (by omega) Try.underlying23 (.tmp 46) rfl (.agg #[.string x1, .string x2, .bool false, .string ⟨#[]⟩]) #[.string x1, .string x2, .bool false, .string ⟨#[]⟩] rfl rfl rfl (hK _ _ (by rw [← hw7]; exact HB.out.2.2.2.2.2) ?_)
          rw [← hw7]
          clear hw7
          simp only [Act.put, List.setIfInBounds_toArray, List.set_cons_zero, List.set_cons_succ]
          have hap := own_apart11 HB.out.1 HB.out.2.2.2.2.1 (by decide)
          refine wpPlan_keep (i := 13) rfl (by rfl) fun K hK => wp_append_one (f := edC11) (B := w.heap.size) edit_elem12 (.tmp 35) (.tmp 47) 23 rfl Try.underlying23 (.slice ao (k + 1) cp) (⟨k1, k2, k3, k4⟩ :: (L.take k).map Ck.ed) (Ck.ed (x1, x2)) rfl HB.out.1 wr.heap.size 1 rfl HB.out.2.2.2.1 rfl (edC12_one _) (by rw [List.length_cons, List.length_map, List.length_take]; omega) HB.out.2.2.1 (fun gg cap w6 hown6 hon6 hwh6 hlt6 => hK _ _ ⟨(hon6.cell (World.block_lt_of_cell? _ _ HB.out.2.2.2.2.2.1) (fun e => hap _ e rfl)).trans HB.out.2.2.2.2.2.1, (hon6.cell (World.block_lt_of_cell? _ _ HB.out.2.2.2.2.2.2) (fun e => hap _ e rfl)).trans HB.out.2.2.2.2.2.2⟩ ?_)
          have hkl : List.length ((⟨k1, k2, k3, k4⟩ : Tr.Ed) :: (L.take k).map Ck.ed) = k + 1 := by rw [List.length_cons, List.length_map, List.length_take]; omega
          rw [hkl] at hown6
          rw [hkl]
          have H6 := Lib.hid (And.intro (app_below11 hown6 hon6 HB.out.1 HB.out.2.1 HB.out.2.2.1) (owL_only HB.out.2.2.2.2.1 hon6 (fun j e e2 => hap j e2 e)))
          clear hown6 hon6 hwh6 hlt6 hkl hap
          simp only [Act.put, List.setIfInBounds_toArray, List.set_cons_zero, List.set_cons_succ]
          show wpList _ _ _ _ _ w6
          simp only [List.drop_succ_cons, List.drop_zero]
          go_wp2_with fail
          go_roundw
          case rel => exact ⟨k + 1, some ⟨gg, 0, none⟩, cap, by omega, by go_num, rfl, Lib.hid ⟨by rw [HT.out, List.map_append]; exact H6.out.1.1, H6.out.2, H6.out.1.2⟩⟩
          case measure => simp [RowKit.intOf]; omega
        · obtain rfl : k = L.length := by omega
          go_wp2_with fail
          refine bodyPost_ret (results_tmp2 rfl _ _ _) rfl ?_
          exact ⟨_, rfl, by have h := HI.out.1; rw [List.take_length] at h; exact h, HI.out.2.2⟩
end Go.Proofs.Ytlhhecomjhfhjaa
