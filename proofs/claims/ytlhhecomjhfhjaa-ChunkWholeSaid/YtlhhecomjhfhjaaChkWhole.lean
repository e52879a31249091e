/-
  Layer 11's laws: ChunkWhole.
-/
import Derived.Test.YtlhhecomjhfhjaaChkLives
import Derived.OpenShut
namespace Go.Proofs.Ytlhhecomjhfhjaa
open Go.RowKit
theorem own_frozen11 {α : Type} {f : α → List Value} {E k B g n c : Nat} {w : World} {l : List α} (h : OwL f E k w B (.slice (some ⟨g, 0, none⟩) n c) l) (i : Nat) : w.frozen? ⟨g, i, none⟩ = false := by
  rcases h.2 with ⟨e, _⟩ | ⟨g', cap, cur, e, hb, hh, _⟩
  · cases e
  · injection e with e _ _
    injection e with e
    injection e with e
    subst e
    have hrow : RowV w g E cur.toList := hh
    exact rowV_frozen hrow i
theorem reads_set11 {w : World} {B g c : Nat} {M : List (ByteArray × ByteArray)} (h : OwL pC 46 2 w B (.slice (some ⟨g, 0, none⟩) M.length c) M) (j : Nat) (hj : j < M.length) (t : ByteArray) :
    ReadsP (w.setCell ⟨g, j * 2 + 1, none⟩ (.string t)) (some ⟨g, 0, none⟩) (M.set j (M[j].1, t)) := by
  rcases h.2 with ⟨e, _⟩ | ⟨g', cap, cur, e, hb, hh, u1, u2, u3, u4⟩
  · cases e
  · injection e with e _ _
    injection e with e
    injection e with e
    subst e
    have hrow : RowV w g 46 cur.toList := hh
    have hst := rowV_stored hrow (j * 2 + 1) (.string t)
    have hc : ∀ i (hi : i < M.length), cur.toList[i * 2]? = some (.string M[i].1) ∧ cur.toList[i * 2 + 1]? = some (.string M[i].2) := fun i hi => by
      obtain ⟨p1, p2⟩ := pairsC_at M i hi
      have e : pairsC M = cur.toList.take (M.length * 2) := u4.symm
      rw [e, List.getElem?_take, if_pos (by omega)] at p1 p2
      exact ⟨p1, p2⟩
    have hlen : j * 2 + 1 < cur.toList.length := by have := (List.getElem?_eq_some_iff.1 (hc j hj).2).1; exact this
    intro i hi
    have hi2 : i < M.length := by rw [List.length_set] at hi; exact hi
    refine ⟨g, 0, rfl, ?_, ?_⟩
    · rw [rowV_cell hst, Nat.zero_add, List.getElem?_set_ne (by omega), (hc i hi2).1]
      by_cases hij : j = i
      · subst hij
        rw [List.getElem_set_self]
      · rw [List.getElem_set_ne hij]
    · rw [rowV_cell hst, Nat.zero_add]
      by_cases hij : j = i
      · subst hij
        rw [List.getElem?_set_self hlen, List.getElem_set_self]
      · rw [List.getElem?_set_ne (by omega), (hc i hi2).2, List.getElem_set_ne hij]
set_option maxRecDepth 100000 in
set_option maxHeartbeats 6400000 in
theorem ChunkWhole_walk (p s : ByteArray) (at_ : Int) (t : ByteArray) (_hp : p.size ≤ maxLen) (_hs : s.size ≤ maxLen) (_ha : (Lit.int .i64 at_).wf = true) (_ht : t.size ≤ maxLen) (w : World) :
    Calls Try.prog 5 #[.string p, .string s, .int .i64 at_, .string t] w fun e w' => e = .returned (.bool true) ∧ Below w.heap.size w w' := by
  have cL := fun w => lives11_any w
  by_cases h1 : 40 < p.size
  · have d1 : decide ((40 : Int) < (p.size : Int)) = true := decide_eq_true (by omega)
    have H := Lib.hid cL
    clear cL
    go_enter Try.func5, Try.ntmps5
    go_wp2_with (go_at_call 6; refine (H.out _).mono ?_; rintro e wl ⟨rfl, hb⟩; have HL := Lib.hid (hb); clear hb)
    go_ret
    exact ⟨rfl, HL.out⟩
  have d1 : decide ((40 : Int) < (p.size : Int)) = false := decide_eq_false (by omega)
  by_cases h2 : p.size < 1
  · have d2 : decide ((p.size : Int) < 1) = true := decide_eq_true (by omega)
    have H := Lib.hid cL
    clear cL
    go_enter Try.func5, Try.ntmps5
    go_wp2_with (go_at_call 6; refine (H.out _).mono ?_; rintro e wl ⟨rfl, hb⟩; have HL := Lib.hid (hb); clear hb)
    go_ret
    exact ⟨rfl, HL.out⟩
  have d2 : decide ((p.size : Int) < 1) = false := decide_eq_false (by omega)
  by_cases h3 : 1400 < s.size
  · have d3 : decide ((1400 : Int) < (s.size : Int)) = true := decide_eq_true (by omega)
    have H := Lib.hid cL
    clear cL
    go_enter Try.func5, Try.ntmps5
    go_wp2_with (go_at_call 6; refine (H.out _).mono ?_; rintro e wl ⟨rfl, hb⟩; have HL := Lib.hid (hb); clear hb)
    go_ret
    exact ⟨rfl, HL.out⟩
  have d3 : decide ((1400 : Int) < (s.size : Int)) = false := decide_eq_false (by omega)
  by_cases h4 : 200 < t.size
  · have d4 : decide ((200 : Int) < (t.size : Int)) = true := decide_eq_true (by omega)
    have H := Lib.hid cL
    clear cL
    go_enter Try.func5, Try.ntmps5
    go_wp2_with (go_at_call 6; refine (H.out _).mono ?_; rintro e wl ⟨rfl, hb⟩; have HL := Lib.hid (hb); clear hb)
    go_ret
    exact ⟨rfl, HL.out⟩
  have d4 : decide ((200 : Int) < (t.size : Int)) = false := decide_eq_false (by omega)
  have hrt : Ck.rightB p = true := by unfold Ck.rightB; rw [decide_eq_true (show 1 ≤ p.size by omega), decide_eq_true (show p.size ≤ 40 by omega)]; rfl
  have cE := fun w => edits11_any p s (by omega) (by omega) w
  have hed : Ck.edits p s = ((Ck.clear p).1 :: (Ck.chunks p s).map Ck.ed, 0) := by unfold Ck.edits; rw [if_pos hrt, if_neg h3]
  rw [hed] at cE
  have cN := fun w => count11_any (s.size : Int) (by omega) (by omega) w
  rw [Ck.cntZ_nat] at cN
  have hcl := Ck.cnt_le (n := s.size) (m := 10) (by omega) (by omega)
  have hcp := Ck.cnt_pos s.size
  rw [← Ck.chunks_len p s] at hcl hcp cN
  have hjc := Ck.join_chunks hrt (show s.size ≤ 1400 by omega)
  have hjt := fun l => Ck.join_turned (l := l) hrt (show s.size ≤ 1400 by omega)
  have hsv : ∀ x ∈ Ck.chunks p s, x.2.size ≤ 80000 := fun x hx => by
    unfold Ck.chunks at hx
    obtain ⟨i, _, rfl⟩ := List.mem_map.1 hx
    have := Ck.one_size s i
    show (Ck.one s i).size ≤ 80000
    omega
  generalize Ck.chunks p s = M at *
  generalize (Ck.clear p).1 = K0 at *
  obtain ⟨j, hj0, hjC⟩ : ∃ j : Nat, (IntKind.u64.wrap at_).tmod (M.length : Int) = (j : Int) ∧ j < M.length := by
    have h0 : 0 ≤ IntKind.u64.wrap at_ := by rw [IntKind.wrap_u64]; omega
    have h1 := Int.tmod_eq_emod_of_nonneg (b := (M.length : Int)) h0
    have h2 := Int.emod_nonneg (IntKind.u64.wrap at_) (show (M.length : Int) ≠ 0 by omega)
    have h4 := Int.emod_lt_of_pos (IntKind.u64.wrap at_) (show (0 : Int) < (M.length : Int) by omega)
    exact ⟨((IntKind.u64.wrap at_) % (M.length : Int)).toNat, by rw [h1]; omega, by omega⟩
  have hlE : (K0 :: M.map Ck.ed).length = M.length + 1 := by rw [List.length_cons, List.length_map]
  have hatE : ∀ k (hk : k < M.length), (K0 :: M.map Ck.ed)[k + 1]? = some (Ck.ed M[k]) := fun k hk => by rw [List.getElem?_cons_succ, List.getElem?_map, List.getElem?_eq_getElem hk]; rfl
  have hset : (M.set j (M[j].1, t) = M) ↔ t = M[j].2 := by
    constructor
    · intro e
      have h := congrArg (fun l : List (ByteArray × ByteArray) => l[j]?) e
      simp only [List.getElem?_set_self hjC, List.getElem?_eq_getElem hjC] at h
      injection h with h
      exact congrArg Prod.snd h
    · intro e
      rw [e]
      exact List.set_getElem_self hjC
  have hsv2 : ∀ x ∈ M.set j (M[j].1, t), x.2.size ≤ 80000 := fun x hx => by
    rcases List.mem_or_eq_of_mem_set hx with h | h
    · exact hsv x h
    · subst h; show t.size ≤ 80000; omega
  have hll2 : (M.set j (M[j].1, t)).length = M.length := List.length_set
  have cJ := fun w a c (hr : ReadsP w a M) => join11_any p (by omega) a M c w hr (by omega) hsv
  rw [hjc] at cJ
  have cK := fun w a c (hr : ReadsP w a (M.set j (M[j].1, t))) => join11_any p (by omega) a (M.set j (M[j].1, t)) c w hr (by omega) hsv2
  rw [hll2] at cK
  have hfin := (hset.symm.trans (hjt (M.set j (M[j].1, t))))
  generalize hEL : (K0 :: M.map Ck.ed) = EL at *
  generalize hJ2 : Ck.join p (M.set j (M[j].1, t)) = J2 at *
  obtain ⟨J, n2⟩ := J2
  dsimp only at hfin cK
  have H := Lib.hid (And.intro cL (And.intro cE (And.intro cN (And.intro cJ cK))))
  have HM := Lib.hid (And.intro hatE (And.intro hfin hlE))
  have HZ := Lib.hid hj0
  clear cL cE cN cJ cK hatE hfin hed hjc hjt hsv hsv2 hll2 hset hEL hJ2 hj0 hrt
  go_enter Try.func5, Try.ntmps5
  go_wp2_with (first
    | (go_at_call 7; refine (H.out.2.1 _).mono ?_; rintro e w1 ⟨v, rfl, ho, hb⟩; obtain ⟨a1, c1, he1, -⟩ := owL_form ho; rw [hlE] at he1; subst he1; have H1 := Lib.hid (And.intro hb ho); clear ho hb hlE)
    | (go_at_call 12; refine (H.out.2.2.1 _).mono ?_; rintro e w2 ⟨rfl, hb⟩; have H2 := Lib.hid (And.intro (H1.out.1.trans (hb.mono H1.out.1.size)) (owL_below H1.out.2 hb)); clear hb))
  go_loopw [11, 12] (fun o i wr => ∃ (k : Nat) (ao : Option Addr) (cp : Nat), k ≤ M.length ∧ i = .int .i64 ((k + 1 : Nat) : Int) ∧ o = .slice ao k cp ∧ Hid (OwL pC 46 2 wr w.heap.size (.slice ao k cp) (M.take k) ∧ OwL edC11 30 4 wr w.heap.size (.slice a1 (M.length + 1) c1) EL ∧ Below w.heap.size w wr)) (fun _ i _ => M.length + 1 - (RowKit.intOf i).toNat)
  case atStart => exact ⟨0, none, 0, Nat.zero_le _, rfl, rfl, Lib.hid ⟨owL_nil _, H2.out.2, H2.out.1⟩⟩
  case round =>
    obtain ⟨k, ao, cp, hk, rfl, rfl, HI⟩ := hrel
    by_cases hlt : k < M.length
    · have hkE : k + 1 < EL.length := by rw [HM.out.2.2]; omega
      obtain ⟨g, c9, e9, hcel⟩ := owL_cell (f := edC11) (fun _ _ => rfl) HI.out.2.1 (k + 1) hkE
      injection e9 with e9 _ e9'
      have heq : EL[k + 1] = Ck.ed M[k] := by have h := HM.out.1 k hlt; rw [List.getElem?_eq_getElem hkE] at h; injection h
      rw [heq] at hcel
      obtain ⟨ab, off, j2, hab, hoff, hj2⟩ : ∃ ab off j2, ab = g ∧ off = 0 ∧ j2 = k + 1 := ⟨_, _, _, rfl, rfl, rfl⟩
      have c0 := (hcel 0 _ rfl).1
      have c1' := (hcel 1 _ rfl).1
      rw [← hab, ← hj2, show j2 * 4 + 0 = off + j2 * 4 by omega] at c0
      rw [← hab, ← hj2, show j2 * 4 + 1 = off + j2 * 4 + 1 by omega] at c1'
      have htk := List.take_succ_eq_append_getElem hlt
      have e10 : a1 = some ⟨ab, off, none⟩ := by rw [e9, hab, hoff]
      have hjlt : j2 < M.length + 1 := by omega
      rw [← hj2]
      clear hcel e9 e9' hoff heq hkE
      subst hab
      subst e10
      generalize M[k] = x at *
      obtain ⟨x1, x2⟩ := x
      dsimp only [Ck.ed] at c0 c1'
      have c1 := c1'
      clear c1'
      have HT := Lib.hid (And.intro htk hj2)
      clear htk hj2
      go_wp2_with fail
      refine wp_region_plan (S := fun wx => wx.cell? ⟨ab, off + j2 * 4, none⟩ = some (.string x1) ∧ wx.cell? ⟨ab, off + j2 * 4 + 1, none⟩ = some (.string x2)) 14 [(true, 0), (true, 1), (true, 2), (true, 3), (true, 4), (true, 5), (true, 6), (true, 7), (true, 8), (true, 9), (true, 10), (true, 11), (false, 12), (false, 13)] (by kernel_rfl) (fun _ d _ _ _ h => by cases d <;> exact h) (by kernel_rfl) ⟨c0, c1⟩ ?_
      refine wpPlan_step (i := 0) rfl ?_
      apply Exists.intro
      refine ⟨⟨by rfl, fun wx hSx => ?_⟩, ?_⟩
      · obtain ⟨k0, k1⟩ := hSx
        go_simp
        with_reducible rfl
      simp only [Act.put, List.setIfInBounds_toArray, List.set_cons_zero, List.set_cons_succ]
      refine wpPlan_step (i := 1) rfl ?_
      apply Exists.intro
      refine ⟨⟨by rfl, fun wx hSx => ?_⟩, ?_⟩
      · obtain ⟨k0, k1⟩ := hSx
        go_simp
        with_reducible rfl
      simp only [Act.put, List.setIfInBounds_toArray, List.set_cons_zero, List.set_cons_succ]
      refine wpPlan_step (i := 2) rfl ?_
      apply Exists.intro
      refine ⟨⟨by rfl, fun wx hSx => ?_⟩, ?_⟩
      · obtain ⟨k0, k1⟩ := hSx
        go_simp
        with_reducible rfl
      simp only [Act.put, List.setIfInBounds_toArray, List.set_cons_zero, List.set_cons_succ]
      refine wpPlan_step (i := 3) rfl ?_
      apply Exists.intro
      refine ⟨⟨by rfl, fun wx hSx => ?_⟩, ?_⟩
      · obtain ⟨k0, k1⟩ := hSx
        go_simp
        with_reducible rfl
      simp only [Act.put, List.setIfInBounds_toArray, List.set_cons_zero, List.set_cons_succ]
      refine wpPlan_step (i := 4) rfl ?_
      apply Exists.intro
      refine ⟨⟨by rfl, fun wx hSx => ?_⟩, ?_⟩
      · obtain ⟨k0, k1⟩ := hSx
        go_simp
        with_reducible rfl
      simp only [Act.put, List.setIfInBounds_toArray, List.set_cons_zero, List.set_cons_succ]
      refine wpPlan_step (i := 5) rfl ?_
      apply Exists.intro
      refine ⟨⟨by rfl, fun wx hSx => ?_⟩, ?_⟩
      · obtain ⟨k0, k1⟩ := hSx
        go_simp
        with_reducible rfl
      simp only [Act.put, List.setIfInBounds_toArray, List.set_cons_zero, List.set_cons_succ]
      refine wpPlan_step (i := 6) rfl ?_
      apply Exists.intro
      refine ⟨⟨by rfl, fun wx hSx => ?_⟩, ?_⟩
      · obtain ⟨k0, k1⟩ := hSx
        go_simp
        with_reducible rfl
      simp only [Act.put, List.setIfInBounds_toArray, List.set_cons_zero, List.set_cons_succ]
      refine wpPlan_step (i := 7) rfl ?_
      apply Exists.intro
      refine ⟨⟨by rfl, fun wx hSx => ?_⟩, ?_⟩
      · obtain ⟨k0, k1⟩ := hSx
        go_simp
        with_reducible rfl
      simp only [Act.put, List.setIfInBounds_toArray, List.set_cons_zero, List.set_cons_succ]
      refine wpPlan_step (i := 8) rfl ?_
      apply Exists.intro
      refine ⟨⟨by rfl, fun wx hSx => ?_⟩, ?_⟩
      · obtain ⟨k0, k1⟩ := hSx
        go_simp
        with_reducible rfl
      simp only [Act.put, List.setIfInBounds_toArray, List.set_cons_zero, List.set_cons_succ]
      refine wpPlan_step (i := 9) rfl ?_
      apply Exists.intro
      refine ⟨⟨by rfl, fun wx hSx => ?_⟩, ?_⟩
      · obtain ⟨k0, k1⟩ := hSx
        go_simp
        with_reducible rfl
      simp only [Act.put, List.setIfInBounds_toArray, List.set_cons_zero, List.set_cons_succ]
      refine wpPlan_step (i := 10) rfl ?_
      apply Exists.intro
      refine ⟨⟨by rfl, fun wx hSx => ?_⟩, ?_⟩
      · obtain ⟨k0, k1⟩ := hSx
        go_simp
        with_reducible rfl
      simp only [Act.put, List.setIfInBounds_toArray, List.set_cons_zero, List.set_cons_succ]
      refine wpPlan_step (i := 11) rfl ?_
      apply Exists.intro
      refine ⟨⟨by rfl, fun wx hSx => ?_⟩, ?_⟩
      · obtain ⟨k0, k1⟩ := hSx
        go_simp
        with_reducible rfl
      simp only [Act.put, List.setIfInBounds_toArray, List.set_cons_zero, List.set_cons_succ]
      obtain ⟨oV5, bW5, hs5, rB5⟩ := box_app11 (f := pC) (E := 46) (k := 2) (wr := wr.drew) 46 [.string x1, .string x2] (owL_below HI.out.1 ((Below.refl _ wr).drew)) HI.out.2.2.drew (Nat.le_refl w.heap.size)
      obtain ⟨w7, hw7⟩ : ∃ w7, w7 = wr.drew.alloc (.cells #[.string x1, .string x2] 46) := ⟨_, rfl⟩
      have hw8 : w7 = wr.drew.alloc (.cells [Value.string x1, .string x2].toArray 46) := hw7
      rw [← hw8] at oV5 bW5 hs5 rB5
      have b7 : Below wr.heap.size wr w7 := by rw [hw7]; exact ((Below.refl _ wr).drew).alloc (Nat.le_refl _) _
      have hl7 := owL_below HI.out.2.1 b7
      have hS7 : w7.cell? ⟨ab, off + j2 * 4, none⟩ = some (.string x1) ∧ w7.cell? ⟨ab, off + j2 * 4 + 1, none⟩ = some (.string x2) := ⟨(b7.cell (World.block_lt_of_cell? _ _ c0)).trans c0, (b7.cell (World.block_lt_of_cell? _ _ c1)).trans c1⟩
      have HB := Lib.hid (And.intro oV5 (And.intro bW5 (And.intro hs5 (And.intro rB5 (And.intro hl7 hS7)))))
      clear oV5 bW5 hs5 rB5 hw8 hl7 hS7 b7
      refine wpPlan_keep (i := 12) rfl (by rfl) fun K hK => wp_slice_one pair_elem12 (by omega) Try.underlying38 (.tmp 72) rfl (.agg #[.string x1, .string x2]) #[.string x1, .string x2] rfl rfl rfl (hK _ _ (by rw [← hw7]; exact HB.out.2.2.2.2.2) ?_)
      rw [← hw7]
      clear hw7
      simp only [Act.put, List.setIfInBounds_toArray, List.set_cons_zero, List.set_cons_succ]
      have hap := own_apart11 HB.out.1 HB.out.2.2.2.2.1 (by decide)
      refine wpPlan_keep (i := 13) rfl (by rfl) fun K hK => wp_append_one (f := pC) (B := w.heap.size) pair_elem12 (.tmp 61) (.tmp 73) 38 rfl Try.underlying38 (.slice ao k cp) (M.take k) (x1, x2) rfl HB.out.1 wr.heap.size 1 rfl HB.out.2.2.2.1 rfl (fun u hu => by simp [pC] at hu; rcases hu with rfl | rfl <;> rfl) (by rw [List.length_take]; omega) HB.out.2.2.1 (fun gg cap w6 hown6 hon6 hwh6 hlt6 => hK _ _ ⟨(hon6.cell (World.block_lt_of_cell? _ _ HB.out.2.2.2.2.2.1) (fun e => hap _ e rfl)).trans HB.out.2.2.2.2.2.1, (hon6.cell (World.block_lt_of_cell? _ _ HB.out.2.2.2.2.2.2) (fun e => hap _ e rfl)).trans HB.out.2.2.2.2.2.2⟩ ?_)
      have hkl : (M.take k).length = k := by rw [List.length_take]; omega
      rw [hkl] at hown6
      rw [hkl]
      have H6 := Lib.hid (And.intro (app_below11 hown6 hon6 HB.out.1 HB.out.2.1 HB.out.2.2.1) (owL_only HB.out.2.2.2.2.1 hon6 (fun j e e2 => hap j e2 e)))
      clear hown6 hon6 hwh6 hlt6 hkl hap
      simp only [Act.put, List.setIfInBounds_toArray, List.set_cons_zero, List.set_cons_succ]
      show wpList _ _ _ _ _ w6
      simp only [List.drop_succ_cons, List.drop_zero]
      go_wp2_with fail
      go_roundw
      case rel => exact ⟨k + 1, some ⟨gg, 0, none⟩, cap, by omega, by have := HT.out.2; subst this; go_num, rfl, Lib.hid ⟨by rw [HT.out.1]; exact H6.out.1.1, H6.out.2, H6.out.1.2⟩⟩
      case measure => have := HT.out.2; simp [RowKit.intOf]; omega
    · obtain rfl : k = M.length := by omega
      have hoM := HI.out.1
      rw [List.take_length] at hoM
      have hbM := HI.out.2.2
      clear HI hlt hk
      obtain ⟨g, c9, e9, hcel⟩ := owL_cell (f := pC) (fun _ _ => rfl) hoM j hjC
      injection e9 with e9 _ e9'
      subst e9
      obtain ⟨y1, z1⟩ := hcel 1 _ rfl
      obtain ⟨a5, c5, e5, hrM, -⟩ := owns_readsP (show wr.ownsRow w.heap.size 46 2 (.slice (some ⟨g, 0, none⟩) M.length cp) M.length (pairsC M) from hoM) rfl
      injection e5 with e5 _ _
      subst e5
      have hst := fun (wx : World) (hx : OwL pC 46 2 wx w.heap.size (.slice (some ⟨g, 0, none⟩) M.length cp) M) => reads_set11 hx j hjC t
      have hfin := HM.out.2.1
      have hgB := (owL_lt hoM g rfl).1
      have HY := Lib.hid (And.intro hoM (And.intro hbM (And.intro hrM hst)))
      have hj0 := HZ.out
      clear hcel e9' hrM hoM hbM hst z1 HM HZ
      generalize M[j] = y at *
      obtain ⟨y2, y3⟩ := y
      dsimp only at y1 hfin
      by_cases hty : t = y3
      · obtain ⟨e1, e2⟩ := hfin.1 hty
        subst e1 e2 hty
        clear hfin
        go_wp2_with (first
          | (go_at_call 15; refine (H.out.2.2.2.1 _ _ _ HY.out.2.2.1).mono ?_; rintro e w3 ⟨rfl, hb⟩; have y1 := (hb.cell (p := ⟨g, j * 2 + 1, none⟩) (World.block_lt_of_cell? _ _ y1)).trans y1; have ho3 := owL_below HY.out.1 hb; have z1 := ((owL_cell (f := pC) (fun _ _ => rfl) ho3 j hjC)); have H3 := Lib.hid (And.intro ho3 (HY.out.2.1.trans (hb.mono HY.out.2.1.size))); have f1 := own_frozen11 ho3 (j * 2 + 1); clear hb ho3 z1)
          | (go_at_call 15; refine (H.out.2.2.2.2 _ _ _ (HY.out.2.2.2 _ H3.out.1)).mono ?_; rintro e w4 ⟨rfl, hb⟩; have H4 := Lib.hid ((H3.out.2.trans ((Below.refl w.heap.size w3).setCell (p := ⟨g, j * 2 + 1, none⟩) hgB (.string t))).trans (hb.mono (by have := H3.out.2.size; simpa [World.setCell] using this))); clear hb)
          | (go_at_call 6; refine (H.out.1 _).mono ?_; rintro e wl ⟨rfl, hb⟩; have HL := Lib.hid (H4.out.trans (hb.mono H4.out.size)); clear hb))
        go_ret
        exact ⟨rfl, HL.out⟩
      · have g1 := str_neq hty
        by_cases hJs : J = s
        · have hn2 : n2 ≠ 0 := fun e => hty (hfin.2 ⟨hJs, e⟩)
          have g2 : ((n2 : Int) == 0) = false := beq_eq_false_iff_ne.2 (by omega)
          subst hJs
          clear hfin
          go_wp2_with (first
            | (go_at_call 15; refine (H.out.2.2.2.1 _ _ _ HY.out.2.2.1).mono ?_; rintro e w3 ⟨rfl, hb⟩; have y1 := (hb.cell (p := ⟨g, j * 2 + 1, none⟩) (World.block_lt_of_cell? _ _ y1)).trans y1; have ho3 := owL_below HY.out.1 hb; have z1 := ((owL_cell (f := pC) (fun _ _ => rfl) ho3 j hjC)); have H3 := Lib.hid (And.intro ho3 (HY.out.2.1.trans (hb.mono HY.out.2.1.size))); have f1 := own_frozen11 ho3 (j * 2 + 1); clear hb ho3 z1)
            | (go_at_call 15; refine (H.out.2.2.2.2 _ _ _ (HY.out.2.2.2 _ H3.out.1)).mono ?_; rintro e w4 ⟨rfl, hb⟩; have H4 := Lib.hid ((H3.out.2.trans ((Below.refl w.heap.size w3).setCell (p := ⟨g, j * 2 + 1, none⟩) hgB (.string t))).trans (hb.mono (by have := H3.out.2.size; simpa [World.setCell] using this))); clear hb)
            | (go_at_call 6; refine (H.out.1 _).mono ?_; rintro e wl ⟨rfl, hb⟩; have HL := Lib.hid (H4.out.trans (hb.mono H4.out.size)); clear hb))
          go_ret
          refine ⟨?_, HL.out⟩
          first | rfl | (show Ending.returned (.bool (!(t.toList == y3.toList))) = _; rw [str_beq g1]; rfl)
        · have g2 := str_neq hJs
          clear hfin
          go_wp2_with (first
            | (go_at_call 15; refine (H.out.2.2.2.1 _ _ _ HY.out.2.2.1).mono ?_; rintro e w3 ⟨rfl, hb⟩; have y1 := (hb.cell (p := ⟨g, j * 2 + 1, none⟩) (World.block_lt_of_cell? _ _ y1)).trans y1; have ho3 := owL_below HY.out.1 hb; have z1 := ((owL_cell (f := pC) (fun _ _ => rfl) ho3 j hjC)); have H3 := Lib.hid (And.intro ho3 (HY.out.2.1.trans (hb.mono HY.out.2.1.size))); have f1 := own_frozen11 ho3 (j * 2 + 1); clear hb ho3 z1)
            | (go_at_call 15; refine (H.out.2.2.2.2 _ _ _ (HY.out.2.2.2 _ H3.out.1)).mono ?_; rintro e w4 ⟨rfl, hb⟩; have H4 := Lib.hid ((H3.out.2.trans ((Below.refl w.heap.size w3).setCell (p := ⟨g, j * 2 + 1, none⟩) hgB (.string t))).trans (hb.mono (by have := H3.out.2.size; simpa [World.setCell] using this))); clear hb)
            | (go_at_call 6; refine (H.out.1 _).mono ?_; rintro e wl ⟨rfl, hb⟩; have HL := Lib.hid (H4.out.trans (hb.mono H4.out.size)); clear hb))
          go_ret
          refine ⟨?_, HL.out⟩
          first | rfl | (show Ending.returned (.bool (!(t.toList == y3.toList))) = _; rw [str_beq g1]; rfl)
end Go.Proofs.Ytlhhecomjhfhjaa
