/-
  Layer 9: the program's node: its page.
-/
import Derived.Test.YtjlglfhnnipjaaaNodSiz
namespace Go.Proofs.Ytjlglfhnnipjaaa
open Go.RowKit
theorem Nd.rep_zero (n : Nat) : (⟨(Lib.repeatL [0] n).toArray⟩ : ByteArray) = Nd.zer n := by
  unfold Nd.zer
  congr 2
  induction n with
  | zero => rfl
  | succ n ih => rw [List.replicate_succ, ← ih]; rfl
theorem ba_list (A B : ByteArray) : (⟨(A.data.toList ++ B.data.toList).toArray⟩ : ByteArray) = A ++ B := by
  apply Sl.ba_ext; rw [ByteArray.data_append, Array.toList_append]
theorem ba_back (A : ByteArray) : (⟨A.data.toList.toArray⟩ : ByteArray) = A := by apply Sl.ba_ext; rfl
theorem ba_len (A : ByteArray) : A.data.toList.length = A.size := by rw [Array.length_toList]; rfl
section
variable {w : World}
set_option maxRecDepth 100000 in
set_option maxHeartbeats 3200000 in
theorem put9_any (leaf : Bool) (a : Option Addr) (L : List (ByteArray × ByteArray)) (c : Nat) (w : World) (hr : ReadsP w a L) (hL : L.length ≤ 1000) (hS : ∀ x ∈ L, x.1.size ≤ 1000 ∧ x.2.size ≤ 1000) :
    Calls Try.prog 10 #[nodV leaf a L.length c] w fun e w' => e = .returned (.tuple #[.string (Nd.put ⟨leaf, L⟩), .int .i64 (Nd.checkE ⟨leaf, L⟩)]) ∧ Below w.heap.size w w' := by
  have hb : Below w.heap.size w (w.alloc (.cells #[.bool leaf, .slice a L.length c] 24)) := (Below.refl w.heap.size w).alloc (Nat.le_refl _) _
  have hrow := rowV_new w 24 (nodC leaf a L.length c)
  have r0 := rowV_cell hrow 0
  have r1 := rowV_cell hrow 1
  simp only [List.getElem?_cons_zero, List.getElem?_cons_succ] at r0 r1
  have cC := check9_any leaf a L c (w.alloc (.cells #[.bool leaf, .slice a L.length c] 24)) (readsP_below hr hb) hL hS
  by_cases hE : Nd.checkE ⟨leaf, L⟩ = 0
  · have hsz := (Nd.check_ok hE).2
    have hput : Nd.put ⟨leaf, L⟩ = Nd.text ⟨leaf, L⟩ ++ Nd.zer (480 - (Nd.text ⟨leaf, L⟩).size) := by unfold Nd.put; rw [if_neg (fun x => x hE)]
    have hT : Nd.text ⟨leaf, L⟩ = Nd.kindB leaf ++ Oct.numB L.length ++ Nd.pairsB L := rfl
    rw [hput, hE]
    rw [hE] at cC
    rw [hT] at hsz ⊢
    have hks := Nd.head_size leaf L.length (by omega)
    have cH := fun wx => head9_any leaf (L.length : Int) wx (by omega) (by omega)
    generalize Nd.kindB leaf ++ Oct.numB (L.length : Int) = K at *
    have hKT : ∀ k, k ≤ L.length → (Nd.pairsB (L.take k)).size ≤ 2020 * k := fun k hk => by
      have := Nd.pairsB_most (L.take k) fun x hx => hS x (List.mem_of_mem_take hx)
      rw [List.length_take, Nat.min_eq_left hk] at this
      exact this
    have H := Lib.hid (And.intro hr (And.intro hb (And.intro hrow (And.intro cC cH))))
    clear hr hb hrow cC cH hput hT hE
    generalize hN : w.heap.size = N at *
    have hNw : N < (w.alloc (.cells #[.bool leaf, .slice a L.length c] 24)).heap.size := by rw [World.size_alloc]; omega
    go_enter Try.func10, Try.ntmps10
    generalize hw0 : World.alloc w _ = w0 at *
    go_wp2_with fail
    refine H.out.2.2.2.1.mono ?_
    rintro e w1 ⟨rfl, hb1⟩
    have hrow1 := rowV_below H.out.2.2.1 hb1 (rowV_lt H.out.2.2.1)
    have hrowA := rowV_alloc hrow1 (.cells #[.pointer none, .slice none 0 0] 53)
    have s0 := rowV_cell hrowA 0
    have s1 := rowV_cell hrowA 1
    simp only [List.getElem?_cons_zero, List.getElem?_cons_succ] at s0 s1
    have hNw1 : N < w1.heap.size := Nat.lt_of_lt_of_le hNw hb1.size
    have hb01 : Below N w w1 := H.out.2.1.trans (hb1.mono (Nat.le_of_lt hNw))
    have hr1 := readsP_below H.out.1 (by rw [hN]; exact hb01)
    have H1 := Lib.hid (And.intro hrow1 (And.intro hb01 hr1))
    clear hb1 hrow1 hrowA hr1 r0 r1 hb01
    go_wp2_with fail
    refine (H.out.2.2.2.2 _).mono ?_
    rintro e w2 ⟨rfl, hb2⟩
    have B2 := Lib.hid (bld_below (bld_fresh w1) hb2)
    have L2 : Hid (Below w1.heap.size w1 w2) := Lib.hid (((Below.refl _ w1).alloc (Nat.le_refl _) _).trans (hb2.mono (by simp)))
    have hs2 := L2.out.size
    clear hb2 s0 s1
    go_wp2_with fail
    refine (bld_write _ _ _ _ _ B2.out (by simp; omega) hs2).mono ?_
    rintro e w3 ⟨rfl, hbl, hb3⟩
    have B3 := Lib.hid hbl
    have L3 := Lib.hid (L2.out.trans hb3)
    have q1 := rowV_cell (rowV_below H1.out.1 (L2.out.trans hb3) hNw1) 1
    simp only [List.getElem?_cons_zero, List.getElem?_cons_succ] at q1
    clear hbl hb3 hs2
    go_wp2_with fail
    go_loopw [23] (fun i wr => ∃ k : Nat, k ≤ L.length ∧ i = .int .i64 (k : Int) ∧ Bld wr w1.heap.size w1.heap.size (K.data.toList ++ (Nd.pairsB (L.take k)).data.toList) ∧ Below w1.heap.size w1 wr)
      (fun i _ => L.length - (RowKit.intOf i).toNat)
    case atStart => exact ⟨0, Nat.zero_le _, rfl, by have h := B3.out; simp only [List.nil_append] at h; show Bld w3 _ _ (K.data.toList ++ []); rw [List.append_nil]; exact h, L3.out⟩
    case round =>
      obtain ⟨k, hk, rfl, hbl, hb⟩ := hrel
      have BB := Lib.hid hbl
      have LL := Lib.hid hb
      clear hbl hb q1
      by_cases hlt : k < L.length
      · obtain ⟨ab, off, rfl, c0, c1⟩ := (readsP_below H1.out.2.2 LL.out) k hlt
        have hnext := Nd.pairsB_next2 L k hlt
        obtain ⟨s1, s2⟩ := hS _ (List.getElem_mem hlt)
        have t1 := Nd.pairB_size L[k] s1 s2
        have cP := fun wx => pair9_any L[k].1 L[k].2 wx s1 s2
        have hpair : (L[k].1, L[k].2) = L[k] := rfl
        rw [hpair] at cP
        have hlen : (K.data.toList ++ (Nd.pairsB (L.take k)).data.toList).length ≤ 11 + 2020 * k := by
          rw [List.length_append, ba_len, ba_len]; have := hKT k hk; omega
        generalize Nd.pairB L[k] = T at *
        generalize L[k].1 = key at *
        generalize L[k].2 = val at *
        have hst : K.data.toList ++ (Nd.pairsB (L.take k)).data.toList ++ T.data.toList = K.data.toList ++ (Nd.pairsB (L.take (k + 1))).data.toList := by
          rw [hnext, ByteArray.data_append, Array.toList_append, List.append_assoc]
        generalize hKK : K.data.toList ++ (Nd.pairsB (L.take k)).data.toList = KK at *
        have hb2 : Below wr.heap.size wr (wr.alloc (.cells #[.string key, .string val] 33)) := (Below.refl wr.heap.size wr).alloc (Nat.le_refl _) _
        have hbox := rowV_new wr 33 [.string key, .string val]
        have x0 := rowV_cell hbox 0
        have x1 := rowV_cell hbox 1
        simp only [List.getElem?_cons_zero, List.getElem?_cons_succ] at x0 x1
        have HC := Lib.hid (And.intro hst (And.intro cP hb2))
        clear hst cP hnext hKT hb2 hbox hpair
        have hKK := Lib.hid hKK
        go_wp2_with fail
        refine (HC.out.2.1 _).mono ?_
        rintro e w4 ⟨rfl, hb4⟩
        have hb4' := HC.out.2.2.trans (hb4.mono HC.out.2.2.size)
        have B4 := Lib.hid (bld_below BB.out hb4')
        have L4 := Lib.hid (LL.out.trans (hb4'.mono LL.out.size))
        have hs4 := L4.out.size
        clear hb4 hb4' c0 c1 x0 x1
        go_wp2_with fail
        refine (bld_write _ _ _ _ _ B4.out (by omega) hs4).mono ?_
        rintro e w5 ⟨rfl, hbl5, hb5⟩
        have B5 := Lib.hid hbl5
        have L5 := Lib.hid (L4.out.trans hb5)
        clear hbl5 hb5 hs4
        go_wp2_with fail
        go_roundw
        case rel => exact ⟨k + 1, by omega, by go_num, by rw [← HC.out.1]; exact B5.out, L5.out⟩
        case measure => simp [RowKit.intOf]; omega
      · obtain rfl : k = L.length := by omega
        rw [List.take_length] at BB
        obtain ⟨KK, hKK⟩ : ∃ KK, KK = K.data.toList ++ (Nd.pairsB L).data.toList := ⟨_, rfl⟩
        obtain ⟨tn, htn⟩ : ∃ tn, tn = (K ++ Nd.pairsB L).size := ⟨_, rfl⟩
        obtain ⟨Z, hZ⟩ : ∃ Z, Z = Nd.zer (480 - tn) := ⟨_, rfl⟩
        rw [← hKK] at BB
        have hll : KK.length = tn := by rw [hKK, htn, List.length_append, ba_len, ba_len, ByteArray.size_append]
        have htl : tn ≤ 480 := by rw [htn]; exact hsz
        have hn : (480 : Int) - (tn : Int) = ((480 - tn : Nat) : Int) := by omega
        have cR : ∀ wx, Calls Try.prog 29 #[.string ⟨#[0]⟩, .int .i64 ((480 - tn : Nat) : Int)] wx fun e w' => e = .returned (.string Z) ∧ Below wx.heap.size wx w' := fun wx => by
          have := repeat_any ⟨#[0]⟩ (480 - tn) wx (by show 1 * _ ≤ _; omega) (by omega)
          rwa [show (⟨(Lib.repeatL (⟨#[0]⟩ : ByteArray).data.toList (480 - tn)).toArray⟩ : ByteArray) = Z by rw [hZ]; exact Nd.rep_zero _] at this
        have hzs : Z.size = 480 - tn := by rw [hZ]; exact Nd.zer_size _
        have hfin : (⟨(KK ++ Z.data.toList).toArray⟩ : ByteArray) = K ++ Nd.pairsB L ++ Nd.zer (480 - (K ++ Nd.pairsB L).size) := by
          rw [← htn, ← hZ, hKK, ← ba_list (K ++ Nd.pairsB L), ByteArray.data_append, Array.toList_append]
        have HZ := Lib.hid (And.intro cR hfin)
        have HL := Lib.hid hll
        clear cR hfin hKK hZ htn hsz hlt hKT hll
        go_wp2_with fail
        refine (bld_len _ _ _ _ BB.out).mono ?_
        rintro e w4 ⟨rfl, hw4⟩
        obtain rfl := hw4.symm; clear hw4
        rw [HL.out]
        go_wp2_with fail
        refine (HZ.out.1 _).mono ?_
        rintro e w5 ⟨rfl, hb5⟩
        have B5 := Lib.hid (bld_below BB.out hb5)
        have L5 := Lib.hid (LL.out.trans (hb5.mono LL.out.size))
        have hs5 := L5.out.size
        clear hb5
        go_wp2_with fail
        refine (bld_write _ _ _ _ _ B5.out (by rw [HL.out]; omega) hs5).mono ?_
        rintro e w6 ⟨rfl, hbl6, hb6⟩
        have B6 := Lib.hid hbl6
        have L6 := Lib.hid (L5.out.trans hb6)
        have hs6 := L6.out.size
        clear hbl6 hb6 hs5
        go_wp2_with fail
        refine (bld_string _ _ _ _ B6.out hs6).mono ?_
        rintro e w7 ⟨rfl, hb7⟩
        have L7 := Lib.hid (L6.out.trans hb7)
        clear hb7 hs6
        generalize hRR : (⟨(KK ++ Z.data.toList).toArray⟩ : ByteArray) = R
        have HRR := Lib.hid (hRR.symm.trans HZ.out.2)
        clear hRR
        go_wp2_with fail
        go_ret2
        exact ⟨by rw [← HRR.out]; rfl, H1.out.2.1.trans (L7.out.mono (Nat.le_of_lt hNw1))⟩
  · have hput : Nd.put ⟨leaf, L⟩ = ⟨#[]⟩ := by unfold Nd.put; rw [if_pos hE]
    rw [hput]
    generalize Nd.checkE ⟨leaf, L⟩ = E at *
    have qE : (E != 0) = true := by simpa using hE
    have H := Lib.hid (And.intro cC hb)
    clear hr hb hrow cC hput
    go_enter Try.func10, Try.ntmps10
    go_wp2_with (go_at_call 12; refine H.out.1.mono ?_; rintro e w1 ⟨rfl, hb1⟩; have H1 := Lib.hid (H.out.2.trans (hb1.mono H.out.2.size)); clear hb1)
    go_ret2
    exact ⟨rfl, H1.out⟩
end
end Go.Proofs.Ytjlglfhnnipjaaa
