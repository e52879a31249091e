/-
  Layer 3: what few answers; the laws ShaChains, ShaParts, walked.
-/
import Derived.Test.YtjdjajjogpmdaaaDoorShaLaws
import Derived.IntWalk
namespace Go.Proofs.YtjdjajjogpmdaaaDoor
open Go.RowKit

/-- as many texts as are not too long together -/
def FewPost (a : Option Addr) (cap : Nat) (l : List ByteArray) (w : World) (e : Ending) (w' : World) : Prop :=
  ∃ n, n ≤ l.length ∧ n ≤ 12 ∧ (catB (l.take n)).length ≤ 3000 ∧ e = .returned (.slice a n cap) ∧ w = w'
theorem catB_succ (l : List ByteArray) (k : Nat) (h : k < l.length) : (catB (l.take (k + 1))).length = (catB (l.take k)).length + (l[k]).size := by
  rw [catB_take l k h, List.length_append]; simp

set_option maxRecDepth 100000 in
set_option maxHeartbeats 800000 in
theorem few_any (l : List ByteArray) (a : Option Addr) (cap : Nat) (w : World) (hr : ReadsS w a l) (hl : l.length ≤ maxLen) (hz : ∀ s ∈ l, s.size ≤ maxLen) (hc : l.length ≤ cap) :
    Calls Tryd.prog 12 #[.slice a l.length cap] w (FewPost a cap l w) := by
  have HR := Lib.hid (And.intro hr hz); clear hr hz
  unfold maxLen at hl
  generalize hP : FewPost a cap l w = P
  have HP := Lib.hid hP
  clear hP
  go_enter Tryd.func12, Tryd.ntmps12
  go_wp2_with fail
  go_loop [3, 4] (fun s i => ∃ k N : Nat, k ≤ l.length ∧ k ≤ 12 ∧ i = .int .i64 (k : Int) ∧ s = .int .i64 (N : Int) ∧ N ≤ 3000 ∧ Hid (N = (catB (l.take k)).length))
    (fun _ i => l.length - (intOf i).toNat)
  case atStart => exact ⟨0, 0, by omega, by omega, rfl, rfl, by omega, Lib.hid rfl⟩
  case round =>
    obtain ⟨k, N, hk, hk12, rfl, rfl, hN, HN⟩ := hrel
    by_cases hlt : k < l.length
    · obtain ⟨g, o, rfl, hcell⟩ := HR.out.1 k hlt
      have hm := HR.out.2 (l[k]) (List.getElem_mem _)
      unfold maxLen at hm
      have HS := Lib.hid (catB_succ l k hlt)
      generalize l[k] = s at *
      by_cases h12 : 12 ≤ k
      · have t1 : decide (12 ≤ (k : Int)) = true := by simp; omega
        have kc : (k : Int) ≤ (cap : Int) := by omega
        have HF : Hid (FewPost (some ⟨g, o, none⟩) cap l w (.returned (.slice (some ⟨g, o, none⟩) k cap)) w) := Lib.hid ⟨k, hk, hk12, by rw [← HN.out]; exact hN, rfl, rfl⟩
        clear HN HS hN
        go_wp2_with fail
        rw [← HP.out]; exact HF.out
      · have t1 : decide (12 ≤ (k : Int)) = false := by simp; omega
        by_cases hbig : 3000 < s.size + N
        · have t2 : (3000 : Int) - (N : Int) < (s.size : Int) := by omega
          have kc : (k : Int) ≤ (cap : Int) := by omega
          have HF : Hid (FewPost (some ⟨g, o, none⟩) cap l w (.returned (.slice (some ⟨g, o, none⟩) k cap)) w) := Lib.hid ⟨k, hk, hk12, by rw [← HN.out]; exact hN, rfl, rfl⟩
          clear HN HS
          go_wp2_with fail
          rw [← HP.out]; exact HF.out
        · have t2 : ¬ (3000 : Int) - (N : Int) < (s.size : Int) := by omega
          have HN2 : Hid (N + s.size = (catB (l.take (k + 1))).length) := Lib.hid (by rw [HS.out, ← HN.out])
          have hN2 : N + s.size ≤ 3000 := by omega
          clear HN HS
          go_wp2_with fail
          go_round
          case rel => exact ⟨k + 1, N + s.size, by omega, by omega, by go_num, by go_num, hN2, HN2⟩
          case measure => simp [intOf]; omega
    · have HF : Hid (FewPost a cap l w (.returned (.slice a l.length cap)) w) := Lib.hid ⟨l.length, Nat.le_refl _, by omega, by
        have : k = l.length := by omega
        rw [← this, ← HN.out]; exact hN, rfl, rfl⟩
      clear HN
      go_wp2_with fail
      rw [← HP.out]; exact HF.out

theorem readsS_take {w : World} {a : Option Addr} {l : List ByteArray} (h : ReadsS w a l) (n : Nat) : ReadsS w a (l.take n) := by
  intro i hi
  have hi2 : i < l.length := by rw [List.length_take] at hi; omega
  obtain ⟨b, off, h1, h2⟩ := h i hi2
  exact ⟨b, off, h1, by rw [h2, List.getElem_take]⟩
theorem mem_catB {l : List ByteArray} {s : ByteArray} (h : s ∈ l) : s.size ≤ (catB l).length := by
  induction l with
  | nil => simp at h
  | cons x l ih =>
    have e : catB (x :: l) = x.data.toList ++ catB l := rfl
    rw [e, List.length_append]
    simp at h
    rcases h with rfl | h
    · simp
    · have := ih h; omega

set_option maxRecDepth 100000 in
set_option maxHeartbeats 800000 in
theorem ShaChains_walk (sum : ByteArray) (l : List ByteArray) (a : Option Addr) (cap : Nat) (hs : sum.size ≤ maxLen) (hl : l.length ≤ maxLen) (hz : ∀ x ∈ l, x.size ≤ maxLen) (hc : l.length ≤ cap) (w : World) (hr : ReadsS w a l) (ht : Tab w) :
    Calls Tryd.prog 4 #[.string sum, .slice a l.length cap] w fun e w' => e = .returned (.bool true) ∧ Below w.heap.size w w' := by
  have HT := Lib.hid (And.intro ht (And.intro hr (And.intro hl (And.intro hz hc)))); clear ht hr hl hz hc
  unfold maxLen at hs
  by_cases h1 : 1000 < sum.size
  · go_enter Tryd.func4, Tryd.ntmps4
    go_wp2_with fail
    refine (few_any l a cap w HT.out.2.1 HT.out.2.2.1 HT.out.2.2.2.1 HT.out.2.2.2.2).mono ?_
    rintro e w1 ⟨n, hn, h12, hlen, rfl, rfl⟩
    obtain ⟨L, hL⟩ : ∃ L, l.take n = L := ⟨_, rfl⟩
    have hLn : n = L.length := by rw [← hL, List.length_take]; omega
    have hrL : ReadsS w a L := by rw [← hL]; exact readsS_take HT.out.2.1 n
    rw [hL] at hlen
    subst hLn
    clear hL hn
    have hz : ∀ s ∈ L, s.size ≤ 1048576 := fun s h => by have := mem_catB h; omega
    have HZ := Lib.hid (And.intro hz hrL); clear hz hrL
    clear h12 hlen
    go_wp2_with fail
    refine (lives3_any _ HT.out.1).mono ?_
    rintro e w1 ⟨rfl, hb⟩
    have B1 := Lib.hid hb; clear hb
    go_wp2_with fail
    go_ret
    exact ⟨rfl, B1.out⟩
  · go_enter Tryd.func4, Tryd.ntmps4
    go_wp2_with fail
    refine (few_any l a cap w HT.out.2.1 HT.out.2.2.1 HT.out.2.2.2.1 HT.out.2.2.2.2).mono ?_
    rintro e w1 ⟨n, hn, h12, hlen, rfl, rfl⟩
    obtain ⟨L, hL⟩ : ∃ L, l.take n = L := ⟨_, rfl⟩
    have hLn : n = L.length := by rw [← hL, List.length_take]; omega
    have hrL : ReadsS w a L := by rw [← hL]; exact readsS_take HT.out.2.1 n
    rw [hL] at hlen
    subst hLn
    clear hL hn
    have hz : ∀ s ∈ L, s.size ≤ 1048576 := fun s h => by have := mem_catB h; omega
    have HZ := Lib.hid (And.intro hz hrL); clear hz hrL
    by_cases h0 : L.length = 0
    · have hL0 : L = [] := List.eq_nil_of_length_eq_zero h0
      subst hL0
      have c1 := fun wx (h : Tab wx) => link_any sum ⟨#[]⟩ wx (by omega) (by decide) h
      have c2 := fun wx => rlink_any sum ⟨#[]⟩ wx (by omega) (by decide)
      generalize digB (sum.data.toList ++ (⟨#[]⟩ : ByteArray).data.toList) = D at c1 c2
      have HC := Lib.hid (And.intro c1 c2)
      clear c1 c2 hlen h12 h0
      go_wp2_with fail
      refine (HC.out.1 _ HT.out.1).mono ?_
      rintro e w1 ⟨rfl, hb⟩
      have B1 := Lib.hid hb; clear hb
      go_wp2_with fail
      refine (HC.out.2 _).mono ?_
      rintro e w2 ⟨rfl, hb⟩
      have B2 := Lib.hid (B1.out.trans (hb.mono B1.out.size)); clear hb
      go_wp2_with fail
      refine (chain_any sum [] a cap _ (by omega) (readsS_none _ _) (by unfold maxLen; simp) HZ.out.1 (tab_below HT.out.1 B2.out (tab_pos HT.out.1))).mono ?_
      rintro e w3 ⟨rfl, hb⟩
      have B3 := Lib.hid (B2.out.trans (hb.mono B2.out.size)); clear hb
      go_wp2_with fail
      refine (rchain_any sum [] a cap _ (by omega) (readsS_none _ _) (by unfold maxLen; simp) HZ.out.1).mono ?_
      rintro e w4 ⟨rfl, hb⟩
      have B4 := Lib.hid (B3.out.trans (hb.mono B3.out.size)); clear hb
      generalize chainB sum [] = C
      go_wp2_with fail
      refine (lives3_any _ (tab_below HT.out.1 B4.out (tab_pos HT.out.1))).mono ?_
      rintro e w5 ⟨rfl, hb⟩
      have B5 := Lib.hid (B4.out.trans (hb.mono B4.out.size)); clear hb
      go_wp2_with fail
      go_ret
      exact ⟨rfl, B5.out⟩
    · have hpos : 0 < L.length := by omega
      obtain ⟨g, o, rfl, hcell⟩ := HZ.out.2 0 hpos
      have hm := HZ.out.1 (L[0]) (List.getElem_mem _)
      have HX := Lib.hid hcell
      clear hcell
      generalize hs0 : L[0] = s at *
      clear hs0
      have hcell : w.cell? ⟨g, o, none⟩ = some (.string s) := HX.out
      have n0 : (0 : Int) < (L.length : Int) := by omega
      clear hlen
      go_wp2_with fail
      refine (link_any sum s _ (by omega) hm HT.out.1).mono ?_
      rintro e w1 ⟨rfl, hb⟩
      have B1 := Lib.hid hb; clear hb
      go_wp2_with fail
      refine (rlink_any sum s _ (by omega) hm).mono ?_
      rintro e w2 ⟨rfl, hb⟩
      have B2 := Lib.hid (B1.out.trans (hb.mono B1.out.size)); clear hb
      generalize digB (sum.data.toList ++ _) = D
      go_wp2_with fail
      refine (chain_any sum L _ cap _ (by omega) (readsS_below HZ.out.2 B2.out) (by unfold maxLen; omega) HZ.out.1 (tab_below HT.out.1 B2.out (tab_pos HT.out.1))).mono ?_
      rintro e w3 ⟨rfl, hb⟩
      have B3 := Lib.hid (B2.out.trans (hb.mono B2.out.size)); clear hb
      go_wp2_with fail
      refine (rchain_any sum L _ cap _ (by omega) (readsS_below HZ.out.2 B3.out) (by unfold maxLen; omega) HZ.out.1).mono ?_
      rintro e w4 ⟨rfl, hb⟩
      have B4 := Lib.hid (B3.out.trans (hb.mono B3.out.size)); clear hb
      generalize chainB sum L = C
      go_wp2_with fail
      refine (lives3_any _ (tab_below HT.out.1 B4.out (tab_pos HT.out.1))).mono ?_
      rintro e w5 ⟨rfl, hb⟩
      have B5 := Lib.hid (B4.out.trans (hb.mono B4.out.size)); clear hb
      go_wp2_with fail
      go_ret
      exact ⟨rfl, B5.out⟩

/-- texts, joined -/
def joinB (l : List ByteArray) : ByteArray := l.foldl (· ++ ·) ⟨#[]⟩
theorem joinB_take (l : List ByteArray) (k : Nat) (h : k < l.length) : joinB (l.take (k + 1)) = joinB (l.take k) ++ l[k] := by
  unfold joinB; rw [List.take_succ_eq_append_getElem h, List.foldl_append]; rfl
theorem foldl_cat (l : List ByteArray) : ∀ a : ByteArray, (l.foldl (· ++ ·) a).data.toList = a.data.toList ++ catB l := by
  induction l with
  | nil => intro a; simp [catB]
  | cons s l ih =>
    intro a
    have e : catB (s :: l) = s.data.toList ++ catB l := rfl
    rw [List.foldl_cons, ih, e, ByteArray.data_append, Array.toList_append, List.append_assoc]
theorem joinB_cat (l : List ByteArray) : (joinB l).data.toList = catB l := by unfold joinB; rw [foldl_cat]; rfl
theorem joinB_size (l : List ByteArray) : (joinB l).size = (catB l).length := by rw [← joinB_cat]; simp

set_option maxRecDepth 100000 in
set_option maxHeartbeats 800000 in
theorem ShaParts_walk (l : List ByteArray) (a : Option Addr) (cap : Nat) (hl : l.length ≤ maxLen) (hz : ∀ x ∈ l, x.size ≤ maxLen) (hc : l.length ≤ cap) (w : World) (hr : ReadsS w a l) (ht : Tab w) :
    Calls Tryd.prog 5 #[.slice a l.length cap] w fun e w' => e = .returned (.bool true) ∧ Below w.heap.size w w' := by
  have HT := Lib.hid (And.intro ht (And.intro hr (And.intro hl (And.intro hz hc)))); clear ht hr hl hz hc
  · go_enter Tryd.func5, Tryd.ntmps5
    go_wp2_with fail
    refine (few_any l a cap w HT.out.2.1 HT.out.2.2.1 HT.out.2.2.2.1 HT.out.2.2.2.2).mono ?_
    rintro e w1 ⟨n, hn, h12, hlen, rfl, rfl⟩
    obtain ⟨L, hL⟩ : ∃ L, l.take n = L := ⟨_, rfl⟩
    have hLn : n = L.length := by rw [← hL, List.length_take]; omega
    have hrL : ReadsS w a L := by rw [← hL]; exact readsS_take HT.out.2.1 n
    rw [hL] at hlen
    subst hLn
    clear hL hn
    have hz : ∀ s ∈ L, s.size ≤ 1048576 := fun s h => by have := mem_catB h; omega
    have HZ := Lib.hid (And.intro hz hrL); clear hz hrL
    have HLn := Lib.hid hlen
    clear hlen
    go_wp2_with fail
    go_loop [3, 4] (fun v i => ∃ k : Nat, k ≤ L.length ∧ i = .int .i64 (k : Int) ∧ ∃ S : ByteArray, v = .string S ∧ S.size ≤ 3000 ∧ Hid (S = joinB (L.take k)))
      (fun _ i => L.length - (intOf i).toNat)
    case atStart => exact ⟨0, by omega, rfl, ⟨#[]⟩, rfl, by decide, Lib.hid rfl⟩
    case round =>
      obtain ⟨k, hk, rfl, S, rfl, hSz, HS⟩ := hrel
      by_cases hlt : k < L.length
      · obtain ⟨g, o, rfl, hcell⟩ := HZ.out.2 k hlt
        have hm := HZ.out.1 (L[k]) (List.getElem_mem _)
        have hj := joinB_take L k hlt
        rw [← HS.out] at hj
        have hT : (joinB (L.take (k + 1))).size ≤ 3000 := by
          rw [joinB_size]; exact Nat.le_trans (catB_le L (k + 1)) HLn.out
        have HJ := Lib.hid (And.intro hj hT)
        clear hj hT
        generalize L[k] = s at *
        have hp : S.size + s.size ≤ 9223372036854775807 := by omega
        go_wp2_with fail
        go_round
        case rel => exact ⟨k + 1, by omega, by go_num, S ++ s, rfl, by rw [← HJ.out.1]; exact HJ.out.2, Lib.hid HJ.out.1.symm⟩
        case measure => simp [intOf]; omega
      · have hS : S.data.toList = catB L := by rw [HS.out, List.take_of_length_le (by omega), joinB_cat]
        have c1 := sum_any L a cap w HZ.out.2 (by unfold maxLen; omega) (fun x hx => by have := HZ.out.1 x hx; unfold maxLen; omega) (by have := HLn.out; omega) HT.out.1
        have c2 := fun wx (h : Tab wx) => sum_one S wx (by omega) h
        rw [hS] at c2
        have hd : (⟨(Sha.dig (catB L)).toArray⟩ : ByteArray) = digB (catB L) := rfl
        rw [hd] at c1
        have hdz := digB_size (catB L)
        generalize digB (catB L) = D at c1 c2 hdz
        have c3 := fun wx => hex_any D wx (by omega)
        have hxz := hexB_size D.data.toList
        rw [show D.data.toList.length = D.size by simp, hdz] at hxz
        generalize (⟨(Sha.hex D.data.toList).toArray⟩ : ByteArray) = X at c3 hxz
        have HC := Lib.hid (And.intro c1 (And.intro c2 c3))
        have z1 : (D.size : Int) = 32 := by omega
        have z2 : (X.size : Int) = 64 := by omega
        clear c1 c2 c3 hS hd HS hSz hdz hxz
        go_wp2_with fail
        refine HC.out.1.mono ?_
        rintro e w2 ⟨rfl, hb⟩
        have B2 := Lib.hid hb; clear hb
        go_wp2_with fail
        refine (HC.out.2.1 _ (tab_below HT.out.1 B2.out (tab_pos HT.out.1))).mono ?_
        rintro e w3 ⟨rfl, hb⟩
        have B3 := Lib.hid (B2.out.trans (hb.mono B2.out.size)); clear hb
        go_wp2_with fail
        refine (HC.out.2.2 _).mono ?_
        rintro e w4 ⟨rfl, hb⟩
        have B4 := Lib.hid (B3.out.trans (hb.mono B3.out.size)); clear hb
        go_wp2_with fail
        refine (lives3_any _ (tab_below HT.out.1 B4.out (tab_pos HT.out.1))).mono ?_
        rintro e w5 ⟨rfl, hb⟩
        have B5 := Lib.hid (B4.out.trans (hb.mono B4.out.size)); clear hb
        go_wp2_with fail
        go_ret
        exact ⟨rfl, B5.out⟩
end Go.Proofs.YtjdjajjogpmdaaaDoor
