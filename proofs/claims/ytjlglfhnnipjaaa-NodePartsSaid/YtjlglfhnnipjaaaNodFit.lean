/-
  Layer 9: the program's node: how many pairs go into a page.
-/
import Derived.Test.YtjlglfhnnipjaaaNodSiz
import Derived.Test.YtjlglfhnnipjaaaNodPartM
namespace Go.Proofs.Ytjlglfhnnipjaaa
open Go.RowKit
section
variable {w : World}
set_option maxRecDepth 100000 in
set_option maxHeartbeats 1600000 in
theorem fitting9_any (leaf : Bool) (a : Option Addr) (L : Nd.Prs) (c : Nat) (w : World) (hr : ReadsP w a L) (hL : L.length ≤ 1000) (hS : ∀ x ∈ L, x.1.size ≤ 1000 ∧ x.2.size ≤ 1000) :
    Calls Try.prog 41 #[.bool leaf, .slice a L.length c] w fun e w' => e = .returned (.int .i64 (Nd.fit leaf L : Int)) ∧ Below w.heap.size w w' := by
  have hfu := fun n h1 h2 h3 => Nd.fit_unique (leaf := leaf) (L := L) (n := n) h1 h2 h3
  have cH := fun (n : Nat) (hn : n ≤ 1001) wx => head9_any leaf (n : Int) wx (by omega) (by omega)
  have H := Lib.hid (And.intro hr (And.intro hfu cH))
  clear hr hfu cH
  go_enter Try.func41, Try.ntmps41
  go_wp2_with fail
  go_loopw [5, 10] (fun rs i wr => ∃ k : Nat, k ≤ L.length ∧ i = .int .i64 (k : Int) ∧ (∃ S : Nat, S ≤ 2020 * k ∧ rs = .int .i64 (S : Int) ∧ Hid (S = (Nd.pairsB (L.take k)).size)) ∧ Hid ((k = 0 ∨ Nd.sz leaf (L.take k) ≤ 480) ∧ Below w.heap.size w wr)) (fun _ i _ => L.length - (RowKit.intOf i).toNat)
  case atStart => exact ⟨0, Nat.zero_le _, rfl, ⟨0, by omega, rfl, Lib.hid rfl⟩, Lib.hid ⟨.inl rfl, Below.refl _ _⟩⟩
  case round =>
    obtain ⟨k, hk, rfl, ⟨S, hSk, rfl, HS⟩, HI⟩ := hrel
    by_cases hlt : k < L.length
    · obtain ⟨ab, off, rfl, c0, c1⟩ := (readsP_below H.out.1 HI.out.2) k hlt
      have hnext := Nd.pairsB_next2 L k hlt
      obtain ⟨s1, s2⟩ := hS _ (List.getElem_mem hlt)
      have t1 := Nd.pairB_size L[k] s1 s2
      have cP := fun wx => pair9_any L[k].1 L[k].2 wx s1 s2
      have hpair : (L[k].1, L[k].2) = L[k] := rfl
      rw [hpair] at cP
      have cK := H.out.2.2 (k + 1) (by omega)
      have hkk := Nd.head_size leaf (k + 1) (by omega)
      have hsz : Nd.sz leaf (L.take (k + 1)) = (Nd.kindB leaf ++ Oct.numB ((k + 1 : Nat) : Int)).size + (Nd.pairsB (L.take (k + 1))).size := by
        show (Nd.kindB leaf ++ Oct.numB ((L.take (k + 1)).length : Int) ++ Nd.pairsB (L.take (k + 1))).size = _
        rw [ByteArray.size_append, List.length_take, Nat.min_eq_left (by omega)]
      have hcast : ((k + 1 : Nat) : Int) = (k : Int) + 1 := by omega
      have hnext2 : S + (Nd.pairB L[k]).size = (Nd.pairsB (L.take (k + 1))).size := by rw [hnext, ByteArray.size_append, HS.out]
      rw [← hnext2] at hsz
      generalize Nd.pairB L[k] = T at *
      generalize Nd.kindB leaf ++ Oct.numB ((k + 1 : Nat) : Int) = K at *
      generalize L[k].1 = key at *
      generalize L[k].2 = val at *
      generalize hZ : Nd.sz leaf (L.take (k + 1)) = Z at *
      have hb2 : Below wr.heap.size wr (wr.alloc (.cells #[.string key, .string val] 33)) := (Below.refl wr.heap.size wr).alloc (Nat.le_refl _) _
      have hbox := rowV_new wr 33 [.string key, .string val]
      have x0 := rowV_cell hbox 0
      have x1 := rowV_cell hbox 1
      simp only [List.getElem?_cons_zero, List.getElem?_cons_succ] at x0 x1
      rw [hcast] at cK
      have HC := Lib.hid (And.intro cP (And.intro hb2 (And.intro cK (And.intro hnext2 hZ))))
      clear cP hnext hb2 hbox hpair cK hnext2 hZ hcast
      by_cases hq : 480 < Z
      · have hq2 : decide (480 < (K.size : Int) + ((S : Int) + (T.size : Int))) = true := decide_eq_true (by omega)
        go_wp2_with fail
        refine (HC.out.1 _).mono ?_
        rintro e w2 ⟨rfl, hb3⟩
        have H2 := Lib.hid (HI.out.2.trans ((HC.out.2.1.trans (hb3.mono HC.out.2.1.size)).mono HI.out.2.size))
        clear hb3
        go_wp2_with fail
        refine (HC.out.2.2.1 _).mono ?_
        rintro e w3 ⟨rfl, hb3⟩
        have H3 := Lib.hid (H2.out.trans (hb3.mono H2.out.size))
        clear hb3
        go_wp2_with fail
        go_ret
        rw [H.out.2.1 k hk HI.out.1 (fun _ => by rw [HC.out.2.2.2.2]; exact hq)]
        exact ⟨rfl, H3.out⟩
      · have hq2 : decide (480 < (K.size : Int) + ((S : Int) + (T.size : Int))) = false := decide_eq_false (by omega)
        go_wp2_with fail
        refine (HC.out.1 _).mono ?_
        rintro e w2 ⟨rfl, hb3⟩
        have H2 := Lib.hid (HI.out.2.trans ((HC.out.2.1.trans (hb3.mono HC.out.2.1.size)).mono HI.out.2.size))
        clear hb3
        go_wp2_with fail
        refine (HC.out.2.2.1 _).mono ?_
        rintro e w3 ⟨rfl, hb3⟩
        have H3 := Lib.hid (H2.out.trans (hb3.mono H2.out.size))
        clear hb3
        go_wp2_with fail
        go_roundw
        case rel => exact ⟨k + 1, by omega, by go_num, ⟨S + T.size, by omega, by go_num, Lib.hid HC.out.2.2.2.1⟩, Lib.hid ⟨.inr (by rw [HC.out.2.2.2.2]; omega), H3.out⟩⟩
        case measure => simp [RowKit.intOf]; omega
    · obtain rfl : k = L.length := by omega
      have hfin := H.out.2.1 L.length (Nat.le_refl _) HI.out.1 (fun x => absurd x (Nat.lt_irrefl _))
      have HF := Lib.hid hfin
      clear hfin
      go_wp2_with fail
      go_ret
      rw [HF.out]
      exact ⟨rfl, HI.out.2⟩
end
end Go.Proofs.Ytjlglfhnnipjaaa
