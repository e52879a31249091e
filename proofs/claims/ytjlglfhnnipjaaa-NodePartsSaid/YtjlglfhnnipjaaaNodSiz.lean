/-
  Layer 9: the program's node: its size, its error, its page.
-/
import Derived.Test.YtjlglfhnnipjaaaNodRgt
import Derived.Test.YtjlglfhnnipjaaaNodCheck
import Derived.Test.YtjlglfhnnipjaaaRep
namespace Go.Proofs.Ytjlglfhnnipjaaa
open Go.RowKit
section
variable {w : World}
theorem Nd.pairsB_next2 (L : List (ByteArray × ByteArray)) (k : Nat) (hk : k < L.length) : Nd.pairsB (L.take (k + 1)) = Nd.pairsB (L.take k) ++ Nd.pairB L[k] := by
  rw [List.take_succ_eq_append_getElem hk, Nd.pairsB_app]
  show _ ++ (Nd.pairB L[k] ++ ⟨#[]⟩) = _
  rw [show Nd.pairB L[k] ++ (⟨#[]⟩ : ByteArray) = Nd.pairB L[k] from ByteArray.append_empty]
theorem Nd.pairB_size (x : ByteArray × ByteArray) (h1 : x.1.size ≤ 1000) (h2 : x.2.size ≤ 1000) : (Nd.pairB x).size ≤ 2020 := by
  show (Nd.txtB x.1 ++ Nd.txtB x.2).size ≤ _
  rw [ByteArray.size_append]
  have t1 := Nd.txtB_size x.1 h1
  have t2 := Nd.txtB_size x.2 h2
  omega
theorem Nd.head_size (leaf : Bool) (n : Nat) (hn : n ≤ 1000000) : (Nd.kindB leaf ++ Oct.numB n).size ≤ 11 := by
  rw [ByteArray.size_append]
  have h1 : (Nd.kindB leaf).size = 1 := by cases leaf <;> rfl
  have h2 := Oct.numB_len (n : Int) (by omega) (by omega)
  omega
set_option maxRecDepth 100000 in
set_option maxHeartbeats 1600000 in
theorem size9_any (leaf : Bool) (a : Option Addr) (L : List (ByteArray × ByteArray)) (c : Nat) (w : World) (hr : ReadsP w a L) (hL : L.length ≤ 1000) (hS : ∀ x ∈ L, x.1.size ≤ 1000 ∧ x.2.size ≤ 1000) :
    Calls Try.prog 13 #[nodV leaf a L.length c] w fun e w' => e = .returned (.int .i64 ((Nd.text ⟨leaf, L⟩).size : Int)) ∧ Below w.heap.size w w' := by
  have hb : Below w.heap.size w (w.alloc (.cells #[.bool leaf, .slice a L.length c] 24)) := (Below.refl w.heap.size w).alloc (Nat.le_refl _) _
  have hrow := rowV_new w 24 (nodC leaf a L.length c)
  have r0 := rowV_cell hrow 0
  have r1 := rowV_cell hrow 1
  simp only [List.getElem?_cons_zero, List.getElem?_cons_succ] at r0 r1
  have hT : Nd.text ⟨leaf, L⟩ = Nd.kindB leaf ++ Oct.numB L.length ++ Nd.pairsB L := rfl
  have hks := Nd.head_size leaf L.length (by omega)
  have cH := fun wx => head9_any leaf (L.length : Int) wx (by omega) (by omega)
  rw [hT]
  generalize Nd.kindB leaf ++ Oct.numB (L.length : Int) = K at *
  have hKT : ∀ k, k ≤ L.length → (Nd.pairsB (L.take k)).size ≤ 2020 * k := fun k hk => by
    have := Nd.pairsB_most (L.take k) fun x hx => hS x (List.mem_of_mem_take hx)
    rw [List.length_take, Nat.min_eq_left hk] at this
    exact this
  have hpost : (K ++ Nd.pairsB L).size = K.size + (Nd.pairsB L).size := ByteArray.size_append
  rw [hpost]
  have H := Lib.hid (And.intro hr (And.intro hb (And.intro hrow cH)))
  clear hr hb hrow cH hT hpost
  go_enter Try.func13, Try.ntmps13
  go_wp2_with (go_at_call 27; refine (H.out.2.2.2 _).mono ?_; rintro e w1 ⟨rfl, hb1⟩; have q0 := rowV_cell (rowV_below H.out.2.2.1 hb1 (rowV_lt H.out.2.2.1)) 1; simp only [List.getElem?_cons_zero, List.getElem?_cons_succ] at q0; have H1 := Lib.hid hb1; clear hb1)
  have hrow1 := rowV_below H.out.2.2.1 H1.out (rowV_lt H.out.2.2.1)
  have hb01 : Below w.heap.size w w1 := H.out.2.1.trans (H1.out.mono (Nat.le_of_lt (by rw [World.size_alloc]; omega)))
  generalize hNN : w.heap.size = N at *
  have HR := Lib.hid (And.intro hrow1 hb01)
  have hr1 := readsP_below H.out.1 (by rw [hNN]; exact hb01)
  clear H1 hrow1 hb01
  have H1 := Lib.hid hr1
  clear hr1 q0 r0 r1
  go_loopw [3, 16] (fun rs i wr => ∃ k : Nat, k ≤ L.length ∧ i = .int .i64 (k : Int) ∧ (∃ S : Nat, S ≤ 11 + 2020 * k ∧ rs = .int .i64 (S : Int) ∧ Hid (S = K.size + (Nd.pairsB (L.take k)).size)) ∧ Hid (Below w1.heap.size w1 wr)) (fun _ i _ => L.length - (RowKit.intOf i).toNat)
  case atStart => exact ⟨0, Nat.zero_le _, rfl, ⟨K.size, by omega, rfl, Lib.hid rfl⟩, Lib.hid (Below.refl _ _)⟩
  case round =>
    obtain ⟨k, hk, rfl, ⟨S, hSk, rfl, HS⟩, HI⟩ := hrel
    by_cases hlt : k < L.length
    · obtain ⟨ab, off, rfl, c0, c1⟩ := (readsP_below H1.out HI.out) k hlt
      have hnext := Nd.pairsB_next2 L k hlt
      obtain ⟨s1, s2⟩ := hS _ (List.getElem_mem hlt)
      have t1 := Nd.pairB_size L[k] s1 s2
      have cP := fun wx => pair9_any L[k].1 L[k].2 wx s1 s2
      have hpair : (L[k].1, L[k].2) = L[k] := rfl
      rw [hpair] at cP
      generalize Nd.pairB L[k] = T at *
      generalize L[k].1 = key at *
      generalize L[k].2 = val at *
      have hst : S + T.size = K.size + (Nd.pairsB (L.take (k + 1))).size := by rw [hnext, ByteArray.size_append, HS.out]; omega
      have hb2 : Below wr.heap.size wr (wr.alloc (.cells #[.string key, .string val] 33)) := (Below.refl wr.heap.size wr).alloc (Nat.le_refl _) _
      have hbox := rowV_new wr 33 [.string key, .string val]
      have x0 := rowV_cell hbox 0
      have x1 := rowV_cell hbox 1
      simp only [List.getElem?_cons_zero, List.getElem?_cons_succ] at x0 x1
      have HC := Lib.hid (And.intro hst (And.intro cP hb2))
      clear hst cP hnext hKT hb2 hbox hpair
      go_wp2_with (go_at_call 28; refine (HC.out.2.1 _).mono ?_; rintro e w2 ⟨rfl, hb2⟩; have H2 := Lib.hid (HI.out.trans ((HC.out.2.2.trans (hb2.mono HC.out.2.2.size)).mono HI.out.size)); clear hb2)
      go_roundw
      case rel => exact ⟨k + 1, by omega, by go_num, ⟨S + T.size, by omega, by go_num, Lib.hid HC.out.1⟩, H2⟩
      case measure => simp [RowKit.intOf]; omega
    · obtain rfl : k = L.length := by omega
      have hfin : (S : Int) = ((K.size + (Nd.pairsB L).size : Nat) : Int) := by have := HS.out; rw [List.take_length] at this; rw [this]
      go_wp2_with fail
      go_ret
      have hfin2 := HR.out.2.trans (HI.out.mono (show N ≤ w1.heap.size by rw [← hNN]; exact HR.out.2.size))
      exact ⟨ret_int hfin, by rw [hNN]; exact hfin2⟩
set_option maxRecDepth 100000 in
set_option maxHeartbeats 1600000 in
theorem check9_any (leaf : Bool) (a : Option Addr) (L : List (ByteArray × ByteArray)) (c : Nat) (w : World) (hr : ReadsP w a L) (hL : L.length ≤ 1000) (hS : ∀ x ∈ L, x.1.size ≤ 1000 ∧ x.2.size ≤ 1000) :
    Calls Try.prog 12 #[nodV leaf a L.length c] w fun e w' => e = .returned (.int .i64 (Nd.checkE ⟨leaf, L⟩)) ∧ Below w.heap.size w w' := by
  have hb : Below w.heap.size w (w.alloc (.cells #[.bool leaf, .slice a L.length c] 24)) := (Below.refl w.heap.size w).alloc (Nat.le_refl _) _
  have hrow := rowV_new w 24 (nodC leaf a L.length c)
  have r0 := rowV_cell hrow 0
  have r1 := rowV_cell hrow 1
  simp only [List.getElem?_cons_zero, List.getElem?_cons_succ] at r0 r1
  have cR := right9_any leaf a L c (w.alloc (.cells #[.bool leaf, .slice a L.length c] 24)) (readsP_below hr hb) hL
  have cS := fun wx (hx : Below w.heap.size w wx) => size9_any leaf a L c wx (readsP_below hr hx) hL hS
  have hcase := Nd.check_cases ⟨leaf, L⟩
  generalize (Nd.text ⟨leaf, L⟩).size = T at *
  generalize hE : Nd.checkE ⟨leaf, L⟩ = E at *
  clear hE
  rcases hcase with ⟨h1, rfl⟩ | ⟨h1, h2, rfl⟩ | ⟨h1, h2, rfl⟩
  · rw [decide_eq_false h1] at cR
    have H := Lib.hid (And.intro cR (And.intro hb (And.intro hrow cS)))
    clear hr hb hrow cR cS
    go_enter Try.func12, Try.ntmps12
    go_wp2_with (go_at_call 33; refine H.out.1.mono ?_; rintro e w1 ⟨rfl, hb1⟩; have H1 := Lib.hid (H.out.2.1.trans (hb1.mono H.out.2.1.size)); clear hb1)
    go_ret
    exact ⟨rfl, H1.out⟩
  · have d2 : decide (480 < (T : Int)) = true := decide_eq_true (by omega)
    rw [decide_eq_true h1] at cR
    have H := Lib.hid (And.intro cR (And.intro hb (And.intro hrow cS)))
    clear hr hb hrow cR cS
    go_enter Try.func12, Try.ntmps12
    go_wp2_with (first
      | (go_at_call 33; refine H.out.1.mono ?_; rintro e w1 ⟨rfl, hb1⟩; have s0 := rowV_cell (rowV_below H.out.2.2.1 hb1 (rowV_lt H.out.2.2.1)) 0; have s1 := rowV_cell (rowV_below H.out.2.2.1 hb1 (rowV_lt H.out.2.2.1)) 1; simp only [List.getElem?_cons_zero, List.getElem?_cons_succ] at s0 s1; have H1 := Lib.hid (H.out.2.1.trans (hb1.mono H.out.2.1.size)); clear hb1)
      | (go_at_call 13; refine (H.out.2.2.2 _ H1.out).mono ?_; rintro e w2 ⟨rfl, hb2⟩; have H2 := Lib.hid (H1.out.trans (hb2.mono H1.out.size)); clear hb2))
    go_ret
    exact ⟨rfl, H2.out⟩
  · have d2 : decide (480 < (T : Int)) = false := decide_eq_false (by omega)
    rw [decide_eq_true h1] at cR
    have H := Lib.hid (And.intro cR (And.intro hb (And.intro hrow cS)))
    clear hr hb hrow cR cS
    go_enter Try.func12, Try.ntmps12
    go_wp2_with (first
      | (go_at_call 33; refine H.out.1.mono ?_; rintro e w1 ⟨rfl, hb1⟩; have s0 := rowV_cell (rowV_below H.out.2.2.1 hb1 (rowV_lt H.out.2.2.1)) 0; have s1 := rowV_cell (rowV_below H.out.2.2.1 hb1 (rowV_lt H.out.2.2.1)) 1; simp only [List.getElem?_cons_zero, List.getElem?_cons_succ] at s0 s1; have H1 := Lib.hid (H.out.2.1.trans (hb1.mono H.out.2.1.size)); clear hb1)
      | (go_at_call 13; refine (H.out.2.2.2 _ H1.out).mono ?_; rintro e w2 ⟨rfl, hb2⟩; have H2 := Lib.hid (H1.out.trans (hb2.mono H1.out.size)); clear hb2))
    go_ret
    exact ⟨rfl, H2.out⟩
end
end Go.Proofs.Ytjlglfhnnipjaaa
