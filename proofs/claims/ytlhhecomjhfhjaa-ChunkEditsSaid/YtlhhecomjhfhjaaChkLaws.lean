/-
  Layer 11's laws: ChunkEdits, ChunkJoins.
-/
import Derived.Test.YtlhhecomjhfhjaaChkLives
import Derived.OpenShut
namespace Go.Proofs.Ytlhhecomjhfhjaa
open Go.RowKit
set_option maxRecDepth 100000 in
set_option maxHeartbeats 6400000 in
theorem ChunkEdits_walk (p s : ByteArray) (n : Int) (_hp : p.size ≤ maxLen) (_hs : s.size ≤ maxLen) (hn : (Lit.int .i64 n).wf = true) (w : World) :
    Calls Try.prog 3 #[.string p, .string s, .int .i64 n] w fun e w' => e = .returned (.bool true) ∧ Below w.heap.size w w' := by
  obtain ⟨n0, n1⟩ := bounds_i64 hn
  have cL := fun w => lives11_any w
  by_cases h1 : 300 < p.size
  · have d1 : decide ((300 : Int) < (p.size : Int)) = true := decide_eq_true (by omega)
    have H := Lib.hid cL
    clear cL
    go_enter Try.func3, Try.ntmps3
    go_wp2_with (go_at_call 6; refine (H.out _).mono ?_; rintro e wl ⟨rfl, hb⟩; have HL := Lib.hid (hb); clear hb)
    go_ret
    exact ⟨rfl, HL.out⟩
  have d1 : decide ((300 : Int) < (p.size : Int)) = false := decide_eq_false (by omega)
  by_cases h2 : 3000 < s.size
  · have d2 : decide ((3000 : Int) < (s.size : Int)) = true := decide_eq_true (by omega)
    have H := Lib.hid cL
    clear cL
    go_enter Try.func3, Try.ntmps3
    go_wp2_with (go_at_call 6; refine (H.out _).mono ?_; rintro e wl ⟨rfl, hb⟩; have HL := Lib.hid (hb); clear hb)
    go_ret
    exact ⟨rfl, HL.out⟩
  have d2 : decide ((3000 : Int) < (s.size : Int)) = false := decide_eq_false (by omega)
  by_cases h3 : 1099511627776 < n
  · have d3 : decide ((1099511627776 : Int) < n) = true := decide_eq_true h3
    have H := Lib.hid cL
    clear cL
    go_enter Try.func3, Try.ntmps3
    go_wp2_with (go_at_call 6; refine (H.out _).mono ?_; rintro e wl ⟨rfl, hb⟩; have HL := Lib.hid (hb); clear hb)
    go_ret
    exact ⟨rfl, HL.out⟩
  have d3 : decide ((1099511627776 : Int) < n) = false := decide_eq_false h3
  have cE := fun w => edits11_any p s (by omega) (by omega) w
  have cF := fun w => redits11_any p s (by omega) (by omega) w
  have cC := fun w => clear11_any p (by omega) w
  have cD := fun w => rclear11_any p (by omega) w
  have cN := fun w => count11_any n n0 (by omega) w
  have cM := fun w => rcount11_any n n0 (by omega) w
  have hEl : (Ck.edits p s).1.length ≤ 1000000 := by
    have h1 := Ck.cnt_le (n := s.size) (m := 100) (by omega) (by omega)
    unfold Ck.edits
    split
    · split
      · exact Nat.zero_le _
      · rw [List.length_cons, List.length_map, Ck.chunks_len]; omega
    · exact Nat.zero_le _
  generalize Ck.edits p s = ES at *
  generalize Ck.clear p = CL at *
  generalize Ck.cntZ n = N at *
  obtain ⟨L, n2⟩ := ES
  obtain ⟨⟨k1, k2, k3, k4⟩, n3⟩ := CL
  dsimp only at hEl
  have cS := fun a b c d w h1 h2 => rsame11_any a b L c d w h1 h2 hEl
  have H := Lib.hid (And.intro cL (And.intro cE (And.intro cF (And.intro cC (And.intro cD (And.intro cN (And.intro cM cS)))))))
  clear cL cE cF cC cD cN cM cS h1 h2 h3 hEl
  go_enter Try.func3, Try.ntmps3
  go_wp2_with (first
    | (go_at_call 7; refine (H.out.2.1 _).mono ?_; rintro e w1 ⟨v, rfl, ho, hb⟩; obtain ⟨a1, c1, rfl, hr1⟩ := owL_readsE11 ho; have H1 := Lib.hid (And.intro hb hr1); clear ho hb hr1)
    | (go_at_call 8; refine (H.out.2.2.1 _).mono ?_; rintro e w2 ⟨v, rfl, ho, hb⟩; obtain ⟨a2, c2, rfl, hr2⟩ := owL_readsE11 ho; have H2 := Lib.hid (And.intro (H1.out.1.trans (hb.mono H1.out.1.size)) (And.intro (readsE_below H1.out.2 hb) hr2)); clear ho hb hr2)
    | (go_at_call 9; refine (H.out.2.2.2.1 _).mono ?_; rintro e w3 ⟨rfl, hb⟩; have b3 := (hb.alloc hb.size (.cells #[.string k1, .string k2, .bool k3, .string k4] 30)); have r3 := rowV_new w3 30 (edC11 ⟨k1, k2, k3, k4⟩); have H3 := Lib.hid (And.intro (H2.out.1.trans (b3.mono H2.out.1.size)) (And.intro (readsE_below H2.out.2.1 b3) (And.intro (readsE_below H2.out.2.2 b3) r3))); clear hb b3 r3)
    | (go_at_call 10; refine (H.out.2.2.2.2.1 _).mono ?_; rintro e w4 ⟨rfl, hb⟩; have b4 := (hb.alloc hb.size (.cells #[.string k1, .string k2, .bool k3, .string k4] 30)); have r4 := rowV_new w4 30 (edC11 ⟨k1, k2, k3, k4⟩); have H4 := Lib.hid (And.intro (H3.out.1.trans (b4.mono H3.out.1.size)) (And.intro (readsE_below H3.out.2.1 b4) (And.intro (readsE_below H3.out.2.2.1 b4) (And.intro (rowV_below H3.out.2.2.2 b4 (rowV_lt H3.out.2.2.2)) r4)))); clear hb b4 r4)
    | (go_at_call 11; refine (H.out.2.2.2.2.2.2.2 _ _ _ _ _ H4.out.2.1 H4.out.2.2.1).mono ?_; rintro e w5 ⟨rfl, hb⟩; obtain ⟨x0, x1, x2, x3, -⟩ := ed_cells (rowV_below H4.out.2.2.2.1 hb (rowV_lt H4.out.2.2.2.1)); obtain ⟨y0, y1, y2, y3, -⟩ := ed_cells (rowV_below H4.out.2.2.2.2 hb (rowV_lt H4.out.2.2.2.2)); have H5 := Lib.hid (H4.out.1.trans (hb.mono H4.out.1.size)); clear hb)
    | (go_at_call 12; refine (H.out.2.2.2.2.2.1 _).mono ?_; rintro e w6 ⟨rfl, hb⟩; have H6 := Lib.hid (H5.out.trans (hb.mono H5.out.size)); clear hb x0 x1 x2 x3 y0 y1 y2 y3)
    | (go_at_call 13; refine (H.out.2.2.2.2.2.2.1 _).mono ?_; rintro e w7 ⟨rfl, hb⟩; have H7 := Lib.hid (H6.out.trans (hb.mono H6.out.size)); clear hb)
    | (go_at_call 6; refine (H.out.1 _).mono ?_; rintro e wl ⟨rfl, hb⟩; have HL := Lib.hid (H7.out.trans (hb.mono H7.out.size)); clear hb))
  go_ret
  exact ⟨rfl, HL.out⟩
set_option maxRecDepth 100000 in
set_option maxHeartbeats 6400000 in
theorem ChunkJoins_walk (p : ByteArray) (L : List (ByteArray × ByteArray)) (a : Option Addr) (c : Nat) (_hp : p.size ≤ maxLen) (hL : L.length ≤ maxLen) (w : World) (hr : ReadsP w a L) :
    Calls Try.prog 4 #[.string p, .slice a L.length c] w fun e w' => e = .returned (.bool true) ∧ Below w.heap.size w w' := by
  have cL := fun w => lives11_any w
  by_cases h1 : 300 < p.size
  · have d1 : decide ((300 : Int) < (p.size : Int)) = true := decide_eq_true (by omega)
    have H := Lib.hid cL
    clear cL hr
    go_enter Try.func4, Try.ntmps4
    go_wp2_with (go_at_call 6; refine (H.out _).mono ?_; rintro e wl ⟨rfl, hb⟩; have HL := Lib.hid (hb); clear hb)
    go_ret
    exact ⟨rfl, HL.out⟩
  have d1 : decide ((300 : Int) < (p.size : Int)) = false := decide_eq_false (by omega)
  have cS := short11_any a L c w hr hL
  cases hsh : Short11 L with
  | false =>
    rw [hsh] at cS
    have H := Lib.hid (And.intro cL cS)
    clear cL cS hr
    go_enter Try.func4, Try.ntmps4
    go_wp2_with (first
      | (go_at_call 14; refine H.out.2.mono ?_; rintro e w1 ⟨rfl, hb⟩; have H1 := Lib.hid hb; clear hb)
      | (go_at_call 6; refine (H.out.1 _).mono ?_; rintro e wl ⟨rfl, hb⟩; have HL := Lib.hid (H1.out.trans (hb.mono H1.out.size)); clear hb))
    go_ret
    exact ⟨rfl, HL.out⟩
  | true =>
    rw [hsh] at cS
    unfold Short11 at hsh
    rw [Bool.and_eq_true] at hsh
    have hl30 : L.length ≤ 30 := of_decide_eq_true hsh.1
    have hsm : ∀ x ∈ L, x.2.size ≤ 80000 := fun x hx => by
      have h := List.all_eq_true.1 hsh.2 x hx
      unfold shortB at h
      have h2 : ¬ 1000 < x.2.size := fun h2 => by rw [decide_eq_true h2, Bool.or_true] at h; cases h
      omega
    have cJ := fun w (hr : ReadsP w a L) => join11_any p (by omega) a L c w hr (by omega) hsm
    have cK := fun w (hr : ReadsP w a L) => rjoin11_any p (by omega) a L c w hr (by omega) hsm
    generalize Ck.join p L = J at *
    obtain ⟨J, n2⟩ := J
    have H := Lib.hid (And.intro cL (And.intro cS (And.intro cJ (And.intro cK hr))))
    clear cL cS cJ cK hr hsm hsh
    go_enter Try.func4, Try.ntmps4
    go_wp2_with (first
      | (go_at_call 14; refine H.out.2.1.mono ?_; rintro e w1 ⟨rfl, hb⟩; have H1 := Lib.hid hb; clear hb)
      | (go_at_call 15; refine (H.out.2.2.1 _ (readsP_below H.out.2.2.2.2 H1.out)).mono ?_; rintro e w2 ⟨rfl, hb⟩; have H2 := Lib.hid (H1.out.trans (hb.mono H1.out.size)); clear hb)
      | (go_at_call 16; refine (H.out.2.2.2.1 _ (readsP_below H.out.2.2.2.2 H2.out)).mono ?_; rintro e w3 ⟨rfl, hb⟩; have H3 := Lib.hid (H2.out.trans (hb.mono H2.out.size)); clear hb)
      | (go_at_call 6; refine (H.out.1 _).mono ?_; rintro e wl ⟨rfl, hb⟩; have HL := Lib.hid (H3.out.trans (hb.mono H3.out.size)); clear hb))
    go_ret
    exact ⟨rfl, HL.out⟩
end Go.Proofs.Ytlhhecomjhfhjaa
