/-
  Layer 7's laws: the document's example; no log: WalNil, walked.
-/
import Derived.Test.YtednmncapfclfaaZWalPair
import Derived.Test.YtednmncapfclfaaZWalLive
import Derived.Test.YtednmncapfclfaaPk4
namespace Go.Proofs.Ytednmncapfclfaa
open Go.RowKit
theorem byte_seven {s : ByteArray} (hs : s.size = 512) (h : s.data.toList[7]? = some 4) : ∃ h : 7 < s.size, s[7] = 4 := by
  refine ⟨by omega, ?_⟩
  have : s.data.toList[7]? = some s[7] := by
    rw [List.getElem?_eq_getElem (by simp; omega)]; rfl
  rw [this] at h
  exact Option.some.inj h
section
variable {w : World} {p : Nat}
/-- a new disk, alone -/
theorem new_one (n : Nat) (w : World) (h1 : 1 ≤ n) (h2 : n ≤ 4096) : Calls Try.prog 9 #[.int .i64 (n : Int)] w fun e w' => ∃ p, e = .returned (.tuple #[.pointer (some ⟨p, 0, none⟩), .int .i64 0]) ∧ One w' (fun k => k < w.heap.size) p (Dk.new n) ∧ Below w.heap.size w w' := by
  refine (newL_any (n : Int) w).mono fun e w' h => ?_
  rcases h with ⟨h, _⟩ | ⟨_, _, p, he, hd, hb⟩
  · exact absurd ⟨by omega, by omega⟩ h
  · exact ⟨p, he, one_new (by rw [show ((n : Int)).toNat = n from by omega] at hd; exact hd) hb, hb⟩
theorem readsTwo7 (w : World) (a b : ByteArray) : ReadsS (w.alloc (.cells #[.string a, .string b] 9)) (some ⟨w.heap.size, 0, none⟩) [a, b] := by
  intro i hi
  have hr := rowV_new w 9 [.string a, .string b]
  refine ⟨w.heap.size, 0, rfl, ?_⟩
  rw [Nat.zero_add, rowV_cell hr]
  match i, hi with
  | 0, _ => rfl
  | 1, _ => rfl
theorem readsThree7 (w : World) (a b c : ByteArray) : ReadsS (w.alloc (.cells #[.string a, .string b, .string c] 9)) (some ⟨w.heap.size, 0, none⟩) [a, b, c] := by
  intro i hi
  have hr := rowV_new w 9 [.string a, .string b, .string c]
  refine ⟨w.heap.size, 0, rfl, ?_⟩
  rw [Nat.zero_add, rowV_cell hr]
  match i, hi with
  | 0, _ => rfl
  | 1, _ => rfl
  | 2, _ => rfl
theorem only_low {Y : Nat → Prop} {w0 w w' : World} (hb : Below w0.heap.size w0 w) (ho : Only (fun k => ¬ Y k) w w') (hY : ∀ k, k < w0.heap.size → Y k) : Below w0.heap.size w0 w' :=
  hb.trans (ho.below (fun k _ hn => Nat.le_of_not_lt fun h => hn (hY k h)) hb.size)
set_option maxRecDepth 100000 in
set_option maxHeartbeats 4000000 in
theorem lives7_any (w : World) : Calls Try.prog 8 #[] w fun e w' => e = .returned (.bool true) ∧ Below w.heap.size w w' := by
  obtain ⟨a1, a2, a3, a4, d1, a5, a6, a7, a8, a9, a10, d2, a11, a12, a13, a14⟩ := Wl.lives_math
  obtain ⟨l0, l1, l2⟩ := Wl.live_new (m := 3) (fr := 0) (n := 3) (by omega) (by omega)
  have hM := Lib.hid (And.intro a1 (And.intro a2 (And.intro a3 (And.intro a4 (And.intro a5 (And.intro a6 (And.intro a7 a8)))))))
  have hM2 := Lib.hid (And.intro a9 (And.intro a10 (And.intro a11 (And.intro a12 (And.intro a13 a14)))))
  have hM0 := Lib.hid (And.intro l0 (And.intro l1 l2))
  clear a1 a2 a3 a4 a5 a6 a7 a8 a9 a10 a11 a12 a13 a14 l0 l1 l2
  go_enter Try.func8, Try.ntmps8
  go_wp2_with fail
  refine (new_one 3 w (by omega) (by omega)).mono ?_
  rintro e w1 ⟨p, rfl, hd, hb⟩
  have H1 := Lib.hid (And.intro hd hb); clear hd hb
  go_wp2_with fail
  refine (wopen_any (dskP_one p) H1.out.1 0 3 0 0 (by omega)).mono ?_
  rintro e w2 hP
  obtain ⟨hE, _⟩ | ⟨_, l, rfl, hl, hb⟩ := hP
  · exact absurd hM0.out.2.1 hE
  have e2 := hM0.out.2.2
  have hl2 := hl
  rw [show Wl.openG (Dk.new 3) 0 3 0 0 = _ from e2] at hl2
  have H2 := Lib.hid (And.intro (pair_open (dskP_one p).apart H1.out.1 hl2 hb) (below_two H1.out.2 hb))
  clear hl hl2 hb e2
  go_wp2_with fail
  have cA : Calls Try.prog 20 #[.pointer (some ⟨l, 0, none⟩), .slice (some ⟨w2.heap.size, 0, none⟩) 2 2] (w2.alloc (.cells #[.string ⟨#[97]⟩, .string ⟨#[98]⟩] 9)) fun e w' => e = .returned (.int .i64 0) ∧ Pair 63 (fun w X d => One w X p d) w' (fun k => k < w.heap.size) l p d1 ⟨0, 3, 0, 2, [⟨#[97]⟩, ⟨#[98]⟩]⟩ ∧ Below w.heap.size w w' := by
    have hb : Below w2.heap.size w2 (w2.alloc (.cells #[.string ⟨#[97]⟩, .string ⟨#[98]⟩] 9)) := (Below.refl _ _).alloc (Nat.le_refl _) _
    have h := pair_append (dskP_one p) (pair_more (dskP_one p).apart H2.out.1 hb) (hM0.out.1.good) (some ⟨w2.heap.size, 0, none⟩) [⟨#[97]⟩, ⟨#[98]⟩] 2 (readsTwo7 w2 _ _) (by rintro a ha _; cases ha; exact .inr ⟨Nat.le_refl _, by simp⟩) (by show 2 ≤ _; omega) (by show 0 + 2 ≤ _; omega) (by show 0 + 2 ≤ _; omega)
    rw [hM.out.1, hM.out.2.1, hM.out.2.2.2.2.1] at h
    exact h.mono fun e w' ⟨e1, e2, e3⟩ => ⟨e1, pair_less e2 fun _ h => .inl h, only_low (below_two H2.out.2 hb) e3 fun _ h => .inl h⟩
  refine cA.mono ?_
  rintro e w3 ⟨rfl, h3, hb3⟩
  have H3 := Lib.hid (And.intro h3 hb3)
  clear cA h3 hb3
  go_wp2_with fail
  have cT : Calls Try.prog 21 #[.pointer (some ⟨l, 0, none⟩), .int .i64 1] w3 fun e w' => e = .returned (.int .i64 0) ∧ Pair 63 (fun w X d => One w X p d) w' (fun k => k < w.heap.size) l p d1 ⟨0, 3, 1, 2, [⟨#[98]⟩]⟩ ∧ Below w.heap.size w w' := by
    have h := pair_trim (m := 3) (dskP_one p).apart H3.out.1 ⟨by show 1 ≤ 3; omega, by show 0 + 3 ≤ 3; omega, rfl, by show 2 ≤ 3; omega⟩ (by show 2 ≤ _; omega) 1
    rw [hM.out.2.2.1, hM.out.2.2.2.1] at h
    exact h.mono fun e w' ⟨e1, e2, e3⟩ => ⟨e1, e2, only_low H3.out.2 e3 fun _ h => h⟩
  refine cT.mono ?_
  rintro e w4 ⟨rfl, h4, hb4⟩
  have H4 := Lib.hid (And.intro h4 hb4)
  clear cT h4 hb4
  go_wp2_with fail
  have cA : Calls Try.prog 20 #[.pointer (some ⟨l, 0, none⟩), .slice (some ⟨w4.heap.size, 0, none⟩) 2 2] (w4.alloc (.cells #[.string ⟨#[99]⟩, .string ⟨#[100]⟩] 9)) fun e w' => e = .returned (.int .i64 0) ∧ Pair 63 (fun w X d => One w X p d) w' (fun k => k < w.heap.size) l p d2 ⟨0, 3, 1, 4, [⟨#[98]⟩, ⟨#[99]⟩, ⟨#[100]⟩]⟩ ∧ Below w.heap.size w w' := by
    have hb : Below w4.heap.size w4 (w4.alloc (.cells #[.string ⟨#[99]⟩, .string ⟨#[100]⟩] 9)) := (Below.refl _ _).alloc (Nat.le_refl _) _
    have h := pair_append (dskP_one p) (pair_more (dskP_one p).apart H4.out.1 hb) (hM.out.2.2.2.2.2.1.good) (some ⟨w4.heap.size, 0, none⟩) [⟨#[99]⟩, ⟨#[100]⟩] 2 (readsTwo7 w4 _ _) (by rintro a ha _; cases ha; exact .inr ⟨Nat.le_refl _, by simp⟩) (by show 2 ≤ _; omega) (by show 2 + 2 ≤ _; omega) (by have := hM.out.2.2.2.2.2.2.2; show d1.W.length + 2 ≤ _; omega)
    rw [hM2.out.1, hM2.out.2.1, hM2.out.2.2.1] at h
    exact h.mono fun e w' ⟨e1, e2, e3⟩ => ⟨e1, pair_less e2 fun _ h => .inl h, only_low (below_two H4.out.2 hb) e3 fun _ h => .inl h⟩
  refine cA.mono ?_
  rintro e w5 ⟨rfl, h5, hb5⟩
  have H5 := Lib.hid (And.intro h5 hb5)
  clear cA h5 hb5
  go_wp2_with fail
  have cR : Calls Try.prog 24 #[.pointer (some ⟨p, 0, none⟩), .int .i64 0] w5 fun e w' => e = .returned (.tuple #[.string (Dk.readS d2 0), .int .i64 0]) ∧ w' = w5 := by
    obtain ⟨X, hx, _⟩ := pair_base H5.out.1
    have := one_get hx 0
    rw [hM2.out.2.2.2.1] at this
    exact this
  obtain ⟨h7, e7⟩ := byte_seven hM2.out.2.2.2.2.1 hM2.out.2.2.2.2.2
  have hs := hM2.out.2.2.2.2.1
  generalize Dk.readS d2 0 = s at *
  refine cR.mono ?_
  rintro e w6 ⟨rfl, hw6⟩
  obtain rfl := hw6.symm
  clear hw6 cR
  go_wp2_with fail
  refine (pair_tail H5.out.1).mono ?_
  rintro e w6 ⟨rfl, hw6⟩
  obtain rfl := hw6.symm
  clear hw6
  go_wp2_with fail
  refine (pair_head H5.out.1).mono ?_
  rintro e w6 ⟨rfl, hw6⟩
  obtain rfl := hw6.symm
  clear hw6
  go_wp2_with fail
  refine (pair_room (m := 3) H5.out.1 ⟨by show 1 ≤ 3; omega, by show 0 + 3 ≤ 3; omega, rfl, by show 3 ≤ 3; omega⟩ (by omega) (by show 4 ≤ _; omega)).mono ?_
  rintro e w6 ⟨rfl, hb6⟩
  have H6 := Lib.hid (And.intro (pair_below (dskP_one p).apart H5.out.1 hb6) (below_two H5.out.2 hb6))
  clear hb6
  go_wp2_with fail
  refine (pair_records H6.out.1 (by show 3 ≤ _; omega)).mono ?_
  rintro e w7 ⟨ra, rc, rfl, hr7, hb7⟩
  have hb8 : Below w7.heap.size w7 (w7.alloc (.cells #[.string ⟨#[98]⟩, .string ⟨#[99]⟩, .string ⟨#[100]⟩] 9)) := (Below.refl _ _).alloc (Nat.le_refl _) _
  have H7 := Lib.hid (And.intro (readsS_below hr7 hb8) (And.intro (below_two (below_two H6.out.2 hb7) hb8) (readsThree7 w7 ⟨#[98]⟩ ⟨#[99]⟩ ⟨#[100]⟩)))
  clear hr7 hb7 hb8
  go_wp2_with fail
  refine (sameS_any [⟨#[98]⟩, ⟨#[99]⟩, ⟨#[100]⟩] _ _ _ _ _ (by show 3 ≤ _; omega) H7.out.1 H7.out.2.2).mono ?_
  rintro e w9 ⟨rfl, hb9⟩
  have H9 := Lib.hid (below_two H7.out.2.1 hb9)
  clear hb9
  go_wp2_with fail
  go_ret
  exact ⟨rfl, H9.out⟩
/-! ### no log -/
set_option maxRecDepth 100000 in
theorem wopen_nil (fr n tail head : Int) (w : World) : Calls Try.prog 19 #[.pointer none, .int .i64 fr, .int .i64 n, .int .i64 tail, .int .i64 head] w fun e w' => e = .returned (.tuple #[.pointer none, .int .i64 1]) ∧ w' = w := by
  have H := Lib.hid (read_nil (w := w) (.inl rfl) 0)
  go_enter Try.func19, Try.ntmps19
  go_wp2_with fail
  refine H.out.mono ?_
  rintro e w1 ⟨rfl, hw1⟩
  obtain rfl := hw1.symm; clear hw1
  go_wp2_with fail
  go_ret2
  exact ⟨rfl, rfl⟩
set_option maxRecDepth 100000 in
set_option maxHeartbeats 1600000 in
theorem WalNil_walk (l : List ByteArray) (a : Option Addr) (c : Nat) (tail : Int) (m : Bool) (hl : l.length ≤ maxLen) (_hz : ∀ x ∈ l, x.size ≤ maxLen) (_w1 : (Lit.int .i64 tail).wf = true) (w : World) (_hr : ReadsS w a l) :
    Calls Try.prog 6 #[.slice a l.length c, .int .i64 tail, .bool m] w fun e w' => e = .returned (.bool true) ∧ Below w.heap.size w w' := by
  unfold maxLen at hl
  clear _hz _w1 _hr
  by_cases h20 : 20 < l.length
  · have b : (20 : Int) < (l.length : Int) := by omega
    go_enter Try.func6, Try.ntmps6
    go_wp2_with fail
    refine (lives7_any _).mono ?_
    rintro e w1 ⟨rfl, hb⟩
    have H := Lib.hid hb
    clear hb
    go_wp2_with fail
    go_ret
    exact ⟨rfl, H.out⟩
  · have b : ¬ (20 : Int) < (l.length : Int) := by omega
    cases m with
    | false =>
      have HN := Lib.hid (noneIs_nil w)
      have HB := Lib.hid (Below.refl w.heap.size w)
      go_enter Try.func6, Try.ntmps6
      go_wp2_with fail
      refine (wopen_nil _ _ _ _ _).mono ?_
      rintro e w1 ⟨rfl, hw1⟩
      obtain rfl := hw1.symm; clear hw1
      go_wp2_with fail
      refine (wappend_none HN.out _).mono ?_
      rintro e w1 ⟨rfl, hw1⟩
      obtain rfl := hw1.symm; clear hw1
      go_wp2_with fail
      refine (wtrim_none HN.out _).mono ?_
      rintro e w1 ⟨rfl, hw1⟩
      obtain rfl := hw1.symm; clear hw1
      go_wp2_with fail
      refine (wrecords_none HN.out).mono ?_
      rintro e w1 ⟨rfl, hw1⟩
      obtain rfl := hw1.symm; clear hw1
      go_wp2_with fail
      refine (wtail_none HN.out).mono ?_
      rintro e w1 ⟨rfl, hw1⟩
      obtain rfl := hw1.symm; clear hw1
      go_wp2_with fail
      refine (whead_none HN.out).mono ?_
      rintro e w1 ⟨rfl, hw1⟩
      obtain rfl := hw1.symm; clear hw1
      go_wp2_with fail
      refine (wroom_none HN.out).mono ?_
      rintro e w1 ⟨rfl, hw1⟩
      obtain rfl := hw1.symm; clear hw1
      go_wp2_with fail
      refine (lives7_any _).mono ?_
      rintro e w1 ⟨rfl, hb⟩
      have H := Lib.hid (HB.out.trans (hb.mono HB.out.size))
      clear hb
      go_wp2_with fail
      go_ret
      exact ⟨rfl, H.out⟩
    | true =>
      have hb1 : Below w.heap.size w (w.alloc (.cells #[.pointer none, .int .i64 0, .int .i64 0, .int .i64 0, .int .i64 0, .slice none 0 0] 63)) := (Below.refl _ _).alloc (Nat.le_refl _) _
      have HN0 := Lib.hid (And.intro (noneIs_zero (rowV_new w 63 [.pointer none, .int .i64 0, .int .i64 0, .int .i64 0, .int .i64 0, .slice none 0 0])) hb1)
      clear hb1
      go_enter Try.func6, Try.ntmps6
      go_wp2_with fail
      have HN := Lib.hid HN0.out.1
      have HB := Lib.hid HN0.out.2
      clear HN0
      refine (wopen_nil _ _ _ _ _).mono ?_
      rintro e w1 ⟨rfl, hw1⟩
      obtain rfl := hw1.symm; clear hw1
      go_wp2_with fail
      refine (wappend_none HN.out _).mono ?_
      rintro e w1 ⟨rfl, hw1⟩
      obtain rfl := hw1.symm; clear hw1
      go_wp2_with fail
      refine (wtrim_none HN.out _).mono ?_
      rintro e w1 ⟨rfl, hw1⟩
      obtain rfl := hw1.symm; clear hw1
      go_wp2_with fail
      refine (wrecords_none HN.out).mono ?_
      rintro e w1 ⟨rfl, hw1⟩
      obtain rfl := hw1.symm; clear hw1
      go_wp2_with fail
      refine (wtail_none HN.out).mono ?_
      rintro e w1 ⟨rfl, hw1⟩
      obtain rfl := hw1.symm; clear hw1
      go_wp2_with fail
      refine (whead_none HN.out).mono ?_
      rintro e w1 ⟨rfl, hw1⟩
      obtain rfl := hw1.symm; clear hw1
      go_wp2_with fail
      refine (wroom_none HN.out).mono ?_
      rintro e w1 ⟨rfl, hw1⟩
      obtain rfl := hw1.symm; clear hw1
      go_wp2_with fail
      refine (lives7_any _).mono ?_
      rintro e w1 ⟨rfl, hb⟩
      have H := Lib.hid (HB.out.trans (hb.mono HB.out.size))
      clear hb
      go_wp2_with fail
      go_ret
      exact ⟨rfl, H.out⟩
end
end Go.Proofs.Ytednmncapfclfaa
