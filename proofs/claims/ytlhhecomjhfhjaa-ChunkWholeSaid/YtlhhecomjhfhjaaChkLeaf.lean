/-
  Layer 11: which prefixes are right, chunks' keys, how many chunks a text has, the edit that takes a text out (the program's and the document's).
-/
import Derived.Test.YtlhhecomjhfhjaaChkMath
import Derived.Test.YtlhhecomjhfhjaaOctFix
import Derived.Test.YtlhhecomjhfhjaaOctRead
namespace Go.Proofs.Ytlhhecomjhfhjaa
open Go.RowKit
set_option maxRecDepth 100000 in
theorem right11_any (p : ByteArray) (w : World) : Calls Try.prog 19 #[.string p] w fun e w' => e = .returned (.bool (Ck.rightB p)) ∧ Below w.heap.size w w' := by
  generalize hRR : Ck.rightB p = RR
  unfold Ck.rightB at hRR
  by_cases h0 : p.size = 0
  · obtain rfl : p = ⟨#[]⟩ := ByteArray.ext (Array.eq_empty_of_size_eq_zero h0)
    obtain rfl : RR = false := by rw [← hRR]; rfl
    clear hRR h0
    go_enter Try.func19, Try.ntmps19
    go_wp2_with fail
    go_ret
    exact ⟨rfl, Below.refl _ _⟩
  · obtain ⟨n1, n2⟩ := str_ne p (by omega)
    have d1 : decide (1 ≤ p.size) = true := decide_eq_true (by omega)
    by_cases h1 : p.size ≤ 40
    · have d2 : decide ((p.size : Int) ≤ 40) = true := decide_eq_true (by omega)
      obtain rfl : RR = true := by rw [← hRR, d1, decide_eq_true h1]; rfl
      clear hRR
      go_enter Try.func19, Try.ntmps19
      go_wp2_with fail
      go_ret
      exact ⟨rfl, Below.refl _ _⟩
    · have d2 : decide ((p.size : Int) ≤ 40) = false := decide_eq_false (by omega)
      obtain rfl : RR = false := by rw [← hRR, d1, decide_eq_false h1]; rfl
      clear hRR
      go_enter Try.func19, Try.ntmps19
      go_wp2_with fail
      go_ret
      exact ⟨rfl, Below.refl _ _⟩
set_option maxRecDepth 100000 in
theorem rright11_any (p : ByteArray) (w : World) : Calls Try.prog 21 #[.string p] w fun e w' => e = .returned (.bool (Ck.rightB p)) ∧ Below w.heap.size w w' := by
  generalize hRR : Ck.rightB p = RR
  unfold Ck.rightB at hRR
  by_cases h0 : 1 ≤ p.size
  · have d0 : decide (1 ≤ (p.size : Int)) = true := decide_eq_true (by omega)
    by_cases h1 : p.size ≤ 40
    · have d2 : decide ((p.size : Int) ≤ 40) = true := decide_eq_true (by omega)
      obtain rfl : RR = true := by rw [← hRR, decide_eq_true h0, decide_eq_true h1]; rfl
      clear hRR
      go_enter Try.func21, Try.ntmps21
      go_wp2_with fail
      go_ret
      exact ⟨rfl, Below.refl _ _⟩
    · have d2 : decide ((p.size : Int) ≤ 40) = false := decide_eq_false (by omega)
      obtain rfl : RR = false := by rw [← hRR, decide_eq_true h0, decide_eq_false h1]; rfl
      clear hRR
      go_enter Try.func21, Try.ntmps21
      go_wp2_with fail
      go_ret
      exact ⟨rfl, Below.refl _ _⟩
  · have d0 : decide (1 ≤ (p.size : Int)) = false := decide_eq_false (by omega)
    obtain rfl : RR = false := by rw [← hRR, decide_eq_false h0]; rfl
    clear hRR
    go_enter Try.func21, Try.ntmps21
    go_wp2_with fail
    go_ret
    exact ⟨rfl, Below.refl _ _⟩
set_option maxRecDepth 100000 in
theorem key11_any (p : ByteArray) (hp : p.size ≤ 1000000000) (i : Nat) (w : World) : Calls Try.prog 20 #[.string p, .int .i64 (i : Int)] w fun e w' => e = .returned (.string (Ck.key p i)) ∧ Below w.heap.size w w' := by
  have c1 := fun w => fixed_any (i : Int) 2 w
  rw [show Oct.cnt 2 = 2 from rfl] at c1
  unfold Ck.key
  have hks : (⟨(Oct.fix (i : Int) 2).toArray⟩ : ByteArray).size = 2 := by show (Oct.fix (i : Int) 2).toArray.size = 2; rw [List.size_toArray, Oct.fix_len]
  generalize (⟨(Oct.fix (i : Int) 2).toArray⟩ : ByteArray) = K at *
  have H := Lib.hid c1
  clear c1
  go_enter Try.func20, Try.ntmps20
  go_wp2_with (go_at_call 27; refine (H.out _).mono ?_; rintro e w1 ⟨rfl, hb⟩; have HB := Lib.hid hb; clear hb)
  go_ret
  exact ⟨rfl, HB.out⟩
set_option maxRecDepth 100000 in
theorem count11_any (n : Int) (h1 : -9223372036854775808 ≤ n) (h2 : n ≤ 1099511627776) (w : World) : Calls Try.prog 12 #[.int .i64 n] w fun e w' => e = .returned (.int .i64 (Ck.cntZ n)) ∧ Below w.heap.size w w' := by
  generalize hRR : Ck.cntZ n = RR
  unfold Ck.cntZ at hRR
  by_cases h0 : n < 1
  · rw [if_pos h0] at hRR
    have q : max n 1 = 1 := by omega
    subst hRR
    go_enter Try.func12, Try.ntmps12
    go_wp2_with fail
    go_ret
    exact ⟨by first | rfl | (apply ret_int; omega) | skip, Below.refl _ _⟩
  · rw [if_neg h0] at hRR
    have q : max n 1 = n := by omega
    go_enter Try.func12, Try.ntmps12
    go_wp2_with fail
    go_ret
    exact ⟨ret_int (by omega), Below.refl _ _⟩
set_option maxRecDepth 100000 in
theorem rcount11_any (n : Int) (h1 : -9223372036854775808 ≤ n) (h2 : n ≤ 1099511627776) (w : World) : Calls Try.prog 13 #[.int .i64 n] w fun e w' => e = .returned (.int .i64 (Ck.cntZ n)) ∧ Below w.heap.size w w' := by
  generalize hRR : Ck.cntZ n = RR
  unfold Ck.cntZ at hRR
  by_cases h0 : n < 1
  · rw [if_pos h0] at hRR
    subst hRR
    go_enter Try.func13, Try.ntmps13
    go_wp2_with fail
    go_ret
    exact ⟨rfl, Below.refl _ _⟩
  · rw [if_neg h0] at hRR
    have t1 : n.tdiv 150 = n / 150 := Int.tdiv_eq_ediv_of_nonneg (by omega)
    have t2 : n.tmod 150 = n % 150 := Int.tmod_eq_emod_of_nonneg (by omega)
    by_cases h3 : 0 < n % 150
    · go_enter Try.func13, Try.ntmps13
      go_wp2_with fail
      go_ret
      exact ⟨ret_int (by omega), Below.refl _ _⟩
    · go_enter Try.func13, Try.ntmps13
      go_wp2_with fail
      go_ret
      exact ⟨ret_int (by omega), Below.refl _ _⟩
abbrev edV11 (x : Tr.Ed) : Value := .agg #[.string x.key, .string x.val, .bool x.cut, .string x.to]
def edC11 (x : Tr.Ed) : List Value := [.string x.key, .string x.val, .bool x.cut, .string x.to]
theorem info_edit : (Try.prog.info? 30).map (·.size) = some 4 := by kernel_rfl
theorem results_ed2 {fn : Func} {p u : Tmp} (h : fn.results = #[.cell p 30, .tmp u]) (tmps : Array Value) (w : World) (g : Nat) (x : Tr.Ed)
    (hp : tmps.getD p undef = .pointer (some ⟨g, 0, none⟩)) (hg : RowV w g 30 (edC11 x)) :
    (results fn tmps).run Try.prog w = .ok (.tuple #[edV11 x, tmps.getD u undef]) w := by
  have hl := run_loadVar_row (P := Try.prog) w g 30 30 (edC11 x).toArray (0, 0) _ hg Try.underlying30 rfl info_edit
  have hp' : tmps[p]?.getD undef = .pointer (some ⟨g, 0, none⟩) := by simpa using hp
  simp [results, h, Result.andThen, asAddr, hp', hl]
  rfl
theorem ed_box11 (w : World) (x : Tr.Ed) : Below w.heap.size w (w.alloc (.cells #[.string x.key, .string x.val, .bool x.cut, .string x.to] 30)) ∧ RowV (w.alloc (.cells #[.string x.key, .string x.val, .bool x.cut, .string x.to] 30)) w.heap.size 30 (edC11 x) :=
  ⟨(Below.refl w.heap.size w).alloc (Nat.le_refl _) _, rowV_new w _ [.string x.key, .string x.val, .bool x.cut, .string x.to]⟩
theorem ed_cells {w : World} {g : Nat} {x : Tr.Ed} (h : RowV w g 30 (edC11 x)) :
    w.cell? ⟨g, 0, none⟩ = some (.string x.key) ∧ w.cell? ⟨g, 1, none⟩ = some (.string x.val) ∧ w.cell? ⟨g, 2, none⟩ = some (.bool x.cut) ∧ w.cell? ⟨g, 3, none⟩ = some (.string x.to) ∧
    w.frozen? ⟨g, 0, none⟩ = false ∧ w.frozen? ⟨g, 1, none⟩ = false ∧ w.frozen? ⟨g, 2, none⟩ = false ∧ w.frozen? ⟨g, 3, none⟩ = false :=
  ⟨rowV_cell h 0, rowV_cell h 1, rowV_cell h 2, rowV_cell h 3, rowV_frozen h 0, rowV_frozen h 1, rowV_frozen h 2, rowV_frozen h 3⟩
/-- an edit stored over one -/
theorem ed_put {W : World} {g : Nat} {x : Tr.Ed} (h : RowV W g 30 (edC11 x)) (y : Tr.Ed) :
    RowV ((((W.setCell ⟨g, 0, none⟩ (.string y.key)).setCell ⟨g, 1, none⟩ (.string y.val)).setCell ⟨g, 2, none⟩ (.bool y.cut)).setCell ⟨g, 3, none⟩ (.string y.to)) g 30 (edC11 y) ∧
    ∀ N, N ≤ g → Below N W ((((W.setCell ⟨g, 0, none⟩ (.string y.key)).setCell ⟨g, 1, none⟩ (.string y.val)).setCell ⟨g, 2, none⟩ (.bool y.cut)).setCell ⟨g, 3, none⟩ (.string y.to)) :=
  ⟨rowV_stored (rowV_stored (rowV_stored (rowV_stored h 0 (.string y.key)) 1 (.string y.val)) 2 (.bool y.cut)) 3 (.string y.to),
    fun N hN => ((((Below.refl N W).setCell (p := ⟨g, 0, none⟩) hN _).setCell (p := ⟨g, 1, none⟩) hN _).setCell (p := ⟨g, 2, none⟩) hN _).setCell (p := ⟨g, 3, none⟩) hN _⟩
set_option maxRecDepth 100000 in
set_option maxHeartbeats 1600000 in
theorem clear11_any (p : ByteArray) (hp : p.size ≤ 1000000000) (w : World) : Calls Try.prog 9 #[.string p] w fun e w' => e = .returned (.tuple #[edV11 (Ck.clear p).1, .int .i64 (Ck.clear p).2]) ∧ Below w.heap.size w w' := by
  have c1 := fun w => right11_any p w
  have c2 : ∀ w, Calls Try.prog 20 #[.string p, .int .i64 0] w fun e w' => e = .returned (.string (Ck.key p 0)) ∧ Below w.heap.size w w' := fun w => key11_any p hp 0 w
  have c3 : ∀ w, Calls Try.prog 20 #[.string p, .int .i64 65535] w fun e w' => e = .returned (.string (Ck.key p 65535)) ∧ Below w.heap.size w w' := fun w => key11_any p hp 65535 w
  obtain ⟨hb0, hr0⟩ := ed_box11 w ⟨⟨#[]⟩, ⟨#[]⟩, false, ⟨#[]⟩⟩
  unfold Ck.clear
  generalize Ck.key p 0 = K0 at *
  generalize Ck.key p 65535 = K1 at *
  cases hr : Ck.rightB p with
  | true =>
    rw [hr] at c1
    rw [if_pos rfl]
    have H := Lib.hid (And.intro c1 (And.intro (And.intro c2 c3) (And.intro hb0 hr0)))
    clear c1 c2 c3 hb0 hr0 hr
    go_enter Try.func9, Try.ntmps9
    go_wp2_with (first
      | (go_at_call 19; refine (H.out.1 _).mono ?_; rintro e w1 ⟨rfl, hb⟩; have H1 := Lib.hid (And.intro (H.out.2.2.1.trans (hb.mono H.out.2.2.1.size)) (rowV_below H.out.2.2.2 hb (rowV_lt H.out.2.2.2))); clear hb; skip)
      | (go_at_call 20; refine (H.out.2.1.1 _).mono ?_; rintro e w2 ⟨rfl, hb⟩; have H2 := Lib.hid (And.intro (H1.out.1.trans (hb.mono H1.out.1.size)) (rowV_below H1.out.2 hb (rowV_lt H1.out.2))); clear hb)
      | (go_at_call 20; refine (H.out.2.1.2 _).mono ?_; rintro e w3 ⟨rfl, hb⟩; have H3 := Lib.hid (And.intro (H2.out.1.trans (hb.mono H2.out.1.size)) (rowV_below H2.out.2 hb (rowV_lt H2.out.2))); clear hb; obtain ⟨c0, c1, c2, c3, f0, f1, f2, f3⟩ := ed_cells H3.out.2))
    obtain ⟨hp1, hp2⟩ := ed_put H3.out.2 ⟨K0, ⟨#[]⟩, true, K1⟩
    dsimp only at hp1 hp2
    refine bodyPost_ret (results_ed2 (g := w.heap.size) (x := ⟨K0, ⟨#[]⟩, true, K1⟩) rfl _ _ rfl hp1) rfl ?_
    exact ⟨rfl, H3.out.1.trans (hp2 _ (Nat.le_refl _))⟩
  | false =>
    rw [hr] at c1
    rw [if_neg (by decide)]
    have H := Lib.hid (And.intro c1 (And.intro (And.intro c2 c3) (And.intro hb0 hr0)))
    clear c1 c2 c3 hb0 hr0 hr
    go_enter Try.func9, Try.ntmps9
    go_wp2_with (go_at_call 19; refine (H.out.1 _).mono ?_; rintro e w1 ⟨rfl, hb⟩; have H1 := Lib.hid (And.intro (H.out.2.2.1.trans (hb.mono H.out.2.2.1.size)) (rowV_below H.out.2.2.2 hb (rowV_lt H.out.2.2.2))); clear hb; obtain ⟨c0, c1, c2, c3, f0, f1, f2, f3⟩ := ed_cells H1.out.2)
    obtain ⟨hp1, hp2⟩ := ed_put H1.out.2 ⟨⟨#[]⟩, ⟨#[]⟩, false, ⟨#[]⟩⟩
    dsimp only at hp1 hp2
    refine bodyPost_ret (results_ed2 (g := w.heap.size) (x := ⟨⟨#[]⟩, ⟨#[]⟩, false, ⟨#[]⟩⟩) rfl _ _ rfl hp1) rfl ?_
    exact ⟨rfl, H1.out.1.trans (hp2 _ (Nat.le_refl _))⟩
set_option maxRecDepth 100000 in
set_option maxHeartbeats 1600000 in
theorem rclear11_any (p : ByteArray) (hp : p.size ≤ 1000000000) (w : World) : Calls Try.prog 10 #[.string p] w fun e w' => e = .returned (.tuple #[edV11 (Ck.clear p).1, .int .i64 (Ck.clear p).2]) ∧ Below w.heap.size w w' := by
  have c1 := fun w => rright11_any p w
  have k0 : Ck.key p 0 = p ++ ⟨#[0, 0]⟩ := by unfold Ck.key; rw [show ((0 : Nat) : Int) = 0 from rfl, Ck.fix_zero]
  have k1 : Ck.key p 65535 = p ++ ⟨#[255, 255]⟩ := by unfold Ck.key; rw [show ((65535 : Nat) : Int) = 65535 from rfl, Ck.fix_last]
  have s0 : (⟨#[0, 0]⟩ : ByteArray).size = 2 := rfl
  have s1 : (⟨#[255, 255]⟩ : ByteArray).size = 2 := rfl
  obtain ⟨hb0, hr0⟩ := ed_box11 w ⟨⟨#[]⟩, ⟨#[]⟩, false, ⟨#[]⟩⟩
  unfold Ck.clear
  rw [k0, k1]
  clear k0 k1
  cases hr : Ck.rightB p with
  | true =>
    rw [hr] at c1
    rw [if_pos rfl]
    have H := Lib.hid (And.intro c1 (And.intro trivial (And.intro hb0 hr0)))
    clear c1  hb0 hr0 hr
    go_enter Try.func10, Try.ntmps10
    go_wp2_with (go_at_call 21; refine (H.out.1 _).mono ?_; rintro e w1 ⟨rfl, hb⟩; have H1 := Lib.hid (And.intro (H.out.2.2.1.trans (hb.mono H.out.2.2.1.size)) (rowV_below H.out.2.2.2 hb (rowV_lt H.out.2.2.2))); clear hb; obtain ⟨c0, c1, c2, c3, f0, f1, f2, f3⟩ := ed_cells H1.out.2)
    obtain ⟨hp1, hp2⟩ := ed_put H1.out.2 ⟨p ++ ⟨#[0, 0]⟩, ⟨#[]⟩, true, p ++ ⟨#[255, 255]⟩⟩
    dsimp only at hp1 hp2
    refine bodyPost_ret (results_ed2 (g := w.heap.size) (x := ⟨p ++ ⟨#[0, 0]⟩, ⟨#[]⟩, true, p ++ ⟨#[255, 255]⟩⟩) rfl _ _ rfl hp1) rfl ?_
    exact ⟨rfl, H1.out.1.trans (hp2 _ (Nat.le_refl _))⟩
  | false =>
    rw [hr] at c1
    rw [if_neg (by decide)]
    have H := Lib.hid (And.intro c1 (And.intro trivial (And.intro hb0 hr0)))
    clear c1  hb0 hr0 hr
    go_enter Try.func10, Try.ntmps10
    go_wp2_with (go_at_call 21; refine (H.out.1 _).mono ?_; rintro e w1 ⟨rfl, hb⟩; have H1 := Lib.hid (And.intro (H.out.2.2.1.trans (hb.mono H.out.2.2.1.size)) (rowV_below H.out.2.2.2 hb (rowV_lt H.out.2.2.2))); clear hb; obtain ⟨c0, c1, c2, c3, f0, f1, f2, f3⟩ := ed_cells H1.out.2)
    obtain ⟨hp1, hp2⟩ := ed_put H1.out.2 ⟨⟨#[]⟩, ⟨#[]⟩, false, ⟨#[]⟩⟩
    dsimp only at hp1 hp2
    refine bodyPost_ret (results_ed2 (g := w.heap.size) (x := ⟨⟨#[]⟩, ⟨#[]⟩, false, ⟨#[]⟩⟩) rfl _ _ rfl hp1) rfl ?_
    exact ⟨rfl, H1.out.1.trans (hp2 _ (Nat.le_refl _))⟩
end Go.Proofs.Ytlhhecomjhfhjaa
