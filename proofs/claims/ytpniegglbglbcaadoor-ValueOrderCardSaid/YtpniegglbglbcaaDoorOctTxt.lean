/-
  Layer 1: what TakeText answers (the program's and the document's).
-/
import Derived.Test.YtpniegglbglbcaaDoorOctTake
import Derived.Test.YtpniegglbglbcaaDoorOctMath3
namespace Go.Proofs.YtpniegglbglbcaaDoor
open Go.RowKit

theorem ret3c {a e : Int} {r : ByteArray} {t : Int × ByteArray × Int} (h : t = (a, r, e)) :
    Ending.returned (.tuple #[.int .i64 a, .string r, .int .i64 e]) = .returned (.tuple #[.int .i64 t.1, .string t.2.1, .int .i64 t.2.2]) := by rw [h]
theorem ret3t {a r : ByteArray} {e : Int} {t : ByteArray × ByteArray × Int} (h : t = (a, r, e)) :
    Ending.returned (.tuple #[.string a, .string r, .int .i64 e]) = .returned (.tuple #[.string t.1, .string t.2.1, .int .i64 t.2.2]) := by rw [h]

set_option maxRecDepth 100000 in
set_option maxHeartbeats 800000 in
theorem takeCount_any (s : ByteArray) (lim : Int) (w : World) (hs : s.size ≤ maxLen) :
    Calls Tryd.prog 64 #[.string s, .int .i64 lim] w fun e w' => e = .returned (.tuple #[.int .i64 (Oct.cnt3 s lim).1, .string (Oct.cnt3 s lim).2.1, .int .i64 (Oct.cnt3 s lim).2.2]) ∧ ∃ n, w' = w.drewN n := by
  rcases Oct.t_cases s with ⟨e1, e2, e3 | e3⟩ | ⟨n, r, h1, h2, h3, e1, e2, e3, e4⟩
  · have E := Lib.hid (And.intro e1 (And.intro e2 e3))
    have F := Lib.hid (Oct.cnt3_err (lim := lim) 3 e3 (by decide)); clear e1 e2 e3
    go_enter Tryd.func64, Tryd.ntmps64
    go_wp2_with fail
    refine (takeNum_any s _ hs).mono ?_
    rintro e w1 ⟨he, nd, rfl⟩
    rw [E.out.1, E.out.2.1, E.out.2.2] at he
    subst he
    go_wp2_with fail
    go_ret3
    exact ⟨ret3c F.out, nd, rfl⟩
  · have E := Lib.hid (And.intro e1 (And.intro e2 e3))
    have F := Lib.hid (Oct.cnt3_err (lim := lim) 4 e3 (by decide)); clear e1 e2 e3
    go_enter Tryd.func64, Tryd.ntmps64
    go_wp2_with fail
    refine (takeNum_any s _ hs).mono ?_
    rintro e w1 ⟨he, nd, rfl⟩
    rw [E.out.1, E.out.2.1, E.out.2.2] at he
    subst he
    go_wp2_with fail
    go_ret3
    exact ⟨ret3c F.out, nd, rfl⟩
  · have E := Lib.hid (And.intro e1 (And.intro e2 e3))
    have F1 : Hid (n < 0 → Oct.cnt3 s lim = (0, ⟨#[]⟩, 4)) := Lib.hid fun h0 => Oct.cnt3_neg e3 e1 h0
    have F2 : Hid (¬ n < 0 → lim < n → Oct.cnt3 s lim = (0, ⟨#[]⟩, 5)) := Lib.hid fun h0 hl => Oct.cnt3_big e3 e1 h0 hl
    have F3 : Hid (¬ n < 0 → ¬ lim < n → Oct.cnt3 s lim = (n, r, 0)) := Lib.hid fun h0 hl => Oct.cnt3_ok e3 e1 e2 h0 hl
    clear e1 e2 e3 e4
    by_cases h0 : n < 0
    · go_enter Tryd.func64, Tryd.ntmps64
      go_wp2_with fail
      refine (takeNum_any s _ hs).mono ?_
      rintro e w1 ⟨he, nd, rfl⟩
      rw [E.out.1, E.out.2.1, E.out.2.2] at he
      subst he
      go_wp2_with fail
      go_ret3
      exact ⟨ret3c (F1.out h0), nd, rfl⟩
    · by_cases hl : lim < n
      all_goals
        go_enter Tryd.func64, Tryd.ntmps64
        go_wp2_with fail
        refine (takeNum_any s _ hs).mono ?_
        rintro e w1 ⟨he, nd, rfl⟩
        rw [E.out.1, E.out.2.1, E.out.2.2] at he
        subst he
        go_wp2_with fail
        go_ret3
        exact ⟨ret3c (by first | exact F2.out h0 hl | exact F3.out h0 hl), nd, rfl⟩

set_option maxRecDepth 100000 in
set_option maxHeartbeats 800000 in
theorem takeText_any (s : ByteArray) (most : Int) (w : World) (hs : s.size ≤ maxLen) :
    Calls Tryd.prog 52 #[.string s, .int .i64 most] w fun e w' => e = .returned (.tuple #[.string (Oct.txt s most).1, .string (Oct.txt s most).2.1, .int .i64 (Oct.txt s most).2.2]) ∧ ∃ n, w' = w.drewN n := by
  rcases Oct.cnt3_cases s most with ⟨e, he, h⟩ | ⟨n, r, h1, h2, h3, h, _⟩
  · have E := Lib.hid h
    have F := Lib.hid (Oct.txt_err he h)
    have ht : (e != 0) = true := by simpa using he
    clear h he
    go_enter Tryd.func52, Tryd.ntmps52
    go_wp2_with fail
    refine (takeCount_any s most _ hs).mono ?_
    rintro e w1 ⟨he, nd, rfl⟩
    rw [E.out] at he
    subst he
    go_wp2_with fail
    go_ret3
    exact ⟨ret3t F.out, nd, rfl⟩
  · have hs' := hs
    unfold maxLen at hs'
    have E := Lib.hid h
    by_cases hl : r.size < n
    · have F := Lib.hid (Oct.txt_short h hl)
      clear h
      go_enter Tryd.func52, Tryd.ntmps52
      go_wp2_with fail
      refine (takeCount_any s most _ hs).mono ?_
      rintro e w1 ⟨he, nd, rfl⟩
      rw [E.out] at he
      subst he
      go_wp2_with fail
      go_ret3
      exact ⟨ret3t F.out, nd, rfl⟩
    · have F := Lib.hid (Oct.txt_ok h hl)
      clear h
      go_enter Tryd.func52, Tryd.ntmps52
      go_wp2_with fail
      refine (takeCount_any s most _ hs).mono ?_
      rintro e w1 ⟨he, nd, hw⟩
      subst hw
      rw [E.out] at he
      subst he
      go_wp2_with fail
      go_quiet (fail)
      go_wp2_with fail
      go_ret3
      exact ⟨ret3t F.out, _, World.drewN_drewN ..⟩

set_option maxRecDepth 100000 in
set_option maxHeartbeats 800000 in
theorem rtakeText_any (s : ByteArray) (most : Int) (w : World) (hs : s.size ≤ maxLen) :
    Calls Tryd.prog 37 #[.string s, .int .i64 most] w fun e w' => e = .returned (.tuple #[.string (Oct.txt s most).1, .string (Oct.txt s most).2.1, .int .i64 (Oct.txt s most).2.2]) ∧ ∃ n, w' = w.drewN n := by
  have hs' := hs
  unfold maxLen at hs'
  rcases Oct.t_cases s with ⟨e1, e2, e3 | e3⟩ | ⟨n, r, h1, h2, h3, e1, e2, e3, e4⟩
  · have E := Lib.hid (And.intro e1 (And.intro e2 e3))
    have F := Lib.hid (Oct.txt_err (by decide) (Oct.cnt3_err (lim := most) 3 e3 (by decide))); clear e1 e2 e3
    go_enter Tryd.func37, Tryd.ntmps37
    go_wp2_with fail
    refine (rtakeNum_any s _ hs).mono ?_
    rintro e w1 ⟨he, nd, rfl⟩
    rw [E.out.1, E.out.2.1, E.out.2.2] at he
    subst he
    go_wp2_with fail
    go_ret3
    exact ⟨ret3t F.out, nd, rfl⟩
  · have E := Lib.hid (And.intro e1 (And.intro e2 e3))
    have F := Lib.hid (Oct.txt_err (by decide) (Oct.cnt3_err (lim := most) 4 e3 (by decide))); clear e1 e2 e3
    go_enter Tryd.func37, Tryd.ntmps37
    go_wp2_with fail
    refine (rtakeNum_any s _ hs).mono ?_
    rintro e w1 ⟨he, nd, rfl⟩
    rw [E.out.1, E.out.2.1, E.out.2.2] at he
    subst he
    go_wp2_with fail
    go_ret3
    exact ⟨ret3t F.out, nd, rfl⟩
  · have E := Lib.hid (And.intro e1 (And.intro e2 e3))
    by_cases h0 : n < 0
    · have F := Lib.hid (Oct.txt_err (by decide) (Oct.cnt3_neg (lim := most) e3 e1 h0))
      clear e1 e2 e3 e4
      go_enter Tryd.func37, Tryd.ntmps37
      go_wp2_with fail
      refine (rtakeNum_any s _ hs).mono ?_
      rintro e w1 ⟨he, nd, rfl⟩
      rw [E.out.1, E.out.2.1, E.out.2.2] at he
      subst he
      go_wp2_with fail
      go_ret3
      exact ⟨ret3t F.out, nd, rfl⟩
    · by_cases hl : most < n
      · have F := Lib.hid (Oct.txt_err (by decide) (Oct.cnt3_big (lim := most) e3 e1 h0 hl))
        clear e1 e2 e3 e4
        go_enter Tryd.func37, Tryd.ntmps37
        go_wp2_with fail
        refine (rtakeNum_any s _ hs).mono ?_
        rintro e w1 ⟨he, nd, rfl⟩
        rw [E.out.1, E.out.2.1, E.out.2.2] at he
        subst he
        go_wp2_with fail
        go_ret3
        exact ⟨ret3t F.out, nd, rfl⟩
      · have hc := Oct.cnt3_ok (lim := most) e3 e1 e2 h0 hl
        clear e1 e2 e3 e4
        obtain ⟨m, rfl⟩ := Int.eq_ofNat_of_zero_le (show 0 ≤ n by omega)
        by_cases hr : r.size < m
        · have F := Lib.hid (Oct.txt_short hc hr)
          clear hc
          go_enter Tryd.func37, Tryd.ntmps37
          go_wp2_with fail
          refine (rtakeNum_any s _ hs).mono ?_
          rintro e w1 ⟨he, nd, rfl⟩
          rw [E.out.1, E.out.2.1, E.out.2.2] at he
          subst he
          go_wp2_with fail
          go_ret3
          exact ⟨ret3t F.out, nd, rfl⟩
        · have F := Lib.hid (Oct.txt_ok hc hr)
          clear hc
          go_enter Tryd.func37, Tryd.ntmps37
          go_wp2_with fail
          refine (rtakeNum_any s _ hs).mono ?_
          rintro e w1 ⟨he, nd, hw⟩
          subst hw
          rw [E.out.1, E.out.2.1, E.out.2.2] at he
          subst he
          go_wp2_with fail
          go_quiet (fail)
          go_wp2_with fail
          go_ret3
          exact ⟨ret3t F.out, _, World.drewN_drewN ..⟩
end Go.Proofs.YtpniegglbglbcaaDoor
