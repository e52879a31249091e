/-
  Layer 4's laws: DiskPlays, walked.
-/
import Derived.Test.YtjefmmbkkdaeiaaDskLike
import Derived.Test.YtjefmmbkkdaeiaaDskSame
namespace Go.Proofs.Ytjefmmbkkdaeiaa
open Go.RowKit
/-- the first k calls of both, done -/
def stepK (d : Dk.D) (L : List Calls3) : Nat → Dk.D
  | 0 => d
  | k + 1 => stepD (stepK d L k) (L.getD k noCall).1
theorem stepK_W (d : Dk.D) (L : List Calls3) (k : Nat) : (stepK d L k).W.length ≤ d.W.length + k := by
  induction k with
  | zero => exact Nat.le_refl _
  | succ k ih => have := stepD_W (stepK d L k) (L.getD k noCall).1; show (stepD _ _).W.length ≤ _; omega
theorem act_cells {w : World} {b o : Nat} {x : DAct} {fa : Option Addr} {fc : Nat} (h : w.rangeAt b o (actV x fa fc).toList) :
    ∃ v0 v1 v2 v3 v4, actV x fa fc = #[v0, v1, v2, v3, v4] ∧ w.cell? ⟨b, o, none⟩ = some v0 ∧ w.cell? ⟨b, o + 1, none⟩ = some v1 ∧ w.cell? ⟨b, o + 2, none⟩ = some v2 ∧ w.cell? ⟨b, o + 3, none⟩ = some v3 ∧ w.cell? ⟨b, o + 4, none⟩ = some v4 :=
  ⟨_, _, _, _, _, rfl, h 0 _ rfl, h 1 _ rfl, h 2 _ rfl, h 3 _ rfl, h 4 _ rfl⟩
theorem step_at {w0 w : World} {p q k : Nat} {d : Dk.D} {L : List Calls3} (h : Two w (fun j => j < w0.heap.size) p q (stepK d L k) (stepK d L k)) (hx : ActOk w (fun j => w0.heap.size ≤ j) (L.getD k noCall).1 (L.getD k noCall).2.1) (hW : d.W.length + k ≤ 1000000) :
    Calls Try.prog 10 #[.pointer (some ⟨p, 0, none⟩), .pointer (some ⟨q, 0, none⟩), .agg (actV (L.getD k noCall).1 (L.getD k noCall).2.1 (L.getD k noCall).2.2)] w.drew fun e w' => e = .returned (.bool true) ∧ Two w' (fun j => j < w0.heap.size) p q (stepK d L (k + 1)) (stepK d L (k + 1)) ∧ Only (fun j => ¬ j < w0.heap.size) w w' := by
  have hdr : Below w.heap.size w w.drew := (Below.refl _ w).drew
  refine (step_any (two_below h hdr) _ _ _ hx.low hx.high (readsI_below hx.reads hdr) (fun a ha hne => Nat.lt_of_not_le (hx.apart a ha hne)) (Nat.le_trans (stepK_W _ L k) hW)).mono fun e w' ⟨h1, h2, h3⟩ => ⟨h1, h2, (Only.of_none hdr).more h3⟩
/-- both disks, new -/
theorem two_new {w w1 w2 : World} {p q n : Nat} (hd : DiskAtL w1 (fun k => w.heap.size ≤ k) (fun k => w.heap.size ≤ k) p (Dk.new n)) (hb : Below w.heap.size w w1) (hr : RefAt w2 (fun k => w1.heap.size ≤ k) q (Dk.new n)) (hb2 : Below w1.heap.size w1 w2) : Two w2 (fun j => j < w.heap.size) p q (Dk.new n) (Dk.new n) := by
  have ho : Only (fun _ => False) w1 w2 := Only.of_none hb2
  have hz := hb.size
  have hz2 := hb2.size
  have hd1 : DiskAtL w1 (fun k => w.heap.size ≤ k ∧ k < w1.heap.size) (fun k => w.heap.size ≤ k ∧ k < w1.heap.size) p (Dk.new n) := diskAtL_mono hd (fun k hk h => ⟨h, hk⟩) (fun k hk h => ⟨h, hk⟩)
  exact ⟨fun k => w.heap.size ≤ k ∧ k < w1.heap.size, fun k => w1.heap.size ≤ k ∧ k < w2.heap.size, diskAtL_only hd1 ho (fun _ _ h => h) (fun _ _ h => h), refAt_mono hr (fun k hk h => ⟨h, hk⟩), fun k h1 h2 => by omega, fun k h => ⟨by omega, by omega⟩, fun k h => ⟨by omega, by omega⟩, fun k h => by omega⟩

set_option maxRecDepth 100000 in
set_option maxHeartbeats 800000 in
theorem plays_in (n : Nat) (L : List Calls3) (la : Option Addr) (lc : Nat) (w : World) (hL : ReadsA w la L) (n1 : 1 ≤ n) (n20 : n ≤ 20) (l40 : L.length ≤ 40) :
    Calls Try.prog 3 #[.int .i64 (n : Int), .slice la L.length lc] w fun e w' => e = .returned (.bool true) ∧ Below w.heap.size w w' := by
  have HH := Lib.hid (And.intro hL True.intro); clear hL
  have b1 : (n : Int) ≤ 20 := by omega
  have b2 : (L.length : Int) ≤ 40 := by omega
  go_enter Try.func3, Try.ntmps3
  go_wp2_with fail
  refine (newL_any (n : Int) w).mono ?_
  rintro e w1 (⟨h0, _⟩ | ⟨_, _, p, rfl, hd, hb⟩)
  · exact absurd ⟨by omega, by omega⟩ h0
  have H1 := Lib.hid (And.intro hd hb); clear hd hb
  go_wp2_with fail
  refine (rnew_any (n : Int) w1).mono ?_
  rintro e w2 (⟨h0, _⟩ | ⟨_, _, q, rfl, hr, hb2⟩)
  · exact absurd ⟨by omega, by omega⟩ h0
  have hen : ((n : Int)).toNat = n := by omega
  rw [hen] at hr
  have hd1 := H1.out.1
  rw [hen] at hd1
  have H2 := Lib.hid (And.intro (two_new hd1 H1.out.2 hr hb2) (H1.out.2.trans (hb2.mono H1.out.2.size))); clear hr hb2 hd1 hen
  go_wp2_with fail
  go_loopw [9] (fun i wr => ∃ k : Nat, k ≤ L.length ∧ i = .int .i64 (k : Int) ∧ Hid (Two wr (fun j => j < w.heap.size) p q (stepK (Dk.new n) L k) (stepK (Dk.new n) L k)) ∧ Hid (Below w.heap.size w wr))
    (fun i _ => L.length - (intOf i).toNat)
  case atStart => exact ⟨0, by omega, rfl, Lib.hid H2.out.1, Lib.hid H2.out.2⟩
  case round =>
    obtain ⟨k, hk, rfl, HD, HB⟩ := hrel
    by_cases hlt : k < L.length
    · obtain ⟨b, off, rfl, hrng, hok⟩ := call_at HH.out.1 HB.out k hlt
      have hst := step_at (w0 := w) HD.out (hok (fun j => w.heap.size ≤ j) (fun j hj => hj)) (by show 0 + k ≤ 1000000; omega)
      obtain ⟨v0, v1, v2, v3, v4, hv, a0, a1, a2, a3, a4⟩ := act_cells hrng
      rw [hv] at hst
      have HST := Lib.hid hst
      clear hst hok hrng hv
      generalize hDe : stepK (Dk.new n) L (k + 1) = D at *
      have HDe := Lib.hid hDe
      clear hDe
      go_wp2_with fail
      go_region_with (first
        | (go_at_call 10; refine HST.out.mono ?_; rintro e w5 ⟨rfl, h5, ho5⟩; obtain ⟨lb, cb, lw, cw, c0, c1⟩ := two_cells h5)
        | (go_at_call 11; refine (two_loose h5).mono ?_; rintro e w6 ⟨rfl, hw6⟩; obtain rfl := hw6.symm; clear hw6))
      all_goals
        have H5 := Lib.hid (And.intro h5 (HB.out.trans (ho5.below (fun _ _ h => Nat.le_of_not_lt h) HB.out.size)))
        clear h5 ho5 c0 c1 a0 a1 a2 a3 a4
        go_wp2_with fail
        go_roundw
        case rel => exact ⟨k + 1, by omega, by go_num, Lib.hid (by rw [HDe.out]; exact H5.out.1), Lib.hid H5.out.2⟩
        case measure => simp [intOf]; omega
    · obtain rfl : k = L.length := by omega
      have hlk := like_any HD.out (Nat.le_trans (stepK_W _ L L.length) (by show 0 + L.length ≤ 1000000; omega))
      have HLK := Lib.hid hlk
      clear hlk
      go_wp2_with fail
      refine HLK.out.mono ?_
      rintro e w6 ⟨rfl, _, hb6⟩
      have H6 := Lib.hid (HB.out.trans (hb6.mono HB.out.size)); clear hb6
      go_wp2_with fail
      refine (lives_any w6).mono ?_
      rintro e w7 ⟨rfl, hb7⟩
      have H7 := Lib.hid (H6.out.trans (hb7.mono H6.out.size)); clear hb7
      go_wp2_with fail
      go_ret
      exact ⟨rfl, H7.out⟩

set_option maxRecDepth 100000 in
set_option maxHeartbeats 800000 in
theorem plays_out (n : Int) (L : List Calls3) (la : Option Addr) (lc : Nat) (w : World) (hn : n < 1 ∨ 4096 < n) (l40 : L.length ≤ 40) :
    Calls Try.prog 3 #[.int .i64 n, .slice la L.length lc] w fun e w' => e = .returned (.bool true) ∧ Below w.heap.size w w' := by
  have b2 : (L.length : Int) ≤ 40 := by omega
  have hg : (20 < n ∧ n ≤ 4096) → False := by omega
  go_enter Try.func3, Try.ntmps3
  by_cases h20 : 20 < n
  · have h4 : 4096 < n := by omega
    have h4' : ¬ n ≤ 4096 := by omega
    go_wp2_with fail
    refine (newL_any n w).mono ?_
    rintro e w1 (⟨_, rfl, hw1⟩ | ⟨h1, h2, _⟩)
    · obtain rfl := hw1.symm; clear hw1
      go_wp2_with fail
      refine (rnew_any n w).mono ?_
      rintro e w1 (⟨_, rfl, hw1⟩ | ⟨h1, h2, _⟩)
      · obtain rfl := hw1.symm; clear hw1
        go_wp2_with fail
        go_loop [9] (fun i => i = .int .i64 0) (fun _ => 0)
        case atStart => rfl
        case round =>
          subst hrel
          by_cases hl0 : 0 < L.length
          · go_wp2_with fail
            refine (lives_any w).mono ?_
            rintro e w7 ⟨rfl, hb7⟩
            have H7 := Lib.hid hb7; clear hb7
            go_wp2_with fail
            go_ret
            exact ⟨rfl, H7.out⟩
          · obtain hl1 : L.length = 0 := by omega
            go_wp2_with fail
            refine (lives_any w).mono ?_
            rintro e w7 ⟨rfl, hb7⟩
            have H7 := Lib.hid hb7; clear hb7
            go_wp2_with fail
            go_ret
            exact ⟨rfl, H7.out⟩
      · omega
    · omega
  · have h4 : n < 1 := by omega
    go_wp2_with fail
    refine (newL_any n w).mono ?_
    rintro e w1 (⟨_, rfl, hw1⟩ | ⟨h1, h2, _⟩)
    · obtain rfl := hw1.symm; clear hw1
      go_wp2_with fail
      refine (rnew_any n w).mono ?_
      rintro e w1 (⟨_, rfl, hw1⟩ | ⟨h1, h2, _⟩)
      · obtain rfl := hw1.symm; clear hw1
        go_wp2_with fail
        go_loop [9] (fun i => i = .int .i64 0) (fun _ => 0)
        case atStart => rfl
        case round =>
          subst hrel
          by_cases hl0 : 0 < L.length
          · go_wp2_with fail
            refine (lives_any w).mono ?_
            rintro e w7 ⟨rfl, hb7⟩
            have H7 := Lib.hid hb7; clear hb7
            go_wp2_with fail
            go_ret
            exact ⟨rfl, H7.out⟩
          · obtain hl1 : L.length = 0 := by omega
            go_wp2_with fail
            refine (lives_any w).mono ?_
            rintro e w7 ⟨rfl, hb7⟩
            have H7 := Lib.hid hb7; clear hb7
            go_wp2_with fail
            go_ret
            exact ⟨rfl, H7.out⟩
      · omega
    · omega

set_option maxRecDepth 100000 in
set_option maxHeartbeats 800000 in
theorem plays_far (n : Int) (L : List Calls3) (la : Option Addr) (lc : Nat) (w : World) (hn : (20 < n ∧ n ≤ 4096) ∨ 40 < L.length) :
    Calls Try.prog 3 #[.int .i64 n, .slice la L.length lc] w fun e w' => e = .returned (.bool true) ∧ Below w.heap.size w w' := by
  go_enter Try.func3, Try.ntmps3
  by_cases h20 : 20 < n
  · by_cases h4 : n ≤ 4096
    · go_wp2_with fail
      refine (lives_any w).mono ?_
      rintro e w7 ⟨rfl, hb7⟩
      have H7 := Lib.hid hb7; clear hb7
      go_wp2_with fail
      go_ret
      exact ⟨rfl, H7.out⟩
    · have hl : (40 : Int) < (L.length : Int) := by omega
      go_wp2_with fail
      refine (lives_any w).mono ?_
      rintro e w7 ⟨rfl, hb7⟩
      have H7 := Lib.hid hb7; clear hb7
      go_wp2_with fail
      go_ret
      exact ⟨rfl, H7.out⟩
  · have hl : (40 : Int) < (L.length : Int) := by omega
    go_wp2_with fail
    refine (lives_any w).mono ?_
    rintro e w7 ⟨rfl, hb7⟩
    have H7 := Lib.hid hb7; clear hb7
    go_wp2_with fail
    go_ret
    exact ⟨rfl, H7.out⟩
theorem DiskPlays_walk (n : Int) (L : List Calls3) (la : Option Addr) (lc : Nat) (_w0 : (Lit.int .i64 n).wf = true) (_hm : L.length ≤ maxLen) (w : World) (hr : ReadsA w la L) :
    Calls Try.prog 3 #[.int .i64 n, .slice la L.length lc] w fun e w' => e = .returned (.bool true) ∧ Below w.heap.size w w' := by
  by_cases h1 : (20 < n ∧ n ≤ 4096) ∨ 40 < L.length
  · exact plays_far n L la lc w h1
  · by_cases h2 : n < 1 ∨ 4096 < n
    · exact plays_out n L la lc w h2 (by omega)
    · obtain ⟨m, rfl⟩ : ∃ m : Nat, n = (m : Int) := ⟨n.toNat, by omega⟩
      exact plays_in m L la lc w hr (by omega) (by omega) (by omega)
end Go.Proofs.Ytjefmmbkkdaeiaa
