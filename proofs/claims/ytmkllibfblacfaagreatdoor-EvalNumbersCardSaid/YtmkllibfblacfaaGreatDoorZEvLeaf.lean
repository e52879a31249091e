/-
  Layer 16, the program's: small calls: errors handed up, truths, kinds that go together.
-/
import Derived.Test.YtmkllibfblacfaaGreatDoorZEvMath
import Derived.Test.YtmkllibfblacfaaGreatDoorPk3
import Derived.Test.YtmkllibfblacfaaGreatDoorPk2
import Derived.BigQuiet
namespace Go.Proofs.YtmkllibfblacfaaGreatDoor
open Go.RowKit
open Vl (V)
theorem below_more16 {N : Nat} {w w1 w2 : World} (hN : w.heap.size = N) (h : Below N w w1) (h2 : Below w1.heap.size w1 w2) : Below N w w2 := by
  subst hN
  exact h.trans (h2.mono h.size)
/-- an error that is handed up -/
abbrev pan16 (e : Int) : Ending := .panicked [{ v := .iface 22 (.int .i64 e), recovered := false }]
/-- a value, or an error that is handed up -/
def EvE (r : V × Int) (w : World) (e : Ending) (w' : World) : Prop := Below w.heap.size w w' ∧ ((r.2 = 0 ∧ e = .returned (valV r.1)) ∨ (r.2 ≠ 0 ∧ e = pan16 r.2))
theorem results_v16 {fn : Func} {p : Tmp} (h : fn.results = #[.cell p 31]) (tmps : Array Value) (w : World) (g : Nat) (v : V)
    (hp : tmps.getD p undef = .pointer (some ⟨g, 0, none⟩)) (hg : RowV w g 31 (valC v).toList) :
    (results fn tmps).run Tryz.prog w = .ok (valV v) w := by
  have hl := run_loadVar_row (P := Tryz.prog) w g 31 31 (valC v) (0, 0) _ hg Tryz.underlying31 rfl info_val
  rw [results_cell_one14 h, hp]
  simp only [asAddr, Sem.run_pure, Result.andThen]
  rw [hl]
set_option maxRecDepth 100000 in
theorem must16_ok (w : World) : Calls Tryz.prog 158 #[.int .i64 0] w fun e w' => e = .returned (.tuple #[]) ∧ w' = w := by
  go_enter Tryz.func158, Tryz.ntmps158
  go_wp2_with fail
  go_end0
  exact ⟨rfl, rfl⟩
set_option maxRecDepth 100000 in
theorem must16_pan (k : Int) (hk : k ≠ 0) (w : World) : Calls Tryz.prog 158 #[.int .i64 k] w fun e w' => e = pan16 k ∧ w' = w := by
  have h1 : (k != 0) = true := by simpa using hk
  go_enter Tryz.func158, Tryz.ntmps158
  go_wp2_with fail
  exact ⟨rfl, rfl, rfl⟩
set_option maxRecDepth 100000 in
theorem truth16_any (b : Bool) (w : World) : Calls Tryz.prog 100 #[.bool b] w fun e w' => e = .returned (valV (Ev.truth b)) ∧ Below w.heap.size w w' := by
  have hb : Below w.heap.size w (w.alloc (.cells (valC (Ev.truth b)) 31)) := (Below.refl _ _).alloc (Nat.le_refl _) _
  cases b with
  | true =>
    have h1 := val_new (Ev.truth true) w
    have hr := rowV_alloc h1.1 (.cells (valC (Ev.truth true)) 31)
    have hb2 := hb.alloc (show w.heap.size ≤ (w.alloc (.cells (valC (Ev.truth true)) 31)).heap.size by simp) (.cells (valC (Ev.truth true)) 31)
    go_enter Tryz.func100, Tryz.ntmps100
    go_wp2_with fail
    exact bodyPost_ret (v := valV (Ev.truth true)) (results_v16 (p := 2) rfl _ _ w.heap.size (Ev.truth true) rfl hr) rfl ⟨rfl, hb2⟩
  | false =>
    have h1 := val_new (Ev.truth false) w
    have hr := rowV_alloc h1.1 (.cells (valC (Ev.truth false)) 31)
    have hb2 := hb.alloc (show w.heap.size ≤ (w.alloc (.cells (valC (Ev.truth false)) 31)).heap.size by simp) (.cells (valC (Ev.truth false)) 31)
    go_enter Tryz.func100, Tryz.ntmps100
    go_wp2_with fail
    exact bodyPost_ret (v := valV (Ev.truth false)) (results_v16 (p := 2) rfl _ _ w.heap.size (Ev.truth false) rfl hr) rfl ⟨rfl, hb2⟩
set_option maxRecDepth 100000 in
set_option maxHeartbeats 3200000 in
theorem takes16_any (op k : Int) (w : World) : Calls Tryz.prog 132 #[.int .i64 op, .int .i64 k] w fun e w' => e = .returned (.bool (Ev.takes op k)) ∧ w' = w := by
  by_cases h0 : k = 0
  · subst h0
    have e : Ev.takes op 0 = true := if_pos rfl
    rw [e]
    go_enter Tryz.func132, Tryz.ntmps132
    go_wp2_with fail
    go_ret
    exact ⟨rfl, rfl⟩
  have t0 : (k == 0) = false := by simpa using h0
  have k3 : (k != 3) = !decide (k = 3) := by by_cases h : k = 3 <;> simp [h]
  have k3e : (k == 3) = decide (k = 3) := by by_cases h : k = 3 <;> simp [h]
  have k1e : (k == 1) = decide (k = 1) := by by_cases h : k = 1 <;> simp [h]
  by_cases c8 : op = 8 ∨ op = 9
  · have e : Ev.takes op k = true := by unfold Ev.takes; rw [if_neg h0, if_pos c8]
    rw [e]
    clear k3 k3e k1e
    rcases c8 with rfl | rfl <;>
    · go_enter Tryz.func132, Tryz.ntmps132
      go_wp2_with fail
      go_ret
      exact ⟨rfl, rfl⟩
  by_cases c4 : op = 4 ∨ op = 10 ∨ op = 11 ∨ op = 12 ∨ op = 13
  · have e : Ev.takes op k = !decide (k = 3) := by unfold Ev.takes; rw [if_neg h0, if_neg c8, if_pos c4]
    rw [e]
    have HK := Lib.hid k3
    clear k3e k1e c8 k3
    rcases c4 with rfl | rfl | rfl | rfl | rfl <;>
    · go_enter Tryz.func132, Tryz.ntmps132
      go_wp2_with fail
      go_ret
      exact ⟨ret_bool HK.out, rfl⟩
  by_cases c14 : op = 14 ∨ op = 15 ∨ op = 16
  · have e : Ev.takes op k = decide (k = 3) := by unfold Ev.takes; rw [if_neg h0, if_neg c8, if_neg c4, if_pos c14]
    rw [e]
    have HK := Lib.hid k3e
    clear k3 k1e c8 c4 k3e
    rcases c14 with rfl | rfl | rfl <;>
    · go_enter Tryz.func132, Tryz.ntmps132
      go_wp2_with fail
      go_ret
      exact ⟨ret_bool HK.out, rfl⟩
  have e : Ev.takes op k = decide (k = 1) := by unfold Ev.takes; rw [if_neg h0, if_neg c8, if_neg c4, if_neg c14]
  rw [e]
  have t4 : (op == 4) = false := by simp; omega
  have t8 : (op == 8) = false := by simp; omega
  have t9 : (op == 9) = false := by simp; omega
  have t10 : (op == 10) = false := by simp; omega
  have t11 : (op == 11) = false := by simp; omega
  have t12 : (op == 12) = false := by simp; omega
  have t13 : (op == 13) = false := by simp; omega
  have t14 : (op == 14) = false := by simp; omega
  have t15 : (op == 15) = false := by simp; omega
  have t16 : (op == 16) = false := by simp; omega
  have HK := Lib.hid k1e
  clear k3 k3e c8 c4 c14 k1e
  go_enter Tryz.func132, Tryz.ntmps132
  go_wp2_with fail
  go_ret
  exact ⟨ret_bool HK.out, rfl⟩
theorem readsV_below16 {w w' : World} {al : Option Addr} {L : List V} (h : ReadsV w al L) (hb : Below w.heap.size w w') : ReadsV w' al L := fun i hi => by
  obtain ⟨b, off, e, h0, h1, h2⟩ := h i hi
  exact ⟨b, off, e, (hb.cell (World.block_lt_of_cell? _ _ h0)).trans h0, (hb.cell (World.block_lt_of_cell? _ _ h1)).trans h1, (hb.cell (World.block_lt_of_cell? _ _ h2)).trans h2⟩
/-- the kind that an op's parts have together -/
def SharedP (op : Int) (L : List V) (w : World) (e : Ending) (w' : World) : Prop := Below w.heap.size w w' ∧ ((∃ k, Ev.shared op L = some k ∧ e = .returned (.int .i64 k)) ∨ (Ev.shared op L = none ∧ e = pan16 14))
theorem Ev.shk_drop {L : List V} {k : Nat} (h : k < L.length) (q : Int) : Ev.shk (L.drop k) q = if L[k].kind = 0 then Ev.shk (L.drop (k + 1)) q else if q = 0 then Ev.shk (L.drop (k + 1)) L[k].kind else if q = L[k].kind then Ev.shk (L.drop (k + 1)) q else none := by
  rw [List.drop_eq_getElem_cons h, Ev.shk]
set_option maxRecDepth 100000 in
set_option maxHeartbeats 6400000 in
theorem shared16_any (op : Int) (L : List V) (al : Option Addr) (n cap : Nat) (hn : L.length = n) (hl : n ≤ 1000000) (w : World) (hR : ReadsV w al L) : Calls Tryz.prog 99 #[.int .i64 op, .slice al n cap] w (SharedP op L w) := by
  have HR := Lib.hid (And.intro hR hn)
  clear hR hn
  have cT := fun k wx => takes16_any op k wx
  have HT := Lib.hid cT
  clear cT
  go_enter Tryz.func99, Tryz.ntmps99
  go_wp2_with fail
  go_loopw [5, 10] (fun v i wr => ∃ (k : Nat) (q : Int), i = .int .i64 (k : Int) ∧ v = .int .i64 q ∧ k ≤ n ∧ Hid (Ev.shk L 0 = Ev.shk (L.drop k) q) ∧ Hid (Below w.heap.size w wr)) (fun _ i _ => n - (intOf i).toNat)
  case atStart => exact ⟨0, 0, rfl, rfl, Nat.zero_le _, Lib.hid rfl, Lib.hid (Below.refl _ _)⟩
  case round =>
    obtain ⟨k, q, rfl, rfl, hk, HK, HB⟩ := hrel
    by_cases hlt : k < n
    · have hlt2 : k < L.length := by rw [HR.out.2]; exact hlt
      obtain ⟨b, off, rfl, c0, c1, c2⟩ := readsV_below16 HR.out.1 HB.out k hlt2
      have hb1 := (val_new L[k] wr).2.1
      have HB1 := Lib.hid (HB.out.trans (hb1.mono HB.out.size))
      have HD := Lib.hid (Ev.shk_drop hlt2 q)
      clear hb1
      generalize L[k] = y at *
      obtain ⟨yk, yn, ys⟩ := y
      dsimp only at c0 c1 c2 HD
      by_cases h0 : yk = 0
      · have HN : Hid (Ev.shk L 0 = Ev.shk (L.drop (k + 1)) q) := Lib.hid (by rw [HK.out, HD.out, if_pos h0])
        subst h0
        go_wp2_with fail
        go_roundw
        case rel => exact ⟨k + 1, q, by go_num, rfl, by omega, HN, HB1⟩
        case measure => simp only [intOf]; omega
      · have t0 : (yk == 0) = false := by simpa using h0
        by_cases h1 : q = 0
        · have HN : Hid (Ev.shk L 0 = Ev.shk (L.drop (k + 1)) yk) := Lib.hid (by rw [HK.out, HD.out, if_neg h0, if_pos h1])
          subst h1
          go_wp2_with fail
          go_roundw
          case rel => exact ⟨k + 1, yk, by go_num, rfl, by omega, HN, HB1⟩
          case measure => simp only [intOf]; omega
        · have t1 : (q == 0) = false := by simpa using h1
          by_cases h2 : q = yk
          · have HN : Hid (Ev.shk L 0 = Ev.shk (L.drop (k + 1)) q) := Lib.hid (by rw [HK.out, HD.out, if_neg h0, if_neg h1, if_pos h2])
            subst h2
            go_wp2_with fail
            go_roundw
            case rel => exact ⟨k + 1, q, by go_num, rfl, by omega, HN, HB1⟩
            case measure => simp only [intOf]; omega
          · have HX : Hid (Ev.shared op L = none) := Lib.hid (by
              have e : Ev.shk L 0 = none := by rw [HK.out, HD.out, if_neg h0, if_neg h1, if_neg h2]
              unfold Ev.shared; rw [e])
            have t2 : (q != yk) = true := by simpa using h2
            go_wp2_with fail
            exact ⟨rfl, HB1.out, .inr ⟨HX.out, rfl⟩⟩
    · obtain rfl : k = n := by omega
      have HE : Hid (Ev.shk L 0 = some q) := Lib.hid (by rw [HK.out, List.drop_eq_nil_of_le (by have := HR.out.2; omega), Ev.shk])
      cases hT : Ev.takes op q with
      | true =>
        have HX : Hid (Ev.shared op L = some q) := Lib.hid (by unfold Ev.shared; rw [HE.out]; exact if_pos hT)
        have HC := Lib.hid (HT.out q)
        rw [hT] at HC
        go_wp2_with fail
        refine (HC.out _).mono ?_
        rintro e w1 ⟨rfl, rfl⟩
        go_wp2_with fail
        go_ret
        exact ⟨HB.out, .inl ⟨q, HX.out, rfl⟩⟩
      | false =>
        have HX : Hid (Ev.shared op L = none) := Lib.hid (by unfold Ev.shared; rw [HE.out]; exact if_neg (by rw [hT]; decide))
        have HC := Lib.hid (HT.out q)
        rw [hT] at HC
        go_wp2_with fail
        refine (HC.out _).mono ?_
        rintro e w1 ⟨rfl, rfl⟩
        go_wp2_with fail
        exact ⟨rfl, HB.out, .inr ⟨HX.out, rfl⟩⟩
end Go.Proofs.YtmkllibfblacfaaGreatDoor
