/-
  Layer 16, the program's: a part's value by its own parts'; which part an if picks; is a row's value not right?
-/
import Derived.Test.YtmkllibfblacfaaGreatDoorZEvName
namespace Go.Proofs.YtmkllibfblacfaaGreatDoor
open Go.RowKit Go.Shelf
open Vl (V)
open Sx (X)
attribute [local go_sem] Oper.semAt_some
set_option maxRecDepth 100000 in
theorem wrong16_fn (v : V) (w : World) : Calls Tryz.prog 29 #[valV v] w fun e w' => e = .returned (.bool (!decide (Vl.right v))) ∧ Below w.heap.size w w' := by
  have hb1 := (val_new v w).2.1
  have HC := Lib.hid (And.intro hb1 (check12_any v (w.alloc (.cells (valC v) 31))))
  clear hb1
  by_cases hr : Vl.right v
  · rw [checkE_ok hr] at HC
    rw [decide_eq_true hr]
    go_enter Tryz.func29, Tryz.ntmps29
    go_wp2_with fail
    refine HC.out.2.mono ?_
    rintro e w1 ⟨rfl, hb⟩
    have H1 := Lib.hid (HC.out.1.trans (hb.mono HC.out.1.size))
    clear hb
    go_wp2_with fail
    go_ret
    exact ⟨rfl, H1.out⟩
  · rw [checkE_bad hr] at HC
    rw [decide_eq_false hr]
    go_enter Tryz.func29, Tryz.ntmps29
    go_wp2_with fail
    refine HC.out.2.mono ?_
    rintro e w1 ⟨rfl, hb⟩
    have H1 := Lib.hid (HC.out.1.trans (hb.mono HC.out.1.size))
    clear hb
    go_wp2_with fail
    go_ret
    exact ⟨rfl, H1.out⟩
/-- is one of a row not right? -/
def badRow (R : List V) : Bool := R.any fun v => !decide (Vl.right v)
def IxW (R : List V) (w : World) (e : Ending) (w' : World) : Prop := ∃ r : Int, e = .returned (.int .i64 r) ∧ decide (r ≥ 0) = badRow R ∧ Below w.heap.size w w'
theorem ixW_yes {R : List V} {k : Nat} (hk : k < R.length) (h : ¬ Vl.right R[k]) : decide ((k : Int) ≥ 0) = badRow R := by
  unfold badRow
  rw [decide_eq_true (by omega), eq_comm, List.any_eq_true]
  exact ⟨R[k], List.getElem_mem hk, by rw [decide_eq_false h]; rfl⟩
theorem ixW_no {R : List V} (h : ∀ j (hj : j < R.length), Vl.right R[j]) : decide ((-1 : Int) ≥ 0) = badRow R := by
  unfold badRow
  rw [decide_eq_false (by omega), eq_comm, List.any_eq_false]
  intro c hc
  obtain ⟨j, hj, e⟩ := List.mem_iff_getElem.1 hc
  rw [← e, decide_eq_true (h j hj)]; simp
set_option maxRecDepth 100000 in
set_option maxHeartbeats 3200000 in
theorem indexW16_any (R : List V) (al : Option Addr) (n cap : Nat) (hn : R.length = n) (hl : n ≤ 9223372036854775807) (w : World) (hR : ReadsV w al R) :
    Calls Tryz.prog 46 #[.slice al n cap, .func (.func 29) #[] #[]] w (IxW R w) := by
  have HR := Lib.hid (And.intro hR hn)
  clear hR hn
  go_enter Tryz.func46, Tryz.ntmps46
  go_wp2_with fail
  go_loopw [8] (fun i wr => ∃ k : Nat, i = .int .i64 (k : Int) ∧ k ≤ n ∧ Hid (∀ j (hj : j < R.length), j < k → Vl.right R[j]) ∧ Hid (Below w.heap.size w wr)) (fun i _ => n - (intOf i).toNat)
  case atStart => exact ⟨0, rfl, Nat.zero_le _, Lib.hid (fun j _ h => by omega), Lib.hid (Below.refl _ _)⟩
  case round =>
    obtain ⟨k, rfl, hk, HK, HB⟩ := hrel
    by_cases hlt : k < n
    · have hlt2 : k < R.length := by rw [HR.out.2]; exact hlt
      obtain ⟨b, off, rfl, c0, c1, c2⟩ := readsV_below16 HR.out.1 HB.out k hlt2
      have hF := wrong16_fn R[k] wr
      by_cases he : Vl.right R[k]
      · have HN : Hid (∀ j (hj : j < R.length), j < k + 1 → Vl.right R[j]) := Lib.hid (fun j hj h => by
          by_cases e : j = k
          · subst e; exact he
          · exact HK.out j hj (by omega))
        rw [decide_eq_true he] at hF
        have HF := Lib.hid hF
        clear hF he
        generalize R[k] = y at *
        obtain ⟨y1, y2, y3⟩ := y
        dsimp only at c0 c1 c2 HF
        go_wp2_with fail
        refine HF.out.mono ?_
        rintro e w1 ⟨rfl, hb1⟩
        have H1 := Lib.hid (HB.out.trans (hb1.mono HB.out.size))
        clear hb1
        go_wp2_with fail
        go_roundw
        case rel => exact ⟨k + 1, by go_num, by omega, HN, H1⟩
        case measure => simp only [intOf]; omega
      · have HN := Lib.hid (ixW_yes hlt2 he)
        rw [decide_eq_false he] at hF
        have HF := Lib.hid hF
        clear hF he
        generalize R[k] = y at *
        obtain ⟨y1, y2, y3⟩ := y
        dsimp only at c0 c1 c2 HF
        go_wp2_with fail
        refine HF.out.mono ?_
        rintro e w1 ⟨rfl, hb1⟩
        have H1 := Lib.hid (HB.out.trans (hb1.mono HB.out.size))
        clear hb1
        go_wp2_with fail
        go_ret
        exact ⟨_, rfl, HN.out, H1.out⟩
    · obtain rfl : k = n := by omega
      have HN := Lib.hid (ixW_no (R := R) (fun j hj => HK.out j hj (by have := HR.out.2; omega)))
      go_wp2_with fail
      go_ret
      exact ⟨_, rfl, HN.out, HB.out⟩
set_option maxRecDepth 100000 in
theorem containsW16_any (R : List V) (al : Option Addr) (n cap : Nat) (hn : R.length = n) (hl : n ≤ 9223372036854775807) (w : World) (hR : ReadsV w al R) :
    Calls Tryz.prog 28 #[.slice al n cap, .func (.func 29) #[] #[]] w fun e w' => e = .returned (.bool (badRow R)) ∧ Below w.heap.size w w' := by
  have HI := Lib.hid (indexW16_any R al n cap hn hl w hR)
  clear hn hR
  go_enter Tryz.func28, Tryz.ntmps28
  go_wp2_with fail
  refine HI.out.mono ?_
  rintro e w1 ⟨r, rfl, hr, hb1⟩
  have H1 := Lib.hid hb1
  clear hb1
  cases hB : badRow R with
  | true =>
    have HB := Lib.hid hB
    rw [hB] at hr
    clear hB
    go_wp2_with fail
    go_ret
    exact ⟨ret_bool HB.out.symm, H1.out⟩
  | false =>
    have HB := Lib.hid hB
    rw [hB] at hr
    clear hB
    go_wp2_with fail
    go_ret
    exact ⟨ret_bool HB.out.symm, H1.out⟩
/-- the part that an if picks -/
def PickP (b o : Nat) (v : V) (w : World) (e : Ending) (w' : World) : Prop :=
  Below w.heap.size w w' ∧ ((Ev.shared 16 [v] ≠ none ∧ e = .returned (.pointer (some ⟨b, o + Ev.pick v * 6, none⟩))) ∨ (Ev.shared 16 [v] = none ∧ e = pan16 14))
set_option maxRecDepth 100000 in
set_option maxHeartbeats 6400000 in
theorem picked16_any (b o c : Nat) (v : V) (w : World) : Calls Tryz.prog 70 #[.slice (some ⟨b, o, none⟩) 3 c, valV v] w (PickP b o v w) := by
  have h1 := val_new v w
  have h2 := val_new v (w.alloc (.cells (valC v) 31))
  rw [World.size_alloc] at h2
  have hb2 : Below w.heap.size w ((w.alloc (.cells (valC v) 31)).alloc (.cells (valC v) 31)) := h1.2.1.trans (h2.2.1.mono (Nat.le_succ _))
  have hR : ReadsV ((w.alloc (.cells (valC v) 31)).alloc (.cells (valC v) 31)) (some ⟨w.heap.size + 1, 0, none⟩) [v] := fun i hi => by
    have h : i < 1 := hi
    obtain rfl : i = 0 := by omega
    exact ⟨w.heap.size + 1, 0, rfl, rowV_cell h2.1 0, rowV_cell h2.1 1, rowV_cell h2.1 2⟩
  have HSh := Lib.hid (shared16_any 16 [v] (some ⟨w.heap.size + 1, 0, none⟩) 1 1 rfl (by omega) _ hR)
  have HT := Lib.hid fun wx => truth16_any true wx
  have hrv := rowV_alloc h1.1 (.cells (valC v) 31)
  have HB := Lib.hid (And.intro hb2 hrv)
  have eV : ∀ wx, (binOp BinOp.eql 31 (.agg #[.int .i64 v.kind, .int .i64 v.n, .string v.s]) (valV (Ev.truth true))).run Tryz.prog wx = .ok (.bool (decide (v = Ev.truth true))) wx := fun wx => eql_val v _ wx
  have hpk : Ev.pick v = if v = Ev.truth true then 1 else 2 := rfl
  have HPK := Lib.hid hpk
  clear h1 h2 hb2 hR hrv hpk
  go_enter Tryz.func70, Tryz.ntmps70
  go_wp2_with fail
  refine HSh.out.mono ?_
  rintro e w1 ⟨hb1, hh⟩
  rcases hh with ⟨k, hk, rfl⟩ | ⟨hk, rfl⟩
  · have hr1 := rowV_below HB.out.2 hb1 (rowV_lt HB.out.2)
    have H1 := Lib.hid (And.intro (HB.out.1.trans (hb1.mono HB.out.1.size)) (show Ev.shared 16 [v] ≠ none by rw [hk]; simp))
    obtain ⟨v0, v1, v2, -⟩ := val_cells hr1
    clear hb1 hr1 hk
    generalize hN : w.heap.size = N at *
    have HN := Lib.hid hN
    clear hN
    go_wp2_with fail
    refine wp_region_plan (S := fun wx => wx.cell? ⟨N, 0, none⟩ = some (.int .i64 v.kind) ∧ wx.cell? ⟨N, 1, none⟩ = some (.int .i64 v.n) ∧ wx.cell? ⟨N, 2, none⟩ = some (.string v.s) ∧ Hid (Below w1.heap.size w1 wx)) 2 [(true, 0), (false, 1)] (by kernel_rfl) (fun _ d _ _ _ h => by cases d <;> exact h) (by kernel_rfl) ⟨v0, v1, v2, Lib.hid (Below.refl w1.heap.size w1).drew⟩ ?_
    refine wpPlan_step (i := 0) rfl ⟨(valV v), ⟨by rfl, fun wx hSx => ?_⟩, ?_⟩
    · obtain ⟨v0, v1, v2, -⟩ := hSx
      go_simp
    simp only [Act.put, List.setIfInBounds_toArray, List.set_cons_zero, List.set_cons_succ]
    have HS0 : Hid (w1.drew.cell? ⟨N, 0, none⟩ = some (.int .i64 v.kind) ∧ w1.drew.cell? ⟨N, 1, none⟩ = some (.int .i64 v.n) ∧ w1.drew.cell? ⟨N, 2, none⟩ = some (.string v.s) ∧ Hid (Below w1.heap.size w1 w1.drew)) := Lib.hid ⟨v0, v1, v2, Lib.hid (Below.refl w1.heap.size w1).drew⟩
    clear v0 v1 v2
    refine wpPlan_call (i := 1) rfl (by rfl) 100 #[.bool true] (by go_simp) (HT.out _) ?_
    rintro e w5 ⟨rfl, hb⟩
    have hS : w5.cell? ⟨N, 0, none⟩ = some (.int .i64 v.kind) ∧ w5.cell? ⟨N, 1, none⟩ = some (.int .i64 v.n) ∧ w5.cell? ⟨N, 2, none⟩ = some (.string v.s) ∧ Hid (Below w1.heap.size w1 w5) := ⟨(hb.cell (World.block_lt_of_cell? _ _ HS0.out.1)).trans HS0.out.1, (hb.cell (World.block_lt_of_cell? _ _ HS0.out.2.1)).trans HS0.out.2.1, (hb.cell (World.block_lt_of_cell? _ _ HS0.out.2.2.1)).trans HS0.out.2.2.1, Lib.hid (HS0.out.2.2.2.out.trans (hb.mono HS0.out.2.2.2.out.size))⟩
    have Hw5 := Lib.hid hS
    clear hS hb
    refine .inl ⟨_, rfl, Hw5.out, ?_⟩
    simp only [Act.put, List.setIfInBounds_toArray, List.set_cons_zero, List.set_cons_succ]
    show wpList _ _ _ _ _ w5
    simp only [List.drop_succ_cons, List.drop_zero]
    have H5 := Lib.hid (And.intro (below_more16 HN.out H1.out.1 (Hw5.out.2.2.2.out)) H1.out.2)
    by_cases ht : v = Ev.truth true
    · rw [decide_eq_true ht] at eV
      rw [if_pos ht] at HPK
      clear ht
      generalize Ev.truth true = T at *
      go_wp2_with fail
      go_ret
      exact ⟨by rw [HN.out]; exact H5.out.1, .inl ⟨H5.out.2, by rw [HPK.out]; rfl⟩⟩
    · rw [decide_eq_false ht] at eV
      rw [if_neg ht] at HPK
      clear ht
      generalize Ev.truth true = T at *
      go_wp2_with fail
      go_ret
      exact ⟨by rw [HN.out]; exact H5.out.1, .inl ⟨H5.out.2, by rw [HPK.out]; rfl⟩⟩
  · have H1 := Lib.hid (And.intro (HB.out.1.trans (hb1.mono HB.out.1.size)) hk)
    clear hb1 hk
    go_wp2_with fail
    exact ⟨rfl, H1.out.1, .inr ⟨H1.out.2, rfl⟩⟩
/-- a row is no map -/
theorem scp_row {w0 : World} {sb : Nat} {al : Option Addr} {n lc : Nat} {ra : Option Addr} {rc : Nat} {L : List ColV} {w w' : World} {g T : Nat} {l : List Value} (h : Scp w0 sb al n lc ra rc L w) (hr : RowV w g T l) (hg : w0.heap.size ≤ g) (hs : g ≠ sb) (ho : Only (fun k => k = g) w w') : Scp w0 sb al n lc ra rc L w' := by
  obtain ⟨h1, h2, mo, h3, h4⟩ := h
  refine ⟨h1.trans (ho.below (fun k _ e => by have e : k = g := e; omega) h1.size), h2, mo, rowV_only h3 ho (fun e => hs e.symm), ?_⟩
  rcases h4 with h4 | ⟨mb, mn, h4, h5⟩
  · exact .inl h4
  · refine .inr ⟨mb, mn, h4, mapS_only h5 ho fun e => ?_⟩
    obtain ⟨D, ⟨es, clock, hb, -⟩, -⟩ := h5
    have e : mb = g := e
    rw [e] at hb
    have hr : w.heap[g]? = some (.cells l.toArray T) := hr
    rw [hr] at hb
    cases hb
/-- a part's value, or its error, in a scope -/
def ToldP (w0 : World) (sb : Nat) (al : Option Addr) (n lc : Nat) (ra : Option Addr) (rc : Nat) (L : List ColV) (r : V × Int) (w : World) (e : Ending) (w' : World) : Prop :=
  Scp w0 sb al n lc ra rc L w' ∧ Only (fun k => k = sb) w w' ∧ ((r.2 = 0 ∧ e = .returned (valV r.1)) ∨ (r.2 ≠ 0 ∧ e = pan16 r.2))
set_option maxRecDepth 100000 in
set_option maxHeartbeats 6400000 in
theorem told16_any {w0 : World} {sb : Nat} {al : Option Addr} {n lc : Nat} {ra : Option Addr} {rc : Nat} {L : List ColV} {R : List V} (hn : L.length = n) (hRn : R.length = n) (hl : n ≤ 100000) (hN : ∀ c ∈ L, c.name.size ≤ 1000000) (hC : ReadsC w0 al L) (hV : ReadsV w0 ra R)
    (x : X) (b o : Nat) (a : Option Addr) (c : Nat) (P : List V) (pa : Option Addr) (m pc : Nat) (hm : P.length = m) (hm2 : m ≤ 1000000) (hf : ∀ v ∈ P, Fit16 v) (hs : x.s.size ≤ 1000000) (h3 : x.op = 3 → 0 < m) (h2 : x.op ≠ 1 → x.op ≠ 2 → x.op ≠ 3 → x.op ≠ 14 → x.op ≠ 15 → 1 < m)
    (w : World) (hx : Cells6 w b o x a c) (hP : ReadsV w pa P) (hS : Scp w0 sb al n lc ra rc L w) :
    Calls Tryz.prog 71 #[.pointer (some ⟨sb, 0, none⟩), .pointer (some ⟨b, o, none⟩), .slice pa m pc] w (ToldP w0 sb al n lc ra rc L (Ev.told (Ev.env L R) x P) w) := by
  have hz := zero_box w
  have hx2 := cells6_only hx (Only.of_none (F := fun _ => False) hz.2) (fun h => h)
  have hP2 := readsV_below16 hP hz.2
  have hS2 := scp_below hS hz.2
  obtain ⟨x0, x1, x2, x3, x4, x5⟩ := hx2
  have HZ := Lib.hid hz
  have hE : Ev.told (Ev.env L R) x P = if x.op = 1 then (x.v, (0 : Int)) else if x.op = 2 then (match Ev.env L R x.s with | some v => (v, (0 : Int)) | none => (Vl.no, (13 : Int))) else Ev.done x.op P := rfl
  have HN := Lib.hid fun wx hSx => named16_any (w0 := w0) (sb := sb) (lc := lc) (rc := rc) hn hRn hl hN hC hV x.s hs wx hSx
  have HD := Lib.hid fun (h1 : x.op ≠ 1) (h2' : x.op ≠ 2) (wx : World) (hb : ReadsV wx pa P) => done16_any x.op P pa m pc hm hm2 hf h3 (h2 h1 h2') wx hb
  have HS2 := Lib.hid (And.intro hS2 hP2)
  have hS0 := Lib.hid hS
  clear hz hx hP hS hP2 hS2 hf hC hV hN
  by_cases c1 : x.op = 1
  · rw [hE, if_pos c1]
    have t1 : (x.op == 1) = true := by simpa using c1
    clear hE c1
    generalize x.v = v at *
    obtain ⟨vk, vn, vs⟩ := v
    dsimp only at x1 x2 x3
    go_enter Tryz.func71, Tryz.ntmps71
    go_wp2_with fail
    have hxn := val_new ⟨vk, vn, vs⟩ w
    exact ⟨rfl, _, results_v16 (p := 6) rfl _ _ w.heap.size ⟨vk, vn, vs⟩ rfl hxn.1, scp_below hS0.out hxn.2.1, Only.of_none hxn.2.1, .inl ⟨rfl, rfl⟩⟩
  · by_cases c2 : x.op = 2
    · rw [hE, if_neg c1, if_pos c2]
      have t1 : (x.op == 1) = false := by simpa using c1
      have t2 : (x.op == 2) = true := by simpa using c2
      clear hE c1 c2 h2 h3 HD
      generalize hEV : Ev.env L R x.s = EV at *
      have HEV := Lib.hid hEV
      clear hEV
      go_enter Tryz.func71, Tryz.ntmps71
      go_wp2_with fail
      refine (HN.out _ HS2.out.1).mono ?_
      rintro e w1 ⟨hs1, ho1, hv1⟩
      have hsb : w.heap.size ≠ sb := by
        obtain ⟨-, -, mo, hrs, -⟩ := hS0.out
        have := rowV_lt hrs
        omega
      have hr1 := rowV_only HZ.out.1 ho1 hsb
      have HO := Lib.hid (And.intro hs1 ((Only.of_none (F := fun k => k = sb) HZ.out.2).trans ho1 fun _ _ h => h))
      have hsb := Lib.hid hsb
      clear hs1 ho1
      rcases hv1 with ⟨v, hv, rfl⟩ | ⟨hv, rfl⟩
      · have HV := Lib.hid (HEV.out.symm.trans hv)
        clear hv
        obtain ⟨q0, q1, q2, f0, f1, f2⟩ := val_cells hr1
        obtain ⟨yk, yn, ys⟩ := v
        go_wp2_with fail
        have hp := val_put hr1 yk yn ys
        have hbp := hp.2 w.heap.size (Nat.le_refl _)
        have hfin2 : ∀ wz, Below w.heap.size w1 wz → Only (fun k => k = sb) w wz := fun wz hb => HO.out.2.trans (Only.of_below hb) fun i hi e => by have e : w.heap.size ≤ i := e; omega
        have hop : Only (fun k => k = w.heap.size) w1 (((w1.setCell ⟨w.heap.size, 0, none⟩ (.int .i64 yk)).setCell ⟨w.heap.size, 1, none⟩ (.int .i64 yn)).setCell ⟨w.heap.size, 2, none⟩ (.string ys)) := (((Only.refl (fun k => k = w.heap.size) w1).setCell (fun _ => rfl) _).setCell (fun _ => rfl) _).setCell (fun _ => rfl) _
        exact ⟨rfl, _, results_v16 (p := 6) rfl _ _ w.heap.size ⟨yk, yn, ys⟩ rfl hp.1, scp_row HO.out.1 hr1 hS0.out.1.size (fun e => hsb.out e) hop, hfin2 _ hbp, .inl ⟨rfl, by rw [Option.some.inj HV.out]⟩⟩
      · have HV := Lib.hid (HEV.out.symm.trans hv)
        clear hv
        go_wp2_with fail
        exact ⟨rfl, HO.out.1, HO.out.2, .inr ⟨by decide, rfl⟩⟩
    · rw [hE, if_neg c1, if_neg c2]
      have t1 : (x.op == 1) = false := by simpa using c1
      have t2 : (x.op == 2) = false := by simpa using c2
      have HD' := Lib.hid (HD.out c1 c2)
      clear hE c1 c2 h2 h3 HD HN
      generalize hDN : Ev.done x.op P = DN at *
      clear hDN
      go_enter Tryz.func71, Tryz.ntmps71
      go_wp2_with fail
      refine (HD'.out _ HS2.out.2).mono ?_
      rintro e w1 ⟨hb1, hv1⟩
      have hr1 := rowV_below HZ.out.1 hb1 (rowV_lt HZ.out.1)
      have HO := Lib.hid (HZ.out.2.trans (hb1.mono HZ.out.2.size))
      clear hb1
      rcases hv1 with ⟨hv, rfl⟩ | ⟨hv, rfl⟩
      · obtain ⟨⟨yk, yn, ys⟩, ye⟩ := DN
        have HV := Lib.hid hv
        clear hv
        obtain ⟨q0, q1, q2, f0, f1, f2⟩ := val_cells hr1
        go_wp2_with fail
        have hp := val_put hr1 yk yn ys
        have hbp := HO.out.trans (hp.2 w.heap.size (Nat.le_refl _))
        exact ⟨rfl, _, results_v16 (p := 6) rfl _ _ w.heap.size ⟨yk, yn, ys⟩ rfl hp.1, scp_below hS0.out hbp, Only.of_none hbp, .inl ⟨HV.out, rfl⟩⟩
      · have HV := Lib.hid hv
        clear hv
        go_wp2_with fail
        exact ⟨rfl, scp_below hS0.out HO.out, Only.of_none HO.out, .inr ⟨HV.out, rfl⟩⟩
end Go.Proofs.YtmkllibfblacfaaGreatDoor
