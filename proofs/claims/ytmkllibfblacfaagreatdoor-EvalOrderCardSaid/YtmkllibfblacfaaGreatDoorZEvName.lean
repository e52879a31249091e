/-
  Layer 16, the program's: a name's value: the columns by their names, found when the first name is asked for.
-/
import Derived.Sort.CutIn
import Derived.Test.YtmkllibfblacfaaGreatDoorZEvBack
import Derived.Test.YtmkllibfblacfaaGreatDoorZEvDone
import Derived.Test.YtmkllibfblacfaaGreatDoorPk3
namespace Go.Proofs.YtmkllibfblacfaaGreatDoor
open Go.RowKit Go.Shelf
open Vl (V)
attribute [local go_sem] Oper.semAt_some
/-- of what was handed out from the last one on -/
abbrev colsI (l : List ColA) : List Ty.Col := (l.map fun y => (y.1.2.name, (y.1.1 : Int))).reverse
theorem colsI_snoc (l : List ColA) (y : ColA) : colsI (l ++ [y]) = (y.1.2.name, (y.1.1 : Int)) :: colsI l := by
  unfold colsI
  rw [List.map_append, List.reverse_append]; rfl
abbrev colsL (L : List ColV) : List Ty.Col := (ixL L).map fun p => (p.2.name, (p.1 : Int))
/-- where the first column of a name stands -/
def Ev.lookI (L : List ColV) : ByteArray → Option Int := Ty.look (colsL L)
/-- names' values, by a row of them -/
def Ev.env (L : List ColV) (R : List V) : Ev.Env := fun s => (Ev.lookI L s).map fun i => R.getD i.toNat Vl.no
theorem Ev.lookI_is {L : List ColV} {s : ByteArray} {i : Int} (h : Ev.lookI L s = some i) : ∃ k, k < L.length ∧ i = (k : Int) := by
  unfold Ev.lookI Ty.look at h
  rw [Option.map_eq_some_iff] at h
  obtain ⟨c, hc, rfl⟩ := h
  have hm := List.mem_of_find?_eq_some hc
  rw [List.mem_map] at hm
  obtain ⟨p, hp, rfl⟩ := hm
  obtain ⟨k, hk, e⟩ := List.getElem_of_mem hp
  rw [ixL_len] at hk
  rw [ixL_at L hk] at e
  subst e
  exact ⟨k, hk, rfl⟩
/-- the scope in memory: its columns, its row, and (once a name was asked for) where the columns stand -/
def Scp (w0 : World) (sb : Nat) (al : Option Addr) (n lc : Nat) (ra : Option Addr) (rc : Nat) (L : List ColV) (w : World) : Prop :=
  Below w0.heap.size w0 w ∧ w0.heap.size ≤ sb ∧ ∃ mo, RowV w sb 63 [.slice al n lc, .slice ra n rc, .map mo] ∧ (mo = none ∨ ∃ mb mn, mo = some mb ∧ MapS kEnc kLit w mb mn (Ev.lookI L))
theorem scp_below {w0 : World} {sb : Nat} {al : Option Addr} {n lc : Nat} {ra : Option Addr} {rc : Nat} {L : List ColV} {w w' : World} (h : Scp w0 sb al n lc ra rc L w) (hb : Below w.heap.size w w') : Scp w0 sb al n lc ra rc L w' := by
  obtain ⟨h1, h2, mo, h3, h4⟩ := h
  refine ⟨h1.trans (hb.mono h1.size), h2, mo, rowV_below h3 hb (rowV_lt h3), ?_⟩
  rcases h4 with h4 | ⟨mb, mn, h4, h5⟩
  · exact .inl h4
  · exact .inr ⟨mb, mn, h4, mapS_below h5 hb⟩
theorem zeroI (w : World) : (zeroValue 3).run Tryz.prog w = .ok (kEnc 0) w := by kernel_rfl
theorem survR_only {B T : Nat} {F : Nat → Prop} {w : World} (hw : w.heap.size ≤ B) : SurvR B T (fun W => Only F w W) := fun A A' row hJ hgr hr =>
  hJ.grown hgr fun k hk e => by have := (hr k e).1; omega
/-- what named tells -/
def NamedP (w0 : World) (sb : Nat) (al : Option Addr) (n lc : Nat) (ra : Option Addr) (rc : Nat) (L : List ColV) (R : List V) (s : ByteArray) (w : World) (e : Ending) (w' : World) : Prop :=
  Scp w0 sb al n lc ra rc L w' ∧ Only (fun k => k = sb) w w' ∧ ((∃ v, Ev.env L R s = some v ∧ e = .returned (valV v)) ∨ (Ev.env L R s = none ∧ e = pan16 13))
set_option maxRecDepth 100000 in
set_option maxHeartbeats 25600000 in
theorem named16_any {w0 : World} {sb : Nat} {al : Option Addr} {n lc : Nat} {ra : Option Addr} {rc : Nat} {L : List ColV} {R : List V} (hn : L.length = n) (hRn : R.length = n) (hl : n ≤ 100000) (hN : ∀ c ∈ L, c.name.size ≤ 1000000) (hC : ReadsC w0 al L) (hV : ReadsV w0 ra R) (s : ByteArray) (hs : s.size ≤ 1000000) (w : World) (hS : Scp w0 sb al n lc ra rc L w) :
    Calls Tryz.prog 101 #[.pointer (some ⟨sb, 0, none⟩), .string s] w (NamedP w0 sb al n lc ra rc L R s w) := by
  obtain ⟨hB0, hsb, mo, hrs, hmo⟩ := hS
  rcases hmo with rfl | ⟨mb, mn, rfl, hmap⟩
  · obtain ⟨W2, hW2⟩ : ∃ W2, (w.alloc (.cells #[.pointer (some ⟨sb, 0, none⟩)] 98)).alloc (.cells #[.int .i64 0, .int .i64 0, .string ⟨#[]⟩] 31) = W2 := ⟨_, rfl⟩
    have hb2 : Below w.heap.size w W2 := by rw [← hW2]; exact ((Below.refl w.heap.size w).alloc (Nat.le_refl _) _).alloc (by simp) _
    have hs2 : W2.heap.size = w.heap.size + 2 := by rw [← hW2]; simp
    have hrp : RowV W2 w.heap.size 98 [.pointer (some ⟨sb, 0, none⟩)] := by rw [← hW2]; exact rowV_alloc (rowV_new w _ [_]) _
    have hrz : RowV W2 (w.heap.size + 1) 31 (valC Vl.no).toList := by
      rw [← hW2]
      have := rowV_new (w.alloc (.cells #[.pointer (some ⟨sb, 0, none⟩)] 98)) 31 (valC Vl.no).toList
      rw [World.size_alloc] at this
      exact this
    have hrs2 := rowV_below hrs hb2 (rowV_lt hrs)
    have hsbw := rowV_lt hrs
    have hq : ∀ wx, (binOp .eql 61 (.map none) (.map none)).run Tryz.prog wx = .ok (.bool true) wx := fun wx => by
      simp only [binOp]
      simp [run_equal_map_nil wx 61 _ _ none Tryz.underlying61]
    have k0 := rowV_cell hrp 0
    have s0 := rowV_cell hrs2 0
    have s2 := rowV_cell hrs2 2
    simp only [List.getElem?_cons_zero, List.getElem?_cons_succ] at k0 s0 s2
    have hmk : ∀ wx, (Instr.makeMap 61 (some (.int .i64 (n : Int)))).run Tryz.prog wx = .ok (.map (some wx.heap.size)) (wx.alloc (.map #[] 0)) := fun wx => by
      have h := Tryz.underlying61
      simp [Instr.makeMap, run_underlying h, go_sem, Result.andThen]
    have HBk := Lib.hid fun wx => back15_call al n lc wx
    have hm : ∀ b off, al = some ⟨b, off, none⟩ → L ≠ [] → b < w0.heap.size := fun b off e hne => by
      have hl : 0 < L.length := List.length_pos_iff.2 hne
      obtain ⟨b', off', e', h0, _⟩ := hC 0 hl
      rw [e] at e'
      cases e'
      exact World.block_lt_of_cell? _ _ h0
    have HM := Lib.hid hm
    clear hm
    refine (callsIn_wide (n := 8)).1 ?_
    refine callsIn_of_wp_marks Tryz.func101 rfl trivial ?_ rfl
    simp only [Tryz.ntmps101, List.size_toArray, List.length_cons, List.length_nil, Nat.reduceAdd, Nat.reduceSub, Array.replicate_succ, Array.replicate_zero, List.push_toArray, List.append_toArray, List.nil_append, List.cons_append]
    gi_upto_region 1 with fail
    generalize hWg : World.alloc _ _ = Wg
    obtain rfl : Wg = W2 := hWg.symm.trans hW2
    clear hWg
    generalize hNN : w.heap.size = N at *
    have HNN := Lib.hid hNN
    have HW2 := Lib.hid hW2
    clear hW2 hNN
    have HSz := Lib.hid hs2
    clear hs2
    have hmb : Below Wg.heap.size Wg (Wg.drew.alloc (.map #[] 0)) := (Below.refl Wg.heap.size Wg).drew.alloc (Nat.le_refl _) _
    have hms : (Wg.drew.alloc (.map #[] 0)).heap.size = Wg.heap.size + 1 := World.size_alloc _ _
    have hmn := mapS_new (enc := kEnc) (lit := kLit) (f := Ty.look []) Wg.drew (fun _ => rfl)
    have hmn : MapS kEnc kLit (Wg.drew.alloc (.map #[] 0)) Wg.heap.size 0 (Ty.look []) := hmn
    have HS2 := Lib.hid (And.intro hrs2 (And.intro hrp (And.intro hrz hb2)))
    clear hrs2 hrp hrz hb2
    gi_wp2
    refine wpIn_wide.2 ?_
    refine Code.wp_mono (Q := fun e a wx => (∀ c, e ≠ .panic c) ∧ _) (fun _ _ _ h => h.2) ?_
    refine wp_region_plan (S := fun wx => wx.cell? ⟨N, 0, none⟩ = some (.pointer (some ⟨sb, 0, none⟩)) ∧ wx.cell? ⟨sb, 0, none⟩ = some (.slice al n lc) ∧ True) 7 [(true, 0), (true, 1), (true, 2), (true, 3), (true, 4), (true, 5), (false, 6)] (by kernel_rfl) (fun c d v a w h => absurd rfl (h.1 c)) (by kernel_rfl) ⟨k0, s0, trivial⟩ ?_
    refine wpPlan_step (i := 0) rfl ⟨(.pointer (some ⟨sb, 0, none⟩)), ⟨by rfl, fun wx hSx => ?_⟩, ?_⟩
    · obtain ⟨k0, s0, -⟩ := hSx
      go_simp
    simp only [Act.put, List.setIfInBounds_toArray, List.set_cons_zero, List.set_cons_succ]
    refine wpPlan_step (i := 1) rfl ⟨(.pointer (some ⟨sb, 0, none⟩)), ⟨by rfl, fun wx hSx => ?_⟩, ?_⟩
    · obtain ⟨k0, s0, -⟩ := hSx
      go_simp
    simp only [Act.put, List.setIfInBounds_toArray, List.set_cons_zero, List.set_cons_succ]
    refine wpPlan_step (i := 2) rfl ⟨(.pointer (some ⟨sb, 0, none⟩)), ⟨by rfl, fun wx hSx => ?_⟩, ?_⟩
    · obtain ⟨k0, s0, -⟩ := hSx
      go_simp
    simp only [Act.put, List.setIfInBounds_toArray, List.set_cons_zero, List.set_cons_succ]
    refine wpPlan_step (i := 3) rfl ⟨(.pointer (some ⟨sb, 0, none⟩)), ⟨by rfl, fun wx hSx => ?_⟩, ?_⟩
    · obtain ⟨k0, s0, -⟩ := hSx
      go_simp
    simp only [Act.put, List.setIfInBounds_toArray, List.set_cons_zero, List.set_cons_succ]
    refine wpPlan_step (i := 4) rfl ⟨(.slice al n lc), ⟨by rfl, fun wx hSx => ?_⟩, ?_⟩
    · obtain ⟨k0, s0, -⟩ := hSx
      go_simp
    simp only [Act.put, List.setIfInBounds_toArray, List.set_cons_zero, List.set_cons_succ]
    refine wpPlan_step (i := 5) rfl ⟨(.int .i64 (n : Int)), ⟨by rfl, fun wx hSx => ?_⟩, ?_⟩
    · obtain ⟨k0, s0, -⟩ := hSx
      go_simp
    simp only [Act.put, List.setIfInBounds_toArray, List.set_cons_zero, List.set_cons_succ]
    refine wpPlan_keep (i := 6) rfl (by rfl) fun K hKK => wp_value14 (.map (some Wg.heap.size)) (Wg.drew.alloc (.map #[] 0)) (by go_simp) (hKK _ _ ⟨(hmb.cell (World.block_lt_of_cell? _ _ k0)).trans k0, (hmb.cell (World.block_lt_of_cell? _ _ s0)).trans s0, trivial⟩ ?_)
    simp only [Act.put, List.setIfInBounds_toArray, List.set_cons_zero, List.set_cons_succ]
    show wpList _ _ _ _ _ _
    simp only [List.drop_succ_cons, List.drop_zero]
    generalize hw4 : Wg.drew.alloc (.map #[] 0) = w4 at *
    have hrs4 := rowV_below HS2.out.1 hmb (rowV_lt HS2.out.1)
    have z2 := rowV_cell hrs4 2
    have fz2 := rowV_frozen hrs4 2
    have z0 := rowV_cell (rowV_below HS2.out.2.1 hmb (rowV_lt HS2.out.2.1)) 0
    simp only [List.getElem?_cons_zero, List.getElem?_cons_succ] at z2 z0
    go_wp2_with fail
    refine ⟨fun c h => (by cases h), ?_⟩
    have ho5 := (Only.refl (fun j => j = sb) w4).setCell (g := sb) (i := 2) (fun _ => rfl) (.map (some Wg.heap.size))
    have hrs5 : RowV (w4.setCell ⟨sb, 2, none⟩ (.map (some Wg.heap.size))) sb 63 [.slice al n lc, .slice ra n rc, .map (some Wg.heap.size)] := rowV_stored hrs4 2 _
    have hltN : sb < N := hsbw
    have hrp5 := rowV_only (rowV_below HS2.out.2.1 hmb (rowV_lt HS2.out.2.1)) ho5 (by omega)
    have hrz5 := rowV_only (rowV_below HS2.out.2.2.1 hmb (rowV_lt HS2.out.2.2.1)) ho5 (by omega)
    have hmn5 := mapS_only hmn ho5 (by have := HSz.out; omega)
    have hs5 : (w4.setCell ⟨sb, 2, none⟩ (.map (some Wg.heap.size))).heap.size = Wg.heap.size + 1 := by rw [← hms]; simp
    have hs2 := HSz.out
    have hO5 : Only (fun j => j = sb) w (w4.setCell ⟨sb, 2, none⟩ (.map (some Wg.heap.size))) := (Only.of_none (F := fun j => j = sb) (by have h := HS2.out.2.2.2.trans (hmb.mono (by have := HS2.out.2.2.2.size; omega)); rw [HNN.out]; exact h)).trans ho5 fun _ _ e => e
    generalize hw5 : w4.setCell ⟨sb, 2, none⟩ (.map (some Wg.heap.size)) = w5 at *
    clear hw5 ho5
    generalize hMB : Wg.heap.size = MB at *
    have hMB2 : N + 2 ≤ MB := by omega
    have hMB3 : MB ≤ N + 2 := by omega
    clear hs2 hMB
    have s0' := rowV_cell hrs5 0
    have k0' := rowV_cell hrp5 0
    simp only [List.getElem?_cons_zero] at s0' k0'
    have H5 := Lib.hid (And.intro hrs5 (And.intro hrp5 (And.intro hrz5 (And.intro hmn5 hO5))))
    clear hrs5 hrp5 hrz5 hmn5 hO5 hrs4 hmn z0 z2 fz2 k0 s0 s2
    gi_wp2_with (refine ⟨trivial, ?_⟩; gi_at_call 133; refine (callsIn_wide.2 (HBk.out _)).mono ?_; rintro e w6 ⟨rfl, rfl⟩)
    have hbx := (Below.refl w5.heap.size w5).alloc (Nat.le_refl _) (.cells #[.slice al n lc] 35)
    have hr6 := rowV_new w5 35 [.slice al n lc]
    have hs6 : (w5.alloc (.cells #[.slice al n lc] 35)).heap.size = MB + 2 := by rw [World.size_alloc, hs5]
    generalize hw6 : w5.alloc (.cells #[.slice al n lc] 35) = w6 at *
    rw [hs5] at hr6
    have hBw : Below w0.heap.size w0 w6 := by
      have h1 : Below w0.heap.size w w5 := H5.out.2.2.2.2.below (fun j _ e => by omega) (by have := hB0.size; omega)
      have h2 := hB0.trans h1
      exact h2.trans (hbx.mono h2.size)
    have hC6 : ReadsC w6 al L := readsC_below hC hBw
    have hHands := back16_hands (n := 8 - 1) (by omega) (w0 := w6) (m := w0.heap.size) (bx := MB + 1) (T := 63) (al := al) (L := L) (cap := lc) (by omega) (by rw [hn]; exact hr6) hC6 hN HM.out (by have := hBw.size; omega)
    rw [hn] at hHands
    have hO6 : Only (fun j => j = sb) w w6 := H5.out.2.2.2.2.more (Only.of_none hbx)
    have hI6 : (RowV w6 sb 63 [.slice al n lc, .slice ra n rc, .map (some MB)] ∧ MapS kEnc kLit w6 MB 0 (Ty.look [])) ∧ (RowV w6 N 98 [.pointer (some ⟨sb, 0, none⟩)] ∧ RowV w6 (N + 1) 31 (valC Vl.no).toList) := ⟨⟨rowV_below H5.out.1 hbx (rowV_lt H5.out.1), mapS_below H5.out.2.2.2.1 hbx⟩, rowV_below H5.out.2.1 hbx (rowV_lt H5.out.2.1), rowV_below H5.out.2.2.1 hbx (rowV_lt H5.out.2.2.1)⟩
    clear hw6 hbx hr6
    obtain ⟨I, eI⟩ : ∃ I : List ColA → World → Prop, I = fun pre V => ∃ mn : Nat, mn ≤ pre.length ∧ ((RowV V sb 63 [.slice al n lc, .slice ra n rc, .map (some MB)] ∧ MapS kEnc kLit V MB mn (Ty.look (colsI pre))) ∧ (RowV V N 98 [.pointer (some ⟨sb, 0, none⟩)] ∧ RowV V (N + 1) 31 (valC Vl.no).toList)) ∧ Only (fun j => j = sb) w V := ⟨_, rfl⟩
    obtain ⟨Ix, eIx⟩ : ∃ I : List ColA → World → Prop, I = fun _ _ => False := ⟨_, rfl⟩
    replace eI := Lib.hid eI
    replace eIx := Lib.hid eIx
    refine wpIn_handsR (n := 8) (gf := 157) (lb := #[.pointer (some ⟨MB + 1, 0, none⟩)]) rfl (enters_of Tryz.func157 (by kernel_rfl) rfl)
      hHands (Below.refl _ _) (fun _ => rfl) kpB_t
      (fun V o o' h1 h2 => kpB_put o' (by have := hBw.size; omega) (by omega))
      I Ix (fun s => by rw [eI.out]; exact survR_ex fun p => survR_and (survR_const _) (survR_and (survR_and (survR_and (survR_row (by omega)) (survR_mapK (by omega))) (survR_and (survR_row (by omega)) (survR_row (by omega)))) (survR_only (by rw [HNN.out]; omega))))
      (fun s => by rw [eIx.out]; exact survR_const _)
      (by rw [eI.out]; exact ⟨0, Nat.le_refl _, hI6, hO6⟩) ?round ?done ?stop
    case round =>
      rintro pre ⟨⟨k, c⟩, hcn⟩ V hI hlen hszV hnc
      rw [eI.out] at hI
      obtain ⟨mn, hmn, ⟨⟨hrm, hmap⟩, ⟨hrk, hrz⟩⟩, hO⟩ := hI
      dsimp only [encB, colV]
      have hnr : RowV (V.alloc (.cells #[.string c.name, .int .i64 c.kind, .slice c.oa c.on c.oc] 34)) V.heap.size 34 [.string c.name, .int .i64 c.kind, .slice c.oa c.on c.oc] := rowV_new V _ [_, _, _]
      have hnb : Below V.heap.size V (V.alloc (.cells #[.string c.name, .int .i64 c.kind, .slice c.oa c.on c.oc] 34)) := (Below.refl _ _).alloc (Nat.le_refl _) _
      have hI1 : I pre (V.alloc (.cells #[.string c.name, .int .i64 c.kind, .slice c.oa c.on c.oc] 34)) := by
        rw [eI.out]
        exact ⟨mn, hmn, ⟨⟨rowV_alloc hrm _, mapS_below hmap hnb⟩, rowV_alloc hrk _, rowV_alloc hrz _⟩, hO.alloc _⟩
      clear hrm hmap hrk hrz hO hmn
      gi_wp2
      refine ⟨⟨hnb.block _ (by omega), hnb.block _ (by omega)⟩, kpB_below hnb, fun W2 ho2 hI2 hnc2 => ?_⟩
      have hr5 := rowV_only hnr ho2 (by omega)
      have hs2 := ho2.size
      rw [World.size_alloc] at hs2
      have hI3 := hI2 pre hI1
      rw [eI.out] at hI3
      obtain ⟨mn, hmn, ⟨⟨hrm, hmap⟩, ⟨hrk, hrz⟩⟩, hO⟩ := hI3
      have s2 := rowV_cell hrm 2
      have k0 := rowV_cell hrk 0
      have d0 := rowV_cell hr5 0
      simp only [List.getElem?_cons_zero, List.getElem?_cons_succ] at s2 k0 d0
      have hput5 : ∀ wx, Below W2.heap.size W2 wx → ∃ V4, (Instr.mapUpdate 61 (.map (some MB)) (.string c.name) (.int .i64 (k : Int))).run Tryz.prog wx = .ok () V4 ∧ MapS kEnc kLit V4 MB (if (Ty.look (colsI pre) c.name).isSome then mn else mn + 1) (fun j => if j = c.name then some (k : Int) else Ty.look (colsI pre) j) ∧ Only (fun q => q = MB) wx V4 := fun wx hb => mapS_put codedK Tryz.underlying61 (mapS_below hmap hb) (by omega) c.name (by have : c.name.size ≤ 1000000 := hcn; unfold maxLen; omega) (k : Int)
      have HPut := Lib.hid hput5
      have H2 := Lib.hid (And.intro hrm (And.intro hrk (And.intro hrz (And.intro hO hnc2))))
      have hszO := hO.size
      clear hrm hmap hrk hrz hO hI2 hI1 hnr ho2 hnc hnc2 hput5
      gi_wp2
      refine wpIn_round_quiet_tail (C := fun wx => (wx.cell? ⟨N, 0, none⟩ = some (.pointer (some ⟨sb, 0, none⟩)) ∧ wx.cell? ⟨sb, 2, none⟩ = some (.map (some MB)) ∧ wx.cell? ⟨V.heap.size, 0, none⟩ = some (.string c.name)) ∧ Hid (Below W2.heap.size W2 wx)) 7 (by kernel_rfl) (by kernel_rfl) (by kernel_rfl) (fun _ _ hh => hh) ⟨⟨k0, s2, d0⟩, Lib.hid (Below.refl W2.heap.size W2).drew⟩ ?_
      simp only [List.take_succ_cons, List.take_zero, List.drop_succ_cons, List.drop_zero]
      go_big_quiet_want
      refine ⟨(.pointer (some ⟨sb, 0, none⟩)), fun wx hSx => ?_, ?_⟩
      · obtain ⟨⟨k0, k1, k2⟩, -⟩ := hSx
        go_simp
        try first
          | with_reducible rfl
          | rw [if_neg (by omega)]
      simp only [Act.put, List.setIfInBounds_toArray, List.set_cons_zero, List.set_cons_succ]
      go_big_quiet_on
      go_big_quiet_want
      refine ⟨(.pointer (some ⟨sb, 0, none⟩)), fun wx hSx => ?_, ?_⟩
      · obtain ⟨⟨k0, k1, k2⟩, -⟩ := hSx
        go_simp
        try first
          | with_reducible rfl
          | rw [if_neg (by omega)]
      simp only [Act.put, List.setIfInBounds_toArray, List.set_cons_zero, List.set_cons_succ]
      go_big_quiet_on
      go_big_quiet_want
      refine ⟨(.pointer (some ⟨sb, 2, none⟩)), fun wx hSx => ?_, ?_⟩
      · obtain ⟨⟨k0, k1, k2⟩, -⟩ := hSx
        go_simp
        try first
          | with_reducible rfl
          | rw [if_neg (by omega)]
      simp only [Act.put, List.setIfInBounds_toArray, List.set_cons_zero, List.set_cons_succ]
      go_big_quiet_on
      go_big_quiet_want
      refine ⟨(.map (some MB)), fun wx hSx => ?_, ?_⟩
      · obtain ⟨⟨k0, k1, k2⟩, -⟩ := hSx
        go_simp
        try first
          | with_reducible rfl
          | rw [if_neg (by omega)]
      simp only [Act.put, List.setIfInBounds_toArray, List.set_cons_zero, List.set_cons_succ]
      go_big_quiet_on
      go_big_quiet_want
      refine ⟨(.pointer (some ⟨V.heap.size, 0, none⟩)), fun wx hSx => ?_, ?_⟩
      · obtain ⟨⟨k0, k1, k2⟩, -⟩ := hSx
        go_simp
        try first
          | with_reducible rfl
          | rw [if_neg (by omega)]
      simp only [Act.put, List.setIfInBounds_toArray, List.set_cons_zero, List.set_cons_succ]
      go_big_quiet_on
      go_big_quiet_want
      refine ⟨(.string c.name), fun wx hSx => ?_, ?_⟩
      · obtain ⟨⟨k0, k1, k2⟩, -⟩ := hSx
        go_simp
        try first
          | with_reducible rfl
          | rw [if_neg (by omega)]
      simp only [Act.put, List.setIfInBounds_toArray, List.set_cons_zero, List.set_cons_succ]
      go_big_quiet_on
      go_big_quiet_want
      refine ⟨(.int .i64 (k : Int)), fun wx hSx => ?_, ?_⟩
      · obtain ⟨⟨k0, k1, k2⟩, -⟩ := hSx
        go_simp
        try first
          | with_reducible rfl
          | rw [if_neg (by omega)]
      simp only [Act.put, List.setIfInBounds_toArray, List.set_cons_zero, List.set_cons_succ]
      go_big_quiet_on
      refine wpQuiet_nil ?_
      rintro w5 ⟨-, hb5⟩
      obtain ⟨V4, hput, hmap4, ho4⟩ := HPut.out w5 hb5.out
      have H4 := Lib.hid (And.intro hmap4 ho4)
      clear hmap4 ho4
      go_wp2_with fail
      have hO := H2.out.2.2.2.1
      have h5s := hb5.out.size
      have h4s := H4.out.2.size
      have hrec : Rec2 (MB + 2) W2 V4 := by
        obtain ⟨⟨o1, ho1, _⟩, ⟨o2, ho2, _⟩⟩ := H2.out.2.2.2.2
        have l1 := (Array.getElem?_eq_some_iff.1 ho1).1
        have l2 := (Array.getElem?_eq_some_iff.1 ho2).1
        exact ⟨(H4.out.2.block _ (by omega) (by omega)).trans (hb5.out.block _ l1), (H4.out.2.block _ (by omega) (by omega)).trans (hb5.out.block _ l2)⟩
      refine ⟨hrec, kpB_t (kpB_below hb5.out) (kpB_only H4.out.2 (fun k e => by have := hB0.size; rw [HNN.out] at this; omega)), ?_⟩
      rw [eI.out]
      have hmp := H4.out.1
      rw [show (fun j => if j = c.name then some (k : Int) else Ty.look (colsI pre) j) = Ty.look (colsI (pre ++ [(⟨(k, c), hcn⟩ : ColA)])) by rw [colsI_snoc, Ty.look_cons]] at hmp
      refine ⟨_, ?_, ⟨⟨rowV_only (rowV_below H2.out.1 hb5.out (rowV_lt H2.out.1)) H4.out.2 (by omega), hmp⟩, rowV_only (rowV_below H2.out.2.1 hb5.out (rowV_lt H2.out.2.1)) H4.out.2 (by omega), rowV_only (rowV_below H2.out.2.2.1 hb5.out (rowV_lt H2.out.2.2.1)) H4.out.2 (by omega)⟩, (hO.more (Only.of_none hb5.out)).trans H4.out.2 fun i hi e => by rw [HNN.out] at hi; omega⟩
      rw [List.length_append, List.length_singleton]
      split <;> omega
    case done =>
      rintro xs V hSx hI hK
      rw [eI.out] at hI
      obtain ⟨mn, hmn, ⟨⟨hrm, hmap⟩, ⟨hrk, hrz⟩⟩, hO⟩ := hI
      have hcols : colsI xs = colsL L := by
        have h1 : xs.map (fun x => x.1) = (ixL L).reverse := hSx
        have h2 : colsI xs = ((xs.map (fun x => x.1)).map fun p => (p.2.name, (p.1 : Int))).reverse := by
          unfold colsI
          rw [List.map_map]; rfl
        rw [h2, h1, List.map_reverse, List.reverse_reverse]
      rw [hcols] at hmap
      have hmap : MapS kEnc kLit V MB mn (Ev.lookI L) := hmap
      rw [hs6] at hK
      have k0 := rowV_cell hrk 0
      have s1 := rowV_cell hrm 1
      have s2 := rowV_cell hrm 2
      simp only [List.getElem?_cons_zero, List.getElem?_cons_succ] at k0 s1 s2
      have hlook := mapS_look codedK Tryz.underlying61 zeroI hmap s (by unfold maxLen; omega)
      have hsV := hO.size
      have hBV : Below w0.heap.size w0 V := hB0.trans (hO.below (fun j _ e => by omega) (by have := hB0.size; omega))
      have HF := Lib.hid (And.intro hrm (And.intro hmap (And.intro hO (And.intro hrz hBV))))
      clear hSx hcols
      cases hfd : Ev.lookI L s with
      | none =>
        rw [hfd] at hlook
        dsimp only [Option.isSome, Option.getD] at hlook
        have HE : Hid (Ev.env L R s = none) := Lib.hid (by unfold Ev.env; rw [hfd]; rfl)
        clear hrm hmap hrk hrz hO
        gi_wp2
        refine ⟨by simp, .inl ⟨_, _, rfl, run_takeDeferred hK, ?_⟩⟩
        have hp := putObj_only V (MB + 2) (.deferred none)
        exact ⟨⟨hBV.trans (hp.below (fun j _ e => by have := hB0.size; rw [HNN.out] at this; have e : j = MB + 2 := e; omega) hBV.size), hsb, some MB, rowV_only HF.out.1 hp (by omega), .inr ⟨MB, mn, rfl, mapS_only HF.out.2.1 hp (by omega)⟩⟩, HF.out.2.2.1.trans hp fun i hi e => by rw [HNN.out] at hi; have e : i = MB + 2 := e; omega, .inr ⟨HE.out, rfl⟩⟩
      | some ix =>
        rw [hfd] at hlook
        dsimp only [Option.isSome, Option.getD] at hlook
        obtain ⟨k, hk, rfl⟩ := Ev.lookI_is hfd
        have hkR : k < R.length := by omega
        have HE : Hid (Ev.env L R s = some R[k]) := Lib.hid (by unfold Ev.env; rw [hfd]; show some (R.getD k Vl.no) = _; rw [getD_at16 hkR])
        obtain ⟨rb, ro, rfl, r0, r1, r2⟩ := readsV_below16 hV HF.out.2.2.2.2 k hkR
        have hkn : k < n := by omega
        generalize R[k] = y at *
        obtain ⟨q0, q1, q2, f0, f1, f2⟩ := val_cells hrz
        obtain ⟨yk, yn, ys⟩ := y
        dsimp only at r0 r1 r2
        clear hrm hmap hrk hrz hO
        gi_wp2
        have hp := val_put HF.out.2.2.2.1 yk yn ys
        have hO2 : Only (fun j => j = N + 1) V (((V.setCell ⟨N + 1, 0, none⟩ (.int .i64 yk)).setCell ⟨N + 1, 1, none⟩ (.int .i64 yn)).setCell ⟨N + 1, 2, none⟩ (.string ys)) := (((Only.refl (fun j => j = N + 1) V).setCell (g := N + 1) (fun _ => rfl) _).setCell (g := N + 1) (fun _ => rfl) _).setCell (g := N + 1) (fun _ => rfl) _
        have hsz2 := hO2.size
        have hrm2 := rowV_only HF.out.1 hO2 (by omega)
        have hmp2 := mapS_only HF.out.2.1 hO2 (by omega)
        have hK2 := (hO2.block (MB + 2) (Array.getElem?_eq_some_iff.1 hK).1 (by omega)).trans hK
        have hOw := HF.out.2.2.1.trans hO2 fun i hi e => by rw [HNN.out] at hi; omega
        have hB2 := hBV.trans (hO2.below (fun j _ e => by have := hB0.size; rw [HNN.out] at this; omega) hBV.size)
        have hr2 := hp.1
        generalize ((V.setCell ⟨N + 1, 0, none⟩ (.int .i64 yk)).setCell ⟨N + 1, 1, none⟩ (.int .i64 yn)).setCell ⟨N + 1, 2, none⟩ (.string ys) = V2 at *
        have hp3 := putObj_only V2 (MB + 2) (.deferred none)
        refine ⟨by simp, .inl ⟨_, _, rfl, run_takeDeferred hK2, ?_⟩⟩
        refine ⟨_, results_v16 (p := 4) rfl _ _ (N + 1) ⟨yk, yn, ys⟩ rfl (rowV_only hr2 hp3 (show ¬ N + 1 = MB + 2 by omega)), ⟨hB2.trans (hp3.below (fun j _ e => by have := hB0.size; rw [HNN.out] at this; have e : j = MB + 2 := e; omega) hB2.size), hsb, some MB, rowV_only hrm2 hp3 (show ¬ sb = MB + 2 by omega), .inr ⟨MB, mn, rfl, mapS_only hmp2 hp3 (show ¬ MB = MB + 2 by omega)⟩⟩, hOw.trans hp3 fun i hi e => by rw [HNN.out] at hi; have e : i = MB + 2 := e; omega, .inl ⟨_, HE.out, rfl⟩⟩
    case stop =>
      rintro pre V hSp hI hK
      rw [eIx.out] at hI
      exact hI.elim
  -- END OF CASE 1
  · obtain ⟨W2, hW2⟩ : ∃ W2, (w.alloc (.cells #[.pointer (some ⟨sb, 0, none⟩)] 98)).alloc (.cells #[.int .i64 0, .int .i64 0, .string ⟨#[]⟩] 31) = W2 := ⟨_, rfl⟩
    have hb2 : Below w.heap.size w W2 := by rw [← hW2]; exact ((Below.refl w.heap.size w).alloc (Nat.le_refl _) _).alloc (by simp) _
    have hrp : RowV W2 w.heap.size 98 [.pointer (some ⟨sb, 0, none⟩)] := by rw [← hW2]; exact rowV_alloc (rowV_new w _ [_]) _
    have hrz : RowV W2 (w.heap.size + 1) 31 (valC Vl.no).toList := by
      rw [← hW2]
      have := rowV_new (w.alloc (.cells #[.pointer (some ⟨sb, 0, none⟩)] 98)) 31 (valC Vl.no).toList
      rw [World.size_alloc] at this
      exact this
    have hrs2 := rowV_below hrs hb2 (rowV_lt hrs)
    have hm2 := mapS_below hmap hb2
    have hlook := mapS_look codedK Tryz.underlying61 zeroI hm2 s (by unfold maxLen; omega)
    have k0 := rowV_cell hrp 0
    have s1 := rowV_cell hrs2 1
    have s2 := rowV_cell hrs2 2
    simp only [List.getElem?_cons_zero, List.getElem?_cons_succ] at k0 s1 s2
    have hq : ∀ wx, (binOp .eql 61 (.map (some mb)) (.map none)).run Tryz.prog wx = .ok (.bool false) wx := fun wx => by
      simp only [binOp]
      simp [run_equal_map_nil wx 61 _ _ (some mb) Tryz.underlying61]
    cases hfd : Ev.lookI L s with
    | none =>
      rw [hfd] at hlook
      dsimp only [Option.isSome, Option.getD] at hlook
      have HE : Hid (Ev.env L R s = none) := Lib.hid (by unfold Ev.env; rw [hfd]; rfl)
      refine (callsIn_wide (n := 8)).1 ?_
      refine callsIn_of_wp_marks Tryz.func101 rfl trivial ?_ rfl
      simp only [Tryz.ntmps101, List.size_toArray, List.length_cons, List.length_nil, Nat.reduceAdd, Nat.reduceSub, Array.replicate_succ, Array.replicate_zero, List.push_toArray, List.append_toArray, List.nil_append, List.cons_append]
      gi_upto_region 1 with fail
      generalize hWg : World.alloc _ _ = Wg
      obtain rfl : Wg = W2 := hWg.symm.trans hW2
      clear hWg
      have HF := Lib.hid (And.intro hrs2 (And.intro hm2 hb2))
      gi_wp2
      exact ⟨⟨hB0.trans (hb2.mono hB0.size), hsb, some mb, HF.out.1, .inr ⟨mb, mn, rfl, HF.out.2.1⟩⟩, Only.of_none HF.out.2.2, .inr ⟨HE.out, rfl⟩⟩
    | some ix =>
      rw [hfd] at hlook
      dsimp only [Option.isSome, Option.getD] at hlook
      obtain ⟨k, hk, rfl⟩ := Ev.lookI_is hfd
      have hkR : k < R.length := by omega
      have HE : Hid (Ev.env L R s = some R[k]) := Lib.hid (by unfold Ev.env; rw [hfd]; show some (R.getD k Vl.no) = _; rw [getD_at16 hkR])
      obtain ⟨rb, ro, rfl, r0, r1, r2⟩ := readsV_below16 hV (hB0.trans (hb2.mono hB0.size)) k hkR
      have hkn : k < n := by omega
      generalize R[k] = y at *
      refine (callsIn_wide (n := 8)).1 ?_
      refine callsIn_of_wp_marks Tryz.func101 rfl trivial ?_ rfl
      simp only [Tryz.ntmps101, List.size_toArray, List.length_cons, List.length_nil, Nat.reduceAdd, Nat.reduceSub, Array.replicate_succ, Array.replicate_zero, List.push_toArray, List.append_toArray, List.nil_append, List.cons_append]
      gi_upto_region 1 with fail
      generalize hWg : World.alloc _ _ = Wg
      obtain rfl : Wg = W2 := hWg.symm.trans hW2
      clear hWg
      have HF := Lib.hid (And.intro hrs2 (And.intro hm2 (And.intro hb2 hrz)))
      obtain ⟨q0, q1, q2, f0, f1, f2⟩ := val_cells hrz
      obtain ⟨yk, yn, ys⟩ := y
      dsimp only at r0 r1 r2
      gi_wp2
      have hp := val_put HF.out.2.2.2 yk yn ys
      have hbf := HF.out.2.2.1.trans (hp.2 w.heap.size (Nat.le_succ _))
      exact ⟨_, results_v16 (p := 4) rfl _ _ (w.heap.size + 1) ⟨yk, yn, ys⟩ rfl hp.1, scp_below ⟨hB0, hsb, some mb, hrs, .inr ⟨mb, mn, rfl, hmap⟩⟩ hbf, Only.of_none hbf, .inl ⟨_, HE.out, rfl⟩⟩
end Go.Proofs.YtmkllibfblacfaaGreatDoor
