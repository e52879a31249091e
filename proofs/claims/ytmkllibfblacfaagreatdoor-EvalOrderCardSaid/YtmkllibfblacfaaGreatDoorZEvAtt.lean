/-
  Layer 16, the program's: an attempt: a right expression's value, or the error that came up by a panic.
-/
import Derived.Test.YtmkllibfblacfaaGreatDoorZEvValue
import Derived.Defers
import Derived.Recover
import Derived.RegionTactic
import Derived.ChangeAlike
namespace Go.Proofs.YtmkllibfblacfaaGreatDoor
open Go.RowKit Go.Shelf
open Sx (X)
open Vl (V)
open Evw
theorem assert16 (v : Value) (w : World) : (Instr.typeAssert (.iface 22 v) 20 22 false).run Tryz.prog w = .ok v w := by
  have h := Tryz.underlying22
  simp [Instr.typeAssert, run_underlying h, go_sem, Result.andThen]
set_option maxRecDepth 100000 in
set_option maxHeartbeats 400000 in
theorem catch16_idle (p q : Addr) (w : World) :
    CallsD Tryz.prog 47 #[.pointer (some p), .pointer (some q)] .returning w fun e u' w' => e = .returned (.tuple #[]) ∧ u' = .returning ∧ w' = w := by
  refine callsD_of_wpS Tryz.func47 rfl fun c₀ cs hu => ?_
  apply wpS_seq
  apply wpS_region
  simp [wpOpsS, go_sem, recoverD, hu, Tryz.ntmps47, Exit.thenS]
  apply wpS_seq
  apply wpS_region
  simp [wpOpsS, go_sem, Exit.thenS]
  refine wpS_cond (t := false) (by simp [Act.eval, Array.replicate]) ?_
  simp only [Bool.false_eq_true, if_false]
  refine wpS_of_wp (wp_skip ?_)
  cases c₀
  simp_all [bodyPostS, results]
set_option maxRecDepth 100000 in
set_option maxHeartbeats 3200000 in
theorem catch16_pan (g h : Nat) (v : V) (x : Value) (k : Int) (older : List PanicEntry) (w : World) (hg : RowV w g 31 (valC v).toList) (hh : RowV w h 22 [x]) (hne : g ≠ h) :
    CallsD Tryz.prog 47 #[.pointer (some ⟨g, 0, none⟩), .pointer (some ⟨h, 0, none⟩)] (.panicking ({ v := .iface 22 (.int .i64 k), recovered := false } :: older)) w fun e u' w' =>
      e = .returned (.tuple #[]) ∧ u' = .panicking ({ v := .iface 22 (.int .i64 k), recovered := true } :: older) ∧ RowV w' g 31 (valC Vl.no).toList ∧ RowV w' h 22 [.int .i64 k] ∧ Only (fun j => j = g ∨ j = h) w w' := by
  refine callsD_of_wpS Tryz.func47 rfl fun c₀ cs hu => ?_
  apply wpS_seq
  apply wpS_region
  simp [wpOpsS, go_sem, recoverD, hu, Tryz.ntmps47, Exit.thenS]
  apply wpS_seq
  apply wpS_region
  simp [wpOpsS, go_sem, Exit.thenS]
  refine wpS_cond (t := true) (by simp [Act.eval, Array.replicate]) ?_
  simp only [if_true]
  refine wpS_of_wp ?_
  have r0 := rowV_cell hg 0
  have r1 := rowV_cell hg 1
  have r2 := rowV_cell hg 2
  have fg := rowV_frozen hg 0
  have fg1 := rowV_frozen hg 1
  have fg2 := rowV_frozen hg 2
  have y0 := rowV_cell hh 0
  have fh := rowV_frozen hh 0
  have HA := assert16
  simp only [List.getElem?_cons_zero] at y0
  have q1 := rowV_stored hg 0 (.int .i64 0)
  have q2 := rowV_stored q1 1 (.int .i64 0)
  have q3 := rowV_stored q2 2 (.string ⟨#[]⟩)
  have q4 : RowV ((((w.setCell ⟨g, 0, none⟩ (.int .i64 0)).setCell ⟨g, 1, none⟩ (.int .i64 0)).setCell ⟨g, 2, none⟩ (.string ⟨#[]⟩)).setCell ⟨h, 0, none⟩ (.int .i64 k)) g 31 (valC Vl.no).toList := rowV_far q3 hne _
  have p1 := rowV_far (rowV_far (rowV_far hh (fun e => hne e.symm) (.int .i64 0) (i := 0)) (fun e => hne e.symm) (.int .i64 0) (i := 1)) (fun e => hne e.symm) (.string ⟨#[]⟩) (i := 2)
  have p2 : RowV ((((w.setCell ⟨g, 0, none⟩ (.int .i64 0)).setCell ⟨g, 1, none⟩ (.int .i64 0)).setCell ⟨g, 2, none⟩ (.string ⟨#[]⟩)).setCell ⟨h, 0, none⟩ (.int .i64 k)) h 22 [.int .i64 k] := rowV_stored p1 0 _
  have ho : Only (fun j => j = g ∨ j = h) w ((((w.setCell ⟨g, 0, none⟩ (.int .i64 0)).setCell ⟨g, 1, none⟩ (.int .i64 0)).setCell ⟨g, 2, none⟩ (.string ⟨#[]⟩)).setCell ⟨h, 0, none⟩ (.int .i64 k)) :=
    (((((Only.refl _ w).setCell (fun _ => .inl rfl) _).setCell (fun _ => .inl rfl) _).setCell (fun _ => .inl rfl) _).setCell (fun _ => .inr rfl) _)
  have HF := Lib.hid (And.intro q4 (And.intro p2 ho))
  clear q1 q2 q3 q4 p1 p2 ho
  go_region
  all_goals exact ⟨rfl, _, rfl, .tuple #[], by simp [results], rfl, rfl, HF.out.1, HF.out.2.1, HF.out.2.2.drew⟩
theorem results_ve16 {fn : Func} {p q : Tmp} (h : fn.results = #[.cell p 31, .cell q 22]) (tmps : Array Value) (w : World) (g g' : Nat) (v : V) (r : Int) (hp : tmps.getD p undef = .pointer (some ⟨g, 0, none⟩)) (hq : tmps.getD q undef = .pointer (some ⟨g', 0, none⟩)) (hg : RowV w g 31 (valC v).toList) (hr : RowV w g' 22 [.int .i64 r]) :
    (results fn tmps).run Tryz.prog w = .ok (.tuple #[valV v, .int .i64 r]) w := by
  have hl : (loadVar 31 ⟨g, 0, none⟩).run Tryz.prog w = .ok (valV v) w := run_loadVar_row (P := Tryz.prog) w g 31 31 (valC v) (0, 0) _ hg Tryz.underlying31 rfl info_val
  have hl2 : (loadVar 22 ⟨g', 0, none⟩).run Tryz.prog w = .ok (.int .i64 r) w := by
    have c := rowV_cell hr 0
    simp only [List.getElem?_cons_zero] at c
    go_simp
  have hp' : tmps[p]?.getD undef = .pointer (some ⟨g, 0, none⟩) := by simpa using hp
  have hq' : tmps[q]?.getD undef = .pointer (some ⟨g', 0, none⟩) := by simpa using hq
  simp [results, h, hp', hq', asAddr, hl, hl2]
/-- rows are no maps -/
theorem scp_rows {w0 : World} {sb : Nat} {al : Option Addr} {n lc : Nat} {ra : Option Addr} {rc : Nat} {L : List ColV} {w w' : World} {F : Nat → Prop} (h : Scp w0 sb al n lc ra rc L w) (hF : ∀ k, F k → w0.heap.size ≤ k ∧ k ≠ sb ∧ ∃ T l, RowV w k T l) (ho : Only F w w') : Scp w0 sb al n lc ra rc L w' := by
  obtain ⟨h1, h2, mo, h3, h4⟩ := h
  refine ⟨h1.trans (ho.below (fun k _ e => (hF k e).1) h1.size), h2, mo, rowV_only h3 ho (fun e => (hF _ e).2.1 rfl), ?_⟩
  rcases h4 with h4 | ⟨mb, mn, h4, h5⟩
  · exact .inl h4
  · refine .inr ⟨mb, mn, h4, mapS_only h5 ho fun e => ?_⟩
    obtain ⟨D, ⟨es, clock, hb, -⟩, -⟩ := h5
    obtain ⟨_, _, T, l, hr⟩ := hF mb e
    have hr : w.heap[mb]? = some (.cells l.toArray T) := hr
    rw [hr] at hb
    cases hb
/-- what an attempt answers -/
def AttP16 (w0 : World) (sb : Nat) (al : Option Addr) (n lc : Nat) (ra : Option Addr) (rc : Nat) (L : List ColV) (R : V × Int) (w : World) (e : Ending) (w' : World) : Prop :=
  e = .returned (.tuple #[valV R.1, .int .i64 R.2]) ∧ Scp w0 sb al n lc ra rc L w' ∧ Only (fun k => k = sb) w w'
set_option maxRecDepth 100000 in
set_option maxHeartbeats 3200000 in
theorem attempt16_any {w0 : World} {sb : Nat} {al : Option Addr} {n lc : Nat} {ra : Option Addr} {rc : Nat} {L : List ColV} {R : List V} (hn : L.length = n) (hRn : R.length = n) (hl : n ≤ 100000) (hN : ∀ c ∈ L, c.name.size ≤ 1000000) (hC : ReadsC w0 al L) (hV : ReadsV w0 ra R) (hF : ∀ v ∈ R, Fit16 v)
    (x : X) (a : Option Addr) (c : Nat) (hx : XAt w0 (fun j => j < w0.heap.size) x a) (hG : GdE x a) (hd : Sx.deep x ≤ 1000) (w : World) (hS : Scp w0 sb al n lc ra rc L w) (Rz : V × Int) (f0 : Nat) (hrun : Ev.mrun (Ev.env L R) f0 [(x, 0)] [] = some Rz) (hz : Rz.2 = 0 ∨ Rz.1 = Vl.no) :
    Calls Tryz.prog 30 #[.pointer (some ⟨sb, 0, none⟩), xV x a c] w (AttP16 w0 sb al n lc ra rc L Rz w) := by
  have hbx := x_new x a c w
  obtain ⟨W3, hW3⟩ : ∃ W3, ((w.alloc (.cells (xC x a c) 43)).alloc (.cells #[.int .i64 0, .int .i64 0, .string ⟨#[]⟩] 31)).alloc (.cells #[.int .i64 0] 22) = W3 := ⟨_, rfl⟩
  have hs3 : W3.heap.size = w.heap.size + 3 := by rw [← hW3]; simp
  have hb3 : Below w.heap.size w W3 := by rw [← hW3]; exact (((Below.refl w.heap.size w).alloc (Nat.le_refl _) _).alloc (by simp) _).alloc (by simp; omega) _
  have hx3 : RowV W3 w.heap.size 43 (xC x a c).toList := by rw [← hW3]; exact rowV_alloc (rowV_alloc (rowV_new w _ _) _) _
  have hz3 : RowV W3 (w.heap.size + 1) 31 (valC Vl.no).toList := by
    rw [← hW3]
    have h := rowV_new (w.alloc (.cells (xC x a c) 43)) 31 (valC Vl.no).toList
    rw [World.size_alloc] at h
    exact rowV_alloc h _
  have hp3 : RowV W3 (w.heap.size + 1 + 1) 22 [.int .i64 0] := by
    rw [← hW3]
    have h := rowV_new ((w.alloc (.cells (xC x a c) 43)).alloc (.cells #[.int .i64 0, .int .i64 0, .string ⟨#[]⟩] 31)) 22 [.int .i64 0]
    rw [World.size_alloc, World.size_alloc] at h
    exact h
  have hsb : sb < w.heap.size ∧ w0.heap.size ≤ w.heap.size := by
    obtain ⟨h1, h2, mo, h3, _⟩ := hS
    exact ⟨rowV_lt h3, h1.size⟩
  have hS3 : Scp w0 sb al n lc ra rc L W3 := scp_below hS hb3
  have HV := Lib.hid (value16_any (sb := sb) (lc := lc) (rc := rc) hn hRn hl hN hC hV hF x a c hx hG hd W3 hS3 Rz f0 hrun)
  have H3 := Lib.hid (And.intro hx3 (And.intro hz3 (And.intro hp3 (And.intro hb3 hsb))))
  have c0 := rowV_cell hx3 0
  have c1 := rowV_cell hx3 1
  have c2 := rowV_cell hx3 2
  have c3 := rowV_cell hx3 3
  have c4 := rowV_cell hx3 4
  have c5 := rowV_cell hx3 5
  simp only [List.getElem?_cons_zero, List.getElem?_cons_succ] at c0 c1 c2 c3 c4 c5
  clear hn hRn hl hN hC hV hF hx hG hd hS hrun hsb hb3 hx3 hz3 hp3 hS3 hbx hs3
  have hmf : ∀ (fn : Fn) (first cap : Array Value) (w : World), (Instr.makeFunc fn first cap).run Tryz.prog w = .ok (.func fn first cap) w := fun _ _ _ _ => rfl
  go_enter_defers Tryz.func30, Tryz.ntmps30
  go_wp2_with fail
  refine HV.out.mono ?_
  rintro e w4 ⟨hs4, ho4, hh⟩
  have hz4 : RowV w4 (w.heap.size + 1) 31 (valC Vl.no).toList := rowV_only H3.out.2.1 ho4 (by have := H3.out.2.2.2.2.1; omega)
  have hp4 : RowV w4 (w.heap.size + 1 + 1) 22 [.int .i64 0] := rowV_only H3.out.2.2.1 ho4 (by have := H3.out.2.2.2.2.1; omega)
  have z0 := rowV_cell hz4 0
  have z1 := rowV_cell hz4 1
  have z2 := rowV_cell hz4 2
  have y0 := rowV_cell hp4 0
  have f0' := rowV_frozen hz4 0
  have f1 := rowV_frozen hz4 1
  have f2 := rowV_frozen hz4 2
  have f3 := rowV_frozen hp4 0
  simp only [List.getElem?_cons_zero, List.getElem?_cons_succ] at z0 z1 z2 y0
  have H4 := Lib.hid (And.intro hz4 (And.intro hp4 (And.intro hs4 ho4)))
  clear hz4 hp4 hs4 ho4 c0 c1 c2 c3 c4 c5
  obtain ⟨⟨vk, vn, vs⟩, r⟩ := Rz
  dsimp only at hz hh
  rcases hh with ⟨h0, rfl⟩ | ⟨h0, rfl⟩
  · subst h0
    dsimp only
    obtain ⟨W5, hW5⟩ : ∃ W5, (((w4.setCell ⟨w.heap.size + 1, 0, none⟩ (.int .i64 vk)).setCell ⟨w.heap.size + 1, 1, none⟩ (.int .i64 vn)).setCell ⟨w.heap.size + 1, 2, none⟩ (.string vs)) = W5 := ⟨_, rfl⟩
    have hv5 : RowV W5 (w.heap.size + 1) 31 (valC ⟨vk, vn, vs⟩).toList := by rw [← hW5]; exact (val_put H4.out.1 vk vn vs).1
    have ho5 : Only (fun k => k = w.heap.size + 1) w4 W5 := by rw [← hW5]; exact ((((Only.refl (fun k => k = w.heap.size + 1) w4).setCell (fun _ => rfl) _).setCell (fun _ => rfl) _).setCell (fun _ => rfl) _)
    have hp5 := rowV_only H4.out.2.1 ho5 (by omega)
    have hs5 := scp_row H4.out.2.2.1 H4.out.1 (by have := H3.out.2.2.2.2; omega) (by have := H3.out.2.2.2.2; omega) ho5
    obtain ⟨W6, hW6⟩ : ∃ W6, W5.setCell ⟨w.heap.size + 1 + 1, 0, none⟩ (.int .i64 0) = W6 := ⟨_, rfl⟩
    have hp6 : RowV W6 (w.heap.size + 1 + 1) 22 [.int .i64 0] := by rw [← hW6]; exact rowV_stored hp5 0 _
    have ho6 : Only (fun k => k = w.heap.size + 1 + 1) W5 W6 := by rw [← hW6]; exact (Only.refl (fun k => k = w.heap.size + 1 + 1) W5).setCell (fun _ => rfl) _
    have hv6 := rowV_only hv5 ho6 (by omega)
    have hs6 := scp_row hs5 hp5 (by have := H3.out.2.2.2.2; omega) (by have := H3.out.2.2.2.2; omega) ho6
    have hO56 : Only (fun k => k = w.heap.size + 1 ∨ k = w.heap.size + 1 + 1) w4 W6 := (ho5.mono (G := fun k => k = w.heap.size + 1 ∨ k = w.heap.size + 1 + 1) fun _ _ e => Or.inl e).more (ho6.mono fun _ _ e => Or.inr e)
    have hO : Only (fun k => k = sb) w W6 := (((Only.of_none (F := fun k => k = sb) H3.out.2.2.2.1).more H4.out.2.2.2)).trans hO56 (fun k hk e => by
      have e : k = w.heap.size + 1 ∨ k = w.heap.size + 1 + 1 := e
      omega)
    have H6 := Lib.hid (And.intro hv6 (And.intro hp6 (And.intro hs6 hO)))
    have E5 := Lib.hid hW5
    have E6 := Lib.hid hW6
    clear hW5 hv5 ho5 hp5 hs5 hW6 hp6 ho6 hv6 hs6 hO hO56
    go_wp2_with fail
    rw [E5.out, E6.out]
    clear E5 E6
    refine leaves_cons (f := 47) (args := #[.pointer (some ⟨w.heap.size + 1, 0, none⟩), .pointer (some ⟨w.heap.size + 1 + 1, 0, none⟩)]) (by simp) (by simp [go_sem]) ?_
    refine (catch16_idle ⟨w.heap.size + 1, 0, none⟩ ⟨w.heap.size + 1 + 1, 0, none⟩ _).mono ?_
    rintro e u' w'' ⟨rfl, rfl, rfl⟩
    simp [Leaves, settle]
    exact ⟨_, results_ve16 (p := 4) (q := 5) rfl _ _ (w.heap.size + 1) (w.heap.size + 1 + 1) ⟨vk, vn, vs⟩ 0 rfl rfl H6.out.1 H6.out.2.1, rfl, H6.out.2.2.1, H6.out.2.2.2⟩
  · have hno : (⟨vk, vn, vs⟩ : V) = Vl.no := by
      rcases hz with h | h
      · exact absurd h h0
      · exact h
    rw [hno]
    clear hno
    dsimp only
    go_wp2_with fail
    refine leaves_cons (f := 47) (args := #[.pointer (some ⟨w.heap.size + 1, 0, none⟩), .pointer (some ⟨w.heap.size + 1 + 1, 0, none⟩)]) (by simp) (by simp [go_sem]) ?_
    refine (catch16_pan (w.heap.size + 1) (w.heap.size + 1 + 1) Vl.no (.int .i64 0) r [] _ H4.out.1 H4.out.2.1 (by omega)).mono ?_
    rintro e u' w6 ⟨rfl, rfl, hv6, hp6, ho6⟩
    simp [Leaves, settle]
    have hs6 : Scp w0 sb al n lc ra rc L w6 := scp_rows H4.out.2.2.1 (fun k e => by
      rcases e with rfl | rfl
      · exact ⟨by have := H3.out.2.2.2.2; omega, by have := H3.out.2.2.2.2; omega, _, _, H4.out.1⟩
      · exact ⟨by have := H3.out.2.2.2.2; omega, by have := H3.out.2.2.2.2; omega, _, _, H4.out.2.1⟩) ho6
    have hO : Only (fun k => k = sb) w w6 := (((Only.of_none (F := fun k => k = sb) H3.out.2.2.2.1).more H4.out.2.2.2)).trans ho6 (fun k hk e => by
      have e : k = w.heap.size + 1 ∨ k = w.heap.size + 1 + 1 := e
      omega)
    exact ⟨_, results_ve16 (p := 4) (q := 5) rfl _ _ (w.heap.size + 1) (w.heap.size + 1 + 1) Vl.no r rfl rfl hv6 hp6, rfl, hs6, hO⟩
end Go.Proofs.YtmkllibfblacfaaGreatDoor
